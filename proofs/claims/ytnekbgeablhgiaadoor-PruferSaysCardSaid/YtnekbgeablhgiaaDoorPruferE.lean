/-
  The contract of Read of package prufer where nothing is wrong: the row's tree. No statement of the program is proved here; there is no condition.
-/
import Derived.Test.YtnekbgeablhgiaaDoorPruferD
import Derived.RangeFuncBound
namespace Go.Proofs.YtnekbgeablhgiaaDoor
open Go.RowKit Go.Shelf

attribute [local go_sem] Oper.semAt_some
set_option linter.unusedSimpArgs false
set_option linter.unusedVariables false

/-- the lines while they grow -/
def RdI (s s0 : Nat) (A : Option Addr) (n c : Nat) (w : World) (T : Nat → Prop) (pre : List (Nat × Nat)) (W : World) : Prop :=
  ∃ v, Boxed W s 22 v ∧ OwnP W (s + 3) 41 v (pre.map Pf.nrm) ∧ (∀ q, v.ownBlock = some q → T q) ∧ (∀ q, T q → q < W.heap.size) ∧ W.cell? ⟨s0, 0, none⟩ = some (.slice A n c) ∧ Below w.heap.size w W
/-- what the closure reads -/
def RdG (s s0 : Nat) (A : Option Addr) (n c : Nat) (row : List Int) (w : World) (pre : List (Nat × Nat)) (W : World) : Prop :=
  (∃ A2 c2, W.cell? ⟨s, 0, none⟩ = some (.slice A2 pre.length c2)) ∧ W.cell? ⟨s0, 0, none⟩ = some (.slice A n c) ∧ Below w.heap.size w W

/-- one more line has been put to the list -/
theorem rd_put {s s0 : Nat} {A : Option Addr} {n c : Nat} {w : World} {T : Nat → Prop} {pre : List (Nat × Nat)} {x : Nat × Nat} {W Wd W3 w5 : World} {o : Obj} {v v' : Value} (hWd : Wd = W.drew) (hTl : ∀ k, T k → s + 3 ≤ k) (hWl : s + 3 ≤ W.heap.size) (hws : w.heap.size ≤ s) (hs0 : s0 < s)
    (hbx : Boxed W s 22 v) (hvT : ∀ q, v.ownBlock = some q → T q) (hTs : ∀ q, T q → q < W.heap.size) (hc0 : W.cell? ⟨s0, 0, none⟩ = some (.slice A n c)) (hB : Below w.heap.size w W) (h3 : Below Wd.heap.size Wd W3)
    (hown5 : OwnP w5 (s + 3) 41 v' ((pre ++ [x]).map Pf.nrm)) (hg5 : (W3.alloc o).grownBy w5 v.ownBlock) (hat : v'.ownBlock = v.ownBlock ∨ v'.ownBlock = some (W3.alloc o).heap.size) :
    (Boxed w5 s 22 v ∧ Boxed (w5.setCell ⟨s, 0, none⟩ v') s 22 v' ∧ OwnP (w5.setCell ⟨s, 0, none⟩ v') (s + 3) 41 v' ((pre ++ [x]).map Pf.nrm) ∧ Below w.heap.size w (w5.setCell ⟨s, 0, none⟩ v') ∧ (∀ q, v'.ownBlock = some q → T q ∨ W.heap.size ≤ q) ∧ Kept (fun q => q = s ∨ T q) W (w5.setCell ⟨s, 0, none⟩ v')) ∧
    ∃ T', (∀ k, T' k → T k ∨ W.heap.size ≤ k) ∧ Kept (fun q => q = s ∨ T q) W (w5.setCell ⟨s, 0, none⟩ v') ∧ RdI s s0 A n c w T' (pre ++ [x]) (w5.setCell ⟨s, 0, none⟩ v') := by
  have hh : ∀ k : Nat, Wd.heap[k]? = W.heap[k]? := fun k => by rw [hWd]; rfl
  have hws' : Wd.heap.size = W.heap.size := by rw [hWd]; rfl
  have h3s := h3.size
  have hall : ∀ k, k < W.heap.size → v.ownBlock ≠ some k → w5.heap[k]? = W.heap[k]? := fun k hk hn => by
    rw [hg5.block k (by simp; omega) (fun e => hn e.symm), Below.heap_alloc _ _ _ (by omega), h3.block k (by omega), hh]
  have hno : ∀ k, k < s + 3 → v.ownBlock ≠ some k := fun k hk e => by have := hTl k (hvT k e); omega
  have b1 : Boxed w5 s 22 v := (hall s (by omega) (hno _ (by omega))).trans hbx
  have hb : Below (s + 3) Wd w5 := by
    have h4 : Below (s + 3) Wd (W3.alloc o) := (h3.mono (by omega)).alloc (by omega) _
    exact h4.grown hg5 (by simp; omega) (fun k hk => hTl k (hvT k hk))
  have hbW : Below (s + 3) W w5 := by
    have : Below (s + 3) W Wd := by rw [hWd]; exact (Below.refl _ _).drew
    exact this.trans hb
  have hbw : Below w.heap.size w w5 := hB.trans (hbW.mono (by omega))
  have h5s := hg5.size
  simp only [World.size_alloc] at h5s
  have hK : Kept (fun q => q = s ∨ T q) W (w5.setCell ⟨s, 0, none⟩ v') := ⟨by simp; omega, fun k hk hx => by
    rw [Below.heap_setCell w5 _ _ k (show k ≠ s from fun e => hx (.inl e))]
    exact hall k hk (fun e => hx (.inr (hvT k e)))⟩
  have hO : OwnP (w5.setCell ⟨s, 0, none⟩ v') (s + 3) 41 v' ((pre ++ [x]).map Pf.nrm) := ownsRow_same hown5 (fun q hq => Below.heap_setCell w5 _ _ q (show q ≠ s from fun e => by have := hown5.at_base q hq; omega))
  have hBs : Below w.heap.size w (w5.setCell ⟨s, 0, none⟩ v') := hbw.setCell (p := ⟨s, 0, none⟩) (show w.heap.size ≤ s by omega) _
  have hv' : ∀ q, v'.ownBlock = some q → T q ∨ W.heap.size ≤ q := fun q hq => by
    rcases hat with e | e
    · exact .inl (hvT q (by rw [← e]; exact hq))
    · rw [e] at hq
      simp at hq
      exact .inr (by omega)
  refine ⟨⟨b1, b1.set v', hO, hBs, hv', hK⟩, fun q => T q ∨ v'.ownBlock = some q, fun k hk => hk.elim .inl (hv' k), hK, v', b1.set v', hO, fun q hq => .inr hq, fun q hq => ?_, ?_, hBs⟩
  · rcases hq with hq | hq
    · have := hTs q hq; simp; omega
    · have := hown5.lt q hq; simpa using this
  · exact (World.cell?_setCell_other _ _ _ _ (fun e => by have : s = s0 := congrArg Addr.block e; omega)).trans ((hbW.cell (p := ⟨s0, 0, none⟩) (by show s0 < s + 3; omega)).trans hc0)

theorem OwnP.addr {w : World} {base e : Nat} {v : Value} {ps : List (Int × Int)} {n : Nat} (h : OwnP w base e v ps) (hn : ps.length = n) (h0 : 0 < n) : ∃ g c, v = .slice (some ⟨g, 0, none⟩) n c ∧ base ≤ g := by
  subst hn
  obtain ⟨A, c, hv, hr⟩ := h.rd
  rcases h.2 with ⟨h1, h2⟩ | ⟨g, cap, cur, h1, hgb, _⟩
  · subst hv
    simp only [Value.slice.injEq] at h1
    omega
  · subst hv
    simp only [Value.slice.injEq] at h1
    exact ⟨g, c, by rw [h1.1], hgb⟩

theorem nrm_int (a b : Nat) : Pf.nrm (a, b) = (min (a : Int) (b : Int), max (a : Int) (b : Int)) := by
  unfold Pf.nrm
  refine Prod.ext ?_ ?_
  · show ((min a b : Nat) : Int) = _
    omega
  · show ((max a b : Nat) : Int) = _
    omega

set_option maxRecDepth 100000 in
set_option maxHeartbeats 8000000 in
theorem Read_in (A : Option Addr) (n c : Nat) (row : List Int) (w : World) (hr : Rd w w.heap.size A n c row) (h : n ≤ 6) (hok : Pf.okr row) :
    CallsIn Fence.wide 10 Tryd.prog 11 #[.slice A n c] w fun e w' => ∃ A1 c1, e = .returned (.tuple #[.slice A1 (n + 1) c1, .nilIface]) ∧ RdP w' w'.heap.size A1 (n + 1) c1 (Pf.rdL (Pf.nrow row)) ∧ Below w.heap.size w w' := by
  have HX := Lib.hid hr.len
  have HOK := Lib.hid hok
  clear hok
  have hro : Fence.wide.round = none := rfl
  have hF1 : Fence.wide.fn 26 := trivial
  have hF3 : Fence.wide.fn 21 := trivial
  have hF4 : Fence.wide.fn 30 := trivial
  have hmf : ∀ (fn : Fn) (first cap : Array Value) (w : World), (Instr.makeFunc fn first cap).run Tryd.prog w = .ok (.func fn first cap) w := fun _ _ _ _ => rfl
  obtain ⟨s0, hs0⟩ : ∃ s0, s0 = w.heap.size := ⟨_, rfl⟩
  obtain ⟨W1, hW1⟩ : ∃ W1, W1 = w.alloc (.cells #[.slice A n c] 23) := ⟨_, rfl⟩
  have hb1 : Below w.heap.size w W1 := by rw [hW1]; exact (Below.refl _ _).alloc (Nat.le_refl _) _
  have h1s : W1.heap.size = s0 + 1 := by rw [hW1, hs0]; simp
  have hx1 : Boxed W1 s0 23 (.slice A n c) := by rw [hW1, hs0]; exact Boxed.new w _ _
  obtain ⟨W2, hW2⟩ : ∃ W2, W2 = W1.alloc (.cells #[.int .i64 1] 3) := ⟨_, rfl⟩
  have hb2 : Below (s0 + 1) W1 W2 := by rw [hW2, ← h1s]; exact (Below.refl _ _).alloc (Nat.le_refl _) _
  have h2s : W2.heap.size = s0 + 2 := by rw [hW2]; simp [h1s]
  have hx2 : Boxed W2 s0 23 (.slice A n c) := (hb2.block s0 (by omega)).trans hx1
  have c2 : W2.cell? ⟨s0 + 1, 0, none⟩ = some (.int .i64 1) := by
    rw [hW2]
    have := Boxed.new W1 3 (.int .i64 1)
    rw [h1s] at this
    exact this.cell
  have hrep := Repeat_any 1 (s0 + 1) (n + 2) (by omega) W2 c2
  rw [show ((n + 2 : Nat) : Int) = (n : Int) + 2 by omega] at hrep
  have HR := Lib.hid hrep
  clear hrep
  have g0 := hx1.cell
  have HW1 := Lib.hid hW1
  have HW2 := Lib.hid hW2
  have HS0 := Lib.hid hs0
  have hd6 : decide ((6 : Int) < (n : Int)) = false := by simp; omega
  rw [hW1] at g0
  rw [hs0] at g0
  clear hW1 hW2 hs0
  refine callsIn_of_wp_marks Tryd.func11 rfl trivial ?_ hro
  simp only [Tryd.ntmps11, List.size_toArray, List.length_cons, List.length_nil, Nat.reduceAdd, Nat.reduceSub, Array.replicate_succ, Array.replicate_zero, List.push_toArray, List.append_toArray, List.nil_append, List.cons_append]
  gi_wp2_with (first
    | (gi_at_call 26; rw [← HW1.out, ← HW2.out, ← HS0.out]; refine (callsIn_wide.2 HR.out).mono ?_; rintro e w3 ⟨rfl, hown, hb3⟩; have g3 := Boxed.cell ((hb3.block s0 (by omega)).trans hx2 : Boxed w3 s0 23 (.slice A n c))))
  have hb13 : Below w.heap.size w w3 := (hb1.trans (hb2.mono (by rw [HS0.out]; omega))).trans (hb3.mono (by rw [h2s, HS0.out]; omega))
  rw [h2s] at hown
  have hown0 : Own w3 (s0 + 2) 3 (.slice (some ⟨s0 + 2, 0, none⟩) (n + 2) (n + 2)) (Pf.dgTo row 0) := by
    rw [Pf.dgTo_zero, HX.out]
    exact hown
  have hs02 : w.heap.size ≤ s0 + 2 := by rw [HS0.out]; omega
  have hs00 : w.heap.size ≤ s0 := by rw [HS0.out]; omega
  obtain ⟨s, hs⟩ : ∃ s, s = w3.heap.size := ⟨_, rfl⟩
  have hs3 : s0 + 3 ≤ s := by rw [hs]; have := hown0.lt (s0 + 2) rfl; omega
  have hs' : w3.heap.size = s := hs.symm
  clear hown hb3 hb1 hb2 hx1 hx2 c2 g0 h1s h2s hs
  gi_loopw [7, 24] (fun _ iv wr => ∃ j : Nat, j ≤ n ∧ iv = .int .i64 (j : Int) ∧ Own wr (s0 + 2) 3 (.slice (some ⟨s0 + 2, 0, none⟩) (n + 2) (n + 2)) (Pf.dgTo row j) ∧ Below w.heap.size w wr ∧ wr.heap.size = s ∧ wr.cell? ⟨s0, 0, none⟩ = some (.slice A n c)) (fun _ iv _ => n - (intOf iv).toNat)
  case atStart => exact ⟨0, Nat.zero_le _, rfl, hown0, hb13, hs', g3⟩
  case round =>
    clear hown0 hb13 hs' g3
    obtain ⟨j, hj, rfl, hO, hB, hsz, hc0⟩ := hrel
    by_cases hlt : j < n
    · obtain ⟨b1, o1, rfl, hb1, hc1⟩ := (hr.below hB).at_ (by omega)
      have g1 := hc1 j (by omega)
      have j0 : (0 : Int) ≤ (j : Int) := by omega
      have j1 : (j : Int) < (n : Int) := by omega
      clear hc1
      obtain ⟨h1, h2⟩ := HOK.out (row.getD j 0) (by simp [List.getD, show j < row.length by rw [HX.out]; exact hlt])
      rw [HX.out] at h2
      obtain ⟨p, hp⟩ : ∃ p : Nat, row.getD j 0 = (p : Int) := ⟨(row.getD j 0).toNat, by omega⟩
      rw [hp] at g1 h1 h2
      have HN := Lib.hid (Pf.dgTo_succ (row := row) (j := j) (by rw [HX.out]; omega) hp (by rw [HX.out]; omega))
      obtain ⟨y, hy⟩ : ∃ y, y = (Pf.dgTo row j).getD p 0 := ⟨_, rfl⟩
      have hys := Pf.dgTo_small (row := row) (by rw [HX.out]; exact h) j p
      have f2 := hO.cell p (by omega)
      have f3 := hO.frozen p
      have hO4 := (hO.store p (y + 1)).1
      rw [← hy] at f2 hys
      have hO5 : Hid (Own (wr.setCell ⟨s0 + 2, p, none⟩ (.int .i64 (y + 1))) (s0 + 2) 3 (.slice (some ⟨s0 + 2, 0, none⟩) (n + 2) (n + 2)) (Pf.dgTo row (j + 1))) := by
        show Own _ _ _ _ _
        rw [HN.out, ← hy]
        exact hO4
      have hB5 := hB.setCell (p := ⟨s0 + 2, p, none⟩) hs02 (.int .i64 (y + 1))
      have hsz5 : (wr.setCell ⟨s0 + 2, p, none⟩ (.int .i64 (y + 1))).heap.size = s := by simpa using hsz
      have hc5 : (wr.setCell ⟨s0 + 2, p, none⟩ (.int .i64 (y + 1))).cell? ⟨s0, 0, none⟩ = some (.slice (some ⟨b1, o1, none⟩) n c) := (World.cell?_setCell_other _ _ _ _ (fun e => by have : s0 + 2 = s0 := congrArg Addr.block e; omega)).trans hc0
      clear hO hO4 hp hy HN hsz
      gi_wp2
      go_roundw
      case rel => exact ⟨j + 1, by omega, by go_num, hO5.out, hB5, hsz5, hc5⟩
      case measure => simp [intOf]; omega
    · obtain rfl : j = n := by omega
      have hok := HOK.out
      have hrl : ∀ x ∈ Pf.nrow row, x < (Pf.nrow row).length + 2 := Pf.nrow_lt hok
      have hdr : Pf.dgTo row j = Pf.dr ((Pf.nrow row).length + 2) (Pf.nrow row) (fun _ => false) 0 := by
        have := Pf.dgTo_all hok
        rwa [HX.out] at this
      have hnl : (Pf.nrow row).length = j := by rw [Pf.nrow_len, HX.out]
      rw [hdr] at hO
      rw [hnl] at hrl hO
      obtain ⟨rw_, hrw⟩ : ∃ r, r = Pf.nrow row := ⟨_, rfl⟩
      rw [← hrw] at hrl hO hnl
      have hro1 := Pf.rd_ok (row := rw_) (by rw [hnl]; exact hrl)
      rw [hnl] at hro1
      have hrun := Pf.run_r hro1.1 (by rw [hnl]; exact hro1.2) (by rw [hnl]) (by omega : j + 2 ≤ 16)
      obtain ⟨zs, hzs⟩ : ∃ zs, zs = Pf.zr (j + 2) rw_ (fun _ => false) := ⟨_, rfl⟩
      rw [← hzs] at hrun
      have hzl : zs.length = j := by rw [hzs, Pf.zr_len, hnl]
      have HZ := Lib.hid hzs
      have HRW := Lib.hid hrw
      have HRO := Lib.hid hro1
      have HNL := Lib.hid hnl
      have HRL := Lib.hid hrl
      obtain ⟨W4, hW4⟩ : ∃ W4, W4 = wr.alloc (.cells #[.slice none 0 0] 22) := ⟨_, rfl⟩
      have hb4 : Below s wr W4 := by rw [hW4, ← hsz]; exact (Below.refl _ _).alloc (Nat.le_refl _) _
      have h4s : W4.heap.size = s + 1 := by rw [hW4]; simp [hsz]
      obtain ⟨W5, hW5⟩ : ∃ W5, W5 = (W4.alloc (.cells #[.slice (some ⟨s0 + 2, 0, none⟩) (j + 2) (j + 2)] 23)).alloc (.cells #[.func (.func 27) #[] #[.pointer (some ⟨s0, 0, none⟩), .pointer (some ⟨s, 0, none⟩)]] 49) := ⟨_, rfl⟩
      have hb5 : Below (s + 1) W4 W5 := by rw [hW5, ← h4s]; exact ((Below.refl _ _).alloc (Nat.le_refl _) _).alloc (by simp) _
      have h5s : W5.heap.size = s + 3 := by rw [hW5]; simp [h4s]
      have hb35 : Below s wr W5 := hb4.trans (hb5.mono (by omega))
      have hO5 : Own W5 (s0 + 2) 3 (.slice (some ⟨s0 + 2, 0, none⟩) (j + 2) (j + 2)) (Pf.dr (j + 2) rw_ (fun _ => false) 0) := hO.same (fun q hq => by cases hq; exact hb35.block (s0 + 2) (by omega))
      have hbx5 : Boxed W5 s 22 (.slice none 0 0) := by
        have h1 := Boxed.new wr 22 (.slice none 0 0)
        rw [← hW4, hsz] at h1
        exact (hb5.block s (by omega)).trans h1
      have hR5 : RmG (s + 1) (s + 2) (s0 + 2) (s0 + 2) (j + 2) 27 #[.pointer (some ⟨s0, 0, none⟩), .pointer (some ⟨s, 0, none⟩)] (j + 2) (Pf.dr (j + 2) rw_ (fun _ => false) 0) W5 := by
        refine ⟨?_, ?_, hO5⟩
        · rw [hW5]
          have := (Boxed.new W4 23 (.slice (some ⟨s0 + 2, 0, none⟩) (j + 2) (j + 2))).alloc (.cells #[.func (.func 27) #[] #[.pointer (some ⟨s0, 0, none⟩), .pointer (some ⟨s, 0, none⟩)]] 49)
          rw [h4s] at this
          exact this.cell
        · rw [hW5]
          have := Boxed.new (W4.alloc (.cells #[.slice (some ⟨s0 + 2, 0, none⟩) (j + 2) (j + 2)] 23)) 49 (.func (.func 27) #[] #[.pointer (some ⟨s0, 0, none⟩), .pointer (some ⟨s, 0, none⟩)])
          rw [World.size_alloc, h4s] at this
          exact this.cell
      have hI0 : RdI s s0 A j c w (fun _ => False) [] W5 := ⟨_, hbx5, OwnP.nil _ _ _, fun q hq => (by cases hq), fun q hq => hq.elim, (hb35.cell (p := ⟨s0, 0, none⟩) (by show s0 < s; omega)).trans hc0, hB.trans (hb35.mono (by omega))⟩
      have HAT := Lib.hid (fun i (hi : i < j) => Pf.nrow_at hok (k := i) (by rw [HX.out]; exact hi))
      clear hzs hrw hro1 hnl hrl hbx5 hb35 hb5 hO hO5 hb4 hdr hok hc0
      gi_wp2_with (first
        | (gi_at_call 21; refine (callsIn_wide.2 (removals_any _ _ _ _ _ _)).mono ?_; rintro e w5 ⟨rfl, rfl⟩))
      rw [← hW4]
      simp only [World.size_alloc, hsz, h4s, Nat.add_assoc, Nat.reduceAdd]
      rw [← hW5]
      refine wpIn_range_cellsY hro (by omega) (gf := 40) (lb := #[.pointer (some ⟨s + 1, 0, none⟩), .pointer (some ⟨s + 2, 0, none⟩)]) rfl trivial (enters_of Tryd.func40 (by kernel_rfl) rfl) (X := fun q => q = s) (Y := fun q => q = s0 + 2) (G := RdG s s0 A j c row w) (zs := zs)
        (removals1_seq (s + 1) (s + 2) (s0 + 2) (s0 + 2) (j + 2) 27 #[.pointer (some ⟨s0, 0, none⟩), .pointer (some ⟨s, 0, none⟩)] (j + 2) _ zs hrun (by omega) (fun q => q = s) _ W5 (Nat.le_refl _) (by omega) (by omega) (by omega) (by omega) (by omega) (fun q hq => by omega) (enters_of Tryd.func27 (by kernel_rfl) rfl)
          (fun i hi W hGW hOW => by
            have hi' : i < j := by rw [← hzl]; exact hi
            obtain ⟨⟨A2, c2, e1⟩, e2, e3⟩ := hGW
            have e4 : zs.getD i (0, 0) = (Pf.fr (j + 2) rw_ (fun _ => false) i, rw_.getD i 0) := by rw [HZ.out]; exact Pf.zr_at (by rw [HNL.out]; exact hi')
            rw [e4]
            have e5 : ((zs.take i).map Pf.nrm).length = i := by rw [List.length_map, List.length_take, hzl]; omega
            have e6 : (zs.take i).length = i := by rw [List.length_take, hzl]; omega
            rw [e6] at e1
            refine (next_any s0 s w.heap.size A j c row .nilIface ((zs.take i).map Pf.nrm) A2 c2 W (hr.below e3) e2 (by rw [e5]; exact e1) (by rw [e5]; exact hi') _).mono ?_
            rintro e V ⟨rfl, hbV⟩
            refine ⟨?_, hbV⟩
            rw [e5, HAT.out i hi', HRW.out]) hR5)
        (fun A C h hb => h.below (by omega) (by omega) (by omega) hb)
        (fun q hq => by omega) (fun q hq => by omega) (fun _ => rfl)
        (fun T pre W => RdI s s0 A j c w T pre W)
        (fun _ _ => False)
        (fun T pre U V' h hb ht => by
          obtain ⟨v, i1, i2, i3, i4, i5, i6⟩ := h
          rw [h5s] at hb
          exact ⟨v, (hb.block s (by omega)).trans i1, ownsRow_same i2 (fun q hq => ht q (i3 q hq)), i3, fun q hq => Nat.lt_of_lt_of_le (i4 q hq) hb.size, (hb.cell (p := ⟨s0, 0, none⟩) (by show s0 < s + 3; omega)).trans i5, i6.trans (hb.mono (by omega))⟩)
        (fun T pre U p v' hp h => by
          obtain ⟨v, i1, i2, i3, i4, i5, i6⟩ := h
          refine ⟨v, (Below.heap_setCell U p v' _ (by omega)).trans i1, ownsRow_same i2 (fun q hq => Below.heap_setCell U p v' _ (by have := i2.at_base q hq; omega)), i3, fun q hq => by simpa using i4 q hq, (World.cell?_setCell_other _ _ _ _ (fun e => by have : p.block = s0 := congrArg Addr.block e; omega)).trans i5, i6.setCell (p := p) (by omega) _⟩)
        (fun T pre U h => by
          obtain ⟨v, i1, i2, i3, i4, i5, i6⟩ := h
          obtain ⟨A7, c7, hv7, _⟩ := i2.rd
          refine ⟨⟨A7, c7, ?_⟩, i5, i6⟩
          have := i1.cell
          rw [this, hv7, List.length_map])
        (fun T pre U h => by
          obtain ⟨v, i1, i2, i3, i4, i5, i6⟩ := h
          exact i4)
        (fun _ _ _ h _ => h) hI0
        (fun x => { tmps := #[.slice A j c, .pointer (some ⟨s0, 0, none⟩), u2, u3, .int .i64 ((j : Int) + 2), .slice (some ⟨s0 + 2, 0, none⟩) (j + 2) (j + 2), undef, u7, .pointer (some ⟨s, 0, none⟩), .func (.func 27) #[] #[.pointer (some ⟨s0, 0, none⟩), .pointer (some ⟨s, 0, none⟩)], .int .i64 (x.1 : Int), .int .i64 (x.2 : Int), .slice A j c, .int .i64 (j : Int), .bool false, undef, .slice A j c, .int .i64 (j : Int), .int .i64 ((j : Int) + 2), .slice (some ⟨s0 + 1, 0, none⟩) 1 1, .int .i64 ((j : Int) + 2), .slice (some ⟨s0 + 2, 0, none⟩) (j + 2) (j + 2), .slice A j c, .int .i64 (j : Int), .int .i64 (j : Int), .bool false,
          u26, u27, u28, u29, u30, u31, u32, u33, u34, u35, u36, u37, u38, u39, u40, u41, u42, .func (.func 27) #[] #[.pointer (some ⟨s0, 0, none⟩), .pointer (some ⟨s, 0, none⟩)], .slice (some ⟨s0 + 2, 0, none⟩) (j + 2) (j + 2), .func (.func 27) #[] #[.pointer (some ⟨s0, 0, none⟩), .pointer (some ⟨s, 0, none⟩)], .func (.func 40) #[] #[.pointer (some ⟨s + 1, 0, none⟩), .pointer (some ⟨s + 2, 0, none⟩)], .int .i64 (x.1 : Int), .int .i64 (x.2 : Int),
          undef, undef, undef, undef, undef, undef, undef, undef, undef, undef, undef, undef, undef, undef, undef, undef, undef], defers := [] }) ?assign ?body ?done ?stop
      case assign =>
        intro x l W K hK
        simp only [encP]
        gi_wp2
        exact hK
      case body =>
        rintro T pre ⟨a, b⟩ hpre l W hTl hWl ⟨v, hbx, hown, hvT, hTs, hc0, hBW⟩
        clear hI0 hR5
        rw [h5s] at hWl
        have hTl' : ∀ q, T q → s + 3 ≤ q := fun q hq => by have := hTl q hq; omega
        obtain ⟨LL, hLL⟩ : ∃ LL, LL = pre.map Pf.nrm := ⟨_, rfl⟩
        have hlen : LL.length + 1 ≤ 8796093022208 := by
          have := hpre.length_le
          rw [List.length_append, hzl] at this
          rw [hLL, List.length_map]
          omega
        have HROOM := Lib.hid hlen
        obtain ⟨Wd, hWd⟩ : ∃ Wd, Wd = W.drew := ⟨_, rfl⟩
        have hbxd : Boxed Wd s 22 v := by rw [hWd]; exact hbx
        have hownd : OwnP Wd (s + 3) 41 v LL := by rw [hWd, hLL]; exact hown
        have c0 := hbxd.cell
        have hszd : s + 3 ≤ Wd.heap.size := by rw [hWd]; show s + 3 ≤ W.heap.size; omega
        obtain ⟨P, hP⟩ : ∃ P : Int, P = min (a : Int) (b : Int) := ⟨_, rfl⟩
        obtain ⟨Q, hQ⟩ : ∃ Q : Int, Q = max (a : Int) (b : Int) := ⟨_, rfl⟩
        have hbt := between_any (a : Int) (b : Int) Wd
        rw [← hP, ← hQ] at hbt
        have HBT := Lib.hid hbt
        have HEND := Lib.hid (fun (W3 w5 : World) (o : Obj) (v' : Value) (h3 : Below Wd.heap.size Wd W3) (h5 : OwnP w5 (s + 3) 41 v' (LL ++ [((P : Int), (Q : Int))])) (hg : (W3.alloc o).grownBy w5 v.ownBlock) (hat : v'.ownBlock = v.ownBlock ∨ v'.ownBlock = some (W3.alloc o).heap.size) =>
          rd_put (pre := pre) (x := (a, b)) hWd hTl' (by omega) (by omega) (by omega) hbx hvT hTs hc0 hBW h3 (by rw [List.map_append, List.map_singleton, nrm_int, ← hP, ← hQ, ← hLL]; exact h5) hg hat)
        have HLL := Lib.hid hLL
        have hWd' := Lib.hid hWd
        clear hbt hP hQ hLL hWd hlen hbx hown hc0
        gi_wp2
        refine wpIn_round_held (S := fun _ => True) (by kernel_rfl) ?hnd ?hno trivial ?hgo
        case hnd =>
          intro j o ho c hd
          have hmem := Array.mem_of_getElem? ho
          simp only [List.mem_toArray, List.mem_cons, List.not_mem_nil, or_false] at hmem
          rcases hmem with rfl | rfl | rfl | rfl | rfl | rfl | rfl <;> cases hd
        case hno =>
          rintro ⟨_, _, h⟩
          exact h
        case hgo =>
        intro hS1
        rw [← hWd'.out]
        refine wpAnyH_take (i := 1) (v := .int .i64 (a : Int)) rfl (by kernel_rfl) (by kernel_rfl) (by kernel_rfl) (fun _ _ _ h => h) (Or.inl ⟨by rfl, ?_⟩) (by assumption) ?_
        · intro w hSw
          go_simp
        simp only [Act.put, List.setIfInBounds_toArray, List.set_cons_zero, List.set_cons_succ]
        refine wpAnyH_take (i := 2) (v := .int .i64 (b : Int)) rfl (by kernel_rfl) (by kernel_rfl) (by kernel_rfl) (fun _ _ _ h => h) (Or.inl ⟨by rfl, ?_⟩) (by assumption) ?_
        · intro w hSw
          go_simp
        simp only [Act.put, List.setIfInBounds_toArray, List.set_cons_zero, List.set_cons_succ]
        refine wpAnyH_ready (rs := [0, 3]) (by kernel_rfl) (by simp) ?_
        refine AllReadyH.cons rfl (fun K hK => ?_) (AllReadyH.cons rfl (fun K hK => ?_) AllReadyH.nil)
        · go_simp
          refine hK.out _ _ trivial (fun _ => ?_)
          clear hK K
          refine wpAnyH_ready (rs := [3]) (by kernel_rfl) (by simp) ?_
          refine AllReadyH.cons rfl (fun K hK => ?_) AllReadyH.nil
          go_simp
          refine HBT.out.mono ?_
          rintro e W3 ⟨rfl, hB3⟩
          have hB3s := hB3.size
          have hbx3 : Boxed W3 s 22 v := (hB3.block s (by omega)).trans hbxd
          have c3 := hbx3.cell
          have hown3 := hownd.below hB3
          refine hK.out _ _ trivial (fun _ => ?_)
          clear hK K
          refine wpAnyH_ready (rs := [4]) (by kernel_rfl) (by simp) ?_
          refine AllReadyH.cons rfl (fun K hK => ?_) AllReadyH.nil
          go_simp
          have hb4 : Below W3.heap.size W3 (W3.alloc (.cells #[.int .i64 P, .int .i64 Q] 41)) := (Below.refl _ _).alloc (Nat.le_refl _) _
          have hown4 := hown3.below hb4
          have c4 := (hb4.cell (p := ⟨s, 0, none⟩) (show s < W3.heap.size by omega)).trans c3
          refine hK.out _ _ trivial (fun _ => ?_)
          clear hK K
          refine wpAnyH_ready (rs := [5]) (by kernel_rfl) (by simp) ?_
          refine AllReadyH.cons rfl (fun K hK => ?_) AllReadyH.nil
          refine step_appP (B := W3.heap.size + 1) _ rfl (.tmp 49) (.tmp 53) 22 rfl (s + 3) 41 Tryd.underlying22 lineInfo v _ rfl hown4 (some ⟨W3.heap.size, 0, none⟩) 1 1 [((P : Int), (Q : Int))] rfl (RdP.one W3 (P, Q) _) HROOM.out (by simp; omega) ?_
          intro v' w5 hown5 hg5 hat5
          obtain ⟨A5, c5', hv5, _⟩ := hown5.rd
          obtain ⟨q5, hq5⟩ : ∃ q5, q5 = (LL ++ [((P : Int), (Q : Int))]).length := ⟨_, rfl⟩
          rw [← hq5] at hv5
          have HQ5 := Lib.hid hq5
          clear hq5
          subst hv5
          obtain ⟨⟨f1, _⟩, f4⟩ := HEND.out W3 w5 _ _ hB3 hown5 hg5 hat5
          refine hK.out _ _ trivial (fun _ => ?_)
          clear hK K
          simp only [Act.put, List.setIfInBounds_toArray, List.set_cons_zero, List.set_cons_succ]
          refine wpAnyH_ready (rs := [6]) (by kernel_rfl) (by simp) ?_
          refine AllReadyH.cons rfl (fun K hK => ?_) AllReadyH.nil
          have c5 := f1.cell
          have c6 := f1.frozen
          go_simp
          refine hK.out _ _ trivial (fun _ => ?_)
          clear hK K
          refine wpAnyH_done (by kernel_rfl) ?_ _
          exact f4
        · go_simp
          refine HBT.out.mono ?_
          rintro e W3 ⟨rfl, hB3⟩
          have hB3s := hB3.size
          have hbx3 : Boxed W3 s 22 v := (hB3.block s (by omega)).trans hbxd
          have c3 := hbx3.cell
          have hown3 := hownd.below hB3
          refine hK.out _ _ trivial (fun _ => ?_)
          clear hK K
          refine wpAnyH_ready (rs := [0, 4]) (by kernel_rfl) (by simp) ?_
          refine AllReadyH.cons rfl (fun K hK => ?_) (AllReadyH.cons rfl (fun K hK => ?_) AllReadyH.nil)
          · go_simp
            refine hK.out _ _ trivial (fun _ => ?_)
            clear hK K
            refine wpAnyH_ready (rs := [4]) (by kernel_rfl) (by simp) ?_
            refine AllReadyH.cons rfl (fun K hK => ?_) AllReadyH.nil
            go_simp
            have hb4 : Below W3.heap.size W3 (W3.alloc (.cells #[.int .i64 P, .int .i64 Q] 41)) := (Below.refl _ _).alloc (Nat.le_refl _) _
            have hown4 := hown3.below hb4
            have c4 := (hb4.cell (p := ⟨s, 0, none⟩) (show s < W3.heap.size by omega)).trans c3
            refine hK.out _ _ trivial (fun _ => ?_)
            clear hK K
            refine wpAnyH_ready (rs := [5]) (by kernel_rfl) (by simp) ?_
            refine AllReadyH.cons rfl (fun K hK => ?_) AllReadyH.nil
            refine step_appP (B := W3.heap.size + 1) _ rfl (.tmp 49) (.tmp 53) 22 rfl (s + 3) 41 Tryd.underlying22 lineInfo v _ rfl hown4 (some ⟨W3.heap.size, 0, none⟩) 1 1 [((P : Int), (Q : Int))] rfl (RdP.one W3 (P, Q) _) HROOM.out (by simp; omega) ?_
            intro v' w5 hown5 hg5 hat5
            obtain ⟨A5, c5', hv5, _⟩ := hown5.rd
            obtain ⟨q5, hq5⟩ : ∃ q5, q5 = (LL ++ [((P : Int), (Q : Int))]).length := ⟨_, rfl⟩
            rw [← hq5] at hv5
            have HQ5 := Lib.hid hq5
            clear hq5
            subst hv5
            obtain ⟨⟨f1, _⟩, f4⟩ := HEND.out W3 w5 _ _ hB3 hown5 hg5 hat5
            refine hK.out _ _ trivial (fun _ => ?_)
            clear hK K
            simp only [Act.put, List.setIfInBounds_toArray, List.set_cons_zero, List.set_cons_succ]
            refine wpAnyH_ready (rs := [6]) (by kernel_rfl) (by simp) ?_
            refine AllReadyH.cons rfl (fun K hK => ?_) AllReadyH.nil
            have c5 := f1.cell
            have c6 := f1.frozen
            go_simp
            refine hK.out _ _ trivial (fun _ => ?_)
            clear hK K
            refine wpAnyH_done (by kernel_rfl) ?_ _
            exact f4
          · go_simp
            have hb4 : Below W3.heap.size W3 (W3.alloc (.cells #[.int .i64 P, .int .i64 Q] 41)) := (Below.refl _ _).alloc (Nat.le_refl _) _
            have hown4 := hown3.below hb4
            have c4 := (hb4.cell (p := ⟨s, 0, none⟩) (show s < W3.heap.size by omega)).trans c3
            refine hK.out _ _ trivial (fun _ => ?_)
            clear hK K
            refine wpAnyH_ready (rs := [0]) (by kernel_rfl) (by simp) ?_
            refine AllReadyH.cons rfl (fun K hK => ?_) AllReadyH.nil
            go_simp
            refine hK.out _ _ trivial (fun _ => ?_)
            clear hK K
            refine wpAnyH_ready (rs := [5]) (by kernel_rfl) (by simp) ?_
            refine AllReadyH.cons rfl (fun K hK => ?_) AllReadyH.nil
            refine step_appP (B := W3.heap.size + 1) _ rfl (.tmp 49) (.tmp 53) 22 rfl (s + 3) 41 Tryd.underlying22 lineInfo v _ rfl hown4 (some ⟨W3.heap.size, 0, none⟩) 1 1 [((P : Int), (Q : Int))] rfl (RdP.one W3 (P, Q) _) HROOM.out (by simp; omega) ?_
            intro v' w5 hown5 hg5 hat5
            obtain ⟨A5, c5', hv5, _⟩ := hown5.rd
            obtain ⟨q5, hq5⟩ : ∃ q5, q5 = (LL ++ [((P : Int), (Q : Int))]).length := ⟨_, rfl⟩
            rw [← hq5] at hv5
            have HQ5 := Lib.hid hq5
            clear hq5
            subst hv5
            obtain ⟨⟨f1, _⟩, f4⟩ := HEND.out W3 w5 _ _ hB3 hown5 hg5 hat5
            refine hK.out _ _ trivial (fun _ => ?_)
            clear hK K
            simp only [Act.put, List.setIfInBounds_toArray, List.set_cons_zero, List.set_cons_succ]
            refine wpAnyH_ready (rs := [6]) (by kernel_rfl) (by simp) ?_
            refine AllReadyH.cons rfl (fun K hK => ?_) AllReadyH.nil
            have c5 := f1.cell
            have c6 := f1.frozen
            go_simp
            refine hK.out _ _ trivial (fun _ => ?_)
            clear hK K
            refine wpAnyH_done (by kernel_rfl) ?_ _
            exact f4
      case done =>
        rintro D T W hD hTD ⟨v, hbx, hown, hvT, hTs, hc0, hBW⟩ hEW hDk
        clear hI0 hR5
        rw [h5s] at hD
        have hDW : D < W.heap.size := (Array.getElem?_eq_some_iff.1 hDk).1
        have hTl' : ∀ q, T q → s + 3 ≤ q := fun q hq => by have := hTD q hq; omega
        obtain ⟨m1, m2, m3, m4⟩ := Pf.end_two (n := j + 2) (row := rw_) (g := fun _ => false) (fun x hx => ⟨(HRO.out.1 x hx).1, rfl⟩) (by rw [HNL.out]; exact HRO.out.2) (by omega) rfl
        rw [HNL.out] at m2 m3
        obtain ⟨a, ha⟩ : ∃ a, a = Pf.ea (j + 2) rw_ (fun _ => false) := ⟨_, rfl⟩
        have HDEC := Lib.hid (Pf.dec_zr (j + 2) rw_ (fun _ => false))
        rw [← ha] at m1 m2 m3 m4
        have hm4 : Hid (Pf.dec (j + 2) rw_ (fun _ => false) = zs ++ [(a, j + 1)]) := by
          show _ = _
          rw [HDEC.out, ← HZ.out, ← ha, HNL.out] 
          rw [HNL.out] at m4
          rw [m4]
          rfl
        obtain ⟨LL, hLL⟩ : ∃ LL, LL = zs.map Pf.nrm := ⟨_, rfl⟩
        have hLj : LL.length = j := by rw [hLL, List.length_map, hzl]
        have HROOM : Hid (LL.length + 1 ≤ 8796093022208) := by show _ ≤ _; omega
        obtain ⟨Wd, hWd⟩ : ∃ Wd, Wd = W.drew := ⟨_, rfl⟩
        have hbxd : Boxed Wd s 22 v := by rw [hWd]; exact hbx
        have hownd : OwnP Wd (s + 3) 41 v LL := by rw [hWd, hLL]; exact hown
        have c0 := hbxd.cell
        have hszd : s + 3 ≤ Wd.heap.size := by rw [hWd]; show s + 3 ≤ W.heap.size; omega
        rw [hzl] at hEW
        have hOWd : Own Wd (s0 + 2) 3 (.slice (some ⟨s0 + 2, 0, none⟩) (j + 2) (j + 2)) (Pf.dr (j + 2) rw_ (fun _ => false) j) := by rw [hWd]; exact hEW.2.2
        have HIX := Lib.hid (First_any (some ⟨s0 + 2, 0, none⟩) (j + 2) (j + 2) _ 1 a Wd hOWd.rd' m1 m2 m3)
        obtain ⟨P, hP⟩ : ∃ P : Int, P = min (a : Int) ((j : Int) + 1) := ⟨_, rfl⟩
        obtain ⟨Q, hQ⟩ : ∃ Q : Int, Q = max (a : Int) ((j : Int) + 1) := ⟨_, rfl⟩
        have hbt := between_any (a : Int) ((j : Int) + 1) Wd
        rw [← hP, ← hQ] at hbt
        have HBT := Lib.hid hbt
        have HEND := Lib.hid (fun (W3 w5 : World) (o : Obj) (v' : Value) (h3 : Below Wd.heap.size Wd W3) (h5 : OwnP w5 (s + 3) 41 v' (LL ++ [((P : Int), (Q : Int))])) (hg : (W3.alloc o).grownBy w5 v.ownBlock) (hat : v'.ownBlock = v.ownBlock ∨ v'.ownBlock = some (W3.alloc o).heap.size) =>
          rd_put (pre := zs) (x := (a, j + 1)) hWd hTl' (by omega) (by omega) (by omega) hbx hvT hTs hc0 hBW h3 (by rw [List.map_append, List.map_singleton, nrm_int, show ((j + 1 : Nat) : Int) = (j : Int) + 1 by omega, ← hP, ← hQ, ← hLL]; exact h5) hg hat)
        have hql : Hid ((LL ++ [((P : Int), (Q : Int))]).length = j + 1) := by show _ = _; rw [List.length_append, hLj]; rfl
        have HTAIL := Lib.hid (fun (w5 : World) (v' : Value) (f : OwnP (w5.setCell ⟨s, 0, none⟩ v') (s + 3) 41 v' ((zs ++ [(a, j + 1)]).map Pf.nrm)) => f)
        have HFIN := Lib.hid (fun (os : List Gr.Ln) (h1 : os.Perm ((zs ++ [(a, j + 1)]).map Pf.nrm)) (h2 : os.Pairwise fun p q => ¬ Dp.lnLt q p) => Pf.sort_rd (row := rw_) (by rw [HNL.out]; exact HRL.out) (by rw [HNL.out, hm4.out]; exact h1) h2)
        have hzj : ((zs ++ [(a, j + 1)]).map Pf.nrm).length = j + 1 := by rw [List.length_map, List.length_append, hzl]; rfl
        have HZJ := Lib.hid hzj
        have HDk := Lib.hid hDk
        have HTD := Lib.hid hTD
        have HRW' := Lib.hid HRW.out
        have HWd := Lib.hid hWd
        clear hbt hP hQ hLL hWd hbx hown hc0 hEW hOWd m2 m3 m4 ha hzl hzj hLj hDk
        have hsub : IntKind.i64.wrap ((j : Int) + 2 - 1) = (j : Int) + 1 := by rw [IntKind.wrap_i64]; omega
        gi_wp2
        rename_i K1 hK1
        refine wpIn_wide.2 ?_
        refine wp_region_noPanic ?_
        refine wp_region_held_drew (S := fun _ => True) (by kernel_rfl) trivial (fun hS1 => ?_)
        rw [← HWd.out]
        refine wpAnyH_take (i := 1) (v := .slice (some ⟨s0 + 2, 0, none⟩) (j + 2) (j + 2)) rfl (by kernel_rfl) (by kernel_rfl) (by kernel_rfl) (fun _ _ _ h => h) (Or.inl ⟨by rfl, ?_⟩) (by assumption) ?_
        · intro w hSw
          go_simp
        simp only [Act.put, List.setIfInBounds_toArray, List.set_cons_zero, List.set_cons_succ]
        refine wpAnyH_take (i := 3) (v := .int .i64 ((j : Int) + 2)) rfl (by kernel_rfl) (by kernel_rfl) (by kernel_rfl) (fun _ _ _ h => h) (Or.inl ⟨by rfl, ?_⟩) (by assumption) ?_
        · intro w hSw
          go_simp
        simp only [Act.put, List.setIfInBounds_toArray, List.set_cons_zero, List.set_cons_succ]
        refine wpAnyH_take (i := 4) (v := .int .i64 ((j : Int) + 1)) rfl (by kernel_rfl) (by kernel_rfl) (by kernel_rfl) (fun _ _ _ h => h) (Or.inl ⟨by rfl, ?_⟩) (by assumption) ?_
        · intro w hSw
          go_simp
          try exact hsub
        simp only [Act.put, List.setIfInBounds_toArray, List.set_cons_zero, List.set_cons_succ]
        refine wpAnyH_ready (rs := [0, 2]) (by kernel_rfl) (by simp) ?_
        refine AllReadyH.cons rfl (fun K hK => ?_) (AllReadyH.cons rfl (fun K hK => ?_) AllReadyH.nil)
        · go_simp
          refine hK.out _ _ trivial (fun _ => ?_)
          clear hK K
          refine wpAnyH_ready (rs := [2]) (by kernel_rfl) (by simp) ?_
          refine AllReadyH.cons rfl (fun K hK => ?_) AllReadyH.nil
          go_simp
          refine HIX.out.mono ?_
          rintro e W9 ⟨rfl, rfl⟩
          refine hK.out _ _ trivial (fun _ => ?_)
          clear hK K
          refine wpAnyH_ready (rs := [5]) (by kernel_rfl) (by simp) ?_
          refine AllReadyH.cons rfl (fun K hK => ?_) AllReadyH.nil
          go_simp
          refine HBT.out.mono ?_
          rintro e W3 ⟨rfl, hB3⟩
          have hB3s := hB3.size
          have hbx3 : Boxed W3 s 22 v := (hB3.block s (by omega)).trans hbxd
          have c3 := hbx3.cell
          have hown3 := hownd.below hB3
          refine hK.out _ _ trivial (fun _ => ?_)
          clear hK K
          refine wpAnyH_ready (rs := [6]) (by kernel_rfl) (by simp) ?_
          refine AllReadyH.cons rfl (fun K hK => ?_) AllReadyH.nil
          go_simp
          have hb4 : Below W3.heap.size W3 (W3.alloc (.cells #[.int .i64 P, .int .i64 Q] 41)) := (Below.refl _ _).alloc (Nat.le_refl _) _
          have hown4 := hown3.below hb4
          have c4 := (hb4.cell (p := ⟨s, 0, none⟩) (show s < W3.heap.size by omega)).trans c3
          refine hK.out _ _ trivial (fun _ => ?_)
          clear hK K
          refine wpAnyH_ready (rs := [7]) (by kernel_rfl) (by simp) ?_
          refine AllReadyH.cons rfl (fun K hK => ?_) AllReadyH.nil
          refine step_appP (B := W3.heap.size + 1) _ rfl (.tmp 55) (.tmp 61) 22 rfl (s + 3) 41 Tryd.underlying22 lineInfo v _ rfl hown4 (some ⟨W3.heap.size, 0, none⟩) 1 1 [((P : Int), (Q : Int))] rfl (RdP.one W3 (P, Q) _) HROOM.out (by simp; omega) ?_
          intro v' w5 hown5 hg5 hat5
          obtain ⟨g5, c5', hv5, hgb5⟩ := hown5.addr hql.out (by omega)
          subst hv5
          obtain ⟨⟨f1, f2, f3, f4, f5, f6⟩, _⟩ := HEND.out W3 w5 _ _ hB3 hown5 hg5 hat5
          refine hK.out _ _ trivial (fun _ => ?_)
          clear hK K
          simp only [Act.put, List.setIfInBounds_toArray, List.set_cons_zero, List.set_cons_succ]
          refine wpAnyH_ready (rs := [8]) (by kernel_rfl) (by simp) ?_
          refine AllReadyH.cons rfl (fun K hK => ?_) AllReadyH.nil
          have c5 := f1.cell
          have c6 := f1.frozen
          go_simp
          refine hK.out _ _ trivial (fun _ => ?_)
          clear hK K
          refine wpAnyH_done (by kernel_rfl) ?_ _
          refine NoPanic.normal ?_
          refine hK1 _ _ ?_
          obtain ⟨w6, hw6⟩ : ∃ w6, w6 = w5.setCell ⟨s, 0, none⟩ (.slice (some ⟨g5, 0, none⟩) (j + 1) c5') := ⟨_, rfl⟩
          rw [← hw6] at f2 f3 f4 f6 ⊢
          have h6s : W.heap.size ≤ w6.heap.size := f6.1
          have hgD : D < g5 := by
            rcases f5 g5 rfl with h | h
            · exact HTD.out _ h
            · omega
          have hD6 : w6.heap[D]? = some (.deferred (some [])) := (f6.2 D hDW (fun h => h.elim (fun e => by omega) (fun h => by have := HTD.out D h; omega))).trans HDk.out
          have HS := Lib.hid (sortP_own (s + 3) g5 c5' (j + 1) ((zs ++ [(a, j + 1)]).map Pf.nrm) w6 HZJ.out f3 (by omega))
          have q6 := f2.cell
          clear f1 f3 f5 f6 hown5 hg5 hat5 hw6 c5 c6 hown4 hb4 c4 hB3 hB3s hbx3 c3 hown3
          gi_wp2_with (first
            | (gi_at_call 30; refine (callsIn_wide.2 HS.out).mono ?_; rintro e w7 ⟨rfl, hg7, os, hp7, hs7, ho7⟩; have q7 := Boxed.cell ((hg7.block s (by omega) (fun e => by have : s = g5 := Option.some.inj e; omega)).trans f2 : Boxed w7 s 22 _)))
          have hD7 : w7.heap[D]? = some (.deferred (some [])) := (hg7.block D (by omega) (fun e => by have : D = g5 := Option.some.inj e; omega)).trans hD6
          have hB7 : Below w.heap.size w w7 := f4.grown hg7 (by omega) (fun q e => by have : g5 = q := Option.some.inj e; omega)
          have hO8 : OwnP (w7.putObj D (.deferred none)) (s + 3) 41 (.slice (some ⟨g5, 0, none⟩) (j + 1) c5') os := ownsRow_same ho7 (fun q hq => World.putObj_heap_other (by have : g5 = q := Option.some.inj hq; omega))
          have hol : os.length = j + 1 := by rw [hp7.length_eq, HZJ.out]
          have hos := HFIN.out os hp7 hs7
          obtain ⟨A9, c9, he9, hr9⟩ := hO8.rd
          rw [hol] at he9 hr9
          rw [hos, HRW.out] at hr9
          simp only [Value.slice.injEq] at he9
          obtain ⟨rfl, _, rfl⟩ := he9
          have hB8 := hB7.trans (below_put (B := w.heap.size) w7 D (.deferred none) (by omega))
          refine ⟨by simp, .inl ⟨_, _, rfl, run_takeDeferred hD7, ?_⟩⟩
          exact ⟨_, results_tmp2 rfl _ _ _, _, _, rfl, hr9, hB8⟩
        · go_simp
          refine HIX.out.mono ?_
          rintro e W9 ⟨rfl, rfl⟩
          refine hK.out _ _ trivial (fun _ => ?_)
          clear hK K
          refine wpAnyH_ready (rs := [0, 5]) (by kernel_rfl) (by simp) ?_
          refine AllReadyH.cons rfl (fun K hK => ?_) (AllReadyH.cons rfl (fun K hK => ?_) AllReadyH.nil)
          · go_simp
            refine hK.out _ _ trivial (fun _ => ?_)
            clear hK K
            refine wpAnyH_ready (rs := [5]) (by kernel_rfl) (by simp) ?_
            refine AllReadyH.cons rfl (fun K hK => ?_) AllReadyH.nil
            go_simp
            refine HBT.out.mono ?_
            rintro e W3 ⟨rfl, hB3⟩
            have hB3s := hB3.size
            have hbx3 : Boxed W3 s 22 v := (hB3.block s (by omega)).trans hbxd
            have c3 := hbx3.cell
            have hown3 := hownd.below hB3
            refine hK.out _ _ trivial (fun _ => ?_)
            clear hK K
            refine wpAnyH_ready (rs := [6]) (by kernel_rfl) (by simp) ?_
            refine AllReadyH.cons rfl (fun K hK => ?_) AllReadyH.nil
            go_simp
            have hb4 : Below W3.heap.size W3 (W3.alloc (.cells #[.int .i64 P, .int .i64 Q] 41)) := (Below.refl _ _).alloc (Nat.le_refl _) _
            have hown4 := hown3.below hb4
            have c4 := (hb4.cell (p := ⟨s, 0, none⟩) (show s < W3.heap.size by omega)).trans c3
            refine hK.out _ _ trivial (fun _ => ?_)
            clear hK K
            refine wpAnyH_ready (rs := [7]) (by kernel_rfl) (by simp) ?_
            refine AllReadyH.cons rfl (fun K hK => ?_) AllReadyH.nil
            refine step_appP (B := W3.heap.size + 1) _ rfl (.tmp 55) (.tmp 61) 22 rfl (s + 3) 41 Tryd.underlying22 lineInfo v _ rfl hown4 (some ⟨W3.heap.size, 0, none⟩) 1 1 [((P : Int), (Q : Int))] rfl (RdP.one W3 (P, Q) _) HROOM.out (by simp; omega) ?_
            intro v' w5 hown5 hg5 hat5
            obtain ⟨g5, c5', hv5, hgb5⟩ := hown5.addr hql.out (by omega)
            subst hv5
            obtain ⟨⟨f1, f2, f3, f4, f5, f6⟩, _⟩ := HEND.out W3 w5 _ _ hB3 hown5 hg5 hat5
            refine hK.out _ _ trivial (fun _ => ?_)
            clear hK K
            simp only [Act.put, List.setIfInBounds_toArray, List.set_cons_zero, List.set_cons_succ]
            refine wpAnyH_ready (rs := [8]) (by kernel_rfl) (by simp) ?_
            refine AllReadyH.cons rfl (fun K hK => ?_) AllReadyH.nil
            have c5 := f1.cell
            have c6 := f1.frozen
            go_simp
            refine hK.out _ _ trivial (fun _ => ?_)
            clear hK K
            refine wpAnyH_done (by kernel_rfl) ?_ _
            refine NoPanic.normal ?_
            refine hK1 _ _ ?_
            obtain ⟨w6, hw6⟩ : ∃ w6, w6 = w5.setCell ⟨s, 0, none⟩ (.slice (some ⟨g5, 0, none⟩) (j + 1) c5') := ⟨_, rfl⟩
            rw [← hw6] at f2 f3 f4 f6 ⊢
            have h6s : W.heap.size ≤ w6.heap.size := f6.1
            have hgD : D < g5 := by
              rcases f5 g5 rfl with h | h
              · exact HTD.out _ h
              · omega
            have hD6 : w6.heap[D]? = some (.deferred (some [])) := (f6.2 D hDW (fun h => h.elim (fun e => by omega) (fun h => by have := HTD.out D h; omega))).trans HDk.out
            have HS := Lib.hid (sortP_own (s + 3) g5 c5' (j + 1) ((zs ++ [(a, j + 1)]).map Pf.nrm) w6 HZJ.out f3 (by omega))
            have q6 := f2.cell
            clear f1 f3 f5 f6 hown5 hg5 hat5 hw6 c5 c6 hown4 hb4 c4 hB3 hB3s hbx3 c3 hown3
            gi_wp2_with (first
              | (gi_at_call 30; refine (callsIn_wide.2 HS.out).mono ?_; rintro e w7 ⟨rfl, hg7, os, hp7, hs7, ho7⟩; have q7 := Boxed.cell ((hg7.block s (by omega) (fun e => by have : s = g5 := Option.some.inj e; omega)).trans f2 : Boxed w7 s 22 _)))
            have hD7 : w7.heap[D]? = some (.deferred (some [])) := (hg7.block D (by omega) (fun e => by have : D = g5 := Option.some.inj e; omega)).trans hD6
            have hB7 : Below w.heap.size w w7 := f4.grown hg7 (by omega) (fun q e => by have : g5 = q := Option.some.inj e; omega)
            have hO8 : OwnP (w7.putObj D (.deferred none)) (s + 3) 41 (.slice (some ⟨g5, 0, none⟩) (j + 1) c5') os := ownsRow_same ho7 (fun q hq => World.putObj_heap_other (by have : g5 = q := Option.some.inj hq; omega))
            have hol : os.length = j + 1 := by rw [hp7.length_eq, HZJ.out]
            have hos := HFIN.out os hp7 hs7
            obtain ⟨A9, c9, he9, hr9⟩ := hO8.rd
            rw [hol] at he9 hr9
            rw [hos, HRW.out] at hr9
            simp only [Value.slice.injEq] at he9
            obtain ⟨rfl, _, rfl⟩ := he9
            have hB8 := hB7.trans (below_put (B := w.heap.size) w7 D (.deferred none) (by omega))
            refine ⟨by simp, .inl ⟨_, _, rfl, run_takeDeferred hD7, ?_⟩⟩
            exact ⟨_, results_tmp2 rfl _ _ _, _, _, rfl, hr9, hB8⟩
          · go_simp
            refine HBT.out.mono ?_
            rintro e W3 ⟨rfl, hB3⟩
            have hB3s := hB3.size
            have hbx3 : Boxed W3 s 22 v := (hB3.block s (by omega)).trans hbxd
            have c3 := hbx3.cell
            have hown3 := hownd.below hB3
            refine hK.out _ _ trivial (fun _ => ?_)
            clear hK K
            refine wpAnyH_ready (rs := [0, 6]) (by kernel_rfl) (by simp) ?_
            refine AllReadyH.cons rfl (fun K hK => ?_) (AllReadyH.cons rfl (fun K hK => ?_) AllReadyH.nil)
            · go_simp
              refine hK.out _ _ trivial (fun _ => ?_)
              clear hK K
              refine wpAnyH_ready (rs := [6]) (by kernel_rfl) (by simp) ?_
              refine AllReadyH.cons rfl (fun K hK => ?_) AllReadyH.nil
              go_simp
              have hb4 : Below W3.heap.size W3 (W3.alloc (.cells #[.int .i64 P, .int .i64 Q] 41)) := (Below.refl _ _).alloc (Nat.le_refl _) _
              have hown4 := hown3.below hb4
              have c4 := (hb4.cell (p := ⟨s, 0, none⟩) (show s < W3.heap.size by omega)).trans c3
              refine hK.out _ _ trivial (fun _ => ?_)
              clear hK K
              refine wpAnyH_ready (rs := [7]) (by kernel_rfl) (by simp) ?_
              refine AllReadyH.cons rfl (fun K hK => ?_) AllReadyH.nil
              refine step_appP (B := W3.heap.size + 1) _ rfl (.tmp 55) (.tmp 61) 22 rfl (s + 3) 41 Tryd.underlying22 lineInfo v _ rfl hown4 (some ⟨W3.heap.size, 0, none⟩) 1 1 [((P : Int), (Q : Int))] rfl (RdP.one W3 (P, Q) _) HROOM.out (by simp; omega) ?_
              intro v' w5 hown5 hg5 hat5
              obtain ⟨g5, c5', hv5, hgb5⟩ := hown5.addr hql.out (by omega)
              subst hv5
              obtain ⟨⟨f1, f2, f3, f4, f5, f6⟩, _⟩ := HEND.out W3 w5 _ _ hB3 hown5 hg5 hat5
              refine hK.out _ _ trivial (fun _ => ?_)
              clear hK K
              simp only [Act.put, List.setIfInBounds_toArray, List.set_cons_zero, List.set_cons_succ]
              refine wpAnyH_ready (rs := [8]) (by kernel_rfl) (by simp) ?_
              refine AllReadyH.cons rfl (fun K hK => ?_) AllReadyH.nil
              have c5 := f1.cell
              have c6 := f1.frozen
              go_simp
              refine hK.out _ _ trivial (fun _ => ?_)
              clear hK K
              refine wpAnyH_done (by kernel_rfl) ?_ _
              refine NoPanic.normal ?_
              refine hK1 _ _ ?_
              obtain ⟨w6, hw6⟩ : ∃ w6, w6 = w5.setCell ⟨s, 0, none⟩ (.slice (some ⟨g5, 0, none⟩) (j + 1) c5') := ⟨_, rfl⟩
              rw [← hw6] at f2 f3 f4 f6 ⊢
              have h6s : W.heap.size ≤ w6.heap.size := f6.1
              have hgD : D < g5 := by
                rcases f5 g5 rfl with h | h
                · exact HTD.out _ h
                · omega
              have hD6 : w6.heap[D]? = some (.deferred (some [])) := (f6.2 D hDW (fun h => h.elim (fun e => by omega) (fun h => by have := HTD.out D h; omega))).trans HDk.out
              have HS := Lib.hid (sortP_own (s + 3) g5 c5' (j + 1) ((zs ++ [(a, j + 1)]).map Pf.nrm) w6 HZJ.out f3 (by omega))
              have q6 := f2.cell
              clear f1 f3 f5 f6 hown5 hg5 hat5 hw6 c5 c6 hown4 hb4 c4 hB3 hB3s hbx3 c3 hown3
              gi_wp2_with (first
                | (gi_at_call 30; refine (callsIn_wide.2 HS.out).mono ?_; rintro e w7 ⟨rfl, hg7, os, hp7, hs7, ho7⟩; have q7 := Boxed.cell ((hg7.block s (by omega) (fun e => by have : s = g5 := Option.some.inj e; omega)).trans f2 : Boxed w7 s 22 _)))
              have hD7 : w7.heap[D]? = some (.deferred (some [])) := (hg7.block D (by omega) (fun e => by have : D = g5 := Option.some.inj e; omega)).trans hD6
              have hB7 : Below w.heap.size w w7 := f4.grown hg7 (by omega) (fun q e => by have : g5 = q := Option.some.inj e; omega)
              have hO8 : OwnP (w7.putObj D (.deferred none)) (s + 3) 41 (.slice (some ⟨g5, 0, none⟩) (j + 1) c5') os := ownsRow_same ho7 (fun q hq => World.putObj_heap_other (by have : g5 = q := Option.some.inj hq; omega))
              have hol : os.length = j + 1 := by rw [hp7.length_eq, HZJ.out]
              have hos := HFIN.out os hp7 hs7
              obtain ⟨A9, c9, he9, hr9⟩ := hO8.rd
              rw [hol] at he9 hr9
              rw [hos, HRW.out] at hr9
              simp only [Value.slice.injEq] at he9
              obtain ⟨rfl, _, rfl⟩ := he9
              have hB8 := hB7.trans (below_put (B := w.heap.size) w7 D (.deferred none) (by omega))
              refine ⟨by simp, .inl ⟨_, _, rfl, run_takeDeferred hD7, ?_⟩⟩
              exact ⟨_, results_tmp2 rfl _ _ _, _, _, rfl, hr9, hB8⟩
            · go_simp
              have hb4 : Below W3.heap.size W3 (W3.alloc (.cells #[.int .i64 P, .int .i64 Q] 41)) := (Below.refl _ _).alloc (Nat.le_refl _) _
              have hown4 := hown3.below hb4
              have c4 := (hb4.cell (p := ⟨s, 0, none⟩) (show s < W3.heap.size by omega)).trans c3
              refine hK.out _ _ trivial (fun _ => ?_)
              clear hK K
              refine wpAnyH_ready (rs := [0]) (by kernel_rfl) (by simp) ?_
              refine AllReadyH.cons rfl (fun K hK => ?_) AllReadyH.nil
              go_simp
              refine hK.out _ _ trivial (fun _ => ?_)
              clear hK K
              refine wpAnyH_ready (rs := [7]) (by kernel_rfl) (by simp) ?_
              refine AllReadyH.cons rfl (fun K hK => ?_) AllReadyH.nil
              refine step_appP (B := W3.heap.size + 1) _ rfl (.tmp 55) (.tmp 61) 22 rfl (s + 3) 41 Tryd.underlying22 lineInfo v _ rfl hown4 (some ⟨W3.heap.size, 0, none⟩) 1 1 [((P : Int), (Q : Int))] rfl (RdP.one W3 (P, Q) _) HROOM.out (by simp; omega) ?_
              intro v' w5 hown5 hg5 hat5
              obtain ⟨g5, c5', hv5, hgb5⟩ := hown5.addr hql.out (by omega)
              subst hv5
              obtain ⟨⟨f1, f2, f3, f4, f5, f6⟩, _⟩ := HEND.out W3 w5 _ _ hB3 hown5 hg5 hat5
              refine hK.out _ _ trivial (fun _ => ?_)
              clear hK K
              simp only [Act.put, List.setIfInBounds_toArray, List.set_cons_zero, List.set_cons_succ]
              refine wpAnyH_ready (rs := [8]) (by kernel_rfl) (by simp) ?_
              refine AllReadyH.cons rfl (fun K hK => ?_) AllReadyH.nil
              have c5 := f1.cell
              have c6 := f1.frozen
              go_simp
              refine hK.out _ _ trivial (fun _ => ?_)
              clear hK K
              refine wpAnyH_done (by kernel_rfl) ?_ _
              refine NoPanic.normal ?_
              refine hK1 _ _ ?_
              obtain ⟨w6, hw6⟩ : ∃ w6, w6 = w5.setCell ⟨s, 0, none⟩ (.slice (some ⟨g5, 0, none⟩) (j + 1) c5') := ⟨_, rfl⟩
              rw [← hw6] at f2 f3 f4 f6 ⊢
              have h6s : W.heap.size ≤ w6.heap.size := f6.1
              have hgD : D < g5 := by
                rcases f5 g5 rfl with h | h
                · exact HTD.out _ h
                · omega
              have hD6 : w6.heap[D]? = some (.deferred (some [])) := (f6.2 D hDW (fun h => h.elim (fun e => by omega) (fun h => by have := HTD.out D h; omega))).trans HDk.out
              have HS := Lib.hid (sortP_own (s + 3) g5 c5' (j + 1) ((zs ++ [(a, j + 1)]).map Pf.nrm) w6 HZJ.out f3 (by omega))
              have q6 := f2.cell
              clear f1 f3 f5 f6 hown5 hg5 hat5 hw6 c5 c6 hown4 hb4 c4 hB3 hB3s hbx3 c3 hown3
              gi_wp2_with (first
                | (gi_at_call 30; refine (callsIn_wide.2 HS.out).mono ?_; rintro e w7 ⟨rfl, hg7, os, hp7, hs7, ho7⟩; have q7 := Boxed.cell ((hg7.block s (by omega) (fun e => by have : s = g5 := Option.some.inj e; omega)).trans f2 : Boxed w7 s 22 _)))
              have hD7 : w7.heap[D]? = some (.deferred (some [])) := (hg7.block D (by omega) (fun e => by have : D = g5 := Option.some.inj e; omega)).trans hD6
              have hB7 : Below w.heap.size w w7 := f4.grown hg7 (by omega) (fun q e => by have : g5 = q := Option.some.inj e; omega)
              have hO8 : OwnP (w7.putObj D (.deferred none)) (s + 3) 41 (.slice (some ⟨g5, 0, none⟩) (j + 1) c5') os := ownsRow_same ho7 (fun q hq => World.putObj_heap_other (by have : g5 = q := Option.some.inj hq; omega))
              have hol : os.length = j + 1 := by rw [hp7.length_eq, HZJ.out]
              have hos := HFIN.out os hp7 hs7
              obtain ⟨A9, c9, he9, hr9⟩ := hO8.rd
              rw [hol] at he9 hr9
              rw [hos, HRW.out] at hr9
              simp only [Value.slice.injEq] at he9
              obtain ⟨rfl, _, rfl⟩ := he9
              have hB8 := hB7.trans (below_put (B := w.heap.size) w7 D (.deferred none) (by omega))
              refine ⟨by simp, .inl ⟨_, _, rfl, run_takeDeferred hD7, ?_⟩⟩
              exact ⟨_, results_tmp2 rfl _ _ _, _, _, rfl, hr9, hB8⟩
      case stop =>
        rintro D pre W _ _ h _
        exact h.elim

end Go.Proofs.YtnekbgeablhgiaaDoor
