/-
  The contract of Write of package prufer: a tree's row, or what is wrong. No statement of the program is proved here; there is no condition.
-/
import Derived.Test.YtnekbgeablhgiaaDoorPruferB
import Derived.Test.YtnekbgeablhgiaaDoorTreeA
import Derived.RangeFuncBound
namespace Go.Proofs.YtnekbgeablhgiaaDoor
open Go.RowKit Go.Shelf

attribute [local go_sem] Oper.semAt_some
set_option linter.unusedSimpArgs false
set_option linter.unusedVariables false

theorem Write_code (n : Int) (A : Option Addr) (k c : Nat) (ls : List Gr.Ln) (w : World) (hr : RdP w w.heap.size A k c ls) (h : Tr.tcode n ls ≠ 0) :
    Calls Tryd.prog 6 #[.int .i64 n, .slice A k c] w fun e w' => e = .returned (.tuple #[.slice none 0 0, errv (Tr.tcode n ls)]) ∧ Below w.heap.size w w' := by
  have H := Lib.hid h
  clear h
  go_enter Tryd.func6, Tryd.ntmps6
  go_wp2_with fail
  refine (TCheck_bad n A k c ls _ hr H.out).mono ?_
  rintro e w1 ⟨rfl, hb⟩
  go_wp2
  go_ret2
  exact ⟨rfl, hb⟩

theorem Write_one (A : Option Addr) (k c : Nat) (ls : List Gr.Ln) (w : World) (hr : RdP w w.heap.size A k c ls) (h : Tr.tcode 1 ls = 0) :
    Calls Tryd.prog 6 #[.int .i64 1, .slice A k c] w fun e w' => e = .returned (.tuple #[.slice none 0 0, errv 5]) ∧ Below w.heap.size w w' := by
  have H := Lib.hid h
  clear h
  go_enter Tryd.func6, Tryd.ntmps6
  go_wp2_with fail
  refine (TCheck_ok 1 A k c ls _ hr H.out).mono ?_
  rintro e w1 ⟨rfl, hb⟩
  go_wp2
  go_ret2
  exact ⟨rfl, hb⟩

/-- the row while it grows -/
def WrI (s nB : Nat) (A : Option Addr) (m c : Nat) (ls : List Gr.Ln) (w : World) (T : Nat → Prop) (pre : List (Nat × Nat)) (W : World) : Prop :=
  ∃ v, Boxed W (s + 3) 23 v ∧ Own W (s + 6) 3 v (pre.map fun x => ((x.2 : Nat) : Int)) ∧ (∀ q, v.ownBlock = some q → T q) ∧ (∀ q, T q → q < W.heap.size) ∧ WrG s (s + 2) nB A m c (s + 1) ls W ∧ Below w.heap.size w W
theorem WrG.below {bb bd nB : Nat} {A : Option Addr} {m c db : Nat} {ls : List Gr.Ln} {s : Nat} {W W' : World} (h : WrG bb bd nB A m c db ls W) (h1 : bb < s) (h2 : bd < s) (h3 : nB ≤ s) (hb : Below s W W') : WrG bb bd nB A m c db ls W' :=
  ⟨Nat.le_trans h.1 hb.size, (hb.cell (p := ⟨bb, 0, none⟩) h1).trans h.2.1, (hb.cell (p := ⟨bd, 0, none⟩) h2).trans h.2.2.1, h.2.2.2.below (hb.mono h3)⟩
theorem WrG.set {bb bd nB : Nat} {A : Option Addr} {m c db : Nat} {ls : List Gr.Ln} {W : World} (h : WrG bb bd nB A m c db ls W) (p : Addr) (v : Value) (h1 : bb ≠ p.block) (h2 : bd ≠ p.block) (h3 : nB ≤ p.block) : WrG bb bd nB A m c db ls (W.setCell p v) :=
  ⟨by simpa using h.1, (World.cell?_setCell_other _ _ _ _ (fun e => h1 (congrArg Addr.block e).symm)).trans h.2.1, (World.cell?_setCell_other _ _ _ _ (fun e => h2 (congrArg Addr.block e).symm)).trans h.2.2.1, h.2.2.2.keep (Nat.le_refl _) fun q hq => World.cell?_setCell_other _ _ _ _ (fun e => by have := congrArg Addr.block e; omega)⟩

/-- one more number has been put to the row -/
theorem wr_put {s nB : Nat} {A : Option Addr} {m c : Nat} {ls : List Gr.Ln} {w : World} {T : Nat → Prop} {pre : List (Nat × Nat)} {x : Nat × Nat} {W w5 : World} {o : Obj} {v v' : Value} (hTl : ∀ k, T k → s + 6 ≤ k) (hWl : s + 6 ≤ W.heap.size) (hws : w.heap.size ≤ s) (hns : nB ≤ s)
    (hbx : Boxed W (s + 3) 23 v) (hvT : ∀ q, v.ownBlock = some q → T q) (hTs : ∀ q, T q → q < W.heap.size) (hG : WrG s (s + 2) nB A m c (s + 1) ls W) (hB : Below w.heap.size w W)
    (hown5 : Own w5 (s + 6) 3 v' ((pre ++ [x]).map fun x => ((x.2 : Nat) : Int))) (hg5 : (W.alloc o).grownBy w5 v.ownBlock) (hat : v'.ownBlock = v.ownBlock ∨ v'.ownBlock = some (W.alloc o).heap.size) :
    Boxed w5 (s + 3) 23 v ∧ ∃ T', (∀ k, T' k → T k ∨ W.heap.size ≤ k) ∧ Kept (fun q => q = s + 3 ∨ T q) W (w5.setCell ⟨s + 3, 0, none⟩ v') ∧ WrI s nB A m c ls w T' (pre ++ [x]) (w5.setCell ⟨s + 3, 0, none⟩ v') := by
  have hall : ∀ k, k < W.heap.size → v.ownBlock ≠ some k → w5.heap[k]? = W.heap[k]? := fun k hk hn => by
    rw [hg5.block k (by simp; omega) (fun e => hn e.symm)]
    exact Below.heap_alloc _ _ _ hk
  have hno : ∀ k, k < s + 6 → v.ownBlock ≠ some k := fun k hk e => by have := hTl k (hvT k e); omega
  have b1 : Boxed w5 (s + 3) 23 v := (hall (s + 3) (by omega) (hno _ (by omega))).trans hbx
  have hb : Below (s + 6) W w5 := ((Below.refl _ W).alloc hWl o).grown hg5 (by simp; omega) (fun k hk => hTl k (hvT k hk))
  have hbw : Below w.heap.size w w5 := hB.trans (hb.mono (by omega))
  have h5s := hg5.size
  simp only [World.size_alloc] at h5s
  refine ⟨b1, fun q => T q ∨ v'.ownBlock = some q, fun k hk => ?_, ⟨by simp; omega, fun k hk hx => ?_⟩, v', b1.set v', hown5.same (fun q hq => Below.heap_setCell w5 _ _ q (show q ≠ s + 3 from fun e => by have := hown5.at_base q hq; omega)), fun q hq => .inr hq, fun q hq => ?_, (hG.below (by omega) (by omega) (by omega) hb).set _ _ (by show s ≠ s + 3; omega) (by show s + 2 ≠ s + 3; omega) (by show nB ≤ s + 3; omega), hbw.setCell (p := ⟨s + 3, 0, none⟩) (show w.heap.size ≤ s + 3 by omega) _⟩
  · rcases hk with hk | hk
    · exact .inl hk
    · rcases hat with e | e
      · exact .inl (hvT k (by rw [← e]; exact hk))
      · rw [e] at hk
        simp at hk
        exact .inr (by omega)
  · rw [Below.heap_setCell w5 _ _ k (show k ≠ s + 3 from fun e => hx (.inl e))]
    exact hall k hk (fun e => hx (.inr (hvT k e)))
  · rcases hq with hq | hq
    · have := hTs q hq; simp; omega
    · have := hown5.lt q hq; simpa using this

/-- numbers as integers -/
def upN (xs : List Nat) : List Int := xs.map fun x => ((x : Nat) : Int)

set_option maxRecDepth 100000 in
set_option maxHeartbeats 4000000 in
theorem Write_in (m : Nat) (A : Option Addr) (k c : Nat) (ls : List Gr.Ln) (w : World) (hr : RdP w w.heap.size A k c ls) (ht : Tr.tcode (m : Int) ls = 0) (hm2 : 2 ≤ m) :
    CallsIn Fence.wide 10 Tryd.prog 6 #[.int .i64 (m : Int), .slice A k c] w fun e w' => ∃ A1 c1, e = .returned (.tuple #[.slice A1 (m - 2) c1, .nilIface]) ∧ Rd w' w'.heap.size A1 (m - 2) c1 (upN (Pf.wr m ls)) ∧ Below w.heap.size w w' := by
  obtain ⟨hc, hT⟩ := Tr.tcode_zero.1 ht
  have hm8 : m ≤ 8 := by have := (Gr.code_zero.1 hc).2.1; omega
  have HC := Lib.hid hc
  have HT := Lib.hid hT
  have H := Lib.hid ht
  clear ht hc hT
  have hro : Fence.wide.round = none := rfl
  have hF1 : Fence.wide.fn 16 := trivial
  have hF2 : Fence.wide.fn 17 := trivial
  have hF3 : Fence.wide.fn 21 := trivial
  have hmf : ∀ (fn : Fn) (first cap : Array Value) (w : World), (Instr.makeFunc fn first cap).run Tryd.prog w = .ok (.func fn first cap) w := fun _ _ _ _ => rfl
  have hml : m ≤ maxLen := by simp only [maxLen]; omega
  obtain ⟨i0, hi, hz0, hz1, hz2⟩ := info_parts intInfo
  have hby : i0.bytes * m ≤ 281474976710656 := by rw [hz2]; omega
  have hne1 : ((m : Int) == 1) = false := by simp; omega
  refine callsIn_of_wp_marks Tryd.func6 rfl trivial ?_ hro
  simp only [Tryd.ntmps6, List.size_toArray, List.length_cons, List.length_nil, Nat.reduceAdd, Nat.reduceSub, Array.replicate_succ, Array.replicate_zero, List.push_toArray, List.append_toArray, List.nil_append, List.cons_append]
  gi_wp2_with (first
    | (gi_at_call 16; refine (callsIn_wide.2 (TCheck_ok (m : Int) A k c ls _ hr H.out)).mono ?_; rintro e w1 ⟨rfl, hb1⟩; have hr1 := hr.past hb1)
    | (gi_at_call 17; refine (callsIn_wide.2 (Beside_any (m : Int) A k c ls _ hr1)).mono ?_; rintro e w2 ⟨hb2, (⟨h0, _⟩ | ⟨_, A2, c2, rfl, hrows⟩)⟩; (first | exact absurd HC.out h0 | skip); rw [Int.toNat_natCast] at hrows; rw [Int.toNat_natCast])
    | (gi_at_make; refine wpListIn_mk _ rfl (.tmp 34) (.tmp 34) 23 rfl (w2.heap.size + 1) 3 i0 (.int .i64 0) 1 Tryd.underlying23 hi hz0 hz1 .i64 .i64 m rfl rfl hby hml (by simp) ?_; intro w3 hrow3 hg3 hsz3; simp only [World.size_alloc] at hrow3 hsz3; simp only [World.size_alloc];
        have q0 : w3.cell? ⟨w2.heap.size, 0, none⟩ = some (.slice A2 m c2) := (((Below.refl (w2.heap.size + 1) (w2.alloc (.cells #[.slice A2 m c2] 38))).grown hg3 (by simp) (fun _ e => by cases e)).cell (p := ⟨w2.heap.size, 0, none⟩) (by simp)).trans (Boxed.new w2 _ _).cell;
        have q1 : (w3.alloc (.cells #[.slice (some ⟨w2.heap.size + 1, 0, none⟩) m m] 23)).cell? ⟨w2.heap.size, 0, none⟩ = some (.slice A2 m c2) := ((Below.refl w3.heap.size w3).alloc (Nat.le_refl _) _).cell (p := ⟨w2.heap.size, 0, none⟩) (by simp; omega) |>.trans q0))
  obtain ⟨s, hs⟩ : ∃ s, s = w2.heap.size := ⟨_, rfl⟩
  have hws : w.heap.size ≤ s := by rw [hs]; exact Nat.le_trans hb1.size hb2.size
  have hown3 := Own.made hrow3
  obtain ⟨V, hV⟩ : ∃ V, V = w3.alloc (.cells #[.slice (some ⟨w2.heap.size + 1, 0, none⟩) m m] 23) := ⟨_, rfl⟩
  have hVs : V.heap.size = s + 3 := by rw [hV, hs]; simp [hsz3]
  have hb23 : Below s w2 w3 := by
    rw [hs]
    exact ((Below.refl _ w2).alloc (Nat.le_refl _) _).grown hg3 (by simp) (fun _ e => by cases e)
  have hb3V : Below (s + 2) w3 V := by rw [hV]; exact (Below.refl _ _).alloc (by rw [hs, hsz3]; exact Nat.le_refl _) _
  have hBV : Below w.heap.size w V := hb1.trans ((hb2.mono hb1.size).trans ((hb23.trans (hb3V.mono (by omega))).mono hws))
  have hG0 : WrG s (s + 2) s A2 m c2 (s + 1) ls V := by
    refine ⟨by omega, ?_, ?_, ?_⟩
    · rw [hV, hs]; exact q1
    · rw [hV, hs]
      have := Boxed.new w3 23 (.slice (some ⟨w2.heap.size + 1, 0, none⟩) m m)
      rw [hsz3] at this
      exact this.cell
    · rw [hs] at hb23 hb3V ⊢
      exact (hrows.below hb23).below (hb3V.mono (by omega))
  have hO0 : Own V (s + 1) 3 (.slice (some ⟨s + 1, 0, none⟩) m m) (fillTo (Pf.dw m (Tr.ad ls) fun _ => false) 0) := by
    rw [fillTo_zero, show (Pf.dw m (Tr.ad ls) fun _ => false).length = m from Pf.tab_len _ _]
    exact (by rw [hs] at hb3V ⊢; exact hown3.same (fun q hq => by cases hq; exact hb3V.block _ (by simp)))
  rw [← hV, ← hs]
  simp only [Nat.add_assoc, Nat.reduceAdd]
  have HV := Lib.hid hV
  have HS := Lib.hid hs
  have HD := Lib.hid (Pf.dw_first m ls)
  have HDL := Lib.hid (show (Pf.dw m (Tr.ad ls) fun _ => false).length = m from Pf.tab_len _ _)
  have hrw := hG0.2.2.2
  clear hV hs hrow3 hg3 hsz3 hown3 hb23 hb3V q0 q1 hrows hi hz0 hz1 hz2 hby hr1 hb1 hb2
  gi_loopw [10, 11, 38] (fun _ _ jv wr => ∃ j : Nat, j ≤ m ∧ jv = .int .i64 (j : Int) ∧ WrG s (s + 2) s A2 m c2 (s + 1) ls wr ∧ Own wr (s + 1) 3 (.slice (some ⟨s + 1, 0, none⟩) m m) (fillTo (Pf.dw m (Tr.ad ls) fun _ => false) j) ∧ Below w.heap.size w wr ∧ wr.heap.size = s + 3) (fun _ _ jv _ => m - (intOf jv).toNat)
  case atStart => exact ⟨0, Nat.zero_le _, rfl, hG0, hO0, hBV, hVs⟩
  case round =>
    clear hrw
    obtain ⟨j, hj, rfl, hG, hO, hB, hsz⟩ := hrel
    by_cases hlt : j < m
    · have g9 := hG.2.2.1
      obtain ⟨b1, o1, rfl, hb1, hc1⟩ := hG.2.2.2.at_ (by omega)
      obtain ⟨A', c', g3, hrow⟩ := hc1 j hlt
      obtain ⟨q, hq⟩ : ∃ q, q = ((Gr.rows m ls).getD j []).length := ⟨_, rfl⟩
      rw [← hq] at g3
      have hqd : Hid ((Pf.dw m (Tr.ad ls) fun _ => false).getD j 0 = (q : Int)) := by
        show _ = _
        rw [HD.out, hq, Gr.rows_getD ls hlt]
        simp [List.getD, hlt]
      have f2 := hO.cell j hlt
      have f3 := hO.frozen j
      have hO4 := (hO.store j (q : Int)).1
      rw [← hqd.out, fillTo_succ (by rw [HDL.out]; exact hlt)] at hO4
      rw [hqd.out] at hO4
      have hG4 := hG.set ⟨s + 1, j, none⟩ (.int .i64 (q : Int)) (by show s ≠ s + 1; omega) (by show s + 2 ≠ s + 1; omega) (by show s ≤ s + 1; omega)
      have hB4 := hB.setCell (p := ⟨s + 1, j, none⟩) (show w.heap.size ≤ s + 1 by omega) (.int .i64 (q : Int))
      have hs4 : (wr.setCell ⟨s + 1, j, none⟩ (.int .i64 (q : Int))).heap.size = s + 3 := by simpa using hsz
      clear hc1 hrow hq hG hO hB hsz
      gi_wp2
      go_roundw
      case rel => exact ⟨j + 1, by omega, by go_num, hG4, hO4, hB4, hs4⟩
      case measure => simp [intOf]; omega
    · obtain rfl : j = m := by omega
      have hfa : Hid (fillTo (Pf.dw j (Tr.ad ls) fun _ => false) j = Pf.dw j (Tr.ad ls) fun _ => false) := by
        show _ = _
        have := fillTo_all (Pf.dw j (Tr.ad ls) fun _ => false)
        rwa [HDL.out] at this
      rw [hfa.out] at hO
      have g9 := hG.2.2.1
      obtain ⟨W4, hW4⟩ : ∃ W4, W4 = wr.alloc (.cells #[.slice none 0 0] 23) := ⟨_, rfl⟩
      have hb4 : Below (s + 3) wr W4 := by rw [hW4, ← hsz]; exact (Below.refl _ _).alloc (Nat.le_refl _) _
      have h4s : W4.heap.size = s + 4 := by rw [hW4]; simp [hsz]
      have g94 := (hb4.cell (p := ⟨s + 2, 0, none⟩) (by simp)).trans g9
      rw [hW4] at g94
      have hT2 := Pf.tree_ts2 HT.out hm2
      have hrun := Pf.run_w hT2 (by omega : j - 2 + 2 = j) (by omega)
      obtain ⟨zs, hzs⟩ : ∃ zs, zs = Pf.zw j (Tr.ad ls) (fun _ => false) (j - 2) := ⟨_, rfl⟩
      rw [← hzs] at hrun
      have HZ := Lib.hid hzs
      have hzl : zs.length = j - 2 := by rw [hzs]; exact Pf.zw_len
      obtain ⟨W5, hW5⟩ : ∃ W5, W5 = (W4.alloc (.cells #[.slice (some ⟨s + 1, 0, none⟩) j j] 23)).alloc (.cells #[.func (.func 18) #[] #[.pointer (some ⟨s, 0, none⟩), .pointer (some ⟨s + 2, 0, none⟩)]] 49) := ⟨_, rfl⟩
      have hb5 : Below (s + 4) W4 W5 := by rw [hW5, ← h4s]; exact ((Below.refl _ _).alloc (Nat.le_refl _) _).alloc (by simp) _
      have h5s : W5.heap.size = s + 6 := by rw [hW5]; simp [h4s]
      have hb35 : Below (s + 3) wr W5 := hb4.trans (hb5.mono (by omega))
      have hG5 := hG.below (by omega) (by omega) (by omega) hb35
      have hO5 : Own W5 (s + 1) 3 (.slice (some ⟨s + 1, 0, none⟩) j j) (Pf.dw j (Tr.ad ls) fun _ => false) := hO.same (fun q hq => by cases hq; exact hb35.block (s + 1) (by omega))
      have hbx5 : Boxed W5 (s + 3) 23 (.slice none 0 0) := by
        have h1 := Boxed.new wr 23 (.slice none 0 0)
        rw [← hW4, hsz] at h1
        exact (hb5.block (s + 3) (by omega)).trans h1
      have hR5 : RmG (s + 4) (s + 5) (s + 1) (s + 1) j 18 #[.pointer (some ⟨s, 0, none⟩), .pointer (some ⟨s + 2, 0, none⟩)] j (Pf.dw j (Tr.ad ls) fun _ => false) W5 := by
        refine ⟨?_, ?_, hO5⟩
        · rw [hW5]
          have := (Boxed.new W4 23 (.slice (some ⟨s + 1, 0, none⟩) j j)).alloc (.cells #[.func (.func 18) #[] #[.pointer (some ⟨s, 0, none⟩), .pointer (some ⟨s + 2, 0, none⟩)]] 49)
          rw [h4s] at this
          exact this.cell
        · rw [hW5]
          have := Boxed.new (W4.alloc (.cells #[.slice (some ⟨s + 1, 0, none⟩) j j] 23)) 49 (.func (.func 18) #[] #[.pointer (some ⟨s, 0, none⟩), .pointer (some ⟨s + 2, 0, none⟩)])
          rw [World.size_alloc, h4s] at this
          exact this.cell
      have hI0 : WrI s s A2 j c2 ls w (fun _ => False) [] W5 := ⟨_, hbx5, Own.nil _ _ _, fun q hq => (by cases hq), fun q hq => hq.elim, hG5, hB.trans (hb35.mono (by omega))⟩
      have HT2 := Lib.hid hT2
      clear hzs hT2 hbx5 hb35 hb5 hO hO5 hG hG5 hb4
      gi_wp2_with (first
        | (gi_at_call 21; refine (callsIn_wide.2 (removals_any _ _ _ _ _ _)).mono ?_; rintro e w5 ⟨rfl, rfl⟩))
      rw [← hW4, ← hW5]
      simp only [World.size_alloc, hsz, h4s, Nat.add_assoc, Nat.reduceAdd]
      refine wpIn_range_cellsY hro (by omega) (gf := 40) (lb := #[.pointer (some ⟨s + 4, 0, none⟩), .pointer (some ⟨s + 5, 0, none⟩)]) rfl trivial (enters_of Tryd.func40 (by kernel_rfl) rfl) (X := fun q => q = s + 3) (Y := fun q => q = s + 1) (G := fun _ W => WrG s (s + 2) s A2 j c2 (s + 1) ls W) (zs := zs)
        (removals1_seq (s + 4) (s + 5) (s + 1) (s + 1) j 18 #[.pointer (some ⟨s, 0, none⟩), .pointer (some ⟨s + 2, 0, none⟩)] j _ zs hrun hm8 (fun q => q = s + 3) _ W5 (Nat.le_refl _) (by omega) (by omega) (by omega) (by omega) (by omega) (fun q hq => by omega) (enters_of Tryd.func18 (by kernel_rfl) rfl)
          (fun i hi W hGW hOW => by
            have hi' : i < j - 2 := by rw [← hzl]; exact hi
            rw [HZ.out, Pf.zw_at hi']
            have hTi := Pf.gw_ts HT2.out i (by omega)
            exact last_any s (s + 2) s (s + 1) (s + 1) A2 j c2 ls (Pf.gw j (Tr.ad ls) (fun _ => false) i) (j - 2 - i + 1) hTi (by omega) W hGW hOW) hR5)
        (fun A C h hb => h.below (by omega) (by omega) (by omega) hb)
        (fun q hq => by omega) (fun q hq => by omega) (fun _ => rfl)
        (fun T pre W => WrI s s A2 j c2 ls w T pre W)
        (fun _ _ => False)
        (fun T pre U V' h hb ht => by
          obtain ⟨v, i1, i2, i3, i4, i5, i6⟩ := h
          rw [h5s] at hb
          exact ⟨v, (hb.block (s + 3) (by omega)).trans i1, i2.same (fun q hq => ht q (i3 q hq)), i3, fun q hq => Nat.lt_of_lt_of_le (i4 q hq) hb.size, i5.below (by omega) (by omega) (by omega) hb, i6.trans (hb.mono (by omega))⟩)
        (fun T pre U p v' hp h => by
          obtain ⟨v, i1, i2, i3, i4, i5, i6⟩ := h
          refine ⟨v, (Below.heap_setCell U p v' _ (by omega)).trans i1, i2.same (fun q hq => Below.heap_setCell U p v' _ (by have := i2.at_base q hq; omega)), i3, fun q hq => by simpa using i4 q hq, i5.set _ _ (by omega) (by omega) (by omega), i6.setCell (p := p) (by omega) _⟩)
        (fun T pre U h => by
          obtain ⟨v, i1, i2, i3, i4, i5, i6⟩ := h
          exact i5)
        (fun T pre U h => by
          obtain ⟨v, i1, i2, i3, i4, i5, i6⟩ := h
          exact i4)
        (fun _ _ _ h _ => h) hI0
        (fun x => { tmps := #[.int .i64 (j : Int), .slice A k c, undef, undef, .slice none 0 0, .nilIface, .nilIface, .pointer (some ⟨s, 0, none⟩), .nilIface, .pointer (some ⟨s + 2, 0, none⟩), u10, u11, .func (.func 18) #[] #[.pointer (some ⟨s, 0, none⟩), .pointer (some ⟨s + 2, 0, none⟩)], .pointer (some ⟨s + 3, 0, none⟩), undef, .int .i64 (x.2 : Int),
          .int .i64 (j : Int), .slice A k c, .nilIface, .nilIface, .bool false, undef, .int .i64 (j : Int), .bool false, undef, .tuple #[.slice A2 j c2, .nilIface], .int .i64 (j : Int), .slice A k c, .tuple #[.slice A2 j c2, .nilIface], .slice A2 j c2, .nilIface, .nilIface, .bool false, undef, .int .i64 (j : Int), .slice (some ⟨s + 1, 0, none⟩) j j, .slice A2 j c2, .int .i64 (j : Int), .int .i64 (j : Int), .bool false, u40, u41, u42, u43, u44, u45, u46, u47, u48,
          .func (.func 18) #[] #[.pointer (some ⟨s, 0, none⟩), .pointer (some ⟨s + 2, 0, none⟩)], .slice (some ⟨s + 1, 0, none⟩) j j, .func (.func 18) #[] #[.pointer (some ⟨s, 0, none⟩), .pointer (some ⟨s + 2, 0, none⟩)], .func (.func 40) #[] #[.pointer (some ⟨s + 4, 0, none⟩), .pointer (some ⟨s + 5, 0, none⟩)], .int .i64 (x.1 : Int), .int .i64 (x.2 : Int), undef, undef, undef, undef, undef], defers := [] }) ?assign ?body ?done ?stop
      case assign =>
        intro x l W K hK
        simp only [encP]
        gi_wp2
        exact hK
      case body =>
        rintro T pre ⟨a, b⟩ hpre l W hTl hWl ⟨v, hbx, hown, hvT, hTs, hGW, hBW⟩
        clear hI0 hR5 g94 g9
        have hlen : (pre.map fun x : Nat × Nat => ((x.2 : Nat) : Int)).length + 1 ≤ 17592186044416 := by
          have := hpre.length_le
          rw [List.length_append, hzl] at this
          rw [List.length_map]
          omega
        have c0 := hbx.cell
        rw [h5s] at hWl
        have hTl' : ∀ q, T q → s + 6 ≤ q := fun q hq => by have := hTl q hq; omega
        obtain ⟨A7, c7, hv7, _⟩ := hown.rd
        obtain ⟨N7, hN7⟩ : ∃ N7, N7 = (pre.map fun x : Nat × Nat => ((x.2 : Nat) : Int)).length := ⟨_, rfl⟩
        rw [← hN7] at hv7
        subst hv7
        clear hN7
        have HPUT := Lib.hid (fun (w5 : World) (o : Obj) (v' : Value) (h1 : Own w5 (s + 6) 3 v' ((pre.map fun x : Nat × Nat => ((x.2 : Nat) : Int)) ++ [(b : Int)])) (h2 : (W.alloc o).grownBy w5 (Value.slice A7 N7 c7).ownBlock) (h3 : v'.ownBlock = (Value.slice A7 N7 c7).ownBlock ∨ v'.ownBlock = some (W.alloc o).heap.size) =>
          wr_put (x := (a, b)) hTl' (by omega) hws (Nat.le_refl s) hbx hvT hTs hGW hBW (by rw [List.map_append]; exact h1) h2 h3)
        gi_wp2_with (gi_at_builtin; refine wpListIn_app _ rfl (.tmp 55) (.tmp 57) 23 rfl (s + 6) 3 Tryd.underlying23 intInfo (.slice A7 N7 c7) _ rfl (hown.below ((Below.refl _ _).alloc (Nat.le_refl _) _)) (some ⟨W.heap.size, 0, none⟩) 1 1 [(b : Int)] rfl (Rd.one _ _ _) hlen (by simp; omega) ?_; intro v' w5 hown5 hg5 hat5; obtain ⟨A8, c8, hv8, _⟩ := hown5.rd; obtain ⟨N8, hN8⟩ : ∃ N8, N8 = ((pre.map fun x : Nat × Nat => ((x.2 : Nat) : Int)) ++ [(b : Int)]).length := ⟨_, rfl⟩; rw [← hN8] at hv8; clear hN8; subst hv8; obtain ⟨f1, T', f2, f3, f4⟩ := HPUT.out w5 _ _ hown5 hg5 hat5; have f0 := f1.cell; have f9 := f1.frozen)
        exact ⟨T', f2, f3, f4⟩
      case done =>
        rintro D T W hD hTD ⟨v, hbx, hown, hvT, hTs, hGW, hBW⟩ _ hK
        clear hI0 hR5 g94 g9
        have hown' : Own (W.putObj D (.deferred none)) (s + 6) 3 v (zs.map fun x => ((x.2 : Nat) : Int)) := hown.same (fun q hq => World.putObj_heap_other (by have := hTD q (hvT q hq); omega))
        have hB' := hBW.trans (below_put (B := w.heap.size) W D (.deferred none) (by rw [h5s] at hD; omega))
        have hup : zs.map (fun x => ((x.2 : Nat) : Int)) = upN (Pf.wr j ls) := by
          rw [HZ.out]
          unfold upN Pf.wr Pf.zw
          rw [Pf.code_gw, List.map_map, List.map_map]
          rfl
        have hl7 : (zs.map fun x => ((x.2 : Nat) : Int)).length = j - 2 := by rw [List.length_map, hzl]
        obtain ⟨A7, c7, hv7, hr7⟩ := hown'.rd
        rw [hl7] at hv7 hr7
        rw [hup] at hr7
        subst hv7
        have c0 := hbx.cell
        clear hown hown' hup hl7 hvT hGW hzl
        gi_wp2
        refine ⟨by simp, .inl ⟨_, _, rfl, run_takeDeferred hK, ?_⟩⟩
        exact ⟨_, results_tmp2 rfl _ _ _, _, _, rfl, hr7, hB'⟩
      case stop =>
        rintro D pre W _ _ h _
        exact h.elim

theorem Write_yes (m : Nat) (A : Option Addr) (k c : Nat) (ls : List Gr.Ln) (w : World) (hr : RdP w w.heap.size A k c ls) (ht : Tr.tcode (m : Int) ls = 0) (hm2 : 2 ≤ m) :
    Calls Tryd.prog 6 #[.int .i64 (m : Int), .slice A k c] w fun e w' => ∃ A1 c1, e = .returned (.tuple #[.slice A1 (m - 2) c1, .nilIface]) ∧ Rd w' w'.heap.size A1 (m - 2) c1 (upN (Pf.wr m ls)) ∧ Below w.heap.size w w' :=
  callsIn_wide.1 (Write_in m A k c ls w hr ht hm2)

end Go.Proofs.YtnekbgeablhgiaaDoor
