/-
  The contract of Part of package halves: which of two parts each point is in, or that it can not be parted, or what is wrong.
-/
import Derived.Test.YtklanopgmlmjlaaDoorHalvesA
namespace Go.Proofs.YtklanopgmlmjlaaDoor
open Go.RowKit

set_option linter.unusedSimpArgs false
set_option linter.unusedVariables false

set_option maxRecDepth 100000 in
set_option maxHeartbeats 1000000 in
/-- the closure of Part, which has captured the box of the colors -/
theorem clash1_any (bd g m : Nat) (zs : List Int) (p q : Nat) (w : World) (hb : w.cell? ⟨bd, 0, none⟩ = some (.slice (some ⟨g, 0, none⟩) m m)) (hcp : w.cell? ⟨g, p, none⟩ = some (.int .i64 (zs.getD p 0))) (hcq : w.cell? ⟨g, q, none⟩ = some (.int .i64 (zs.getD q 0))) (hp : p < m) (hq : q < m) :
    Calls Tryd.prog 19 #[.agg #[.int .i64 (p : Int), .int .i64 (q : Int)], .pointer (some ⟨bd, 0, none⟩)] w fun e w' => e = .returned (.bool (decide (zs.getD p 0 = zs.getD q 0))) ∧ Below w.heap.size w w' := by
  have hal : Below w.heap.size w (w.alloc (.cells #[.int .i64 (p : Int), .int .i64 (q : Int)] 40)) := (Below.refl _ _).alloc (Nat.le_refl _) _
  have kb := (hal.cell (p := ⟨bd, 0, none⟩) (World.block_lt_of_cell? w _ hb)).trans hb
  have kp := (hal.cell (p := ⟨g, p, none⟩) (World.block_lt_of_cell? w _ hcp)).trans hcp
  have kq := (hal.cell (p := ⟨g, q, none⟩) (World.block_lt_of_cell? w _ hcq)).trans hcq
  generalize zs.getD p 0 = dp at kp ⊢
  generalize zs.getD q 0 = dq at kq ⊢
  clear hcp hcq hb
  have k1 : (0 : Int) ≤ (p : Int) := by omega
  have k2 : (p : Int) < (m : Int) := by omega
  have k3 : (0 : Int) ≤ (q : Int) := by omega
  have k4 : (q : Int) < (m : Int) := by omega
  by_cases heq : dp = dq
  · have hf : Hid (decide (dp = dq) = true) := by show _ = _; simpa using heq
    have e1 : (dp == dq) = true := by simpa using heq
    rw [hf.out]
    clear heq hf
    go_enter Tryd.func19, Tryd.ntmps19
    go_wp2
    go_quiet (fail)
    go_wp2
    go_ret
    exact ⟨rfl, hal.trans (Below.drewN' _ _ _)⟩
  · have hf : Hid (decide (dp = dq) = false) := by show _ = _; simpa using heq
    have e1 : (dp == dq) = false := by simpa using heq
    rw [hf.out]
    clear heq hf
    go_enter Tryd.func19, Tryd.ntmps19
    go_wp2
    go_quiet (fail)
    go_wp2
    go_ret
    exact ⟨rfl, hal.trans (Below.drewN' _ _ _)⟩

theorem Part_err (n : Int) (A : Option Addr) (k c : Nat) (ls : List Gr.Ln) (w : World) (hr : RdP w w.heap.size A k c ls) (h : Gr.code n ls ≠ 0) :
    Calls Tryd.prog 8 #[.int .i64 n, .slice A k c] w fun e w' => e = .returned (.tuple #[.slice none 0 0, errv (Gr.code n ls)]) ∧ Below w.heap.size w w' := by
  have H := Lib.hid h
  clear h
  go_enter Tryd.func8, Tryd.ntmps8
  go_wp2_with fail
  refine (Parts_any n A k c ls _ hr).mono ?_
  rintro e w1 ⟨hb, (⟨_, rfl⟩ | ⟨h0, _⟩)⟩
  · go_wp2
    go_ret2
    exact ⟨rfl, hb⟩
  · exact absurd h0 H.out

/-- what Part hands back where nothing is wrong with the lines -/
def PtPost (m : Nat) (ls : List Gr.Ln) (w : World) (e : Ending) (w' : World) : Prop :=
  Below w.heap.size w w' ∧ ((Ha.okB m ls = false ∧ e = .returned (.tuple #[.slice none 0 0, errv 5])) ∨
    (Ha.okB m ls = true ∧ ∃ g, e = .returned (.tuple #[.slice (some ⟨g, 0, none⟩) m m, .nilIface]) ∧ Own w' w.heap.size 3 (.slice (some ⟨g, 0, none⟩) m m) (Ha.parts m (Wa.nrow m ls))))

set_option maxRecDepth 100000 in
set_option maxHeartbeats 2000000 in
theorem Part_ok (m : Nat) (A : Option Addr) (n c : Nat) (ls : List Gr.Ln) (w : World) (hr : RdP w w.heap.size A n c ls) (h : Gr.code (m : Int) ls = 0) :
    Calls Tryd.prog 8 #[.int .i64 (m : Int), .slice A n c] w (PtPost m ls w) := by
  unfold PtPost
  have hm8 : m ≤ 8 := by have := (Gr.code_zero.1 h).2.1; omega
  have H := Lib.hid h
  have HG := Lib.hid (Gr.code_zero.1 h).2.2.2
  have HA := Lib.hid (Ha.okB_any h)
  clear h
  obtain ⟨i0, hi, hz0, hz1, hz2⟩ := info_parts intInfo
  have hml : m ≤ maxLen := by simp only [maxLen]; omega
  obtain ⟨zc, hzc⟩ : ∃ zc, zc = madeCells (Value.int .i64 0).cells (m * 1) := ⟨_, rfl⟩
  have hmk : ∀ w : World, (Instr.makeSlice 24 (.int .i64 (m : Int)) (.int .i64 (m : Int))).run Tryd.prog w = .ok (.slice (some ⟨w.heap.size, 0, none⟩) m m) (w.alloc (.cells zc 3)) := fun w => by
    have := run_make (P := Tryd.prog) w 24 3 i0 (.int .i64 0) Tryd.underlying24 hi hz0 .i64 .i64 (m : Int) (m : Int) (by omega) (Int.le_refl _) (by rw [hz2]; omega) (by omega)
    simp only [Int.toNat_natCast, hz1, ← hzc] at this
    exact this
  have HZC := Lib.hid hzc
  clear hzc hi hz0 hz1 hz2
  go_enter Tryd.func8, Tryd.ntmps8
  go_wp2_with fail
  refine (Parts_fine m A n c ls _ hr H.out).mono ?_
  rintro e w1 ⟨gp, rfl, hop, hb1⟩
  obtain ⟨b, hb⟩ : ∃ b, b = w1.heap.size := ⟨_, rfl⟩
  obtain ⟨W, hW⟩ : ∃ W, W = (w1.alloc (.cells zc 3)).alloc (.cells #[.slice (some ⟨b, 0, none⟩) m m] 24) := ⟨_, rfl⟩
  have hWs : W.heap.size = b + 2 := by rw [hW, hb]; simp
  have hbW : Below b w1 W := by rw [hW, hb]; exact ((Below.refl _ _).alloc (Nat.le_refl _) _).alloc (by simp) _
  have hbx : Boxed W (b + 1) 24 (.slice (some ⟨b, 0, none⟩) m m) := by
    have := Boxed.new (w1.alloc (.cells zc 3)) 24 (.slice (some ⟨b, 0, none⟩) m m)
    rw [World.size_alloc, ← hb] at this
    rw [hW]
    exact this
  have hfo : Own W b 3 (.slice (some ⟨b, 0, none⟩) m m) (fillTo (Ha.parts m (Wa.nrow m ls)) 0) := by
    rw [fillTo_zero, Ha.parts_len]
    have one : Own (w1.alloc (.cells zc 3)) b 3 (.slice (some ⟨w1.heap.size, 0, none⟩) m m) (List.replicate m 0) := by
      rw [HZC.out]
      exact Own.made (World.ownsRow_lit w1 _ m (by omega) hml (size_madeCells _ _))
    rw [← hb] at one
    rw [hW]
    exact one.below ((Below.refl _ _).alloc (Nat.le_refl _) _)
  have hgp := hop.lt gp rfl
  rw [← hb] at hgp
  have hwb : w.heap.size ≤ b := by rw [hb]; exact hb1.size
  have HP : Hid (∀ V : World, W.grownBy V (some b) → ∀ j, j < m → V.cell? ⟨gp, j, none⟩ = some (.int .i64 (Wa.lab m (Wa.nrow m ls) m j))) := by
    intro V hV j hj
    have h1 := hop.cell j hj
    rw [Wa.labs_at _ _ hj] at h1
    exact (World.cell?_of_block (hV.block gp (by omega) (fun e => by have := Option.some.inj e; omega))).trans ((hbW.cell (p := ⟨gp, j, none⟩) hgp).trans h1)
  have HBx : Hid (∀ V : World, W.grownBy V (some b) → V.cell? ⟨b + 1, 0, none⟩ = some (.slice (some ⟨b, 0, none⟩) m m)) := fun V hV => (World.cell?_of_block (hV.block (b + 1) (by omega) (fun e => by have := Option.some.inj e; omega))).trans hbx.cell
  have hb0W : Below w.heap.size w W := hb1.trans (hbW.mono hwb)
  have HBel : Hid (∀ V : World, W.grownBy V (some b) → Below w.heap.size w V) := fun V hV => hb0W.grown hV (by omega) (fun k e => by have := Option.some.inj e; omega)
  have HB := Lib.hid hb
  have HW := Lib.hid hW
  clear hb hW hop hbx hbW hb1 hb0W
  go_wp2
  rw [← HB.out, ← HW.out]
  clear hmk
  go_loopw [27] (fun iv wr => ∃ j : Nat, j ≤ m ∧ iv = .int .i64 (j : Int) ∧ Own wr b 3 (.slice (some ⟨b, 0, none⟩) m m) (fillTo (Ha.parts m (Wa.nrow m ls)) j) ∧ W.grownBy wr (some b)) (fun iv _ => m - (intOf iv).toNat)
  case atStart => exact ⟨0, Nat.zero_le _, rfl, hfo, World.grownBy.refl _ _⟩
  case round =>
    clear hfo
    obtain ⟨j, hjm, rfl, ho, hg⟩ := hrel
    have hbel := HBel.out wr hg
    by_cases hlt : j < m
    · have hj1 : (0 : Int) ≤ (j : Int) := by omega
      have hj2 : (j : Int) < (m : Int) := by omega
      have g1 := HP.out wr hg j hlt
      obtain ⟨u, hu, hum, hd0, hpt⟩ := Ha.lab_dist (Wa.nrow_ok m ls) hlt
      rw [hu] at g1
      have hst : Hid ((fillTo (Ha.parts m (Wa.nrow m ls)) j).set j ((Wa.dist m (Wa.nrow m ls) u j).tmod 2) = fillTo (Ha.parts m (Wa.nrow m ls)) (j + 1)) := by
        show _ = _
        rw [← hpt, ← Ha.parts_at (Wa.nrow m ls) hlt]
        exact fillTo_succ (by rw [Ha.parts_len]; exact hlt)
      clear hu hpt
      go_wp2_with fail
      refine (From_fine m u A n c ls _ (hr.past hbel) H.out hum).mono ?_
      rintro e w2 ⟨gd, rfl, hod, hb2⟩
      have hg2 : W.grownBy w2 (some b) := hg.trans (grown_of_below hb2 _)
      have ho2 := ho.below hb2
      have c1 := HBx.out w2 hg2
      have c2 := hod.cell j hlt
      rw [Wa.dists_at _ _ hlt] at c2
      have f1 := ho2.frozen j
      have c3 := ho2.cell j hlt
      have hs := ho2.store j ((Wa.dist m (Wa.nrow m ls) u j).tmod 2)
      rw [hst.out] at hs
      generalize Wa.dist m (Wa.nrow m ls) u j = d at c2 hs hd0
      rw [Int.tmod_eq_emod_of_nonneg hd0] at hs
      have HS : Hid (Own (w2.setCell ⟨b, j, none⟩ (.int .i64 (d % 2))).drew b 3 (.slice (some ⟨b, 0, none⟩) m m) (fillTo (Ha.parts m (Wa.nrow m ls)) (j + 1)) ∧ W.grownBy (w2.setCell ⟨b, j, none⟩ (.int .i64 (d % 2))).drew (some b)) := ⟨hs.1, (hg2.trans hs.2).trans (grown_of_below ((Below.refl _ _).drew) _)⟩
      clear hst hs hod ho2 hb2 ho g1 hg
      go_wp2
      go_region
      go_wp2
      go_roundw
      case rel => exact ⟨j + 1, by omega, by go_num, HS.out.1, HS.out.2⟩
      case measure => simp [intOf]; omega
    · have hmj : m = j := by omega
      subst hmj
      have hfa : fillTo (Ha.parts m (Wa.nrow m ls)) m = Ha.parts m (Wa.nrow m ls) := by
        have := fillTo_all (Ha.parts m (Wa.nrow m ls))
        rwa [Ha.parts_len] at this
      rw [hfa] at ho
      have HC := Lib.hid (ContainsFn_any 19 #[.pointer (some ⟨b + 1, 0, none⟩)] (fun p => decide ((Ha.parts m (Wa.nrow m ls)).getD p.1.toNat 0 = (Ha.parts m (Wa.nrow m ls)).getD p.2.toNat 0)) A n c ls wr (hr.past hbel) (enters_of Tryd.func19 (by kernel_rfl) rfl)
        (fun V p hp hV => by
          obtain ⟨h1, h2, h3, h4, h5⟩ := HG.out p hp
          have x0 := HBx.out wr hg
          have x1 := (hV.cell (p := ⟨b + 1, 0, none⟩) (World.block_lt_of_cell? wr _ x0)).trans x0
          have x2 := (hV.cell (p := ⟨b, p.1.toNat, none⟩) (ho.lt b rfl)).trans (ho.cell p.1.toNat (by omega))
          have x3 := (hV.cell (p := ⟨b, p.2.toNat, none⟩) (ho.lt b rfl)).trans (ho.cell p.2.toNat (by omega))
          have := clash1_any (b + 1) b m _ p.1.toNat p.2.toNat V x1 x2 x3 (by omega) (by omega)
          rw [Int.toNat_of_nonneg h1, Int.toNat_of_nonneg h3] at this
          exact this))
      have c1 := HBx.out wr hg
      clear hfa hlt hjm
      go_wp2_with fail
      refine HC.out.mono ?_
      rintro e w3 ⟨hb3, t, rfl, ht⟩
      have hbf : Below w.heap.size w w3 := hbel.trans (hb3.mono hbel.size)
      have c2 := (hb3.cell (p := ⟨b + 1, 0, none⟩) (World.block_lt_of_cell? wr _ c1)).trans c1
      have ho3 := (ho.below hb3).mono hwb
      have HT : Hid (Ha.okB m ls = !t) := by show _ = _; rw [HA.out, ← ht.out]
      clear ht HC c1 ho hb3 hg
      cases t with
      | true =>
        go_wp2
        go_ret2
        exact ⟨hbf, .inl ⟨HT.out, rfl⟩⟩
      | false =>
        go_wp2
        go_ret2
        exact ⟨hbf, .inr ⟨HT.out, b, rfl, ho3⟩⟩

end Go.Proofs.YtklanopgmlmjlaaDoor
