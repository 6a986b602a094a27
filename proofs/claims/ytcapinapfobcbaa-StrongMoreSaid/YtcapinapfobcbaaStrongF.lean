/-
  The laws' closed fact on Parts and Fold of package strong.
-/
import Derived.Test.YtcapinapfobcbaaStrongE
import Derived.Test.YtcapinapfobcbaaNewLines
import Derived.Test.YtcapinapfobcbaaGraphE
import Derived.BigQuiet
namespace Go.Proofs.Ytcapinapfobcbaa
open Go.RowKit
set_option linter.unusedSimpArgs false
set_option linter.unusedVariables false

theorem sfact1 : Gr.code (3 : Int) [(1, 2), (2, 1), (0, 1)] = 0 := by kernel_rfl
theorem sfact2 : Sg.parts 3 [(1, 2), (2, 1), (0, 1)] = [0, 1, 1] := by kernel_rfl
theorem sfact3 : Sg.nums 3 [(1, 2), (2, 1), (0, 1)] = [0, 1, 1] := by kernel_rfl
theorem sfact4 : Sg.folded 3 [(1, 2), (2, 1), (0, 1)] = [(0, 1)] := by kernel_rfl
theorem Parts_f (A : Option Addr) (c : Nat) (w : World) (hr : RdP w w.heap.size A 3 c [(1, 2), (2, 1), (0, 1)]) :
    Calls Try.prog 8 #[.int .i64 3, .slice A 3 c] w fun e w' => ∃ A1 c1, e = .returned (.tuple #[.slice A1 3 c1, .nilIface]) ∧ Rd w' w'.heap.size A1 3 c1 [0, 1, 1] ∧ Below w.heap.size w w' := by
  have := Parts_yes 3 A 3 c _ w hr sfact1
  rw [sfact2] at this
  exact this
theorem Fold_f (A : Option Addr) (c : Nat) (w : World) (hr : RdP w w.heap.size A 3 c [(1, 2), (2, 1), (0, 1)]) :
    Calls Try.prog 14 #[.int .i64 3, .slice A 3 c] w fun e w' => ∃ A1 c1 A2 c2, e = .returned (.tuple #[.slice A1 3 c1, .slice A2 1 c2, .nilIface]) ∧ Rd w' w'.heap.size A1 3 c1 [0, 1, 1] ∧ RdP w' w'.heap.size A2 1 c2 [(0, 1)] ∧ Below w.heap.size w w' := by
  have := Fold_yes 3 A 3 c _ w hr sfact1
  rw [sfact3, sfact4] at this
  refine this.mono ?_
  rintro e w' ⟨A1, c1, A2, L, c2, rfl, h1, h2, h3⟩
  obtain rfl : L = 1 := h2.len.symm
  exact ⟨_, _, _, _, rfl, h1, h2, h3⟩

set_option maxRecDepth 100000 in
set_option maxHeartbeats 2000000 in
theorem strongFact_any (w : World) : Calls Try.prog 7 #[] w fun e w' => e = .returned (.bool true) ∧ Below w.heap.size w w' := by
  obtain ⟨x0, hx0⟩ : ∃ x0, x0 = w.alloc (.cells #[.int .i64 1, .int .i64 2, .int .i64 2, .int .i64 1, .int .i64 0, .int .i64 1] 42) := ⟨_, rfl⟩
  have hb0 : Below w.heap.size w x0 := by rw [hx0]; exact (Below.refl _ _).alloc (Nat.le_refl _) _
  have hr0 : RdP x0 x0.heap.size (some ⟨w.heap.size, 0, none⟩) 3 3 [(1, 2), (2, 1), (0, 1)] := by rw [hx0]; exact (RdP.newThree w _ 1 2 2 1 0 1).more (by simp)
  have HX0 := Lib.hid hx0
  clear hx0
  go_enter Try.func7, Try.ntmps7
  go_wp2_with fail
  rw [← HX0.out]
  clear HX0
  refine (Parts_f _ _ _ hr0).mono ?_
  rintro e w1 ⟨A1, c1, rfl, hrd1, hb1⟩
  have hr1 := hr0.past hb1
  have hb01 := hb0.trans (hb1.mono hb0.size)
  clear hr0 hb0 hb1
  go_wp2_with fail
  refine (Fold_f _ _ _ hr1).mono ?_
  rintro e w2 ⟨A2, c2, A3, c3, rfl, hrd2, hrd3, hb2⟩
  have hb02 := hb01.trans (hb2.mono hb01.size)
  have hrd1 := hrd1.past hb2
  clear hr1 hb01 hb2
  obtain ⟨x2, hx2⟩ : ∃ x2, x2 = w2.alloc (.cells #[.int .i64 0, .int .i64 1, .int .i64 1] 3) := ⟨_, rfl⟩
  have hbx : Below w2.heap.size w2 x2 := by rw [hx2]; exact (Below.refl _ _).alloc (Nat.le_refl _) _
  have hr2 : Rd x2 x2.heap.size (some ⟨w2.heap.size, 0, none⟩) 3 3 [0, 1, 1] := by rw [hx2]; exact (Rd.new w2 [0, 1, 1] _ 3 rfl (by omega)).more (by simp)
  have HX2 := Lib.hid hx2
  clear hx2
  go_wp2_with fail
  rw [← HX2.out]
  clear HX2
  refine (Ints_t _ _ 3 3 _ 3 _ _ true _ (hrd1.past hbx) hr2 (by decide)).mono ?_
  rintro e w3 ⟨rfl, hb3⟩
  have hbw := hbx.trans (hb3.mono hbx.size)
  have hb03 := hb02.trans (hbw.mono hb02.size)
  have hrd2 := hrd2.past hbw
  have hrd3 := hrd3.past hbw
  clear hr2 hbx hb3 hb02 hbw hrd1
  obtain ⟨x3, hx3⟩ : ∃ x3, x3 = w3.alloc (.cells #[.int .i64 0, .int .i64 1, .int .i64 1] 3) := ⟨_, rfl⟩
  have hbx : Below w3.heap.size w3 x3 := by rw [hx3]; exact (Below.refl _ _).alloc (Nat.le_refl _) _
  have hr2 : Rd x3 x3.heap.size (some ⟨w3.heap.size, 0, none⟩) 3 3 [0, 1, 1] := by rw [hx3]; exact (Rd.new w3 [0, 1, 1] _ 3 rfl (by omega)).more (by simp)
  have HX3 := Lib.hid hx3
  clear hx3
  go_wp2_with fail
  rw [← HX3.out]
  clear HX3
  refine (Ints_t _ _ 3 3 _ 3 _ _ true _ (hrd2.past hbx) hr2 (by decide)).mono ?_
  rintro e w4 ⟨rfl, hb3⟩
  have hbw := hbx.trans (hb3.mono hbx.size)
  have hb04 := hb03.trans (hbw.mono hb03.size)
  have hrd3 := hrd3.past hbw
  clear hr2 hbx hb3 hb03 hbw hrd2
  obtain ⟨x4, hx4⟩ : ∃ x4, x4 = w4.alloc (.cells #[.int .i64 0, .int .i64 1] 42) := ⟨_, rfl⟩
  have hbx : Below w4.heap.size w4 x4 := by rw [hx4]; exact (Below.refl _ _).alloc (Nat.le_refl _) _
  have hr2 : RdP x4 x4.heap.size (some ⟨w4.heap.size, 0, none⟩) 1 1 [(0, 1)] := by rw [hx4]; exact (RdP.one w4 (0, 1) _).more (by simp)
  have HX4 := Lib.hid hx4
  clear hx4
  go_wp2_with fail
  rw [← HX4.out]
  clear HX4
  refine (Lines_any _ _ 1 1 _ 1 _ _ true _ (hrd3.past hbx) hr2 (by decide)).mono ?_
  rintro e w5 ⟨rfl, hb5⟩
  go_wp2
  go_ret
  exact ⟨rfl, hb04.trans ((hbx.trans (hb5.mono hbx.size)).mono hb04.size)⟩

end Go.Proofs.Ytcapinapfobcbaa
