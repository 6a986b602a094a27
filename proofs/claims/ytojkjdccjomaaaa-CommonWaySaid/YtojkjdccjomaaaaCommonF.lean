/-
  The closed fact of the laws on package common. No statement of the program is proved here; there is no condition.
-/
import Derived.Test.YtojkjdccjomaaaaCommonC
import Derived.Test.YtojkjdccjomaaaaGraphE
import Derived.Test.YtojkjdccjomaaaaNewLines
namespace Go.Proofs.Ytojkjdccjomaaaa
open Go.RowKit
set_option linter.unusedSimpArgs false
set_option linter.unusedVariables false

theorem cfact1 : Tr.tcode 3 [(0, 1), (0, 2)] = 0 := by decide
theorem cfact2 : Co.lowN 3 [(0, 1), (0, 2)] 0 1 2 = 0 := by decide
theorem cfact3 : Co.wayI 3 [(0, 1), (0, 2)] 1 2 = [1, 0, 2] := by decide
theorem cfact4 : Tr.far 3 [(0, 1), (0, 2)] 1 2 = 2 := by decide

theorem Of_f (A : Option Addr) (c : Nat) (w : World) (hr : RdP w w.heap.size A 2 c [(0, 1), (0, 2)]) :
    Calls Try.prog 8 #[.int .i64 3, .slice A 2 c, .int .i64 0, .int .i64 1, .int .i64 2] w fun e w' => e = .returned (.tuple #[.int .i64 0, .nilIface]) ∧ Below w.heap.size w w' := by
  refine (COf_ok 3 0 1 2 A 2 c _ w hr cfact1 (by omega) (by omega) (by omega)).mono ?_
  rintro e w1 ⟨rfl, hb⟩
  rw [cfact2]
  exact ⟨rfl, hb⟩
theorem Way_f (A : Option Addr) (c : Nat) (w : World) (hr : RdP w w.heap.size A 2 c [(0, 1), (0, 2)]) :
    Calls Try.prog 9 #[.int .i64 3, .slice A 2 c, .int .i64 1, .int .i64 2] w fun e w' => ∃ A1 c1, e = .returned (.tuple #[.slice A1 3 c1, .nilIface]) ∧ Rd w' w'.heap.size A1 3 c1 [1, 0, 2] ∧ Below w.heap.size w w' := by
  refine (Way_ok 3 1 2 A 2 c _ w hr cfact1 (by omega) (by omega)).mono ?_
  rintro e w1 ⟨A1, c1, rfl, hrd, hb⟩
  rw [cfact3, cfact4] at hrd
  rw [cfact4]
  exact ⟨A1, c1, rfl, hrd, hb⟩

set_option maxHeartbeats 1000000 in
theorem commonFact_any (w : World) : Calls Try.prog 7 #[] w fun e w' => e = .returned (.bool true) ∧ Below w.heap.size w w' := by
  obtain ⟨x0, hx0⟩ : ∃ x0, x0 = w.alloc (.cells #[.int .i64 0, .int .i64 1, .int .i64 0, .int .i64 2] 41) := ⟨_, rfl⟩
  have hb0 : Below w.heap.size w x0 := by rw [hx0]; exact (Below.refl _ _).alloc (Nat.le_refl _) _
  have hr0 : RdP x0 x0.heap.size (some ⟨w.heap.size, 0, none⟩) 2 2 [(0, 1), (0, 2)] := by rw [hx0]; exact (RdP.newTwo w _ 0 1 0 2).more (by simp)
  have HX0 := Lib.hid hx0
  clear hx0
  go_enter Try.func7, Try.ntmps7
  go_wp2_with fail
  rw [← HX0.out]
  clear HX0
  refine (Of_f _ _ _ hr0).mono ?_
  rintro e w1 ⟨rfl, hb1⟩
  have hr1 := hr0.past hb1
  have hb01 := hb0.trans (hb1.mono hb0.size)
  clear hr0 hb0 hb1
  go_wp2_with fail
  refine (Way_f _ _ _ hr1).mono ?_
  rintro e w2 ⟨A2, c2, rfl, hrd2, hb2⟩
  have hb02 := hb01.trans (hb2.mono hb01.size)
  clear hr1 hb01 hb2
  obtain ⟨x3, hx3⟩ : ∃ x3, x3 = w2.alloc (.cells #[.int .i64 1, .int .i64 0, .int .i64 2] 3) := ⟨_, rfl⟩
  have hbx : Below w2.heap.size w2 x3 := by rw [hx3]; exact (Below.refl _ _).alloc (Nat.le_refl _) _
  have hr3 : Rd x3 x3.heap.size (some ⟨w2.heap.size, 0, none⟩) 3 3 [1, 0, 2] := by rw [hx3]; exact (Rd.new w2 [1, 0, 2] _ 3 rfl (by omega)).more (by simp)
  have HX3 := Lib.hid hx3
  clear hx3
  go_wp2_with fail
  rw [← HX3.out]
  clear HX3
  refine (Ints_t _ _ 3 3 _ 3 _ _ true _ (hrd2.past hbx) hr3 (by decide)).mono ?_
  rintro e w4 ⟨rfl, hb4⟩
  go_wp2
  go_ret
  exact ⟨rfl, hb02.trans ((hbx.trans (hb4.mono hbx.size)).mono hb02.size)⟩

end Go.Proofs.Ytojkjdccjomaaaa
