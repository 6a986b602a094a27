/-
  The closed fact of the laws on package tree, reckoned on three points. No condition.
-/
import Derived.Test.YtoofpmajiphldaaTreeE
import Derived.Test.YtoofpmajiphldaaGraphE
import Derived.Test.YtoofpmajiphldaaNewLines
namespace Go.Proofs.Ytoofpmajiphldaa
open Go.RowKit

set_option linter.unusedSimpArgs false
set_option linter.unusedVariables false

theorem tfact1 : Tr.tcode (3 : Int) [(0, 1), (1, 2)] = 0 := by kernel_rfl
theorem tfact2 : Tr.midI 3 [(0, 1), (1, 2)] 3 = [1] := by kernel_rfl
theorem tfact3 : Tr.best 3 (Tr.far 3 [(0, 1), (1, 2)]) = 1 := by kernel_rfl
theorem srt_nil : Nm.srt [] = [] := by unfold Nm.srt; rw [List.mergeSort_nil]
theorem srt_twice (x : List Nat) : Nm.srt [x, x] = [x, x] := (Nm.srt_eq (List.Perm.refl _) (by simp [Nm.le_refl])).symm
theorem tfact4 : Nm.wn (Tr.ad [(0, 1), (1, 2)]) 3 (Tr.far 3 [(0, 1), (1, 2)]) = [40, 40, 41, 40, 41, 41] := by
  unfold Nm.wn
  rw [show Tr.mids 3 (Tr.far 3 [(0, 1), (1, 2)]) = [1] by kernel_rfl]
  show Nm.nm (Tr.ad [(0, 1), (1, 2)]) 3 3 1 3 = _
  have e0 : Nm.nm (Tr.ad [(0, 1), (1, 2)]) 3 2 0 1 = [40, 41] := by
    rw [Nm.nm_up, show Nm.kids (Tr.ad [(0, 1), (1, 2)]) 3 0 1 = [] by kernel_rfl, List.map_nil, srt_nil]
    rfl
  have e2 : Nm.nm (Tr.ad [(0, 1), (1, 2)]) 3 2 2 1 = [40, 41] := by
    rw [Nm.nm_up, show Nm.kids (Tr.ad [(0, 1), (1, 2)]) 3 2 1 = [] by kernel_rfl, List.map_nil, srt_nil]
    rfl
  rw [Nm.nm_up, show Nm.kids (Tr.ad [(0, 1), (1, 2)]) 3 1 3 = [0, 2] by kernel_rfl, List.map_cons, List.map_cons, List.map_nil, e0, e2, srt_twice]
  rfl

theorem Middle_f (A : Option Addr) (c : Nat) (w : World) (hr : RdP w w.heap.size A 2 c [(0, 1), (1, 2)]) :
    Calls Try.prog 8 #[.int .i64 3, .slice A 2 c] w fun e w' => ∃ A1 c1, e = .returned (.tuple #[.slice A1 1 c1, .int .i64 1, .nilIface]) ∧ Rd w' w'.heap.size A1 1 c1 [1] ∧ Below w.heap.size w w' := by
  refine (Middle_ok 3 A 2 c _ w hr tfact1).mono ?_
  rintro e w1 ⟨v, rfl, hown, hb⟩
  rw [tfact2] at hown
  obtain ⟨A1, c1, rfl, hrd⟩ := hown.rd
  exact ⟨A1, c1, by rw [tfact3]; rfl, hrd, hb⟩
theorem Name_f (A : Option Addr) (c : Nat) (w : World) (hr : RdP w w.heap.size A 2 c [(0, 1), (1, 2)]) :
    Calls Try.prog 12 #[.int .i64 3, .slice A 2 c] w fun e w' => e = .returned (.tuple #[.string ⟨#[40, 40, 41, 40, 41, 41]⟩, .nilIface]) ∧ Below w.heap.size w w' := by
  refine (Name_ok 3 A 2 c _ w hr tfact1).mono ?_
  rintro e w1 ⟨rfl, hb⟩
  rw [tfact4]
  exact ⟨rfl, hb⟩

set_option maxRecDepth 100000 in
set_option maxHeartbeats 2000000 in
theorem treeFact_any (w : World) : Calls Try.prog 7 #[] w fun e w' => e = .returned (.bool true) ∧ Below w.heap.size w w' := by
  obtain ⟨x0, hx0⟩ : ∃ x0, x0 = w.alloc (.cells #[.int .i64 0, .int .i64 1, .int .i64 1, .int .i64 2] 38) := ⟨_, rfl⟩
  have hb0 : Below w.heap.size w x0 := by rw [hx0]; exact (Below.refl _ _).alloc (Nat.le_refl _) _
  have hr0 : RdP x0 x0.heap.size (some ⟨w.heap.size, 0, none⟩) 2 2 [(0, 1), (1, 2)] := by rw [hx0]; exact (RdP.newTwo w _ 0 1 1 2).more (by simp)
  have HX0 := Lib.hid hx0
  clear hx0
  go_enter Try.func7, Try.ntmps7
  go_wp2_with fail
  rw [← HX0.out]
  clear HX0
  refine (Middle_f _ _ _ hr0).mono ?_
  rintro e w1 ⟨A1, c1, rfl, hrd1, hb1⟩
  have hr1 := hr0.past hb1
  have hb01 := hb0.trans (hb1.mono hb0.size)
  clear hr0 hb0 hb1
  go_wp2_with fail
  refine (Name_f _ _ _ hr1).mono ?_
  rintro e w2 ⟨rfl, hb2⟩
  have hb02 := hb01.trans (hb2.mono hb01.size)
  have hrd1 := hrd1.past hb2
  clear hr1 hb01 hb2
  obtain ⟨x3, hx3⟩ : ∃ x3, x3 = w2.alloc (.cells #[.int .i64 1] 3) := ⟨_, rfl⟩
  have hbx : Below w2.heap.size w2 x3 := by rw [hx3]; exact (Below.refl _ _).alloc (Nat.le_refl _) _
  have hr3 : Rd x3 x3.heap.size (some ⟨w2.heap.size, 0, none⟩) 1 1 [1] := by rw [hx3]; exact (Rd.new w2 [1] _ 1 rfl (by omega)).more (by simp)
  have HX3 := Lib.hid hx3
  clear hx3
  go_wp2_with fail
  rw [← HX3.out]
  clear HX3
  refine (Ints_t _ _ 1 1 _ 1 _ _ true _ (hrd1.past hbx) hr3 (by decide)).mono ?_
  rintro e w4 ⟨rfl, hb4⟩
  go_wp2
  go_ret
  exact ⟨rfl, hb02.trans ((hbx.trans (hb4.mono hbx.size)).mono hb02.size)⟩

end Go.Proofs.Ytoofpmajiphldaa
