/-
  Contract of gapsFact, the closed fact that the laws on package gaps ask first: it returns true.
-/
import Derived.Test.YtiafekjdefnifaaGapsB
namespace Go.Proofs.Ytiafekjdefnifaa
open Go.RowKit

theorem code0 : Ga.code [0] = 0 := by decide
theorem write0 : Ga.write [0] = [0, 1, 0, 0, 1] := by
  have b1 : El.bin 1 = [1] := El.bin_small (by omega)
  have b2 : El.bin 2 = [1, 0] := by rw [El.bin_step (by omega), b1]; rfl
  have e : Ga.nums [0] = [2, 1] := by decide
  rw [Ga.write, e, El.codes_cons, El.codes_cons, show ((2 : Int).toNat) = 2 from rfl, show ((1 : Int).toNat) = 1 from rfl, El.delta, El.delta, b1, b2, El.gamma, El.gamma, show ([1, 0] : List Int).length = 2 from rfl, show ([1] : List Int).length = 1 from rfl, b1, b2]
  rfl
theorem gread0 : gcode [0, 1, 0, 0, 1] = 0 ∧ glist [0, 1, 0, 0, 1] = [0] := by
  have h := Ga.write_read code0
  rw [write0] at h
  have h2 := Ga.read_nums code0
  exact ⟨(gcode_then (by rw [h]; decide) h).trans h2.1, (glist_then h).trans h2.2⟩

set_option maxHeartbeats 1000000 in
theorem gfact_any (w : World) : Calls Try.prog 6 #[] w fun e w' => e = .returned (.bool true) ∧ Below w.heap.size w w' := by
  go_enter Try.func6, Try.ntmps6
  go_wp2_with fail
  refine (Write_any _ _ _ [0] _ (by simpa using Rd.new w [0] 3 1 rfl (by omega))).mono ?_
  rintro e w1 ⟨hb1', ⟨h0, rfl⟩ | ⟨v1, h0, rfl, hown1⟩⟩
  · exact absurd code0 h0
  rw [write0] at hown1
  clear h0
  obtain ⟨A1, c1, rfl, hr1⟩ := hown1.rd
  have hb1 : Below w.heap.size w w1 := ((Below.refl _ _).alloc (Nat.le_refl _) _).trans (hb1'.mono (by simp))
  have hs1 := hb1.size
  clear hb1' hown1
  go_wp2_with fail
  refine (Read_any _ _ _ [0, 1, 0, 0, 1] _ (by simpa using Rd.new w1 [0, 1, 0, 0, 1] 3 5 rfl (by omega))).mono ?_
  rintro e w3 ⟨hb3, ⟨h0, rfl⟩ | ⟨v3, h0, rfl, hown3⟩⟩
  · exact absurd gread0.1 h0
  rw [gread0.2] at hown3
  clear h0
  obtain ⟨A3, c3, rfl, hr3⟩ := hown3.rd
  have hb23 : Below w1.heap.size w1 w3 := ((Below.refl _ _).alloc (Nat.le_refl _) _).trans (hb3.mono (by simp))
  have hs3 := hb23.size
  have hr13 := hr1.past hb23
  have hw3 : Below w.heap.size w w3 := hb1.trans (hb23.mono (by omega))
  clear hown3 hb3 hr1
  go_wp2_with fail
  refine (Ints_any _ _ _ _ _ _ [0, 1, 0, 0, 1] [0, 1, 0, 0, 1] _ ?_ ?_).mono ?_
  · exact (hr13.alloc (Nat.le_refl _) _).more (by simp)
  · simpa using Rd.new w3 [0, 1, 0, 0, 1] 3 5 rfl (by omega)
  rintro e w4 ⟨rfl, hb4⟩
  have hb34 : Below w3.heap.size w3 w4 := ((Below.refl _ _).alloc (Nat.le_refl _) _).trans (hb4.mono (by simp))
  have hs4 := hb34.size
  have hr34 := hr3.past hb34
  clear hb4 hr3
  go_wp2_with fail
  refine (Ints_any _ _ _ _ _ _ [0] [0] _ ?_ ?_).mono ?_
  · exact (hr34.alloc (Nat.le_refl _) _).more (by simp)
  · simpa using Rd.new w4 [0] 3 1 rfl (by omega)
  rintro e w5 ⟨rfl, hb5⟩
  have hb45 : Below w4.heap.size w4 w5 := ((Below.refl _ _).alloc (Nat.le_refl _) _).trans (hb5.mono (by simp))
  clear hb5
  go_wp2
  go_ret
  exact ⟨rfl, (hw3.trans (hb34.mono (by omega))).trans (hb45.mono (by omega))⟩

end Go.Proofs.Ytiafekjdefnifaa
