/-
  Contract of eliasFact, the closed fact that the laws on package elias ask first: it returns true.
-/
import Derived.Test.YtnjfnfooljlnkaaEliasD
namespace Go.Proofs.Ytnjfnfooljlnkaa
open Go.RowKit

theorem gamma5 : El.gamma 5 = [0, 0, 1, 0, 1] := by
  have b1 : El.bin 1 = [1] := El.bin_small (by omega)
  have b2 : El.bin 2 = [1, 0] := by rw [El.bin_step (by omega), b1]; rfl
  have b5 : El.bin 5 = [1, 0, 1] := by rw [El.bin_step (by omega), b2]; rfl
  rw [El.gamma, b5]; rfl
theorem delta5 : El.delta 5 = [0, 1, 1, 0, 1] := by
  have b1 : El.bin 1 = [1] := El.bin_small (by omega)
  have b2 : El.bin 2 = [1, 0] := by rw [El.bin_step (by omega), b1]; rfl
  have b3 : El.bin 3 = [1, 1] := by rw [El.bin_step (by omega), b1]; rfl
  have b5 : El.bin 5 = [1, 0, 1] := by rw [El.bin_step (by omega), b2]; rfl
  rw [El.delta, b5, El.gamma, show ([1, 0, 1] : List Int).length = 3 from rfl, b3]; rfl
theorem read1011 : El.readG [1, 0, 1, 1] = some [1, 3] := by
  have b1 : El.bin 1 = [1] := El.bin_small (by omega)
  have b3 : El.bin 3 = [1, 1] := by rw [El.bin_step (by omega), b1]; rfl
  have h := El.readG_codes (ns := [1, 3]) (by intro n hn; simp at hn; omega)
  have e : El.codes El.gamma [1, 3] = [1, 0, 1, 1] := by
    rw [El.codes_cons, El.codes_cons, show ((1 : Int).toNat) = 1 from rfl, show ((3 : Int).toNat) = 3 from rfl, El.gamma, El.gamma, b1, b3]; rfl
  rwa [e] at h

theorem rcode1011 : rcode (El.readG [1, 0, 1, 1]) [1, 0, 1, 1] = 0 := by rw [read1011]; decide

set_option maxHeartbeats 1000000 in
theorem fact_any (w : World) : Calls Try.prog 9 #[] w fun e w' => e = .returned (.bool true) ∧ Below w.heap.size w w' := by
  have hG := Gamma_yes 5
  rw [gamma5] at hG
  have hD := Delta_yes 5
  rw [delta5] at hD
  have HG := Lib.hid hG
  have HD := Lib.hid hD
  clear hG hD
  go_enter Try.func9, Try.ntmps9
  go_wp2_with fail
  refine (HG.out _ (by omega) (by omega)).mono ?_
  rintro e w1 ⟨v1, rfl, hown1, hb1⟩
  obtain ⟨A1, c1, rfl, hr1⟩ := hown1.rd
  go_wp2_with fail
  refine (HD.out _ (by omega) (by omega)).mono ?_
  rintro e w2 ⟨v2, rfl, hown2, hb2⟩
  obtain ⟨A2, c2, rfl, hr2⟩ := hown2.rd
  have hs1 := hb1.size
  have hs2 := hb2.size
  have hw2 : Below w.heap.size w w2 := hb1.trans (hb2.mono hs1)
  go_wp2_with fail
  refine (ReadGamma_any _ _ _ [1, 0, 1, 1] _ (by simpa using Rd.new w2 [1, 0, 1, 1] 3 4 rfl (by omega))).mono ?_
  rintro e w3 ⟨hb3, ⟨h0, rfl⟩ | ⟨v3, ns, h0, h1, rfl, hown3⟩⟩
  · exact absurd rcode1011 h0
  rw [read1011] at h1
  obtain rfl : ns = [1, 3] := by simpa using h1.symm
  clear h0 h1
  obtain ⟨A3, c3, rfl, hr3⟩ := hown3.rd
  have hb23 : Below w2.heap.size w2 w3 := ((Below.refl _ _).alloc (Nat.le_refl _) _).trans (hb3.mono (by simp))
  have hs3 := hb23.size
  have hr13 := (hr1.past hb2).past hb23
  have hr23 := hr2.past hb23
  have hw3 : Below w.heap.size w w3 := hw2.trans (hb23.mono (by omega))
  clear hown1 hown2 hown3 hb3 hr1 hr2
  go_wp2_with fail
  refine (Ints_any _ _ _ _ _ _ [0, 0, 1, 0, 1] [0, 0, 1, 0, 1] _ ?_ ?_).mono ?_
  · exact (hr13.alloc (Nat.le_refl _) _).more (by simp)
  · simpa using Rd.new w3 [0, 0, 1, 0, 1] 3 5 rfl (by omega)
  rintro e w4 ⟨rfl, hb4⟩
  have hb34 : Below w3.heap.size w3 w4 := ((Below.refl _ _).alloc (Nat.le_refl _) _).trans (hb4.mono (by simp))
  have hs4 := hb34.size
  have hr24 := hr23.past hb34
  have hr34 := hr3.past hb34
  clear hb4 hr23 hr3
  go_wp2_with fail
  refine (Ints_any _ _ _ _ _ _ [0, 1, 1, 0, 1] [0, 1, 1, 0, 1] _ ?_ ?_).mono ?_
  · exact (hr24.alloc (Nat.le_refl _) _).more (by simp)
  · simpa using Rd.new w4 [0, 1, 1, 0, 1] 3 5 rfl (by omega)
  rintro e w5 ⟨rfl, hb5⟩
  have hb45 : Below w4.heap.size w4 w5 := ((Below.refl _ _).alloc (Nat.le_refl _) _).trans (hb5.mono (by simp))
  have hs5 := hb45.size
  have hr35 := hr34.past hb45
  clear hb5
  go_wp2_with fail
  refine (Ints_any _ _ _ _ _ _ [1, 3] [1, 3] _ ?_ ?_).mono ?_
  · exact (hr35.alloc (Nat.le_refl _) _).more (by simp)
  · simpa using Rd.new w5 [1, 3] 3 2 rfl (by omega)
  rintro e w6 ⟨rfl, hb6⟩
  have hb56 : Below w5.heap.size w5 w6 := ((Below.refl _ _).alloc (Nat.le_refl _) _).trans (hb6.mono (by simp))
  clear hb6
  go_wp2
  go_ret
  exact ⟨rfl, ((hw3.trans (hb34.mono (by omega))).trans (hb45.mono (by omega))).trans (hb56.mono (by omega))⟩

end Go.Proofs.Ytnjfnfooljlnkaa
