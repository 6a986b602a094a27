/-
  The laws' closed fact on Of and Last of package dom.
-/
import Derived.Test.YtjcdnkbandagoaaDomD
import Derived.Test.YtjcdnkbandagoaaNewLines
import Derived.Test.YtjcdnkbandagoaaGraphE
import Derived.BigQuiet
namespace Go.Proofs.Ytjcdnkbandagoaa
open Go.RowKit
set_option linter.unusedSimpArgs false
set_option linter.unusedVariables false

theorem RdP.newFour (w : World) (t : TypeId) (p q r s x y u v : Int) : RdP (w.alloc (.cells #[.int .i64 p, .int .i64 q, .int .i64 r, .int .i64 s, .int .i64 x, .int .i64 y, .int .i64 u, .int .i64 v] t)) (w.heap.size + 1) (some ⟨w.heap.size, 0, none⟩) 4 4 [(p, q), (r, s), (x, y), (u, v)] := by
  refine ⟨rfl, Nat.le_refl _, by omega, fun h => (by cases h), fun _ => ⟨w.heap.size, 0, rfl, by omega, fun k hk => ?_⟩⟩
  have : k = 0 ∨ k = 1 ∨ k = 2 ∨ k = 3 := by omega
  rcases this with rfl | rfl | rfl | rfl <;> simp
/-- the world when rows of one, two, three and three have been laid -/
def fourW (w : World) (a b c d e f g h i : Int) (t u : TypeId) : World :=
  ((((w.alloc (.cells #[.int .i64 a] t)).alloc (.cells #[.int .i64 b, .int .i64 c] t)).alloc (.cells #[.int .i64 d, .int .i64 e, .int .i64 f] t)).alloc (.cells #[.int .i64 g, .int .i64 h, .int .i64 i] t)).alloc
    (.cells #[.slice (some ⟨w.heap.size, 0, none⟩) 1 1, .slice (some ⟨w.heap.size + 1, 0, none⟩) 2 2, .slice (some ⟨w.heap.size + 1 + 1, 0, none⟩) 3 3, .slice (some ⟨w.heap.size + 1 + 1 + 1, 0, none⟩) 3 3] u)
theorem RdR.fourW (w : World) (a b c d e f g h i : Int) (t u : TypeId) : RdR (fourW w a b c d e f g h i t u) (w.heap.size + 1 + 1 + 1 + 1 + 1) (some ⟨w.heap.size + 1 + 1 + 1 + 1, 0, none⟩) 4 4 [[a], [b, c], [d, e, f], [g, h, i]] := by
  unfold Go.Proofs.Ytjcdnkbandagoaa.fourW
  obtain ⟨w1, h1⟩ : ∃ w1, w1 = w.alloc (.cells #[.int .i64 a] t) := ⟨_, rfl⟩
  obtain ⟨w2, h2⟩ : ∃ w2, w2 = w1.alloc (.cells #[.int .i64 b, .int .i64 c] t) := ⟨_, rfl⟩
  obtain ⟨w3, h3⟩ : ∃ w3, w3 = w2.alloc (.cells #[.int .i64 d, .int .i64 e, .int .i64 f] t) := ⟨_, rfl⟩
  obtain ⟨w4, h4⟩ : ∃ w4, w4 = w3.alloc (.cells #[.int .i64 g, .int .i64 h, .int .i64 i] t) := ⟨_, rfl⟩
  have s1 : w1.heap.size = w.heap.size + 1 := by rw [h1]; simp
  have s2 : w2.heap.size = w.heap.size + 1 + 1 := by rw [h2]; simp [s1]
  have s3 : w3.heap.size = w.heap.size + 1 + 1 + 1 := by rw [h3]; simp [s2]
  have s4 : w4.heap.size = w.heap.size + 1 + 1 + 1 + 1 := by rw [h4]; simp [s3]
  have r1 : Rd w1 (w.heap.size + 1) (some ⟨w.heap.size, 0, none⟩) 1 1 [a] := by rw [h1]; exact Rd.new w [a] t 1 rfl (by omega)
  have r2 : Rd w2 (w.heap.size + 1 + 1) (some ⟨w.heap.size + 1, 0, none⟩) 2 2 [b, c] := by
    have := Rd.new w1 [b, c] t 2 rfl (by omega)
    rw [s1] at this
    rw [h2]
    exact this
  have r3 : Rd w3 (w.heap.size + 1 + 1 + 1) (some ⟨w.heap.size + 1 + 1, 0, none⟩) 3 3 [d, e, f] := by
    have := Rd.new w2 [d, e, f] t 3 rfl (by omega)
    rw [s2] at this
    rw [h3]
    exact this
  have r4 : Rd w4 (w.heap.size + 1 + 1 + 1 + 1) (some ⟨w.heap.size + 1 + 1 + 1, 0, none⟩) 3 3 [g, h, i] := by
    have := Rd.new w3 [g, h, i] t 3 rfl (by omega)
    rw [s3] at this
    rw [h4]
    exact this
  rw [← h1, ← h2, ← h3, ← h4]
  obtain ⟨w5, h5⟩ : ∃ w5, w5 = w4.alloc (.cells #[.slice (some ⟨w.heap.size, 0, none⟩) 1 1, .slice (some ⟨w.heap.size + 1, 0, none⟩) 2 2, .slice (some ⟨w.heap.size + 1 + 1, 0, none⟩) 3 3, .slice (some ⟨w.heap.size + 1 + 1 + 1, 0, none⟩) 3 3] u) := ⟨_, rfl⟩
  have k12 : Below w1.heap.size w1 w2 := by rw [h2]; exact (Below.refl _ _).alloc (Nat.le_refl _) _
  have k23 : Below w2.heap.size w2 w3 := by rw [h3]; exact (Below.refl _ _).alloc (Nat.le_refl _) _
  have k34 : Below w3.heap.size w3 w4 := by rw [h4]; exact (Below.refl _ _).alloc (Nat.le_refl _) _
  have k45 : Below w4.heap.size w4 w5 := by rw [h5]; exact (Below.refl _ _).alloc (Nat.le_refl _) _
  have e4 := (r4.below (k45.mono (by omega))).more (show w.heap.size + 1 + 1 + 1 + 1 ≤ w.heap.size + 1 + 1 + 1 + 1 + 1 by omega)
  have e3 := ((r3.below (k34.mono (by omega))).below (k45.mono (by omega))).more (show w.heap.size + 1 + 1 + 1 ≤ w.heap.size + 1 + 1 + 1 + 1 + 1 by omega)
  have e2 := (((r2.below (k23.mono (by omega))).below (k34.mono (by omega))).below (k45.mono (by omega))).more (show w.heap.size + 1 + 1 ≤ w.heap.size + 1 + 1 + 1 + 1 + 1 by omega)
  have e1 := ((((r1.below (k12.mono (by omega))).below (k23.mono (by omega))).below (k34.mono (by omega))).below (k45.mono (by omega))).more (show w.heap.size + 1 ≤ w.heap.size + 1 + 1 + 1 + 1 + 1 by omega)
  have hc : ∀ k : Nat, w5.cell? ⟨w.heap.size + 1 + 1 + 1 + 1, 0 + k, none⟩ = (#[.slice (some ⟨w.heap.size, 0, none⟩) 1 1, .slice (some ⟨w.heap.size + 1, 0, none⟩) 2 2, .slice (some ⟨w.heap.size + 1 + 1, 0, none⟩) 3 3, .slice (some ⟨w.heap.size + 1 + 1 + 1, 0, none⟩) 3 3] : Array Value)[0 + k]? := fun k => by
    have := heap_alloc_new w4 (.cells #[.slice (some ⟨w.heap.size, 0, none⟩) 1 1, .slice (some ⟨w.heap.size + 1, 0, none⟩) 2 2, .slice (some ⟨w.heap.size + 1 + 1, 0, none⟩) 3 3, .slice (some ⟨w.heap.size + 1 + 1 + 1, 0, none⟩) 3 3] u)
    rw [← h5, s4] at this
    exact cell_of_row w5 _ _ _ u (0, 0) this
  rw [← h5]
  refine ⟨rfl, Nat.le_refl _, by omega, fun h => (by cases h), fun _ => ⟨w.heap.size + 1 + 1 + 1 + 1, 0, rfl, by omega, fun k hk => ?_⟩⟩
  obtain rfl | rfl | rfl | rfl : k = 0 ∨ k = 1 ∨ k = 2 ∨ k = 3 := by omega
  · exact ⟨_, _, (hc 0).trans rfl, e1⟩
  · exact ⟨_, _, (hc 1).trans rfl, e2⟩
  · exact ⟨_, _, (hc 2).trans rfl, e3⟩
  · exact ⟨_, _, (hc 3).trans rfl, e4⟩

theorem dfact1 : Gr.code (4 : Int) [(0, 1), (1, 2), (1, 3), (2, 3)] = 0 := by kernel_rfl
theorem dfact2 : Do.dls 4 [(0, 1), (1, 2), (1, 3), (2, 3)] 0 = [[0], [0, 1], [0, 1, 2], [0, 1, 3]] := by kernel_rfl
theorem dfact3 : Do.lsts 4 [(0, 1), (1, 2), (1, 3), (2, 3)] 0 = [-1, 0, 1, 1] := by kernel_rfl
theorem Of_f (A : Option Addr) (c : Nat) (w : World) (hr : RdP w w.heap.size A 4 c [(0, 1), (1, 2), (1, 3), (2, 3)]) :
    Calls Try.prog 8 #[.int .i64 4, .slice A 4 c, .int .i64 0] w fun e w' => ∃ A1 c1, e = .returned (.tuple #[.slice A1 4 c1, .nilIface]) ∧ RdR w' w'.heap.size A1 4 c1 [[0], [0, 1], [0, 1, 2], [0, 1, 3]] ∧ Below w.heap.size w w' := by
  have := Of_yes 4 0 A 4 c _ w hr dfact1 (by omega)
  rw [dfact2] at this
  exact this
theorem Last_f (A : Option Addr) (c : Nat) (w : World) (hr : RdP w w.heap.size A 4 c [(0, 1), (1, 2), (1, 3), (2, 3)]) :
    Calls Try.prog 11 #[.int .i64 4, .slice A 4 c, .int .i64 0] w fun e w' => ∃ A1 c1, e = .returned (.tuple #[.slice A1 4 c1, .nilIface]) ∧ Rd w' w'.heap.size A1 4 c1 [-1, 0, 1, 1] ∧ Below w.heap.size w w' := by
  have := Last_yes 4 0 A 4 c _ w hr dfact1 (by omega)
  rw [dfact3] at this
  exact this

set_option maxRecDepth 100000 in
set_option maxHeartbeats 2000000 in
theorem domFact_any (w : World) : Calls Try.prog 7 #[] w fun e w' => e = .returned (.bool true) ∧ Below w.heap.size w w' := by
  obtain ⟨x0, hx0⟩ : ∃ x0, x0 = w.alloc (.cells #[.int .i64 0, .int .i64 1, .int .i64 1, .int .i64 2, .int .i64 1, .int .i64 3, .int .i64 2, .int .i64 3] 38) := ⟨_, rfl⟩
  have hb0 : Below w.heap.size w x0 := by rw [hx0]; exact (Below.refl _ _).alloc (Nat.le_refl _) _
  have hr0 : RdP x0 x0.heap.size (some ⟨w.heap.size, 0, none⟩) 4 4 [(0, 1), (1, 2), (1, 3), (2, 3)] := by rw [hx0]; exact (RdP.newFour w _ 0 1 1 2 1 3 2 3).more (by simp)
  have HX0 := Lib.hid hx0
  clear hx0
  go_enter Try.func7, Try.ntmps7
  go_wp2_with fail
  rw [← HX0.out]
  clear HX0
  refine (Of_f _ _ _ hr0).mono ?_
  rintro e w1 ⟨A1, c1, rfl, hrd1, hb1⟩
  have hr1 := hr0.past hb1
  have hb01 := hb0.trans (hb1.mono hb0.size)
  clear hr0 hb0 hb1
  go_wp2_with fail
  refine (Last_f _ _ _ hr1).mono ?_
  rintro e w2 ⟨A2, c2, rfl, hrd2, hb2⟩
  have hb02 := hb01.trans (hb2.mono hb01.size)
  have hrd1 := hrd1.past hb2
  clear hr1 hb01 hb2
  obtain ⟨x2, hx2⟩ : ∃ x2, x2 = fourW w2 0 0 1 0 1 2 0 1 3 3 29 := ⟨_, rfl⟩
  have hbx : Below w2.heap.size w2 x2 := by rw [hx2]; unfold fourW; exact (((((Below.refl _ _).alloc (Nat.le_refl _) _).alloc (by simp) _).alloc (by simp; omega) _).alloc (by simp; omega) _).alloc (by simp; omega) _
  have hr2 : RdR x2 x2.heap.size (some ⟨w2.heap.size + 1 + 1 + 1 + 1, 0, none⟩) 4 4 [[0], [0, 1], [0, 1, 2], [0, 1, 3]] := by rw [hx2]; exact (RdR.fourW w2 0 0 1 0 1 2 0 1 3 _ _).more (by unfold fourW; simp)
  unfold fourW at hx2
  have HX2 := Lib.hid hx2
  clear hx2
  go_wp2_with fail
  rw [← HX2.out]
  clear HX2
  refine (Rows_any _ _ 4 4 _ 4 _ _ true _ (hrd1.past hbx) hr2 (by decide)).mono ?_
  rintro e w3 ⟨rfl, hb3⟩
  have hbw := hbx.trans (hb3.mono hbx.size)
  have hb03 := hb02.trans (hbw.mono hb02.size)
  have hrd2 := hrd2.past hbw
  clear hr2 hbx hb3 hb02 hbw hrd1
  obtain ⟨x3, hx3⟩ : ∃ x3, x3 = w3.alloc (.cells #[.int .i64 (-1), .int .i64 0, .int .i64 1, .int .i64 1] 3) := ⟨_, rfl⟩
  have hbx : Below w3.heap.size w3 x3 := by rw [hx3]; exact (Below.refl _ _).alloc (Nat.le_refl _) _
  have hr3 : Rd x3 x3.heap.size (some ⟨w3.heap.size, 0, none⟩) 4 4 [-1, 0, 1, 1] := by rw [hx3]; exact (Rd.new w3 [-1, 0, 1, 1] _ 4 rfl (by omega)).more (by simp)
  have HX3 := Lib.hid hx3
  clear hx3
  go_wp2_with fail
  rw [← HX3.out]
  clear HX3
  refine (Ints_t _ _ 4 4 _ 4 _ _ true _ (hrd2.past hbx) hr3 (by decide)).mono ?_
  rintro e w4 ⟨rfl, hb4⟩
  go_wp2
  go_ret
  exact ⟨rfl, hb03.trans ((hbx.trans (hb4.mono hbx.size)).mono hb03.size)⟩

end Go.Proofs.Ytjcdnkbandagoaa
