/-
  Helpers: rows of integers that have just been laid. No statement of the program is proved here; there is no condition.
-/
import Derived.Test.YthdibdghnfkoeaaLibR
namespace Go.Proofs.Ythdibdghnfkoeaa
open Go.RowKit

/-- two rows of two -/
theorem RdR.two (w : World) (a0 a1 b0 b1 : Int) (t u : TypeId) : RdR (((w.alloc (.cells #[.int .i64 a0, .int .i64 a1] t)).alloc (.cells #[.int .i64 b0, .int .i64 b1] t)).alloc (.cells #[.slice (some ⟨w.heap.size, 0, none⟩) 2 2, .slice (some ⟨w.heap.size + 1, 0, none⟩) 2 2] u)) (w.heap.size + 1 + 1 + 1) (some ⟨w.heap.size + 1 + 1, 0, none⟩) 2 2 [[a0, a1], [b0, b1]] := by
  obtain ⟨w1, h1⟩ : ∃ w1, w1 = w.alloc (.cells #[.int .i64 a0, .int .i64 a1] t) := ⟨_, rfl⟩
  obtain ⟨w2, h2⟩ : ∃ w2, w2 = w1.alloc (.cells #[.int .i64 b0, .int .i64 b1] t) := ⟨_, rfl⟩
  have s1 : w1.heap.size = w.heap.size + 1 := by rw [h1]; simp
  have s2 : w2.heap.size = w.heap.size + 1 + 1 := by rw [h2]; simp [s1]
  have r1 : Rd w1 (w.heap.size + 1) (some ⟨w.heap.size, 0, none⟩) 2 2 [a0, a1] := by rw [h1]; exact Rd.new w [a0, a1] t 2 rfl (by omega)
  have r2 : Rd w2 (w.heap.size + 1 + 1) (some ⟨w.heap.size + 1, 0, none⟩) 2 2 [b0, b1] := by
    have := Rd.new w1 [b0, b1] t 2 rfl (by omega)
    rw [s1] at this
    rw [h2]
    exact this
  rw [← h1, ← h2]
  have r1' := (((r1.alloc (by omega) (.cells #[.int .i64 b0, .int .i64 b1] t)).more (show w.heap.size + 1 ≤ w2.heap.size by omega)))
  rw [← h2] at r1'
  have r1'' := (r1'.alloc (Nat.le_refl _) (.cells #[.slice (some ⟨w.heap.size, 0, none⟩) 2 2, .slice (some ⟨w.heap.size + 1, 0, none⟩) 2 2] u)).more (show w2.heap.size ≤ w.heap.size + 1 + 1 + 1 by omega)
  have r2'' := (r2.alloc (by omega) (.cells #[.slice (some ⟨w.heap.size, 0, none⟩) 2 2, .slice (some ⟨w.heap.size + 1, 0, none⟩) 2 2] u)).more (show w.heap.size + 1 + 1 ≤ w.heap.size + 1 + 1 + 1 by omega)
  refine ⟨rfl, Nat.le_refl _, by omega, fun h => (by cases h), fun _ => ⟨w.heap.size + 1 + 1, 0, rfl, by omega, fun k hk => ?_⟩⟩
  obtain rfl | rfl : k = 0 ∨ k = 1 := by omega
  · refine ⟨some ⟨w.heap.size, 0, none⟩, 2, ?_, r1''⟩
    rw [← s2, cell_of_row _ _ _ _ u (0, 0) (heap_alloc_new w2 _)]
    rfl
  · refine ⟨some ⟨w.heap.size + 1, 0, none⟩, 2, ?_, r2''⟩
    rw [← s2, cell_of_row _ _ _ _ u (0, 0) (heap_alloc_new w2 _)]
    rfl
/-- one row of one -/
theorem RdR.single (w : World) (a : Int) (t u : TypeId) : RdR ((w.alloc (.cells #[.int .i64 a] t)).alloc (.cells #[.slice (some ⟨w.heap.size, 0, none⟩) 1 1] u)) (w.heap.size + 1 + 1) (some ⟨w.heap.size + 1, 0, none⟩) 1 1 [[a]] := by
  obtain ⟨w1, h1⟩ : ∃ w1, w1 = w.alloc (.cells #[.int .i64 a] t) := ⟨_, rfl⟩
  have s1 : w1.heap.size = w.heap.size + 1 := by rw [h1]; simp
  have r1 : Rd w1 (w.heap.size + 1) (some ⟨w.heap.size, 0, none⟩) 1 1 [a] := by rw [h1]; exact Rd.new w [a] t 1 rfl (by omega)
  rw [← h1]
  have r1'' := (r1.alloc (by omega) (.cells #[.slice (some ⟨w.heap.size, 0, none⟩) 1 1] u)).more (show w.heap.size + 1 ≤ w.heap.size + 1 + 1 by omega)
  refine ⟨rfl, Nat.le_refl _, by omega, fun h => (by cases h), fun _ => ⟨w.heap.size + 1, 0, rfl, by omega, fun k hk => ?_⟩⟩
  obtain rfl : k = 0 := by omega
  refine ⟨some ⟨w.heap.size, 0, none⟩, 1, ?_, r1''⟩
  rw [← s1, cell_of_row _ _ _ _ u (0, 0) (heap_alloc_new w1 _)]
  rfl

end Go.Proofs.Ythdibdghnfkoeaa
