/-
  Two lines, and three, that have just been laid. No statement of the program is proved here; there is no condition.
-/
import Derived.Test.YtojkjdccjomaaaaLibS
namespace Go.Proofs.Ytojkjdccjomaaaa
open Go.RowKit

theorem RdP.newTwo (w : World) (t : TypeId) (p q r s : Int) : RdP (w.alloc (.cells #[.int .i64 p, .int .i64 q, .int .i64 r, .int .i64 s] t)) (w.heap.size + 1) (some ⟨w.heap.size, 0, none⟩) 2 2 [(p, q), (r, s)] := by
  refine ⟨rfl, Nat.le_refl _, by omega, fun h => (by cases h), fun _ => ⟨w.heap.size, 0, rfl, by omega, fun k hk => ?_⟩⟩
  have : k = 0 ∨ k = 1 := by omega
  rcases this with rfl | rfl <;> simp
theorem RdP.newThree (w : World) (t : TypeId) (p q r s x y : Int) : RdP (w.alloc (.cells #[.int .i64 p, .int .i64 q, .int .i64 r, .int .i64 s, .int .i64 x, .int .i64 y] t)) (w.heap.size + 1) (some ⟨w.heap.size, 0, none⟩) 3 3 [(p, q), (r, s), (x, y)] := by
  refine ⟨rfl, Nat.le_refl _, by omega, fun h => (by cases h), fun _ => ⟨w.heap.size, 0, rfl, by omega, fun k hk => ?_⟩⟩
  have : k = 0 ∨ k = 1 ∨ k = 2 := by omega
  rcases this with rfl | rfl | rfl <;> simp

end Go.Proofs.Ytojkjdccjomaaaa
