/-
  The closed fact of the laws on graphs holds.
-/
import Derived.Test.YtghmpdhopdmmiaaGraphB
import Derived.Test.YtghmpdhopdmmiaaGraphE
namespace Go.Proofs.Ytghmpdhopdmmiaa
open Go.RowKit

/-- three rows that have just been laid -/
theorem RdR.new3 (w : World) (t : TypeId) (A0 A1 A2 : Option Addr) (n0 n1 n2 c0 c1 c2 : Nat) (r0 r1 r2 : List Int) (h0 : Rd w w.heap.size A0 n0 c0 r0) (h1 : Rd w w.heap.size A1 n1 c1 r1) (h2 : Rd w w.heap.size A2 n2 c2 r2) :
    RdR (w.alloc (.cells #[.slice A0 n0 c0, .slice A1 n1 c1, .slice A2 n2 c2] t)) (w.heap.size + 1) (some ⟨w.heap.size, 0, none⟩) 3 3 [r0, r1, r2] := by
  have hb : Below w.heap.size w (w.alloc (.cells #[.slice A0 n0 c0, .slice A1 n1 c1, .slice A2 n2 c2] t)) := (Below.refl _ _).alloc (Nat.le_refl _) _
  refine ⟨rfl, Nat.le_refl _, by omega, fun h => (by cases h), fun _ => ⟨w.heap.size, 0, rfl, by omega, fun k hk => ?_⟩⟩
  have hk3 : k = 0 ∨ k = 1 ∨ k = 2 := by omega
  rcases hk3 with rfl | rfl | rfl
  · refine ⟨A0, c0, by simp [h0.len], ?_⟩
    have := (h0.below hb).more (Nat.le_succ _)
    simpa [h0.len] using this
  · refine ⟨A1, c1, by simp [h1.len], ?_⟩
    have := (h1.below hb).more (Nat.le_succ _)
    simpa [h1.len] using this
  · refine ⟨A2, c2, by simp [h2.len], ?_⟩
    have := (h2.below hb).more (Nat.le_succ _)
    simpa [h2.len] using this
/-- two lines that have just been laid -/
theorem RdP.new2 (w : World) (t : TypeId) (p q r s : Int) : RdP (w.alloc (.cells #[.int .i64 p, .int .i64 q, .int .i64 r, .int .i64 s] t)) (w.heap.size + 1) (some ⟨w.heap.size, 0, none⟩) 2 2 [(p, q), (r, s)] := by
  refine ⟨rfl, Nat.le_refl _, by omega, fun h => (by cases h), fun _ => ⟨w.heap.size, 0, rfl, by omega, fun k hk => ?_⟩⟩
  have hk2 : k = 0 ∨ k = 1 := by omega
  rcases hk2 with rfl | rfl
  · simp
  · simp

theorem fact_code : Gr.code 3 [(2, 0)] = 0 := by decide
theorem fact_rows : Gr.rows 3 [(2, 0)] = [[2], [], [0]] := by decide
theorem fact_other : Gr.other 3 [(2, 0)] = [(0, 1), (1, 2)] := by decide


end Go.Proofs.Ytghmpdhopdmmiaa
