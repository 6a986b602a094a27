/-
  The closed fact of the laws on package walk.
-/
import Derived.Test.YtghmpdhopdmmiaaWalkD
import Derived.Test.YtghmpdhopdmmiaaGraphF
namespace Go.Proofs.Ytghmpdhopdmmiaa
open Go.RowKit

set_option linter.unusedSimpArgs false

theorem RdP.new3 (w : World) (t : TypeId) (p q r s x y : Int) : RdP (w.alloc (.cells #[.int .i64 p, .int .i64 q, .int .i64 r, .int .i64 s, .int .i64 x, .int .i64 y] t)) (w.heap.size + 1) (some ⟨w.heap.size, 0, none⟩) 3 3 [(p, q), (r, s), (x, y)] := by
  refine ⟨rfl, Nat.le_refl _, by omega, fun h => (by cases h), fun _ => ⟨w.heap.size, 0, rfl, by omega, fun k hk => ?_⟩⟩
  have : k = 0 ∨ k = 1 ∨ k = 2 := by omega
  rcases this with rfl | rfl | rfl <;> simp

theorem wfact1 : Gr.code (4 : Int) [(0, 1), (2, 1)] = 0 := by kernel_rfl
theorem wfact2 : Wa.dists 4 (Wa.nrow 4 [(0, 1), (2, 1)]) 0 = [0, 1, 2, -1] := by kernel_rfl
theorem wfact3 : Gr.code (3 : Int) [(0, 1), (1, 2), (2, 0)] = 0 := by kernel_rfl
theorem wfact4 : Wa.girth 3 (Wa.nrow 3 [(0, 1), (1, 2), (2, 0)]) = 3 := by kernel_rfl

set_option maxRecDepth 100000 in
set_option maxHeartbeats 2000000 in
theorem walkFact_any (w : World) : Calls Try.prog 7 #[] w fun e w' => e = .returned (.bool true) ∧ Below w.heap.size w w' := by
  obtain ⟨x0, hx0⟩ : ∃ x0, x0 = w.alloc (.cells #[.int .i64 0, .int .i64 1, .int .i64 2, .int .i64 1] 38) := ⟨_, rfl⟩
  have hb0 : Below w.heap.size w x0 := by rw [hx0]; exact (Below.refl _ _).alloc (Nat.le_refl _) _
  have hr0 : RdP x0 x0.heap.size (some ⟨w.heap.size, 0, none⟩) 2 2 [(0, 1), (2, 1)] := by rw [hx0]; exact (RdP.new2 w _ 0 1 2 1).more (by simp)
  go_enter Try.func7, Try.ntmps7
  go_wp2_with fail
  rw [← hx0]
  clear hx0
  refine (From_good 4 0 _ 2 2 [(0, 1), (2, 1)] _ hr0 wfact1 (by omega)).mono ?_
  rintro e w1 ⟨g1, rfl, hown1, hb1⟩
  rw [wfact2] at hown1
  have hrd1 := hown1.rd'
  have hb01 := hb0.trans (hb1.mono hb0.size)
  clear hr0 hb0 hb1 hown1
  obtain ⟨x1, hx1⟩ : ∃ x1, x1 = w1.alloc (.cells #[.int .i64 0, .int .i64 1, .int .i64 1, .int .i64 2, .int .i64 2, .int .i64 0] 38) := ⟨_, rfl⟩
  have hbx : Below w1.heap.size w1 x1 := by rw [hx1]; exact (Below.refl _ _).alloc (Nat.le_refl _) _
  have hr1 : RdP x1 x1.heap.size (some ⟨w1.heap.size, 0, none⟩) 3 3 [(0, 1), (1, 2), (2, 0)] := by rw [hx1]; exact (RdP.new3 w1 _ 0 1 1 2 2 0).more (by simp)
  go_wp2_with fail
  rw [← hx1]
  clear hx1
  refine (Ring_good 3 _ 3 3 [(0, 1), (1, 2), (2, 0)] _ hr1 wfact3).mono ?_
  rintro e w2 ⟨rfl, hb2⟩
  rw [wfact4]
  have hb02 := hb01.trans ((hbx.trans (hb2.mono hbx.size)).mono hb01.size)
  have hrd2 := (hrd1.past hbx).past hb2
  clear hr1 hbx hb2 hb01 hrd1
  obtain ⟨x2, hx2⟩ : ∃ x2, x2 = w2.alloc (.cells #[.int .i64 0, .int .i64 1, .int .i64 2, .int .i64 (-1)] 3) := ⟨_, rfl⟩
  have hbx2 : Below w2.heap.size w2 x2 := by rw [hx2]; exact (Below.refl _ _).alloc (Nat.le_refl _) _
  have hr2 : Rd x2 x2.heap.size (some ⟨w2.heap.size, 0, none⟩) 4 4 [0, 1, 2, -1] := by rw [hx2]; exact (Rd.new w2 [0, 1, 2, -1] _ 4 rfl (by omega)).more (by simp)
  go_wp2_with fail
  rw [← hx2]
  clear hx2
  refine (Ints_t _ _ 4 4 _ 4 [0, 1, 2, -1] [0, 1, 2, -1] true _ (hrd2.past hbx2) hr2 (by decide)).mono ?_
  rintro e w4 ⟨rfl, hb4⟩
  go_wp2
  go_ret
  exact ⟨rfl, hb02.trans ((hbx2.trans (hb4.mono hbx2.size)).mono hb02.size)⟩

end Go.Proofs.Ytghmpdhopdmmiaa
