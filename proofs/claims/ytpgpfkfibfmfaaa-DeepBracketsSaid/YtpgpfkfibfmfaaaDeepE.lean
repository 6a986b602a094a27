/-
  The closed fact of the laws on package deep.
-/
import Derived.Test.YtpgpfkfibfmfaaaDeepB
import Derived.Test.YtpgpfkfibfmfaaaGraphE
namespace Go.Proofs.Ytpgpfkfibfmfaaa
open Go.RowKit

set_option linter.unusedSimpArgs false

theorem RdP.new2d (w : World) (t : TypeId) (p q r s : Int) : RdP (w.alloc (.cells #[.int .i64 p, .int .i64 q, .int .i64 r, .int .i64 s] t)) (w.heap.size + 1) (some ⟨w.heap.size, 0, none⟩) 2 2 [(p, q), (r, s)] := by
  refine ⟨rfl, Nat.le_refl _, by omega, fun h => (by cases h), fun _ => ⟨w.heap.size, 0, rfl, by omega, fun k hk => ?_⟩⟩
  have : k = 0 ∨ k = 1 := by omega
  rcases this with rfl | rfl <;> simp

/-- the tree of the fact -/
def dtree : Dp.Fo := .cons 0 (.cons 2 (.cons 1 .nil .nil) .nil) .nil
theorem dfact0 : Gr.code (3 : Int) [(0, 2), (1, 2)] = 0 := by kernel_rfl
theorem dfact1 : Dp.mets 3 dtree = [0, 2, 1] := by decide
theorem dfact2 : Dp.lefts 3 dtree = [5, 3, 4] := by decide
theorem dfact3 : Dp.pars 3 dtree = [-1, 2, 0] := by decide
theorem dwhole : Dp.Whole 3 (Wa.nrow 3 [(0, 2), (1, 2)]) dtree := by
  have e0 : Wa.nrow 3 [(0, 2), (1, 2)] 0 = [2] := by kernel_rfl
  have e1 : Wa.nrow 3 [(0, 2), (1, 2)] 1 = [2] := by kernel_rfl
  have e2 : Wa.nrow 3 [(0, 2), (1, 2)] 2 = [0, 1] := by kernel_rfl
  generalize Wa.nrow 3 [(0, 2), (1, 2)] = R at e0 e1 e2
  refine ⟨[true, true, true], ?_⟩
  show Dp.Dfs R [false, false, false] [0, 1, 2] dtree _
  refine .go (s1 := [true, true, true]) rfl ?_ (.skip rfl (.skip rfl (.nil _)))
  rw [e0]
  refine .go (s1 := [true, true, true]) rfl ?_ (.nil _)
  rw [e2]
  refine .skip rfl (.go (s1 := [true, true, true]) rfl ?_ (.nil _))
  rw [e1]
  exact .skip rfl (.nil _)

set_option maxRecDepth 100000 in
set_option maxHeartbeats 2000000 in
theorem deepFact_any (w : World) : Calls Try.prog 6 #[] w fun e w' => e = .returned (.bool true) ∧ Below w.heap.size w w' := by
  obtain ⟨x0, hx0⟩ : ∃ x0, x0 = w.alloc (.cells #[.int .i64 0, .int .i64 2, .int .i64 1, .int .i64 2] 34) := ⟨_, rfl⟩
  have hb0 : Below w.heap.size w x0 := by rw [hx0]; exact (Below.refl _ _).alloc (Nat.le_refl _) _
  have hr0 : RdP x0 x0.heap.size (some ⟨w.heap.size, 0, none⟩) 2 2 [(0, 2), (1, 2)] := by rw [hx0]; exact (RdP.new2d w _ 0 2 1 2).more (by simp)
  go_enter Try.func6, Try.ntmps6
  go_wp2_with fail
  rw [← hx0]
  clear hx0
  refine (DWalk_good 3 _ 2 2 [(0, 2), (1, 2)] dtree dwhole _ hr0 dfact0).mono ?_
  rintro e w1 ⟨hb1, g1, g2, g3, rfl, o1, o2, o3⟩
  rw [dfact1] at o1
  rw [dfact2] at o2
  rw [dfact3] at o3
  have r1 := o1.rd'
  have r2 := o2.rd'
  have r3 := o3.rd'
  have hb01 := hb0.trans (hb1.mono hb0.size)
  clear hr0 hb0 hb1 o1 o2 o3
  obtain ⟨x1, hx1⟩ : ∃ x1, x1 = w1.alloc (.cells #[.int .i64 0, .int .i64 2, .int .i64 1] 3) := ⟨_, rfl⟩
  have hbx1 : Below w1.heap.size w1 x1 := by rw [hx1]; exact (Below.refl _ _).alloc (Nat.le_refl _) _
  have s1 : Rd x1 x1.heap.size (some ⟨w1.heap.size, 0, none⟩) 3 3 [0, 2, 1] := by rw [hx1]; exact (Rd.new w1 [0, 2, 1] _ 3 rfl (by omega)).more (by simp)
  go_wp2_with fail
  rw [← hx1]
  clear hx1
  refine (Ints_t _ _ 3 3 _ 3 [0, 2, 1] [0, 2, 1] true _ (r1.past hbx1) s1 (by decide)).mono ?_
  rintro e w2 ⟨rfl, hb2⟩
  have hb02 := hb01.trans ((hbx1.trans (hb2.mono hbx1.size)).mono hb01.size)
  have r22 := (r2.past hbx1).past hb2
  have r32 := (r3.past hbx1).past hb2
  clear r1 r2 r3 hbx1 hb2 s1 hb01
  obtain ⟨x2, hx2⟩ : ∃ x2, x2 = w2.alloc (.cells #[.int .i64 5, .int .i64 3, .int .i64 4] 3) := ⟨_, rfl⟩
  have hbx2 : Below w2.heap.size w2 x2 := by rw [hx2]; exact (Below.refl _ _).alloc (Nat.le_refl _) _
  have s2 : Rd x2 x2.heap.size (some ⟨w2.heap.size, 0, none⟩) 3 3 [5, 3, 4] := by rw [hx2]; exact (Rd.new w2 [5, 3, 4] _ 3 rfl (by omega)).more (by simp)
  go_wp2_with fail
  rw [← hx2]
  clear hx2
  refine (Ints_t _ _ 3 3 _ 3 [5, 3, 4] [5, 3, 4] true _ (r22.past hbx2) s2 (by decide)).mono ?_
  rintro e w3 ⟨rfl, hb3⟩
  have hb03 := hb02.trans ((hbx2.trans (hb3.mono hbx2.size)).mono hb02.size)
  have r33 := (r32.past hbx2).past hb3
  clear r22 r32 hbx2 hb3 s2 hb02
  obtain ⟨x3, hx3⟩ : ∃ x3, x3 = w3.alloc (.cells #[.int .i64 (-1), .int .i64 2, .int .i64 0] 3) := ⟨_, rfl⟩
  have hbx3 : Below w3.heap.size w3 x3 := by rw [hx3]; exact (Below.refl _ _).alloc (Nat.le_refl _) _
  have s3 : Rd x3 x3.heap.size (some ⟨w3.heap.size, 0, none⟩) 3 3 [-1, 2, 0] := by rw [hx3]; exact (Rd.new w3 [-1, 2, 0] _ 3 rfl (by omega)).more (by simp)
  go_wp2_with fail
  rw [← hx3]
  clear hx3
  refine (Ints_t _ _ 3 3 _ 3 [-1, 2, 0] [-1, 2, 0] true _ (r33.past hbx3) s3 (by decide)).mono ?_
  rintro e w4 ⟨rfl, hb4⟩
  go_wp2
  go_ret
  exact ⟨rfl, hb03.trans ((hbx3.trans (hb4.mono hbx3.size)).mono hb03.size)⟩

end Go.Proofs.Ytpgpfkfibfmfaaa
