/-
  The laws' closed fact on All and Few of package close.
-/
import Derived.Test.YthlgloefeigcbaaDoorCloseD
import Derived.Test.YthlgloefeigcbaaDoorNewLines
import Derived.Test.YthlgloefeigcbaaDoorGraphE
import Derived.BigQuiet
namespace Go.Proofs.YthlgloefeigcbaaDoor
open Go.RowKit
set_option linter.unusedSimpArgs false
set_option linter.unusedVariables false

/-- rows of two, of one and of none that have just been laid -/
theorem RdR.three (w : World) (a b c : Int) (t u : TypeId) : RdR ((((w.alloc (.cells #[.int .i64 a, .int .i64 b] t)).alloc (.cells #[.int .i64 c] t)).alloc (.cells #[] t)).alloc (.cells #[.slice (some ⟨w.heap.size, 0, none⟩) 2 2, .slice (some ⟨w.heap.size + 1, 0, none⟩) 1 1, .slice (some ⟨w.heap.size + 1 + 1, 0, none⟩) 0 0] u)) (w.heap.size + 1 + 1 + 1 + 1) (some ⟨w.heap.size + 1 + 1 + 1, 0, none⟩) 3 3 [[a, b], [c], []] := by
  obtain ⟨w1, h1⟩ : ∃ w1, w1 = w.alloc (.cells #[.int .i64 a, .int .i64 b] t) := ⟨_, rfl⟩
  obtain ⟨w2, h2⟩ : ∃ w2, w2 = w1.alloc (.cells #[.int .i64 c] t) := ⟨_, rfl⟩
  obtain ⟨w3, h3⟩ : ∃ w3, w3 = w2.alloc (.cells #[] t) := ⟨_, rfl⟩
  have s1 : w1.heap.size = w.heap.size + 1 := by rw [h1]; simp
  have s2 : w2.heap.size = w.heap.size + 1 + 1 := by rw [h2]; simp [s1]
  have s3 : w3.heap.size = w.heap.size + 1 + 1 + 1 := by rw [h3]; simp [s2]
  have r1 : Rd w1 (w.heap.size + 1) (some ⟨w.heap.size, 0, none⟩) 2 2 [a, b] := by rw [h1]; exact Rd.new w [a, b] t 2 rfl (by omega)
  have r2 : Rd w2 (w.heap.size + 1 + 1) (some ⟨w.heap.size + 1, 0, none⟩) 1 1 [c] := by
    have := Rd.new w1 [c] t 1 rfl (by omega)
    rw [s1] at this
    rw [h2]
    exact this
  rw [← h1, ← h2, ← h3]
  have k1 : Below w1.heap.size w1 w3 := by
    rw [h3, h2]
    exact ((Below.refl _ _).alloc (Nat.le_refl _) _).alloc (by simp) _
  have k2 : Below w2.heap.size w2 w3 := by rw [h3]; exact (Below.refl _ _).alloc (Nat.le_refl _) _
  obtain ⟨w4, h4⟩ : ∃ w4, w4 = w3.alloc (.cells #[.slice (some ⟨w.heap.size, 0, none⟩) 2 2, .slice (some ⟨w.heap.size + 1, 0, none⟩) 1 1, .slice (some ⟨w.heap.size + 1 + 1, 0, none⟩) 0 0] u) := ⟨_, rfl⟩
  have k3 : Below w3.heap.size w3 w4 := by rw [h4]; exact (Below.refl _ _).alloc (Nat.le_refl _) _
  have e1 := ((r1.below (k1.mono (by omega))).below (k3.mono (by omega))).more (show w.heap.size + 1 ≤ w.heap.size + 1 + 1 + 1 + 1 by omega)
  have e2 := ((r2.below (k2.mono (by omega))).below (k3.mono (by omega))).more (show w.heap.size + 1 + 1 ≤ w.heap.size + 1 + 1 + 1 + 1 by omega)
  have hc : ∀ k : Nat, w4.cell? ⟨w.heap.size + 1 + 1 + 1, 0 + k, none⟩ = (#[.slice (some ⟨w.heap.size, 0, none⟩) 2 2, .slice (some ⟨w.heap.size + 1, 0, none⟩) 1 1, .slice (some ⟨w.heap.size + 1 + 1, 0, none⟩) 0 0] : Array Value)[0 + k]? := fun k => by
    have := heap_alloc_new w3 (.cells #[.slice (some ⟨w.heap.size, 0, none⟩) 2 2, .slice (some ⟨w.heap.size + 1, 0, none⟩) 1 1, .slice (some ⟨w.heap.size + 1 + 1, 0, none⟩) 0 0] u)
    rw [← h4, s3] at this
    exact cell_of_row w4 _ _ _ u (0, 0) this
  rw [← h4]
  refine ⟨rfl, Nat.le_refl _, by omega, fun h => (by cases h), fun _ => ⟨w.heap.size + 1 + 1 + 1, 0, rfl, by omega, fun k hk => ?_⟩⟩
  obtain rfl | rfl | rfl : k = 0 ∨ k = 1 ∨ k = 2 := by omega
  · exact ⟨_, _, (hc 0).trans rfl, e1⟩
  · exact ⟨_, _, (hc 1).trans rfl, e2⟩
  · exact ⟨_, _, (hc 2).trans rfl, Rd.empty _ _ _ 0 0 [] rfl rfl (by omega)⟩

theorem twoBelow {P : Nat → Prop} (h0 : P 0) (h1 : P 1) : ∀ j : Nat, j < 2 → P j := fun j hj => by
  have : j = 0 ∨ j = 1 := by omega
  rcases this with rfl | rfl
  · exact h0
  · exact h1
theorem cfact1 : Gr.code (3 : Int) [(0, 1), (1, 2), (0, 2)] = 0 := by kernel_rfl
theorem cfact2 : To.Step 3 [(0, 1), (1, 2), (0, 2)] [0, 1, 2] := by
  intro k hk
  have hk' : k < 3 := hk
  have : k = 0 ∨ k = 1 ∨ k = 2 := by omega
  rcases this with rfl | rfl | rfl
  · exact ⟨0, by omega, rfl, by kernel_rfl, fun j hj => by omega⟩
  · exact ⟨1, by omega, rfl, by kernel_rfl, fun j hj => by
      obtain rfl : j = 0 := by omega
      kernel_rfl⟩
  · exact ⟨2, by omega, rfl, by kernel_rfl, twoBelow (by kernel_rfl) (by kernel_rfl)⟩
theorem cfact3 : Cl.crows 3 [(0, 1), (1, 2), (0, 2)] = [[1, 2], [2], []] := by kernel_rfl
theorem cfact4 : Cl.few 3 [(0, 1), (1, 2), (0, 2)] = [(0, 1), (1, 2)] := by kernel_rfl
theorem All_f (A : Option Addr) (c : Nat) (w : World) (hr : RdP w w.heap.size A 3 c [(0, 1), (1, 2), (0, 2)]) :
    Calls Tryd.prog 10 #[.int .i64 3, .slice A 3 c] w fun e w' => ∃ A1 c1, e = .returned (.tuple #[.slice A1 3 c1, .nilIface]) ∧ RdR w' w'.heap.size A1 3 c1 [[1, 2], [2], []] ∧ Below w.heap.size w w' := by
  have := All_yes 3 A 3 c _ w hr cfact1
  rw [cfact3] at this
  exact this
theorem Few_f (A : Option Addr) (c : Nat) (w : World) (hr : RdP w w.heap.size A 3 c [(0, 1), (1, 2), (0, 2)]) :
    Calls Tryd.prog 13 #[.int .i64 3, .slice A 3 c] w fun e w' => ∃ A1 c1 N, e = .returned (.tuple #[.slice A1 N c1, .nilIface]) ∧ RdP w' w'.heap.size A1 N c1 [(0, 1), (1, 2)] ∧ Below w.heap.size w w' := by
  have := Few_yes 3 A 3 c _ _ w hr cfact1 cfact2 rfl
  rw [cfact4] at this
  exact this

set_option maxRecDepth 100000 in
set_option maxHeartbeats 2000000 in
theorem closeFact_any (w : World) : Calls Tryd.prog 15 #[] w fun e w' => e = .returned (.bool true) ∧ Below w.heap.size w w' := by
  obtain ⟨x0, hx0⟩ : ∃ x0, x0 = w.alloc (.cells #[.int .i64 0, .int .i64 1, .int .i64 1, .int .i64 2, .int .i64 0, .int .i64 2] 44) := ⟨_, rfl⟩
  have hb0 : Below w.heap.size w x0 := by rw [hx0]; exact (Below.refl _ _).alloc (Nat.le_refl _) _
  have hr0 : RdP x0 x0.heap.size (some ⟨w.heap.size, 0, none⟩) 3 3 [(0, 1), (1, 2), (0, 2)] := by rw [hx0]; exact (RdP.newThree w _ 0 1 1 2 0 2).more (by simp)
  have HX0 := Lib.hid hx0
  clear hx0
  go_enter Tryd.func15, Tryd.ntmps15
  go_wp2_with fail
  rw [← HX0.out]
  clear HX0
  refine (All_f _ _ _ hr0).mono ?_
  rintro e w1 ⟨A1, c1, rfl, hrd1, hb1⟩
  have hr1 := hr0.past hb1
  have hb01 := hb0.trans (hb1.mono hb0.size)
  clear hr0 hb0 hb1
  go_wp2_with fail
  refine (Few_f _ _ _ hr1).mono ?_
  rintro e w2 ⟨A2, c2, N2, rfl, hrd2, hb2⟩
  have hb02 := hb01.trans (hb2.mono hb01.size)
  have hrd1 := hrd1.past hb2
  have hN := hrd2.len
  clear hr1 hb01 hb2
  obtain ⟨x2, hx2⟩ : ∃ x2, x2 = ((((w2.alloc (.cells #[.int .i64 1, .int .i64 2] 3)).alloc (.cells #[.int .i64 2] 3)).alloc (.cells #[] 3)).alloc (.cells #[.slice (some ⟨w2.heap.size, 0, none⟩) 2 2, .slice (some ⟨w2.heap.size + 1, 0, none⟩) 1 1, .slice (some ⟨w2.heap.size + 1 + 1, 0, none⟩) 0 0] 26)) := ⟨_, rfl⟩
  have hbx : Below w2.heap.size w2 x2 := by rw [hx2]; exact ((((Below.refl _ _).alloc (Nat.le_refl _) _).alloc (by simp) _).alloc (by simp; omega) _).alloc (by simp; omega) _
  have hr2 : RdR x2 x2.heap.size (some ⟨w2.heap.size + 1 + 1 + 1, 0, none⟩) 3 3 [[1, 2], [2], []] := by rw [hx2]; exact (RdR.three w2 1 2 2 _ _).more (by simp)
  have HX2 := Lib.hid hx2
  clear hx2
  obtain rfl : N2 = 2 := hN.symm
  clear hN
  go_wp2_with fail
  rw [← HX2.out]
  clear HX2
  refine (Rows_any _ _ 3 3 _ 3 _ _ true _ (hrd1.past hbx) hr2 (by decide)).mono ?_
  rintro e w3 ⟨rfl, hb3⟩
  have hbw := hbx.trans (hb3.mono hbx.size)
  have hb03 := hb02.trans (hbw.mono hb02.size)
  have hrd2 := hrd2.past hbw
  clear hr2 hbx hb3 hb02 hbw hrd1
  obtain ⟨x3, hx3⟩ : ∃ x3, x3 = w3.alloc (.cells #[.int .i64 0, .int .i64 1, .int .i64 1, .int .i64 2] 44) := ⟨_, rfl⟩
  have hbx : Below w3.heap.size w3 x3 := by rw [hx3]; exact (Below.refl _ _).alloc (Nat.le_refl _) _
  have hr3 : RdP x3 x3.heap.size (some ⟨w3.heap.size, 0, none⟩) 2 2 [(0, 1), (1, 2)] := by rw [hx3]; exact (RdP.newTwo w3 _ 0 1 1 2).more (by simp)
  have HX3 := Lib.hid hx3
  clear hx3
  go_wp2_with fail
  rw [← HX3.out]
  clear HX3
  refine (Lines_any _ _ 2 2 _ 2 _ _ true _ (hrd2.past hbx) hr3 (by decide)).mono ?_
  rintro e w4 ⟨rfl, hb4⟩
  go_wp2
  go_ret
  exact ⟨rfl, hb03.trans ((hbx.trans (hb4.mono hbx.size)).mono hb03.size)⟩

end Go.Proofs.YthlgloefeigcbaaDoor
