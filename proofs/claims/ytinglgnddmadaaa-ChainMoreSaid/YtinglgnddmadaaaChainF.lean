/-
  The laws' closed fact on Longest, Rows and Widest of package chain.
-/
import Derived.Test.YtinglgnddmadaaaChainA
import Derived.Test.YtinglgnddmadaaaNewLines
import Derived.BigQuiet
namespace Go.Proofs.Ytinglgnddmadaaa
open Go.RowKit
set_option linter.unusedSimpArgs false
set_option linter.unusedVariables false

theorem Cn.below2 {P : Nat → Prop} (h0 : P 0) (h1 : P 1) : ∀ j : Nat, j < 2 → P j := fun j hj => by
  have : j = 0 ∨ j = 1 := by omega
  rcases this with rfl | rfl
  · exact h0
  · exact h1
theorem nfact1 : Gr.code (3 : Int) [(0, 1), (0, 2)] = 0 := by kernel_rfl
theorem nfact2 : To.Step 3 [(0, 1), (0, 2)] [0, 1, 2] := by
  intro k hk
  have hk' : k < 3 := hk
  have : k = 0 ∨ k = 1 ∨ k = 2 := by omega
  rcases this with rfl | rfl | rfl
  · exact ⟨0, by omega, rfl, by kernel_rfl, fun j hj => by omega⟩
  · exact ⟨1, by omega, rfl, by kernel_rfl, fun j hj => by
      obtain rfl : j = 0 := by omega
      kernel_rfl⟩
  · exact ⟨2, by omega, rfl, by kernel_rfl, Cn.below2 (by kernel_rfl) (by kernel_rfl)⟩
theorem nfact3 : Cn.Fine 3 [(0, 1), (0, 2)] [0, 1, 2] := ⟨nfact1, nfact2, rfl⟩
theorem nfact4 : To.Top 3 [(0, 1), (0, 2)] 1 := by
  refine To.Top.of (D := fun i : Nat => To.dpF [(0, 1), (0, 2)] 3 (i : Int)) (fun i hi => To.dp_all nfact3.good nfact2 rfl hi) ⟨1, by omega, by kernel_rfl⟩ fun i hi => ?_
  have : i = 0 ∨ i = 1 ∨ i = 2 := by omega
  rcases this with rfl | rfl | rfl
  · exact Nat.le_trans (Nat.le_of_eq (show To.dpF [(0, 1), (0, 2)] 3 ((0 : Nat) : Int) = 0 by kernel_rfl)) (by omega)
  · exact Nat.le_trans (Nat.le_of_eq (show To.dpF [(0, 1), (0, 2)] 3 ((1 : Nat) : Int) = 1 by kernel_rfl)) (by omega)
  · exact Nat.le_trans (Nat.le_of_eq (show To.dpF [(0, 1), (0, 2)] 3 ((2 : Nat) : Int) = 1 by kernel_rfl)) (by omega)
theorem nfact5 : Ma.nu (To.comes 3 [(0, 1), (0, 2)]) 3 3 = 1 := by kernel_rfl

theorem Longest_f (A : Option Addr) (c : Nat) (w : World) (hr : RdP w w.heap.size A 2 c [(0, 1), (0, 2)]) :
    Calls Try.prog 10 #[.int .i64 3, .slice A 2 c] w fun e w' => e = .returned (.tuple #[.int .i64 2, .nilIface]) ∧ Below w.heap.size w w' := Longest_yes 3 1 2 A 2 c _ _ w hr nfact3 nfact4 rfl
theorem Rows_f (A : Option Addr) (c : Nat) (w : World) (hr : RdP w w.heap.size A 2 c [(0, 1), (0, 2)]) :
    Calls Try.prog 7 #[.int .i64 3, .slice A 2 c] w fun e w' => e = .returned (.tuple #[.int .i64 2, .nilIface]) ∧ Below w.heap.size w w' := Rows_yes 3 2 A 2 c _ _ w hr nfact3 (by omega) (by rw [nfact5]; rfl)
theorem Widest_f (A : Option Addr) (c : Nat) (w : World) (hr : RdP w w.heap.size A 2 c [(0, 1), (0, 2)]) :
    Calls Try.prog 8 #[.int .i64 3, .slice A 2 c] w fun e w' => e = .returned (.tuple #[.int .i64 2, .nilIface]) ∧ Below w.heap.size w w' := Widest_of _ _ _ _ _ _ _ (Rows_f A c w hr)

set_option maxRecDepth 100000 in
set_option maxHeartbeats 2000000 in
theorem chainFact_any (w : World) : Calls Try.prog 6 #[] w fun e w' => e = .returned (.bool true) ∧ Below w.heap.size w w' := by
  obtain ⟨x0, hx0⟩ : ∃ x0, x0 = w.alloc (.cells #[.int .i64 0, .int .i64 1, .int .i64 0, .int .i64 2] 38) := ⟨_, rfl⟩
  have hb0 : Below w.heap.size w x0 := by rw [hx0]; exact (Below.refl _ _).alloc (Nat.le_refl _) _
  have hr0 : RdP x0 x0.heap.size (some ⟨w.heap.size, 0, none⟩) 2 2 [(0, 1), (0, 2)] := by rw [hx0]; exact (RdP.newTwo w _ 0 1 0 2).more (by simp)
  have HX0 := Lib.hid hx0
  clear hx0
  go_enter Try.func6, Try.ntmps6
  go_wp2_with fail
  rw [← HX0.out]
  clear HX0
  refine (Longest_f _ _ _ hr0).mono ?_
  rintro e w1 ⟨rfl, hb1⟩
  have hr1 := hr0.past hb1
  have hb01 := hb0.trans (hb1.mono hb0.size)
  clear hr0 hb0 hb1
  go_wp2_with fail
  refine (Rows_f _ _ _ hr1).mono ?_
  rintro e w2 ⟨rfl, hb2⟩
  have hr2 := hr1.past hb2
  have hb02 := hb01.trans (hb2.mono hb01.size)
  clear hr1 hb01 hb2
  go_wp2_with fail
  refine (Widest_f _ _ _ hr2).mono ?_
  rintro e w3 ⟨rfl, hb3⟩
  go_wp2
  go_ret
  exact ⟨rfl, hb02.trans (hb3.mono hb02.size)⟩

end Go.Proofs.Ytinglgnddmadaaa
