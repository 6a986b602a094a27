/-
  The laws' closed fact on Solve of package pairs.
-/
import Derived.Test.YthalopmplekdoaaDoorPairsD
import Derived.Test.YthalopmplekdoaaDoorBoolsE
import Derived.Test.YthalopmplekdoaaDoorErrS
namespace Go.Proofs.YthalopmplekdoaaDoor
open Go.RowKit
set_option linter.unusedSimpArgs false
set_option linter.unusedVariables false

/-- two ors newly laid -/
theorem RdO.two (w : World) (p q : Or2) (t : TypeId) : RdO (w.alloc (.cells #[.int .i64 p.1.1, .bool p.1.2, .int .i64 p.2.1, .bool p.2.2, .int .i64 q.1.1, .bool q.1.2, .int .i64 q.2.1, .bool q.2.2] t)) (w.heap.size + 1) (some ⟨w.heap.size, 0, none⟩) 2 2 [p, q] := by
  refine ⟨rfl, Nat.le_refl _, by omega, fun h => (by cases h), fun _ => ⟨w.heap.size, 0, rfl, by omega, fun k hk => ?_⟩⟩
  have hk' : k = 0 ∨ k = 1 := by omega
  rcases hk' with rfl | rfl <;> simp

theorem pfact1 : Pa.code (2 : Int) [((0, false), (0, false))] = 0 := by kernel_rfl
theorem pfact2 : Pa.Least [((0, false), (0, false))] 2 [true, false] := Pa.ans_least (by decide)
theorem pfact3 : Pa.code (1 : Int) [((0, false), (0, false)), ((0, true), (0, true))] = 0 := by kernel_rfl
theorem pfact4 : Pa.ans (Pa.right [((0, false), (0, false)), ((0, true), (0, true))]) 1 [] = none := by decide
theorem Solve_f1 (A : Option Addr) (c : Nat) (w : World) (hr : RdO w w.heap.size A 1 c [((0, false), (0, false))]) :
    Calls Tryd.prog 11 #[.int .i64 2, .slice A 1 c] w fun e w' => (∃ g, e = .returned (.tuple #[.slice (some ⟨g, 0, none⟩) 2 2, .nilIface]) ∧ RdB w' w'.heap.size (some ⟨g, 0, none⟩) 2 2 [true, false]) ∧ Below w.heap.size w w' := by
  refine (Solve_yes 2 A 1 c _ _ w hr pfact1 pfact2).mono ?_
  rintro e w' ⟨⟨g, he, ho⟩, hb⟩
  exact ⟨⟨g, he, ho.rd'⟩, hb⟩
theorem Solve_f2 (A : Option Addr) (c : Nat) (w : World) (hr : RdO w w.heap.size A 2 c [((0, false), (0, false)), ((0, true), (0, true))]) :
    Calls Tryd.prog 11 #[.int .i64 1, .slice A 2 c] w fun e w' => e = .returned (.tuple #[.slice none 0 0, errv 5]) ∧ Below w.heap.size w w' := Solve_no 1 A 2 c _ w hr pfact3 pfact4

set_option maxRecDepth 100000 in
set_option maxHeartbeats 2000000 in
theorem pairsFact_any (w : World) (het : tld.EtIs w) : Calls Tryd.prog 15 #[] w fun e w' => e = .returned (.bool true) ∧ Below w.heap.size w w' := by
  obtain ⟨xa, hxa⟩ : ∃ xa, xa = (w.alloc (.cells #[.int .i64 0, .bool false] 41)).alloc (.cells #[.int .i64 0, .bool true] 41) := ⟨_, rfl⟩
  have ha1 : Below w.heap.size w (w.alloc (.cells #[.int .i64 0, .bool false] 41)) := (Below.refl _ _).alloc (Nat.le_refl _) _
  have hba : Below w.heap.size w xa := by rw [hxa]; exact ha1.alloc ha1.size _
  have hO0 : xa.cell? ⟨w.heap.size, 0, none⟩ = some (.int .i64 0) ∧ xa.cell? ⟨w.heap.size, 1, none⟩ = some (.bool false) ∧ xa.cell? ⟨w.heap.size + 1, 0, none⟩ = some (.int .i64 0) ∧ xa.cell? ⟨w.heap.size + 1, 1, none⟩ = some (.bool true) := by
    have n2 : Below (w.heap.size + 1) (w.alloc (.cells #[.int .i64 0, .bool false] 41)) xa := by rw [hxa]; exact (Below.refl _ _).alloc (by rw [World.size_alloc]; omega) _
    have e3 : xa.cell? ⟨(w.alloc (.cells #[.int .i64 0, .bool false] 41)).heap.size, 0, none⟩ = some (.int .i64 0) := by rw [hxa]; simp
    have e4 : xa.cell? ⟨(w.alloc (.cells #[.int .i64 0, .bool false] 41)).heap.size, 1, none⟩ = some (.bool true) := by rw [hxa]; simp
    rw [World.size_alloc] at e3 e4
    exact ⟨(n2.cell (p := ⟨w.heap.size, 0, none⟩) (by simp only; omega)).trans (by simp), (n2.cell (p := ⟨w.heap.size, 1, none⟩) (by simp only; omega)).trans (by simp), e3, e4⟩
  have hsa : xa.heap.size = w.heap.size + 1 + 1 := by rw [hxa, World.size_alloc, World.size_alloc]
  obtain ⟨x0, hx0⟩ : ∃ x0, x0 = xa.alloc (.cells #[.int .i64 0, .bool false, .int .i64 0, .bool false] 43) := ⟨_, rfl⟩
  have hb0' : Below xa.heap.size xa x0 := by rw [hx0]; exact (Below.refl _ _).alloc (Nat.le_refl _) _
  have hb0 := hba.trans (hb0'.mono hba.size)
  have hr0 : RdO x0 x0.heap.size (some ⟨xa.heap.size, 0, none⟩) 1 1 [((0, false), (0, false))] := by rw [hx0]; exact (RdO.one xa ((0, false), (0, false)) _).more (by simp)
  rw [hsa] at hr0
  have HK : Hid (∀ V : World, Below x0.heap.size x0 V → V.cell? ⟨w.heap.size, 0, none⟩ = some (.int .i64 0) ∧ V.cell? ⟨w.heap.size, 1, none⟩ = some (.bool false) ∧ V.cell? ⟨w.heap.size + 1, 0, none⟩ = some (.int .i64 0) ∧ V.cell? ⟨w.heap.size + 1, 1, none⟩ = some (.bool true)) := fun V hV => by
    have hV2 := hb0'.trans (hV.mono hb0'.size)
    exact ⟨(hV2.cell (p := ⟨w.heap.size, 0, none⟩) (World.block_lt_of_cell? xa _ hO0.1)).trans hO0.1, (hV2.cell (p := ⟨w.heap.size, 1, none⟩) (World.block_lt_of_cell? xa _ hO0.2.1)).trans hO0.2.1, (hV2.cell (p := ⟨w.heap.size + 1, 0, none⟩) (World.block_lt_of_cell? xa _ hO0.2.2.1)).trans hO0.2.2.1, (hV2.cell (p := ⟨w.heap.size + 1, 1, none⟩) (World.block_lt_of_cell? xa _ hO0.2.2.2)).trans hO0.2.2.2⟩
  have HX0 := Lib.hid hx0
  have HXA := Lib.hid hxa
  clear hx0 hxa hO0 hba ha1 hb0' hsa
  go_enter Tryd.func15, Tryd.ntmps15
  go_wp2_with fail
  rw [← HXA.out, ← HX0.out]
  clear HX0 HXA
  obtain ⟨s, hs⟩ : ∃ s, s = w.heap.size := ⟨_, rfl⟩
  rw [← hs] at hr0 HK ⊢
  have HS := Lib.hid hs
  clear hs
  refine (Solve_f1 _ _ _ hr0).mono ?_
  rintro e w1 ⟨⟨g1, rfl, hrd1⟩, hb1⟩
  have hb01 := hb0.trans (hb1.mono hb0.size)
  obtain ⟨k1, k2, k3, k4⟩ := HK.out w1 hb1
  clear hr0 hb0 hb1
  obtain ⟨x1, hx1⟩ : ∃ x1, x1 = w1.alloc (.cells #[.int .i64 0, .bool false, .int .i64 0, .bool false, .int .i64 0, .bool true, .int .i64 0, .bool true] 43) := ⟨_, rfl⟩
  have hbx : Below w1.heap.size w1 x1 := by rw [hx1]; exact (Below.refl _ _).alloc (Nat.le_refl _) _
  have hr1 : RdO x1 x1.heap.size (some ⟨w1.heap.size, 0, none⟩) 2 2 [((0, false), (0, false)), ((0, true), (0, true))] := by rw [hx1]; exact (RdO.two w1 ((0, false), (0, false)) ((0, true), (0, true)) _).more (by simp)
  have HX1 := Lib.hid hx1
  clear hx1
  go_wp2_with fail
  rw [← HX1.out]
  clear HX1
  refine (Solve_f2 _ _ _ hr1).mono ?_
  rintro e w2 ⟨rfl, hb2⟩
  have hbw := hbx.trans (hb2.mono hbx.size)
  have hb02 := hb01.trans (hbw.mono hb01.size)
  have hrd1 := hrd1.past hbw
  clear hr1 hbx hb2 hb01 hbw k1 k2 k3 k4
  have HET : Hid (tld.EtIs w2) := het.below hb02
  go_wp2_with fail
  refine (Err_same 5 _ HET.out).mono ?_
  rintro e w3 ⟨rfl, hb3⟩
  have hb03 := hb02.trans (hb3.mono hb02.size)
  have hrd1 := hrd1.past hb3
  clear hb3 hb02
  obtain ⟨x3, hx3⟩ : ∃ x3, x3 = w3.alloc (.cells #[.bool true, .bool false] 4) := ⟨_, rfl⟩
  have hbx : Below w3.heap.size w3 x3 := by rw [hx3]; exact (Below.refl _ _).alloc (Nat.le_refl _) _
  have hr3 : RdB x3 x3.heap.size (some ⟨w3.heap.size, 0, none⟩) 2 2 [true, false] := by rw [hx3]; exact (RdB.new w3 [true, false] _ 2 rfl (by omega)).more (by simp)
  have HX3 := Lib.hid hx3
  clear hx3
  go_wp2_with fail
  rw [← HX3.out]
  clear HX3
  refine (Bools_t _ _ 2 2 _ 2 [true, false] [true, false] true _ (hrd1.past hbx) hr3 (by decide)).mono ?_
  rintro e w4 ⟨rfl, hb4⟩
  have hbw := hbx.trans (hb4.mono hbx.size)
  have hb04 := hb03.trans (hbw.mono hb03.size)
  clear hr3 hbx hb4 hb03 hbw hrd1
  go_wp2
  go_ret
  exact ⟨rfl, hb04⟩

end Go.Proofs.YthalopmplekdoaaDoor
