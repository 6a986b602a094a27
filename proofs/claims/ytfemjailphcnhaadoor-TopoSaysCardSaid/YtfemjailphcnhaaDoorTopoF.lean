/-
  What Order and Deep of package topo hand back, case by case; the laws' closed fact on them.
-/
import Derived.Test.YtfemjailphcnhaaDoorTopoC
import Derived.Test.YtfemjailphcnhaaDoorNewLines
import Derived.Test.YtfemjailphcnhaaDoorTold
import Derived.BigQuiet
namespace Go.Proofs.YtfemjailphcnhaaDoor
open Go.RowKit
set_option linter.unusedSimpArgs false
set_option linter.unusedVariables false

theorem Order_code (n : Int) (A : Option Addr) (k c : Nat) (ls : List Gr.Ln) (w : World) (hr : RdP w w.heap.size A k c ls) (h : Gr.code n ls ≠ 0) :
    Calls Tryd.prog 10 #[.int .i64 n, .slice A k c] w fun e w' => e = .returned (.tuple #[.slice none 0 0, errv (Gr.code n ls)]) ∧ Below w.heap.size w w' := by
  refine (Order_any n A k c ls w hr).mono ?_
  rintro e w1 ⟨hb, (⟨_, rfl⟩ | ⟨h0, _⟩)⟩
  · exact ⟨rfl, hb⟩
  · exact absurd h0 h
theorem Order_yes (m : Nat) (A : Option Addr) (k c : Nat) (ls : List Gr.Ln) (o : List Int) (w : World) (hr : RdP w w.heap.size A k c ls) (h : Gr.code (m : Int) ls = 0) (hstep : To.Step m ls o) (hl : o.length = m) :
    Calls Tryd.prog 10 #[.int .i64 (m : Int), .slice A k c] w fun e w' => ∃ A1 c1, e = .returned (.tuple #[.slice A1 m c1, .nilIface]) ∧ Rd w' w'.heap.size A1 m c1 o ∧ Below w.heap.size w w' := by
  refine (Order_good m A k c ls o w hr h hstep hl).mono ?_
  rintro e w1 ⟨A1, c1, rfl, hown, hb⟩
  exact ⟨A1, c1, rfl, hown.rd', hb⟩
theorem Deep_code (n : Int) (A : Option Addr) (k c : Nat) (ls : List Gr.Ln) (w : World) (hr : RdP w w.heap.size A k c ls) (h : Gr.code n ls ≠ 0) :
    Calls Tryd.prog 13 #[.int .i64 n, .slice A k c] w fun e w' => e = .returned (.tuple #[.slice none 0 0, errv (Gr.code n ls)]) ∧ Below w.heap.size w w' := by
  refine (Deep_any n A k c ls w hr).mono ?_
  rintro e w1 ⟨hb, (⟨_, rfl⟩ | ⟨h0, _⟩)⟩
  · exact ⟨rfl, hb⟩
  · exact absurd h0 h
theorem Deep_no (m : Nat) (A : Option Addr) (k c : Nat) (ls : List Gr.Ln) (o : List Int) (w : World) (hr : RdP w w.heap.size A k c ls) (h : Gr.code (m : Int) ls = 0) (hstep : To.Step m ls o) (hstuck : To.Stuck m ls o) (hlt : o.length < m) :
    Calls Tryd.prog 13 #[.int .i64 (m : Int), .slice A k c] w fun e w' => e = .returned (.tuple #[.slice none 0 0, errv 5]) ∧ Below w.heap.size w w' := by
  refine (Deep_any (m : Int) A k c ls w hr).mono ?_
  rintro e w1 ⟨hb, (⟨h0, _⟩ | ⟨_, o', h1, h2, (⟨_, rfl⟩ | ⟨h3, _⟩)⟩)⟩
  · exact absurd h h0
  · exact ⟨rfl, hb⟩
  · rw [Int.toNat_natCast] at h1 h3
    have := h1.free h3 hstep hstuck
    omega
theorem Deep_yes (m : Nat) (A : Option Addr) (k c : Nat) (ls : List Gr.Ln) (o : List Int) (w : World) (hr : RdP w w.heap.size A k c ls) (h : Gr.code (m : Int) ls = 0) (hstep : To.Step m ls o) (hl : o.length = m) :
    Calls Tryd.prog 13 #[.int .i64 (m : Int), .slice A k c] w fun e w' => ∃ A1 c1, e = .returned (.tuple #[.slice A1 m c1, .nilIface]) ∧ Rd w' w'.heap.size A1 m c1 (To.deps m ls) ∧ Below w.heap.size w w' := by
  refine (Deep_any (m : Int) A k c ls w hr).mono ?_
  rintro e w1 ⟨hb, (⟨h0, _⟩ | ⟨_, o', h1, h2, (⟨h3, rfl⟩ | ⟨h3, v, rfl, hown⟩)⟩)⟩
  · exact absurd h h0
  · rw [Int.toNat_natCast] at h1 h2 h3
    have := hstep.free hl h1 h2
    omega
  · rw [Int.toNat_natCast] at hown
    obtain ⟨A1, c1, rfl, hrd⟩ := hown.rd
    rw [To.deps_len] at hrd ⊢
    exact ⟨A1, c1, rfl, hrd, hb⟩

theorem Err_same (k : Int) (w : World) (het : tld.EtIs w) : Calls Tryd.prog 11 #[errv k, .int .i64 k] w fun e w' => e = .returned (.bool true) ∧ Below w.heap.size w w' :=
  (Error_err k k w het).mono fun _ _ h => ⟨h.1.trans (by simp), h.2⟩

/-! ### the closed fact -/
theorem tfact1 : Gr.code (3 : Int) [(2, 0), (0, 1)] = 0 := by kernel_rfl
theorem below2 {P : Nat → Prop} (h0 : P 0) (h1 : P 1) : ∀ j : Nat, j < 2 → P j := fun j hj => by
  have : j = 0 ∨ j = 1 := by omega
  rcases this with rfl | rfl
  · exact h0
  · exact h1
theorem tfact2 : To.Step 3 [(2, 0), (0, 1)] [2, 0, 1] := by
  intro k hk
  have hk' : k < 3 := hk
  have : k = 0 ∨ k = 1 ∨ k = 2 := by omega
  rcases this with rfl | rfl | rfl
  · exact ⟨2, by omega, rfl, by kernel_rfl, below2 (by kernel_rfl) (by kernel_rfl)⟩
  · exact ⟨0, by omega, rfl, by kernel_rfl, fun j hj => by omega⟩
  · exact ⟨1, by omega, rfl, by kernel_rfl, fun j hj => by
      obtain rfl : j = 0 := by omega
      kernel_rfl⟩
theorem tfact3 : To.deps 3 [(2, 0), (0, 1)] = [1, 2, 0] := by kernel_rfl
theorem tfact4 : Gr.code (2 : Int) [(0, 1), (1, 0)] = 0 := by kernel_rfl
theorem tfact5 : To.Stuck 2 [(0, 1), (1, 0)] [] := below2 (P := fun j : Nat => To.freeAt [(0, 1), (1, 0)] [] (j : Int) = false) (by kernel_rfl) (by kernel_rfl)

theorem Order_f3 (A : Option Addr) (c : Nat) (w : World) (hr : RdP w w.heap.size A 2 c [(2, 0), (0, 1)]) :
    Calls Tryd.prog 10 #[.int .i64 3, .slice A 2 c] w fun e w' => ∃ A1 c1, e = .returned (.tuple #[.slice A1 3 c1, .nilIface]) ∧ Rd w' w'.heap.size A1 3 c1 [2, 0, 1] ∧ Below w.heap.size w w' := Order_yes 3 A 2 c _ _ w hr tfact1 tfact2 rfl
theorem Deep_f3 (A : Option Addr) (c : Nat) (w : World) (hr : RdP w w.heap.size A 2 c [(2, 0), (0, 1)]) :
    Calls Tryd.prog 13 #[.int .i64 3, .slice A 2 c] w fun e w' => ∃ A1 c1, e = .returned (.tuple #[.slice A1 3 c1, .nilIface]) ∧ Rd w' w'.heap.size A1 3 c1 [1, 2, 0] ∧ Below w.heap.size w w' := by
  have := Deep_yes 3 A 2 c _ _ w hr tfact1 tfact2 rfl
  rw [tfact3] at this
  exact this
theorem Order_f2 (A : Option Addr) (c : Nat) (w : World) (hr : RdP w w.heap.size A 2 c [(0, 1), (1, 0)]) :
    Calls Tryd.prog 10 #[.int .i64 2, .slice A 2 c] w fun e w' => e = .returned (.tuple #[.slice none 0 0, errv 5]) ∧ Below w.heap.size w w' := Order_bad 2 A 2 c _ [] w hr tfact4 (To.Step.nil _ _) tfact5 (by decide)

set_option maxRecDepth 100000 in
set_option maxHeartbeats 2000000 in
theorem topoFact_any (w : World) (het : tld.EtIs w) : Calls Tryd.prog 14 #[] w fun e w' => e = .returned (.bool true) ∧ Below w.heap.size w w' := by
  obtain ⟨x0, hx0⟩ : ∃ x0, x0 = w.alloc (.cells #[.int .i64 2, .int .i64 0, .int .i64 0, .int .i64 1] 41) := ⟨_, rfl⟩
  have hb0 : Below w.heap.size w x0 := by rw [hx0]; exact (Below.refl _ _).alloc (Nat.le_refl _) _
  have hr0 : RdP x0 x0.heap.size (some ⟨w.heap.size, 0, none⟩) 2 2 [(2, 0), (0, 1)] := by rw [hx0]; exact (RdP.newTwo w _ 2 0 0 1).more (by simp)
  have HX0 := Lib.hid hx0
  clear hx0
  go_enter Tryd.func14, Tryd.ntmps14
  go_wp2_with fail
  rw [← HX0.out]
  clear HX0
  refine (Order_f3 _ _ _ hr0).mono ?_
  rintro e w1 ⟨A1, c1, rfl, hrd1, hb1⟩
  have hb01 := hb0.trans (hb1.mono hb0.size)
  clear hr0 hb0 hb1
  obtain ⟨x1, hx1⟩ : ∃ x1, x1 = w1.alloc (.cells #[.int .i64 2, .int .i64 0, .int .i64 0, .int .i64 1] 41) := ⟨_, rfl⟩
  have hbx : Below w1.heap.size w1 x1 := by rw [hx1]; exact (Below.refl _ _).alloc (Nat.le_refl _) _
  have hr1 : RdP x1 x1.heap.size (some ⟨w1.heap.size, 0, none⟩) 2 2 [(2, 0), (0, 1)] := by rw [hx1]; exact (RdP.newTwo w1 _ 2 0 0 1).more (by simp)
  have HX1 := Lib.hid hx1
  clear hx1
  go_wp2_with fail
  rw [← HX1.out]
  clear HX1
  refine (Deep_f3 _ _ _ hr1).mono ?_
  rintro e w2 ⟨A2, c2, rfl, hrd2, hb2⟩
  have hbw := hbx.trans (hb2.mono hbx.size)
  have hb02 := hb01.trans (hbw.mono hb01.size)
  have hrd1 := hrd1.past hbw
  clear hr1 hbx hb2 hb01 hbw
  obtain ⟨x2, hx2⟩ : ∃ x2, x2 = w2.alloc (.cells #[.int .i64 0, .int .i64 1, .int .i64 1, .int .i64 0] 41) := ⟨_, rfl⟩
  have hbx : Below w2.heap.size w2 x2 := by rw [hx2]; exact (Below.refl _ _).alloc (Nat.le_refl _) _
  have hr2 : RdP x2 x2.heap.size (some ⟨w2.heap.size, 0, none⟩) 2 2 [(0, 1), (1, 0)] := by rw [hx2]; exact (RdP.newTwo w2 _ 0 1 1 0).more (by simp)
  have HX2 := Lib.hid hx2
  clear hx2
  go_wp2_with fail
  rw [← HX2.out]
  clear HX2
  refine (Order_f2 _ _ _ hr2).mono ?_
  rintro e w3 ⟨rfl, hb3⟩
  have hbw := hbx.trans (hb3.mono hbx.size)
  have hb03 := hb02.trans (hbw.mono hb02.size)
  have hrd1 := hrd1.past hbw
  have hrd2 := hrd2.past hbw
  clear hr2 hbx hb3 hb02 hbw
  have HET : Hid (tld.EtIs w3) := het.below hb03
  go_wp2_with fail
  refine (Err_same 5 _ HET.out).mono ?_
  rintro e w4 ⟨rfl, hb4⟩
  have hb04 := hb03.trans (hb4.mono hb03.size)
  have hrd1 := hrd1.past hb4
  have hrd2 := hrd2.past hb4
  clear hb4 hb03
  obtain ⟨x4, hx4⟩ : ∃ x4, x4 = w4.alloc (.cells #[.int .i64 2, .int .i64 0, .int .i64 1] 3) := ⟨_, rfl⟩
  have hbx : Below w4.heap.size w4 x4 := by rw [hx4]; exact (Below.refl _ _).alloc (Nat.le_refl _) _
  have hr4 : Rd x4 x4.heap.size (some ⟨w4.heap.size, 0, none⟩) 3 3 [2, 0, 1] := by rw [hx4]; exact (Rd.new w4 [2, 0, 1] _ 3 rfl (by omega)).more (by simp)
  have HX4 := Lib.hid hx4
  clear hx4
  go_wp2_with fail
  rw [← HX4.out]
  clear HX4
  refine (Ints_t _ _ 3 3 _ 3 [2, 0, 1] [2, 0, 1] true _ (hrd1.past hbx) hr4 (by decide)).mono ?_
  rintro e w5 ⟨rfl, hb5⟩
  have hbw := hbx.trans (hb5.mono hbx.size)
  have hb05 := hb04.trans (hbw.mono hb04.size)
  have hrd2 := hrd2.past hbw
  clear hr4 hbx hb5 hb04 hbw hrd1
  obtain ⟨x5, hx5⟩ : ∃ x5, x5 = w5.alloc (.cells #[.int .i64 1, .int .i64 2, .int .i64 0] 3) := ⟨_, rfl⟩
  have hbx : Below w5.heap.size w5 x5 := by rw [hx5]; exact (Below.refl _ _).alloc (Nat.le_refl _) _
  have hr5 : Rd x5 x5.heap.size (some ⟨w5.heap.size, 0, none⟩) 3 3 [1, 2, 0] := by rw [hx5]; exact (Rd.new w5 [1, 2, 0] _ 3 rfl (by omega)).more (by simp)
  have HX5 := Lib.hid hx5
  clear hx5
  go_wp2_with fail
  rw [← HX5.out]
  clear HX5
  refine (Ints_t _ _ 3 3 _ 3 [1, 2, 0] [1, 2, 0] true _ (hrd2.past hbx) hr5 (by decide)).mono ?_
  rintro e w6 ⟨rfl, hb6⟩
  go_wp2
  go_ret
  exact ⟨rfl, hb05.trans ((hbx.trans (hb6.mono hbx.size)).mono hb05.size)⟩

end Go.Proofs.YtfemjailphcnhaaDoor
