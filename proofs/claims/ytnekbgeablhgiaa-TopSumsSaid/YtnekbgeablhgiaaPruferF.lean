/-
  The contracts of Write and Read of package prufer, whole; the closed fact of the laws on it, reckoned on four points. No condition.
-/
import Derived.Test.YtnekbgeablhgiaaPruferC
import Derived.Test.YtnekbgeablhgiaaPruferE
import Derived.Test.YtnekbgeablhgiaaGraphE
import Derived.Test.YtnekbgeablhgiaaNewLines
namespace Go.Proofs.Ytnekbgeablhgiaa
open Go.RowKit

set_option linter.unusedSimpArgs false
set_option linter.unusedVariables false

/-- what is wrong with a tree that is to be written, as a number -/
def Pf.wcode (n : Int) (ls : List Gr.Ln) : Int := if Tr.tcode n ls ≠ 0 then Tr.tcode n ls else if n = 1 then 5 else 0
theorem Pf.wcode_zero {n : Int} {ls : List Gr.Ln} : Pf.wcode n ls = 0 ↔ Tr.tcode n ls = 0 ∧ n ≠ 1 := by
  unfold Pf.wcode
  by_cases h : Tr.tcode n ls = 0
  · rw [if_neg (by simpa using h)]
    by_cases h1 : n = 1
    · rw [if_pos h1]; exact ⟨fun e => by omega, fun e => absurd h1 e.2⟩
    · rw [if_neg h1]; exact ⟨fun _ => ⟨h, h1⟩, fun _ => rfl⟩
  · rw [if_pos h]; exact ⟨fun e => absurd e h, fun e => absurd e.1 h⟩
theorem Pf.wcode_tree {n : Int} {ls : List Gr.Ln} (h : Pf.wcode n ls = 0) : ∃ m : Nat, n = (m : Int) ∧ 2 ≤ m ∧ m ≤ 8 ∧ Tr.tcode (m : Int) ls = 0 ∧ Tr.Tree m ls := by
  obtain ⟨h1, h2⟩ := Pf.wcode_zero.1 h
  have hg : Gr.code n ls = 0 := by
    refine Classical.byContradiction fun hne => ?_
    have := h1
    unfold Tr.tcode at this
    rw [if_pos hne] at this
    exact hne this
  obtain ⟨g1, g2, _⟩ := Gr.code_zero.1 hg
  obtain ⟨m, rfl⟩ : ∃ m : Nat, n = (m : Int) := ⟨n.toNat, by omega⟩
  exact ⟨m, rfl, by omega, by omega, h1, (Tr.tcode_zero.1 h1).2⟩

theorem Write_bad (n : Int) (A : Option Addr) (k c : Nat) (ls : List Gr.Ln) (w : World) (hr : RdP w w.heap.size A k c ls) (h : Pf.wcode n ls ≠ 0) :
    Calls Try.prog 8 #[.int .i64 n, .slice A k c] w fun e w' => e = .returned (.tuple #[.slice none 0 0, errv (Pf.wcode n ls)]) ∧ Below w.heap.size w w' := by
  by_cases h0 : Tr.tcode n ls = 0
  · have h1 : n = 1 := Classical.byContradiction fun h1 => h (Pf.wcode_zero.2 ⟨h0, h1⟩)
    subst h1
    have e : Pf.wcode 1 ls = 5 := by unfold Pf.wcode; rw [if_neg (by simpa using h0), if_pos rfl]
    rw [e]
    exact Write_one A k c ls w hr h0
  · have e : Pf.wcode n ls = Tr.tcode n ls := by unfold Pf.wcode; rw [if_pos h0]
    rw [e]
    exact Write_code n A k c ls w hr h0
theorem Read_bad (A : Option Addr) (n c : Nat) (row : List Int) (w : World) (hr : Rd w w.heap.size A n c row) (h : Pf.rcode row ≠ 0) :
    Calls Try.prog 7 #[.slice A n c] w fun e w' => e = .returned (.tuple #[.slice none 0 0, errv (Pf.rcode row)]) ∧ Below w.heap.size w w' := by
  have hl := hr.len
  by_cases h6 : 6 < n
  · rw [Pf.rcode_full (by omega)]
    exact Read_full A n c row w hr h6
  · have hb : ¬ Pf.okr row := fun hok => h (Pf.rcode_zero.2 ⟨by omega, hok⟩)
    rw [Pf.rcode_bad (by omega) hb]
    exact Read_range A n c row w hr (by omega) hb
theorem Read_yes (A : Option Addr) (n c : Nat) (row : List Int) (w : World) (hr : Rd w w.heap.size A n c row) (h : Pf.rcode row = 0) :
    Calls Try.prog 7 #[.slice A n c] w fun e w' => ∃ A1 c1, e = .returned (.tuple #[.slice A1 (n + 1) c1, .nilIface]) ∧ RdP w' w'.heap.size A1 (n + 1) c1 (Pf.rdL (Pf.nrow row)) ∧ Below w.heap.size w w' := by
  obtain ⟨h1, h2⟩ := Pf.rcode_zero.1 h
  have hl := hr.len
  exact callsIn_wide.1 (Read_in A n c row w hr (by omega) h2)
theorem upN_nrow {row : List Int} (h : Pf.okr row) : upN (Pf.nrow row) = row := by
  unfold upN Pf.nrow
  rw [List.map_map]
  refine (List.map_congr_left fun x hx => ?_).trans (List.map_id _)
  have := (h x hx).1
  show ((x.toNat : Nat) : Int) = x
  omega
theorem nrow_upN (xs : List Nat) : Pf.nrow (upN xs) = xs := by
  unfold upN Pf.nrow
  rw [List.map_map]
  exact (List.map_congr_left fun x _ => Int.toNat_natCast x).trans (List.map_id _)
theorem upN_len (xs : List Nat) : (upN xs).length = xs.length := by simp [upN]

theorem pfact1 : Tr.tcode (4 : Int) [(0, 1), (1, 2), (2, 3)] = 0 := by kernel_rfl
theorem pfact2 : upN (Pf.wr 4 [(0, 1), (1, 2), (2, 3)]) = [1, 2] := by kernel_rfl
theorem pfact3 : Pf.rcode [1, 2] = 0 := by kernel_rfl
theorem pfact4 : Pf.rdL (Pf.nrow [1, 2]) = [(0, 1), (1, 2), (2, 3)] := by kernel_rfl
theorem Write_f (A : Option Addr) (c : Nat) (w : World) (hr : RdP w w.heap.size A 3 c [(0, 1), (1, 2), (2, 3)]) :
    Calls Try.prog 8 #[.int .i64 4, .slice A 3 c] w fun e w' => ∃ A1 c1, e = .returned (.tuple #[.slice A1 2 c1, .nilIface]) ∧ Rd w' w'.heap.size A1 2 c1 [1, 2] ∧ Below w.heap.size w w' := by
  refine (Write_yes 4 A 3 c _ w hr pfact1 (by omega)).mono ?_
  rintro e w1 ⟨A1, c1, rfl, hrd, hb⟩
  rw [pfact2] at hrd
  exact ⟨A1, c1, rfl, hrd, hb⟩
theorem Read_f (A : Option Addr) (c : Nat) (w : World) (hr : Rd w w.heap.size A 2 c [1, 2]) :
    Calls Try.prog 7 #[.slice A 2 c] w fun e w' => ∃ A1 c1, e = .returned (.tuple #[.slice A1 3 c1, .nilIface]) ∧ RdP w' w'.heap.size A1 3 c1 [(0, 1), (1, 2), (2, 3)] ∧ Below w.heap.size w w' := by
  refine (Read_yes A 2 c _ w hr pfact3).mono ?_
  rintro e w1 ⟨A1, c1, rfl, hrd, hb⟩
  rw [pfact4] at hrd
  exact ⟨A1, c1, rfl, hrd, hb⟩

set_option maxRecDepth 100000 in
set_option maxHeartbeats 2000000 in
theorem pruferFact_any (w : World) : Calls Try.prog 6 #[] w fun e w' => e = .returned (.bool true) ∧ Below w.heap.size w w' := by
  obtain ⟨x0, hx0⟩ : ∃ x0, x0 = w.alloc (.cells #[.int .i64 0, .int .i64 1, .int .i64 1, .int .i64 2, .int .i64 2, .int .i64 3] 35) := ⟨_, rfl⟩
  have hb0 : Below w.heap.size w x0 := by rw [hx0]; exact (Below.refl _ _).alloc (Nat.le_refl _) _
  have hr0 : RdP x0 x0.heap.size (some ⟨w.heap.size, 0, none⟩) 3 3 [(0, 1), (1, 2), (2, 3)] := by rw [hx0]; exact (RdP.newThree w _ 0 1 1 2 2 3).more (by simp)
  have HX0 := Lib.hid hx0
  clear hx0
  go_enter Try.func6, Try.ntmps6
  go_wp2_with fail
  rw [← HX0.out]
  clear HX0
  refine (Write_f _ _ _ hr0).mono ?_
  rintro e w1 ⟨A1, c1, rfl, hrd1, hb1⟩
  have hb01 := hb0.trans (hb1.mono hb0.size)
  clear hr0 hb0 hb1
  obtain ⟨x1, hx1⟩ : ∃ x1, x1 = w1.alloc (.cells #[.int .i64 1, .int .i64 2] 3) := ⟨_, rfl⟩
  have hbx1 : Below w1.heap.size w1 x1 := by rw [hx1]; exact (Below.refl _ _).alloc (Nat.le_refl _) _
  have hr1 : Rd x1 x1.heap.size (some ⟨w1.heap.size, 0, none⟩) 2 2 [1, 2] := by rw [hx1]; exact (Rd.new w1 [1, 2] _ 2 rfl (by omega)).more (by simp)
  have HX1 := Lib.hid hx1
  clear hx1
  go_wp2_with fail
  rw [← HX1.out]
  clear HX1
  refine (Read_f _ _ _ hr1).mono ?_
  rintro e w2 ⟨A2, c2, rfl, hrd2, hb2⟩
  have hb02 := hb01.trans ((hbx1.trans (hb2.mono hbx1.size)).mono hb01.size)
  have hrd1 := (hrd1.past hbx1).past hb2
  clear hr1 hb01 hb2 hbx1
  obtain ⟨x3, hx3⟩ : ∃ x3, x3 = w2.alloc (.cells #[.int .i64 1, .int .i64 2] 3) := ⟨_, rfl⟩
  have hbx : Below w2.heap.size w2 x3 := by rw [hx3]; exact (Below.refl _ _).alloc (Nat.le_refl _) _
  have hr3 : Rd x3 x3.heap.size (some ⟨w2.heap.size, 0, none⟩) 2 2 [1, 2] := by rw [hx3]; exact (Rd.new w2 [1, 2] _ 2 rfl (by omega)).more (by simp)
  have HX3 := Lib.hid hx3
  clear hx3
  go_wp2_with fail
  rw [← HX3.out]
  clear HX3
  refine (Ints_t _ _ 2 2 _ 2 _ _ true _ (hrd1.past hbx) hr3 (by decide)).mono ?_
  rintro e w4 ⟨rfl, hb4⟩
  have hb04 := hb02.trans ((hbx.trans (hb4.mono hbx.size)).mono hb02.size)
  have hrd4 := (hrd2.past hbx).past hb4
  clear hrd1 hrd2 hr3 hbx hb4 hb02
  obtain ⟨x5, hx5⟩ : ∃ x5, x5 = w4.alloc (.cells #[.int .i64 0, .int .i64 1, .int .i64 1, .int .i64 2, .int .i64 2, .int .i64 3] 35) := ⟨_, rfl⟩
  have hb5 : Below w4.heap.size w4 x5 := by rw [hx5]; exact (Below.refl _ _).alloc (Nat.le_refl _) _
  have hr5 : RdP x5 x5.heap.size (some ⟨w4.heap.size, 0, none⟩) 3 3 [(0, 1), (1, 2), (2, 3)] := by rw [hx5]; exact (RdP.newThree w4 _ 0 1 1 2 2 3).more (by simp)
  have HX5 := Lib.hid hx5
  clear hx5
  go_wp2_with fail
  rw [← HX5.out]
  clear HX5
  refine (Lines_any _ _ 3 3 _ 3 _ _ true _ (hrd4.past hb5) hr5 (by decide)).mono ?_
  rintro e w6 ⟨rfl, hb6⟩
  go_wp2
  go_ret
  exact ⟨rfl, hb04.trans ((hb5.trans (hb6.mono hb5.size)).mono hb04.size)⟩

end Go.Proofs.Ytnekbgeablhgiaa
