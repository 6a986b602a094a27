/-
  The closed fact of the laws on package match, and the contract of Misses (how many marks are not set).
-/
import Derived.Test.YtbegepdeaeplgaaMatchC
import Derived.Test.YtbegepdeaeplgaaGraphE
namespace Go.Proofs.Ytbegepdeaeplgaa
open Go.RowKit Go.Shelf

set_option linter.unusedSimpArgs false
set_option linter.unusedVariables false

theorem Ma.rd2 (w : World) (t : TypeId) (p q r s : Int) : RdP (w.alloc (.cells #[.int .i64 p, .int .i64 q, .int .i64 r, .int .i64 s] t)) (w.heap.size + 1) (some ⟨w.heap.size, 0, none⟩) 2 2 [(p, q), (r, s)] := by
  refine ⟨rfl, Nat.le_refl _, by omega, fun h => (by cases h), fun _ => ⟨w.heap.size, 0, rfl, by omega, fun k hk => ?_⟩⟩
  have : k = 0 ∨ k = 1 := by omega
  rcases this with rfl | rfl <;> simp

theorem Ma.fact1 : Ma.code ((2 : Nat) : Int) ((1 : Nat) : Int) [(0, 0), (1, 0)] = 0 := by decide
theorem Ma.fact2 : Ma.nu (Ma.gl [(0, 0), (1, 0)]) 2 1 = 1 := by decide
theorem Ma.fact3 : Ma.cvl [(0, 0), (1, 0)] 2 1 2 = [] := by decide
theorem Ma.fact4 : Ma.cvr [(0, 0), (1, 0)] 2 1 1 = [0] := by decide

theorem Most_f (A : Option Addr) (c : Nat) (w : World) (hr : RdP w w.heap.size A 2 c [(0, 0), (1, 0)]) :
    Calls Try.prog 8 #[.int .i64 2, .int .i64 1, .slice A 2 c] w fun e w' => e = .returned (.tuple #[.int .i64 1, .nilIface]) ∧ Below w.heap.size w w' := by
  have := Most_ok 2 1 A 2 c [(0, 0), (1, 0)] w hr Ma.fact1
  rw [Ma.fact2] at this
  exact this
theorem Cover_f (A : Option Addr) (c : Nat) (w : World) (hr : RdP w w.heap.size A 2 c [(0, 0), (1, 0)]) :
    Calls Try.prog 9 #[.int .i64 2, .int .i64 1, .slice A 2 c] w fun e w' => ∃ A1 c1 A2 c2, e = .returned (.tuple #[.slice A1 0 c1, .slice A2 1 c2, .nilIface]) ∧ Rd w' w'.heap.size A1 0 c1 [] ∧ Rd w' w'.heap.size A2 1 c2 [0] ∧ Below w.heap.size w w' := by
  refine (Cover_ok 2 1 A 2 c [(0, 0), (1, 0)] w hr Ma.fact1).mono ?_
  rintro e w1 ⟨hb, v1, v2, rfl, h1, h2⟩
  rw [Ma.fact3] at h1
  rw [Ma.fact4] at h2
  obtain ⟨A1, c1, rfl, r1⟩ := h1.rd
  obtain ⟨A2, c2, rfl, r2⟩ := h2.rd
  exact ⟨A1, c1, A2, c2, rfl, r1, r2, hb⟩

set_option maxRecDepth 100000 in
set_option maxHeartbeats 1000000 in
theorem matchFact_any (w : World) : Calls Try.prog 7 #[] w fun e w' => e = .returned (.bool true) ∧ Below w.heap.size w w' := by
  obtain ⟨x0, hx0⟩ : ∃ x0, x0 = w.alloc (.cells #[.int .i64 0, .int .i64 0, .int .i64 1, .int .i64 0] 35) := ⟨_, rfl⟩
  have hb0 : Below w.heap.size w x0 := by rw [hx0]; exact (Below.refl _ _).alloc (Nat.le_refl _) _
  have hr0 : RdP x0 x0.heap.size (some ⟨w.heap.size, 0, none⟩) 2 2 [(0, 0), (1, 0)] := by rw [hx0]; exact (Ma.rd2 w _ 0 0 1 0).more (by simp)
  have HX0 := Lib.hid hx0
  clear hx0
  go_enter Try.func7, Try.ntmps7
  go_wp2_with fail
  rw [← HX0.out]
  clear HX0
  refine (Most_f _ _ _ hr0).mono ?_
  rintro e w1 ⟨rfl, hb1⟩
  have hb01 := hb0.trans (hb1.mono hb0.size)
  go_wp2_with fail
  refine (Cover_f _ _ _ (hr0.past hb1)).mono ?_
  rintro e w2 ⟨A1, c1, A2, c2, rfl, r1, r2, hb2⟩
  have hb02 := hb01.trans (hb2.mono hb01.size)
  obtain ⟨x2, hx2⟩ : ∃ x2, x2 = w2.alloc (.cells #[.int .i64 0] 3) := ⟨_, rfl⟩
  have hbx2 : Below w2.heap.size w2 x2 := by rw [hx2]; exact (Below.refl _ _).alloc (Nat.le_refl _) _
  have hr2 : Rd x2 x2.heap.size (some ⟨w2.heap.size, 0, none⟩) 1 1 [0] := by rw [hx2]; exact (Rd.one w2 0 _).more (by simp)
  have HX2 := Lib.hid hx2
  clear hx2 hr0 hb0 hb1 hb2 hb01
  go_wp2_with fail
  rw [← HX2.out]
  clear HX2
  refine (Ints_t _ _ 1 1 _ 1 [0] [0] true _ (r2.past hbx2) hr2 (by decide)).mono ?_
  rintro e w4 ⟨rfl, hb4⟩
  go_wp2
  go_ret
  exact ⟨rfl, hb02.trans ((hbx2.trans (hb4.mono hbx2.size)).mono hb02.size)⟩

set_option maxHeartbeats 400000 in
theorem Misses_any (g m : Nat) (hm : m ≤ 6) (bs : List Bool) (w : World) (hS : SeenAt w g m bs) :
    Calls Try.prog 15 #[.slice (some ⟨g, 0, none⟩) m m] w fun e w' => e = .returned (.int .i64 ((bs.countP fun b => !b : Nat) : Int)) ∧ w = w' := by
  have HL := Lib.hid hS.len
  go_enter Try.func15, Try.ntmps15
  go_wp2
  go_loop [3, 4] (fun zv i => ∃ (k z : Nat), k ≤ m ∧ z ≤ k ∧ i = .int .i64 (k : Int) ∧ zv = .int .i64 (z : Int) ∧ Hid (z = (bs.take k).countP fun b => !b)) (fun _ i => m - (intOf i).toNat)
  case atStart => exact ⟨0, 0, Nat.zero_le _, Nat.le_refl _, rfl, rfl, by show _ = _; simp⟩
  case round =>
    obtain ⟨k, z, hk, hz, rfl, rfl, H⟩ := hrel
    by_cases hlt : k < m
    · have k1 : (0 : Int) ≤ (k : Int) := by omega
      have k2 : (k : Int) < (m : Int) := by omega
      have c1 := hS.cell hlt
      have hkl : k < bs.length := by rw [HL.out]; exact hlt
      have hstep : Hid ((bs.take (k + 1)).countP (fun b => !b) = z + if bs.getD k false = true then 0 else 1) := by
        show _ = _
        rw [List.take_succ_eq_append_getElem hkl, List.countP_append, ← H.out]
        simp only [List.getD, hkl, List.getElem?_eq_getElem, Option.getD_some]
        cases bs[k] <;> simp
      generalize bs.getD k false = t at c1 hstep
      cases t with
      | true =>
        go_wp2
        go_round
        case rel => exact ⟨k + 1, z, by omega, by omega, by go_num, rfl, by show _ = _; rw [hstep.out]; rfl⟩
        case measure => simp [intOf]; omega
      | false =>
        go_wp2
        go_round
        case rel => exact ⟨k + 1, z + 1, by omega, by omega, by go_num, by go_num, by show _ = _; rw [hstep.out]; rfl⟩
        case measure => simp [intOf]; omega
    · obtain rfl : k = m := by omega
      have hfin : Hid (z = bs.countP fun b => !b) := by
        show _ = _
        rw [H.out, List.take_of_length_le (by rw [HL.out]; exact Nat.le_refl _)]
      go_wp2
      go_ret
      exact ⟨by rw [← hfin.out]; rfl, rfl⟩

end Go.Proofs.Ytbegepdeaeplgaa
