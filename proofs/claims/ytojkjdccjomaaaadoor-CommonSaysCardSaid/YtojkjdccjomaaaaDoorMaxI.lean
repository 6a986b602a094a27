/-
  The greatest and the least of some numbers: slices.Max and slices.Min at []int, by their own text. No statement of the program is proved here; there is no condition.
-/
import Derived.Test.YtojkjdccjomaaaaDoorBase
namespace Go.Proofs.YtojkjdccjomaaaaDoor
open Go.RowKit
set_option linter.unusedSimpArgs false
set_option linter.unusedVariables false

theorem run_max2 (x p : Int) (ats : Array TypeId) (ty : TypeId) (W : World) : (Builtin.max_ ats ty #[.int .i64 x, .int .i64 p]).run Tryd.prog W = .ok (.int .i64 (max x p)) W := by
  by_cases h1 : x < p
  · have e1 : max x p = p := by omega
    simp [Builtin.max_, Builtin.max2, h1, e1]
  · have e1 : max x p = x := by omega
    simp [Builtin.max_, Builtin.max2, h1, e1]
theorem run_min2 (x p : Int) (ats : Array TypeId) (ty : TypeId) (W : World) : (Builtin.min_ ats ty #[.int .i64 x, .int .i64 p]).run Tryd.prog W = .ok (.int .i64 (min x p)) W := by
  by_cases h1 : x < p
  · have e1 : min x p = x := by omega
    simp [Builtin.min_, Builtin.min2, h1, e1]
    omega
  · have e1 : min x p = p := by omega
    simp [Builtin.min_, Builtin.min2, h1, e1]
    omega

set_option maxHeartbeats 400000 in
theorem Max_any (A : Option Addr) (n c : Nat) (zs : List Int) (w : World) (hr : Rd w w.heap.size A n c zs) (hn : 1 ≤ n) :
    Calls Tryd.prog 27 #[.slice A n c] w fun e w' => ∃ d : Int, e = .returned (.int .i64 d) ∧ (∃ i, i < n ∧ zs.getD i 0 = d) ∧ (∀ i, i < n → zs.getD i 0 ≤ d) ∧ w = w' := by
  have hbig := hr.big
  obtain ⟨b, o, rfl, hb, hc⟩ := hr.at_ (by omega)
  have g0 := hc 0 (by omega)
  rw [Nat.add_zero] at g0
  obtain ⟨z0, hz0⟩ : ∃ z0, z0 = zs.getD 0 0 := ⟨_, rfl⟩
  rw [← hz0] at g0
  have H0 : Hid ((∃ i, i < n ∧ zs.getD i 0 = z0) ∧ ∀ i, i < 1 → zs.getD i 0 ≤ z0) := ⟨⟨0, by omega, hz0.symm⟩, fun i hi => by
    obtain rfl : i = 0 := by omega
    omega⟩
  have HC := Lib.hid hc
  clear hc hz0
  go_enter Tryd.func27, Tryd.ntmps27
  go_wp2
  go_loopw [3, 4] (fun dv iv wr => ∃ (i : Nat) (d : Int), 1 ≤ i ∧ i ≤ n ∧ iv = .int .i64 (i : Int) ∧ dv = .int .i64 d ∧ Hid ((∃ j, j < n ∧ zs.getD j 0 = d) ∧ ∀ j, j < i → zs.getD j 0 ≤ d) ∧ w = wr) (fun _ iv _ => n - (intOf iv).toNat)
  case atStart => exact ⟨1, z0, Nat.le_refl _, hn, rfl, rfl, H0, rfl⟩
  case round =>
    clear H0 g0
    obtain ⟨i, d, hi1, hin, rfl, rfl, H, rfl⟩ := hrel
    by_cases hlt : i < n
    · have g := HC.out i hlt
      obtain ⟨x, hx⟩ : ∃ x, x = zs.getD i 0 := ⟨_, rfl⟩
      rw [← hx] at g
      obtain ⟨z, hz⟩ : ∃ z, z = max d x := ⟨_, rfl⟩
      have hmx : ∀ ats ty W, (Builtin.max_ ats ty #[.int .i64 d, .int .i64 x]).run Tryd.prog W = .ok (.int .i64 z) W := fun ats ty W => by rw [hz]; exact run_max2 d x ats ty W
      have HN : Hid ((∃ j, j < n ∧ zs.getD j 0 = z) ∧ ∀ j, j < i + 1 → zs.getD j 0 ≤ z) := by
        obtain ⟨⟨j, hj, e⟩, h2⟩ := H.out
        refine ⟨?_, fun k hk => ?_⟩
        · rcases Int.le_total d x with hl | hl
          · exact ⟨i, hlt, by omega⟩
          · exact ⟨j, hj, by omega⟩
        · rcases Nat.lt_or_ge k i with hl | hl
          · have := h2 k hl; omega
          · obtain rfl : k = i := by omega
            omega
      have i1 : (0 : Int) ≤ (i : Int) := by omega
      have i2 : (i : Int) < (n : Int) := by omega
      clear hx hz H
      go_wp2
      go_roundw
      case rel => exact ⟨i + 1, z, by omega, by omega, by go_num, rfl, HN, trivial⟩
      case measure => simp [intOf]; omega
    · obtain rfl : i = n := by omega
      go_wp2
      go_ret
      exact ⟨d, rfl, H.out.1, H.out.2, rfl⟩

end Go.Proofs.YtojkjdccjomaaaaDoor
