/-
  The contract of the reference's All, where one number does not lie there.
-/
import Derived.Test.YtnekbgeablhgiaaDoorRefL
namespace Go.Proofs.YtnekbgeablhgiaaDoor
open Go.RowKit

set_option linter.unusedSimpArgs false
set_option linter.unusedVariables false

theorem all_take {l : List Int} {k : Nat} (hk : k < l.length) {P : Int → Prop} (h : ∀ d ∈ l.take k, P d) (hp : P (l.getD k 0)) : ∀ d ∈ l.take (k + 1), P d := by
  intro d hd
  rw [List.take_succ_eq_append_getElem hk] at hd
  rcases List.mem_append.1 hd with h1 | h1
  · exact h d h1
  · obtain rfl : d = l[k] := by simpa using h1
    have : l.getD k 0 = l[k] := by simp [List.getD, hk]
    rw [← this]
    exact hp
set_option maxHeartbeats 400000 in
/-- All, where not all lie there -/
theorem All_no {B : Nat} (A : Option Addr) (n c : Nat) (l : List Int) (a b : Int) (w : World) (hr : Rd w B A n c l) (h : ¬ ∀ d ∈ l, a ≤ d ∧ d ≤ b) :
    Calls Tryd.prog 9 #[.slice A n c, .int .i64 a, .int .i64 b] w fun e w' => e = .returned (.bool false) ∧ w = w' := by
  have HX := Lib.hid hr.len
  have H := Lib.hid h
  clear h
  have hbig := hr.big
  go_enter Tryd.func9, Tryd.ntmps9
  go_wp2
  go_loop [7] (fun i => ∃ k : Nat, k ≤ n ∧ i = .int .i64 k ∧ Hid (∀ d ∈ l.take k, a ≤ d ∧ d ≤ b)) (fun i => n - (intOf i).toNat)
  case atStart => exact ⟨0, Nat.zero_le _, rfl, by show ∀ d ∈ _, _; simp⟩
  case round =>
    obtain ⟨k, hk, rfl, HT⟩ := hrel
    by_cases hlt : k < n
    · obtain ⟨b1, o1, rfl, hb1, hc1⟩ := hr.at_ (by omega)
      have g1 := hc1 k hlt
      clear hc1
      have hkl : Hid (k < l.length) := by show _ < _; rw [HX.out]; exact hlt
      obtain ⟨p, hp⟩ : ∃ p, p = l.getD k 0 := ⟨_, rfl⟩
      rw [← hp] at g1
      have HP := Lib.hid hp
      clear hp
      by_cases hin : a ≤ p ∧ p ≤ b
      · obtain ⟨i1, i2⟩ := hin
        have hnext : Hid (∀ d ∈ l.take (k + 1), a ≤ d ∧ d ≤ b) := all_take hkl.out HT.out (by rw [← HP.out]; exact ⟨i1, i2⟩)
        go_wp2_with fail
        refine (RefL.in_yes p a b _ i1 i2).mono ?_
        rintro e y ⟨rfl, rfl⟩
        go_wp2
        go_round
        case rel => exact ⟨k + 1, by omega, by go_num, hnext⟩
        case measure => simp [intOf]; omega
      · go_wp2_with fail
        refine (RefL.in_no p a b _ (by omega)).mono ?_
        rintro e y ⟨rfl, rfl⟩
        go_wp2
        go_ret
        exact ⟨rfl, rfl⟩
    · exfalso
      have := HT.out
      rw [List.take_of_length_le (by rw [HX.out]; omega)] at this
      exact H.out this

end Go.Proofs.YtnekbgeablhgiaaDoor
