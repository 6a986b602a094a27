/-
  The contract of the reference's All: whether all numbers lie between two bounds.
-/
import Derived.Test.YtnekbgeablhgiaaDoorRefL
namespace Go.Proofs.YtnekbgeablhgiaaDoor
open Go.RowKit

set_option linter.unusedSimpArgs false
set_option linter.unusedVariables false

set_option maxHeartbeats 400000 in
/-- All, where all lie there -/
theorem All_in (A : Option Addr) (n c : Nat) (l : List Int) (a b : Int) (w : World) (hr : Rd w w.heap.size A n c l) (h : ∀ d ∈ l, a ≤ d ∧ d ≤ b) :
    Calls Tryd.prog 9 #[.slice A n c, .int .i64 a, .int .i64 b] w fun e w' => e = .returned (.bool true) ∧ w = w' := by
  have HX := Lib.hid hr.len
  have H := Lib.hid h
  clear h
  have hbig := hr.big
  go_enter Tryd.func9, Tryd.ntmps9
  go_wp2
  go_loop [7] (fun i => ∃ k : Nat, k ≤ n ∧ i = .int .i64 k) (fun i => n - (intOf i).toNat)
  case atStart => exact ⟨0, Nat.zero_le _, rfl⟩
  case round =>
    obtain ⟨k, hk, rfl⟩ := hrel
    by_cases hlt : k < n
    · obtain ⟨b1, o1, rfl, hb1, hc1⟩ := hr.at_ (by omega)
      have g1 := hc1 k hlt
      have hb := Lib.hid (H.out (l.getD k 0) (by simp [List.getD, show k < l.length by rw [HX.out]; exact hlt]))
      clear hc1
      generalize l.getD k 0 = p at g1 hb
      go_wp2_with fail
      refine (RefL.in_yes p a b _ hb.out.1 hb.out.2).mono ?_
      rintro e y ⟨rfl, rfl⟩
      go_wp2
      go_round
      case rel => exact ⟨k + 1, by omega, by go_num⟩
      case measure => simp [intOf]; omega
    · obtain rfl : k = n := by omega
      go_wp2
      go_ret
      exact ⟨rfl, rfl⟩

end Go.Proofs.YtnekbgeablhgiaaDoor
