/-
  The test 'in' of the laws on trees.
-/
import Derived.Test.YtojkjdccjomaaaaBase
namespace Go.Proofs.Ytojkjdccjomaaaa
open Go.RowKit

theorem in3_yes (n a b : Int) (w : World) (h1 : a ≤ n) (h2 : n ≤ b) :
    Calls Try.prog 11 #[.int .i64 n, .int .i64 a, .int .i64 b] w fun e w' => e = .returned (.bool true) ∧ w = w' := by
  go_enter Try.func11, Try.ntmps11
  go_wp2
  go_ret
  exact ⟨rfl, rfl⟩
theorem in3_no (n a b : Int) (w : World) (h : n < a ∨ b < n) :
    Calls Try.prog 11 #[.int .i64 n, .int .i64 a, .int .i64 b] w fun e w' => e = .returned (.bool false) ∧ w = w' := by
  by_cases ha : n < a
  · go_enter Try.func11, Try.ntmps11
    go_wp2
    go_ret
    exact ⟨rfl, rfl⟩
  · have h1 : a ≤ n := by omega
    have hd : decide (n ≤ b) = false := by simp; omega
    clear h ha
    go_enter Try.func11, Try.ntmps11
    go_wp2
    go_ret
    exact ⟨rfl, rfl⟩

end Go.Proofs.Ytojkjdccjomaaaa
