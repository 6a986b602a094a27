/-
  The test 'in' of the laws on trees.
-/
import Derived.Test.YtojkjdccjomaaaaDoorBase
namespace Go.Proofs.YtojkjdccjomaaaaDoor
open Go.RowKit

theorem in3_yes (n a b : Int) (w : World) (h1 : a ≤ n) (h2 : n ≤ b) :
    Calls Tryd.prog 5 #[.int .i64 n, .int .i64 a, .int .i64 b] w fun e w' => e = .returned (.bool true) ∧ w = w' := by
  go_enter Tryd.func5, Tryd.ntmps5
  go_wp2
  go_ret
  exact ⟨rfl, rfl⟩
theorem in3_no (n a b : Int) (w : World) (h : n < a ∨ b < n) :
    Calls Tryd.prog 5 #[.int .i64 n, .int .i64 a, .int .i64 b] w fun e w' => e = .returned (.bool false) ∧ w = w' := by
  by_cases ha : n < a
  · go_enter Tryd.func5, Tryd.ntmps5
    go_wp2
    go_ret
    exact ⟨rfl, rfl⟩
  · have h1 : a ≤ n := by omega
    have hd : decide (n ≤ b) = false := by simp; omega
    clear h ha
    go_enter Tryd.func5, Tryd.ntmps5
    go_wp2
    go_ret
    exact ⟨rfl, rfl⟩

end Go.Proofs.YtojkjdccjomaaaaDoor
