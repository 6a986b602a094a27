/-
  Errors and their numbers: the laws' own comparison, at an error and its own number, and at none.
-/
import Derived.Test.YtojkjdccjomaaaaDoorTold
namespace Go.Proofs.YtojkjdccjomaaaaDoor
open Go.RowKit
set_option linter.unusedSimpArgs false
set_option linter.unusedVariables false

theorem Err_same (k : Int) (w : World) (het : tld.EtIs w) : Calls Tryd.prog 8 #[errv k, .int .i64 k] w fun e w' => e = .returned (.bool true) ∧ Below w.heap.size w w' :=
  (Error_err k k w het).mono fun _ _ h => ⟨h.1.trans (by simp), h.2⟩

theorem Err_none (w : World) : Calls Tryd.prog 8 #[.nilIface, .int .i64 0] w fun e w' => e = .returned (.bool true) ∧ w = w' :=
  (Error_nil 0 w).mono fun _ _ h => ⟨h.1.trans (by simp), h.2⟩

end Go.Proofs.YtojkjdccjomaaaaDoor
