/-
  A fact of the program's own: what the comparison says of two values of type [2]int.
-/
import Derived.Test.YtiafekjdefnifaaDoorLibP
import Derived.Laws.StructEq
import Derived.Laws.Cover2
import Derived.Test.YtiafekjdefnifaaDoorProg
import Derived.WalkKit
namespace Go.Proofs.YtiafekjdefnifaaDoor
open Go.RowKit

@[go_sem] theorem eqPair (a b c d : Int) (w : World) : (Op.equalIn 10000 30 (.agg #[.int .i64 a, .int .i64 b]) (.agg #[.int .i64 c, .int .i64 d])).run Tryd.prog w = .ok (a == c && b == d) w := by
  have u3 := Tryd.underlying3
  have a3 := Tryd.isAgg3
  have z3 := Tryd.sizeOf3
  rw [show (10000 : Nat) = 9999 + 1 from rfl, Op.equalIn]
  simp only [Sem.run_bind, run_underlying Tryd.underlying30, Result.andThen_ok]
  simp only [Std.Legacy.Range.forIn_eq_forIn_range', Std.Legacy.Range.size, Nat.sub_zero, Nat.add_sub_cancel, Nat.div_one, List.range'_succ, List.range'_zero, List.forIn_cons, List.forIn_nil]
  go_simp
  by_cases h1 : a = c <;> by_cases h2 : b = d <;> simp [h1, h2]

end Go.Proofs.YtiafekjdefnifaaDoor
