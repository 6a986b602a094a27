/-
  The iterator that graph.pairs hands back, over either closure of the package: what it yields, for every loop body that keeps what the closure reads.
-/
import Derived.RangeFuncNested
import Derived.RangeFuncBound
import Derived.RangeFuncCalls
import Derived.RangeFuncLeaves
import Derived.RangeFuncBox
import Derived.Shelf.Abstract
import Derived.Shelf.RegionOpen
import Derived.WalkKit
import Derived.OwnWalkIn
import Derived.TacticsInMore
import Derived.LoopNIn
import Derived.LoopIn
import Derived.Maps.AppendAt
import Derived.Test.YthalopmplekdoaaDoorGraphC
namespace Go.Proofs.YthalopmplekdoaaDoor
open Go.RowKit Go.Shelf

attribute [local go_sem] Oper.semAt_some

/-- a pair, as plain numbers -/
def nat2 {m : Nat} (x : Fin m × Fin m) : Nat × Nat := (x.1.val, x.2.val)
/-- a pair, as it is yielded -/
def enc2 {m : Nat} (x : Fin m × Fin m) : Array Value := #[.int .i64 (x.1.val : Int), .int .i64 (x.2.val : Int)]



end Go.Proofs.YthalopmplekdoaaDoor
