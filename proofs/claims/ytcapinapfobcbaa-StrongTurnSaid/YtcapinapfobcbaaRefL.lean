/-
  Contracts of brambleweirref1 on lines: Goes, Beside, Near, Lines.
-/
import Derived.Test.YtcapinapfobcbaaGraphE
namespace Go.Proofs.Ytcapinapfobcbaa.RefL
open Go.RowKit




/-- the points beside a, up to b -/
def rowTo (ls : List Gr.Ln) (a b : Nat) : List Int := ((List.range b).filter fun b : Nat => Gr.adj ls (a : Int) (b : Int)).map fun b => ((b : Nat) : Int)
theorem rowTo_hit {ls : List Gr.Ln} {a b : Nat} (h : Gr.adj ls (a : Int) (b : Int) = true) : rowTo ls a (b + 1) = rowTo ls a b ++ [(b : Int)] := by simp [rowTo, List.range_succ, List.filter_append, h]
theorem rowTo_miss {ls : List Gr.Ln} {a b : Nat} (h : Gr.adj ls (a : Int) (b : Int) = false) : rowTo ls a (b + 1) = rowTo ls a b := by simp [rowTo, List.range_succ, List.filter_append, h]
theorem rowTo_len (ls : List Gr.Ln) (a b : Nat) : (rowTo ls a b).length ≤ b := by
  have := List.length_filter_le (fun b : Nat => Gr.adj ls (a : Int) (b : Int)) (List.range b)
  simpa [rowTo] using this



end Go.Proofs.Ytcapinapfobcbaa.RefL
