/-
  Contracts of package graph: isVertex, closedUp, Check, the closures adjacency and pairs hand back, and slices.Contains at lines.
-/
import Derived.Test.YthdibdghnfkoeaaDoorBase
import Derived.Test.YthdibdghnfkoeaaDoorLibP
import Derived.Test.YthdibdghnfkoeaaDoorGraph
import Derived.Laws.StructEq
import Derived.Laws.Cover2
namespace Go.Proofs.YthdibdghnfkoeaaDoor
open Go.RowKit

theorem rowInfo : (Tryd.prog.info? 23).map (fun i => (i.zero, i.size, i.bytes)) = some (some (.slice none 0 0), 1, 24) := by kernel_rfl

/-! ### isVertex, closedUp -/

/-! ### slices.Index, slices.Contains -/
theorem has_drop {ls : List Gr.Ln} {k : Nat} {a b : Int} (hk : k < ls.length) (x : Gr.Ln) (hx : x = ls.getD k (0, 0)) (h : ¬ x = (a, b)) : (ls.drop k).contains (a, b) = (ls.drop (k + 1)).contains (a, b) := by
  subst hx
  rw [List.drop_eq_getElem_cons hk]
  simp only [List.getD, hk, List.getElem?_eq_getElem, Option.getD_some] at h
  simp only [List.contains_cons]
  have : ((a, b) == ls[k]) = false := by simp only [beq_eq_false_iff_ne, ne_eq]; exact fun e => h e.symm
  rw [this, Bool.false_or]
theorem has_at {ls : List Gr.Ln} {k : Nat} {a b : Int} (hk : k < ls.length) (x : Gr.Ln) (hx : x = ls.getD k (0, 0)) (h : x = (a, b)) : Gr.has ls a b = true := by
  subst hx
  simp only [List.getD, hk, List.getElem?_eq_getElem, Option.getD_some] at h
  rw [Gr.has_iff, ← h]
  exact List.getElem_mem hk


end Go.Proofs.YthdibdghnfkoeaaDoor
