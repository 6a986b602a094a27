/-
  Contracts of brambleweirref1 on lines: Goes, Beside, Near, Lines.
-/
import Derived.Test.YthdibdghnfkoeaaDoorGraphE
namespace Go.Proofs.YthdibdghnfkoeaaDoor.RefL
open Go.RowKit

theorem in_yes (n a b : Int) (w : World) (h1 : a ≤ n) (h2 : n ≤ b) :
    Calls Tryd.prog 22 #[.int .i64 n, .int .i64 a, .int .i64 b] w fun e w' => e = .returned (.bool true) ∧ w = w' := by
  go_enter Tryd.func22, Tryd.ntmps22
  go_wp2
  go_ret
  exact ⟨rfl, rfl⟩
theorem in_no (n a b : Int) (w : World) (h : n < a ∨ b < n) :
    Calls Tryd.prog 22 #[.int .i64 n, .int .i64 a, .int .i64 b] w fun e w' => e = .returned (.bool false) ∧ w = w' := by
  by_cases ha : n < a
  · go_enter Tryd.func22, Tryd.ntmps22
    go_wp2
    go_ret
    exact ⟨rfl, rfl⟩
  · have h1 : a ≤ n := by omega
    have hd : decide (n ≤ b) = false := by simp; omega
    clear h ha
    go_enter Tryd.func22, Tryd.ntmps22
    go_wp2
    go_ret
    exact ⟨rfl, rfl⟩



/-- the points beside a, up to b -/
def rowTo (ls : List Gr.Ln) (a b : Nat) : List Int := ((List.range b).filter fun b : Nat => Gr.adj ls (a : Int) (b : Int)).map fun b => ((b : Nat) : Int)
theorem rowTo_hit {ls : List Gr.Ln} {a b : Nat} (h : Gr.adj ls (a : Int) (b : Int) = true) : rowTo ls a (b + 1) = rowTo ls a b ++ [(b : Int)] := by simp [rowTo, List.range_succ, List.filter_append, h]
theorem rowTo_miss {ls : List Gr.Ln} {a b : Nat} (h : Gr.adj ls (a : Int) (b : Int) = false) : rowTo ls a (b + 1) = rowTo ls a b := by simp [rowTo, List.range_succ, List.filter_append, h]
theorem rowTo_len (ls : List Gr.Ln) (a b : Nat) : (rowTo ls a b).length ≤ b := by
  have := List.length_filter_le (fun b : Nat => Gr.adj ls (a : Int) (b : Int)) (List.range b)
  simpa [rowTo] using this



end Go.Proofs.YthdibdghnfkoeaaDoor.RefL
