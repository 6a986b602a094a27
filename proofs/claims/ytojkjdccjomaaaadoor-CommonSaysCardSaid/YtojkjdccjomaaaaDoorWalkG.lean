/-
  Plain facts that join lines and ways: the points beside each point as plain numbers. No statement of the program is proved here; there is no condition.
-/
import Derived.Test.YtojkjdccjomaaaaDoorGraphL
import Derived.Test.YtojkjdccjomaaaaDoorWalkI
import Derived.Test.YtojkjdccjomaaaaDoorWalkM
namespace Go.Proofs.YtojkjdccjomaaaaDoor.Wa
open Go.Proofs.YtojkjdccjomaaaaDoor

theorem rows_nrow {m : Nat} (ls : List Gr.Ln) {k : Nat} (hk : k < m) : (Gr.rows m ls).getD k [] = upL (nrow m ls k) := by
  rw [Gr.rows_getD ls hk]
  rfl

/-- what is wrong with a search -/
def fcode (n : Int) (ls : List Gr.Ln) (a : Int) : Int := if Gr.code n ls = 0 then (if a < 0 ∨ n ≤ a then 1 else 0) else Gr.code n ls
theorem fcode_zero {n : Int} {ls : List Gr.Ln} {a : Int} : fcode n ls a = 0 ↔ Gr.code n ls = 0 ∧ 0 ≤ a ∧ a < n := by
  unfold fcode
  split
  · rename_i h
    split
    · rename_i h2
      constructor
      · intro h3; omega
      · rintro ⟨_, h3, h4⟩; omega
    · rename_i h2
      exact ⟨fun _ => ⟨h, by omega, by omega⟩, fun _ => rfl⟩
  · rename_i h
    exact ⟨fun h2 => absurd h2 h, fun h2 => absurd h2.1 h⟩

end Go.Proofs.YtojkjdccjomaaaaDoor.Wa
