/-
  Plain facts that join lines and ways: the points beside each point as plain numbers. No statement of the program is proved here; there is no condition.
-/
import Derived.Test.YtklanopgmlmjlaaGraph
import Derived.Test.YtklanopgmlmjlaaGraphL
import Derived.Test.YtklanopgmlmjlaaWalkI
namespace Go.Proofs.Ytklanopgmlmjlaa.Wa
open Go.Proofs.Ytklanopgmlmjlaa

/-- the points beside a point -/
def nrow (m : Nat) (ls : List Gr.Ln) (a : Nat) : List Nat := (List.range m).filter fun b => Gr.adj ls (a : Int) (b : Int)
theorem mem_nrow {m : Nat} {ls : List Gr.Ln} {a b : Nat} : b ∈ nrow m ls a ↔ b < m ∧ Gr.adj ls (a : Int) (b : Int) = true := by simp [nrow]
theorem nrow_ok (m : Nat) (ls : List Gr.Ln) : Ok m (nrow m ls) := fun _ _ _ hb => (mem_nrow.1 hb).1
theorem nrow_sym (m : Nat) (ls : List Gr.Ln) : Sym m (nrow m ls) := fun a b ha _ h => mem_nrow.2 ⟨ha, by rw [Gr.adj_comm]; exact (mem_nrow.1 h).2⟩
theorem rows_nrow {m : Nat} (ls : List Gr.Ln) {k : Nat} (hk : k < m) : (Gr.rows m ls).getD k [] = upL (nrow m ls k) := by
  rw [Gr.rows_getD ls hk]
  rfl
theorem nrow_len (m : Nat) (ls : List Gr.Ln) (a : Nat) : (nrow m ls a).length ≤ m := by
  have := List.length_filter_le (fun b => Gr.adj ls (a : Int) ((b : Nat) : Int)) (List.range m)
  simpa [nrow] using this

/-- what is wrong with a search -/
def fcode (n : Int) (ls : List Gr.Ln) (a : Int) : Int := if Gr.code n ls = 0 then (if a < 0 ∨ n ≤ a then 1 else 0) else Gr.code n ls
theorem fcode_zero {n : Int} {ls : List Gr.Ln} {a : Int} : fcode n ls a = 0 ↔ Gr.code n ls = 0 ∧ 0 ≤ a ∧ a < n := by
  unfold fcode
  split
  · rename_i h
    split
    · rename_i h2
      constructor
      · intro h3; omega
      · rintro ⟨_, h3, h4⟩; omega
    · rename_i h2
      exact ⟨fun _ => ⟨h, by omega, by omega⟩, fun _ => rfl⟩
  · rename_i h
    exact ⟨fun h2 => absurd h2 h, fun h2 => absurd h2.1 h⟩

end Go.Proofs.Ytklanopgmlmjlaa.Wa
