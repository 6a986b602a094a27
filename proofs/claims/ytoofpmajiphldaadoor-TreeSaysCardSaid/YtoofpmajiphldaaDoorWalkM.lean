/-
  Plain facts that join lines and ways: the points beside each point as plain numbers. No statement of the program is proved here; there is no condition.
-/
import Derived.Test.YtoofpmajiphldaaDoorGraphL
import Derived.Test.YtoofpmajiphldaaDoorWalkF
namespace Go.Proofs.YtoofpmajiphldaaDoor.Wa

/-- the points beside a point -/
def nrow (m : Nat) (ls : List Gr.Ln) (a : Nat) : List Nat := (List.range m).filter fun b => Gr.adj ls (a : Int) (b : Int)
theorem mem_nrow {m : Nat} {ls : List Gr.Ln} {a b : Nat} : b ∈ nrow m ls a ↔ b < m ∧ Gr.adj ls (a : Int) (b : Int) = true := by simp [nrow]
theorem nrow_ok (m : Nat) (ls : List Gr.Ln) : Ok m (nrow m ls) := fun _ _ _ hb => (mem_nrow.1 hb).1
theorem nrow_sym (m : Nat) (ls : List Gr.Ln) : Sym m (nrow m ls) := fun a b ha _ h => mem_nrow.2 ⟨ha, by rw [Gr.adj_comm]; exact (mem_nrow.1 h).2⟩
theorem nrow_len (m : Nat) (ls : List Gr.Ln) (a : Nat) : (nrow m ls a).length ≤ m := by
  have := List.length_filter_le (fun b => Gr.adj ls (a : Int) ((b : Nat) : Int)) (List.range m)
  simpa [nrow] using this

end Go.Proofs.YtoofpmajiphldaaDoor.Wa
