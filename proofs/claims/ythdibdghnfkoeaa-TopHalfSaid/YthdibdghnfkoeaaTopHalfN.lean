/-
  Plain facts for the law TopHalf, with no program in them: the lines of a pairing, and that as many pairs are in them as there are on one side. No statement of the program is proved here; there is no condition.
-/
import Derived.Test.YthdibdghnfkoeaaStableO
import Derived.Test.YthdibdghnfkoeaaMatchK
set_option linter.unusedSimpArgs false
set_option linter.unusedVariables false
namespace Go.Proofs.Ythdibdghnfkoeaa.St
/-- the lines of the first k pairs -/
def pln (g : List Nat) (k : Nat) : List Gr.Ln := (List.range k).map fun i : Nat => ((i : Int), (((g.getD i 0 : Nat)) : Int))
theorem pln_len (g : List Nat) (k : Nat) : (pln g k).length = k := by simp [pln]
theorem pln_succ (g : List Nat) (k : Nat) : pln g (k + 1) = pln g k ++ [((k : Int), (((g.getD k 0 : Nat)) : Int))] := by simp [pln, List.range_succ]
theorem pln_code {n : Nat} {g : List Nat} (hg : Pr n g) (h6 : n ≤ 6) : Ma.code (n : Int) (n : Int) (pln g n) = 0 := by
  refine Ma.code_zero.2 ⟨by omega, by omega, by omega, by omega, by rw [pln_len]; omega, fun p hp => ?_⟩
  unfold pln at hp
  obtain ⟨i, hi, rfl⟩ := List.mem_map.1 hp
  have hi' := List.mem_range.1 hi
  have := hg.at_lt hi'
  unfold Ma.Good
  simp only
  omega
theorem pln_nu {n : Nat} {g : List Nat} (hg : Pr n g) : Ma.nu (Ma.gl (pln g n)) n n = n := by
  refine Nat.le_antisymm (Ma.nu_le_left _ _ _) ?_
  have := Ma.pairs_le (G := Ma.gl (pln g n)) (l := n) (r := n) (M := (List.range n).map fun i => (i, g.getD i 0)) (fun p hp => by
    obtain ⟨i, hi, rfl⟩ := List.mem_map.1 hp
    have hi' := List.mem_range.1 hi
    refine ⟨hi', hg.at_lt hi', ?_⟩
    unfold Ma.gl Gr.has
    rw [List.contains_iff_mem]
    unfold pln
    exact List.mem_map.2 ⟨i, hi, rfl⟩) (by
    rw [List.map_map]
    show ((List.range n).map fun i => i).Nodup
    rw [List.map_id']
    exact List.nodup_range) (by
    rw [List.map_map]
    show List.Pairwise (· ≠ ·) _
    rw [List.pairwise_map]
    exact List.Pairwise.imp_of_mem (fun {x y} hx hy hne e => hne (hg.at_inj (List.mem_range.1 hx) (List.mem_range.1 hy) e)) List.nodup_range)
  simpa using this
end Go.Proofs.Ythdibdghnfkoeaa.St
