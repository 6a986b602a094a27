/-
  Plain facts on lines that come ahead of each other, by their first and then by their second point. No statement of the program is proved here; there is no condition.
-/
import Derived.Test.YtnekbgeablhgiaaDoorGraphL
namespace Go.Proofs.YtnekbgeablhgiaaDoor.Dp
/-- ahead of another line -/
def lnLt (p q : Gr.Ln) : Prop := p.1 < q.1 ∨ (p.1 = q.1 ∧ p.2 < q.2)
theorem full_pw (r : Nat → Nat → Bool) (m : Nat) : ∀ n, ((List.range n).flatMap fun a => ((List.range m).filter (r a)).map fun b => (a, b)).Pairwise (fun p q : Nat × Nat => p.1 < q.1 ∨ (p.1 = q.1 ∧ p.2 < q.2))
  | 0 => by simp
  | n + 1 => by
    rw [List.range_succ, List.flatMap_append]
    refine List.pairwise_append.2 ⟨full_pw r m n, ?_, ?_⟩
    · simp only [List.flatMap_cons, List.flatMap_nil, List.append_nil]
      rw [List.pairwise_map]
      refine (List.Pairwise.filter _ List.pairwise_lt_range).imp ?_
      intro a b h
      exact .inr ⟨rfl, h⟩
    · intro p hp q hq
      simp only [List.mem_flatMap, List.mem_map, List.mem_filter, List.mem_range, List.mem_singleton] at hp hq
      obtain ⟨a, ha, b, _, rfl⟩ := hp
      obtain ⟨a', rfl, b', _, rfl⟩ := hq
      exact .inl ha
theorem lnLt_irr (p : Gr.Ln) : ¬ lnLt p p := by unfold lnLt; omega
theorem lnLt_not {p q : Gr.Ln} (h : lnLt p q) : ¬ lnLt q p := by unfold lnLt at *; omega
theorem lnLt_tri {p q : Gr.Ln} (h : ¬ lnLt p q) (h' : ¬ lnLt q p) : p = q := by
  unfold lnLt at *
  exact Prod.ext (by omega) (by omega)
end Go.Proofs.YtnekbgeablhgiaaDoor.Dp
