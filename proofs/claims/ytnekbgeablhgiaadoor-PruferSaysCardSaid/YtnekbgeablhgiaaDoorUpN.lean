/-
  Plain facts on new numbers for points when one of them goes, and on lines without a point. No statement of the program is proved here; there is no condition.
-/
import Derived.Test.YtnekbgeablhgiaaDoorGraphL
set_option linter.unusedSimpArgs false
set_option linter.unusedVariables false
namespace Go.Proofs.YtnekbgeablhgiaaDoor.Dp

/-! ### new numbers -/
/-- the number that a point had ahead -/
def up (i j : Nat) : Nat := if j < i then j else j + 1
theorem up_ne (i j : Nat) : up i j ≠ i := by unfold up; split <;> omega
theorem up_lt {m i j : Nat} (hj : j < m - 1) (hi : i < m) : up i j < m := by unfold up; split <;> omega
theorem up_mono {i a b : Nat} : up i a < up i b ↔ a < b := by unfold up; split <;> split <;> omega
theorem up_of {m i x : Nat} (hi : i < m) (hx : x < m) (hne : x ≠ i) : ∃ j, j < m - 1 ∧ x = up i j := by
  rcases Nat.lt_or_ge x i with h | h
  · exact ⟨x, by omega, by simp [up, h]⟩
  · exact ⟨x - 1, by omega, by unfold up; rw [if_neg (by omega)]; omega⟩
/-! ### the program's own lists -/
theorem mem_without {i : Int} {x y : Int} : ∀ {ls : List Gr.Ln}, (x, y) ∈ Gr.without i ls ↔ ∃ p ∈ ls, p.1 ≠ i ∧ p.2 ≠ i ∧ Gr.dn i p.1 = x ∧ Gr.dn i p.2 = y
  | [] => by simp [Gr.without]
  | q :: ls => by
    unfold Gr.without
    by_cases e : q.1 = i ∨ q.2 = i
    · rw [if_pos e, mem_without]
      constructor
      · rintro ⟨p, hp, h⟩
        exact ⟨p, List.mem_cons_of_mem _ hp, h⟩
      · rintro ⟨p, hp, h1, h2, h3⟩
        rcases List.mem_cons.1 hp with rfl | hp
        · exact absurd e (fun e => e.elim h1 h2)
        · exact ⟨p, hp, h1, h2, h3⟩
    · rw [if_neg e, List.mem_cons, mem_without]
      constructor
      · rintro (h | ⟨p, hp, h⟩)
        · cases h
          exact ⟨q, by simp, fun h => e (.inl h), fun h => e (.inr h), rfl, rfl⟩
        · exact ⟨p, List.mem_cons_of_mem _ hp, h⟩
      · rintro ⟨p, hp, h1, h2, h3, h4⟩
        rcases List.mem_cons.1 hp with rfl | hp
        · exact .inl (by rw [h3, h4])
        · exact .inr ⟨p, hp, h1, h2, h3, h4⟩
theorem has_without {ls : List Gr.Ln} {i u v : Nat} : Gr.has (Gr.without (i : Int) ls) (u : Int) (v : Int) = Gr.has ls (up i u : Int) (up i v : Int) := by
  have key : ∀ (a : Int) (x : Nat), a ≠ (i : Int) → (Gr.dn (i : Int) a = (x : Int) ↔ a = (up i x : Int)) := fun a x ha => by
    unfold Gr.dn up
    split <;> split <;> omega
  rw [Bool.eq_iff_iff, Gr.has_iff, Gr.has_iff, mem_without]
  constructor
  · rintro ⟨p, hp, h1, h2, h3, h4⟩
    rw [key _ _ h1] at h3
    rw [key _ _ h2] at h4
    rw [← h3, ← h4]
    exact hp
  · intro h
    have n1 := up_ne i u
    have n2 := up_ne i v
    exact ⟨_, h, by simp only; omega, by simp only; omega, (key _ _ (by omega)).2 rfl, (key _ _ (by omega)).2 rfl⟩
end Go.Proofs.YtnekbgeablhgiaaDoor.Dp
