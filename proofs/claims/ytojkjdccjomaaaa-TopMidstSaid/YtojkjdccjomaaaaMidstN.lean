/-
  Plain facts on trees, with no program in them: the middle lies in the midst of each longest way. No statement of the program is proved here; there is no condition.
-/
import Derived.Test.YtojkjdccjomaaaaTreeU
set_option linter.unusedSimpArgs false
set_option linter.unusedVariables false
namespace Go.Proofs.Ytojkjdccjomaaaa.Co
open Tr (Met ecc ecc_ge Mid)

section
variable {n : Nat} {A : Nat → Nat → Bool} {D : Nat → Nat → Nat}
theorem mid_far {m c v : Nat} (hc : Mid n D m c) (hv : v < n) : D c v ≤ m := by
  rw [← hc.2.1]
  exact ecc_ge hv
/-- one point in the middle -/
theorem midst_one (h : Met n A D) {m c a b : Nat} (hc : Mid n D m c) (ha : a < n) (hb : b < n) (hl : D a b = 2 * m) : (wy n A D a b).getD m 0 = c := by
  have h1 := mid_far hc ha
  have h2 := mid_far hc hb
  rw [h.sym c a hc.1 ha] at h1
  have h3 := h.tri a c b ha hc.1 hb
  have ho : On D a b c := by unfold On; omega
  have := wy_of h ha hb hc.1 ho
  rwa [show D a c = m by omega] at this
/-- two points in the middle, beside each other -/
theorem midst_two (h : Met n A D) {m c c' a b : Nat} (hc : Mid n D m c) (hc' : Mid n D m c') (hA : A c c' = true) (ha : a < n) (hb : b < n) (hl : D a b + 1 = 2 * m) :
    0 < m ∧ (((wy n A D a b).getD m 0 = c ∧ (wy n A D a b).getD (m - 1) 0 = c') ∨ ((wy n A D a b).getD m 0 = c' ∧ (wy n A D a b).getD (m - 1) 0 = c)) := by
  have h1 := mid_far hc ha
  have h2 := mid_far hc hb
  have h1' := mid_far hc' ha
  have h2' := mid_far hc' hb
  rw [h.sym c a hc.1 ha] at h1
  rw [h.sym c' a hc'.1 ha] at h1'
  have h3 := h.tri a c b ha hc.1 hb
  have h3' := h.tri a c' b ha hc'.1 hb
  have oa := h.one a c c' ha hc.1 hc'.1 hA
  have ob := h.one b c c' hb hc.1 hc'.1 hA
  rw [h.sym b c hb hc.1, h.sym b c' hb hc'.1] at ob
  refine ⟨by omega, ?_⟩
  by_cases hm : D a c = m
  · have e1 : D a c' = m - 1 := by omega
    have o1 : On D a b c := by unfold On; omega
    have o2 : On D a b c' := by unfold On; omega
    left
    have w1 := wy_of h ha hb hc.1 o1
    have w2 := wy_of h ha hb hc'.1 o2
    rw [hm] at w1
    rw [e1] at w2
    exact ⟨w1, w2⟩
  · have e0 : D a c = m - 1 := by omega
    have e1 : D a c' = m := by omega
    have o1 : On D a b c := by unfold On; omega
    have o2 : On D a b c' := by unfold On; omega
    right
    have w1 := wy_of h ha hb hc.1 o1
    have w2 := wy_of h ha hb hc'.1 o2
    rw [e0] at w1
    rw [e1] at w2
    exact ⟨w2, w1⟩
end
end Go.Proofs.Ytojkjdccjomaaaa.Co
