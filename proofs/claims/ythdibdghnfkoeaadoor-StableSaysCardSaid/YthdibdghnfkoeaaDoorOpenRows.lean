/-
  Helper: a slice of slices of integers that came in, as the form's reading opens it. No statement of the program is proved here; there is no condition.
-/
import Derived.Test.YthdibdghnfkoeaaDoorLibR
namespace Go.Proofs.YthdibdghnfkoeaaDoor
open Go.RowKit

theorem RdR.opened {w : World} {n c : Nat} {x : Addr} (A : Nat → Option Addr) (L C : Nat → Nat) (Z : Nat → List Int) (hl : n ≤ c) (hm : c ≤ maxLen)
    (hrow : ∀ r, r < c → w.cell? (x.add r) = some (.slice (A r) (L r) (C r)) ∧ L r ≤ C r ∧ C r ≤ maxLen ∧ (Z r).length = C r ∧ (A r = none → C r = 0) ∧ ∀ a', A r = some a' → ∀ k, k < C r → w.cell? (a'.add k) = some (.int .i64 ((Z r).getD k 0))) :
    RdR w w.heap.size (some x) n c ((List.range n).map fun r => (Z r).take (L r)) := by
  refine ⟨by simp, hl, by simpa [maxLen] using hm, fun h => (by cases h), fun hn => ?_⟩
  obtain ⟨b, off, spot⟩ := x
  have h0 := (hrow 0 (by omega)).1
  have hs : spot = none := by simpa [Addr.add] using World.cell?_spot h0
  subst hs
  have hb : b < w.heap.size := by simpa [Addr.add] using World.block_lt_of_cell? w _ h0
  refine ⟨b, off, rfl, hb, fun k hk => ?_⟩
  obtain ⟨h1, h2, h3, h4, h5, h6⟩ := hrow k (by omega)
  have e : ((List.range n).map fun r => (Z r).take (L r)).getD k [] = (Z k).take (L k) := by simp [List.getD, hk]
  have el : ((Z k).take (L k)).length = L k := by rw [List.length_take]; omega
  rw [e, el]
  refine ⟨A k, C k, by rw [← Addr.add_mid]; exact h1, ?_⟩
  cases hA : A k with
  | none =>
    have hc := h5 hA
    have hz : Z k = [] := List.eq_nil_of_length_eq_zero (by omega)
    rw [hc, show L k = 0 by omega, hz]
    exact Rd.nil _ _
  | some a' => exact Rd.opened h2 h3 h4 (fun i hi => h6 a' hA i (by omega))

end Go.Proofs.YthdibdghnfkoeaaDoor
