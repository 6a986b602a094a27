/-
  Plain facts for the law MatchHall, with no program in it: sets as numbers, how many more some are than those that they have lines to, the most of that. There is no condition.
-/
import Derived.Test.YtbegepdeaeplgaaDoorMatchK
set_option linter.unusedSimpArgs false
set_option linter.unusedVariables false
namespace Go.Proofs.YtbegepdeaeplgaaDoor.Ma

/-- is i in the set that the number s says? -/
def bit (s i : Nat) : Bool := decide (s / 2 ^ i % 2 = 1)
theorem bit_zero (s : Nat) : bit s 0 = decide (s % 2 = 1) := by simp [bit]
theorem bit_succ (s i : Nat) : bit s (i + 1) = bit (s / 2) i := by
  unfold bit
  rw [Nat.pow_succ, Nat.mul_comm, ← Nat.div_div_eq_div_mul]
/-- every set is said by a number -/
theorem bits_ex : ∀ (l : Nat) (S : Nat → Bool), ∃ s, s < 2 ^ l ∧ ∀ i, i < l → bit s i = S i
  | 0, _ => ⟨0, by simp, fun i h => by omega⟩
  | l + 1, S => by
    obtain ⟨s, hs, hb⟩ := bits_ex l fun i => S (i + 1)
    have hp : 2 ^ (l + 1) = 2 * 2 ^ l := by rw [Nat.pow_succ, Nat.mul_comm]
    cases h0 : S 0
    · refine ⟨2 * s, by omega, fun i hi => ?_⟩
      cases i with
      | zero =>
        rw [bit_zero, h0]
        simp
      | succ i =>
        rw [bit_succ, show 2 * s / 2 = s by omega]
        exact hb i (by omega)
    · refine ⟨2 * s + 1, by omega, fun i hi => ?_⟩
      cases i with
      | zero =>
        rw [bit_zero, h0]
        simp
      | succ i =>
        rw [bit_succ, show (2 * s + 1) / 2 = s by omega]
        exact hb i (by omega)
section
variable (G : Nat → Nat → Bool) (l r : Nat)
/-- how many more they are than those that they have lines to -/
def exc (s : Nat) : Int := (cnt l (bit s) : Int) - (cnt r (nbr G l (bit s)) : Int)
/-- the most of that, of the first k sets; 0 at least -/
def lackTo : Nat → Int
  | 0 => 0
  | k + 1 => if lackTo k < exc G l r k then exc G l r k else lackTo k
end
section
variable {G : Nat → Nat → Bool} {l r : Nat}
theorem lackTo_spec : ∀ k, 0 ≤ lackTo G l r k ∧ (∀ s, s < k → exc G l r s ≤ lackTo G l r k) ∧ (lackTo G l r k = 0 ∨ ∃ s, s < k ∧ lackTo G l r k = exc G l r s)
  | 0 => ⟨Int.le_refl _, fun s h => by omega, .inl rfl⟩
  | k + 1 => by
    obtain ⟨h1, h2, h3⟩ := lackTo_spec k
    by_cases h : lackTo G l r k < exc G l r k
    · have e : lackTo G l r (k + 1) = exc G l r k := if_pos h
      rw [e]
      refine ⟨by omega, fun s hs => ?_, .inr ⟨k, by omega, rfl⟩⟩
      rcases Nat.lt_or_ge s k with hl | hl
      · have := h2 s hl; omega
      · obtain rfl : s = k := by omega
        exact Int.le_refl _
    · have e : lackTo G l r (k + 1) = lackTo G l r k := if_neg h
      rw [e]
      refine ⟨h1, fun s hs => ?_, ?_⟩
      · rcases Nat.lt_or_ge s k with hl | hl
        · exact h2 s hl
        · obtain rfl : s = k := by omega
          omega
      · rcases h3 with h3 | ⟨s, hs, h3⟩
        · exact .inl h3
        · exact .inr ⟨s, by omega, h3⟩
theorem exc_le (s : Nat) : exc G l r s ≤ (l : Int) - (nu G l r : Int) := by
  have := hall_le G l r (bit s)
  unfold exc
  omega
theorem exc_bound (s : Nat) : -(r : Int) ≤ exc G l r s ∧ exc G l r s ≤ (l : Int) := by
  have h1 := cnt_le l (bit s)
  have h2 := cnt_le r (nbr G l (bit s))
  unfold exc
  omega
theorem lackTo_le (k : Nat) : lackTo G l r k ≤ (l : Int) - (nu G l r : Int) := by
  have hn := nu_le_left G l r
  rcases (lackTo_spec (G := G) (l := l) (r := r) k).2.2 with h | ⟨s, _, h⟩
  · rw [h]; omega
  · rw [h]; exact exc_le s
/-- Hall: of all sets -/
theorem lackTo_all : lackTo G l r (2 ^ l) = (l : Int) - (nu G l r : Int) := by
  obtain ⟨S, hS⟩ := hall_ex G l r
  obtain ⟨s, hs, hb⟩ := bits_ex l S
  have h1 := (lackTo_spec (G := G) (l := l) (r := r) (2 ^ l)).2.1 s hs
  have h2 := hS.congr fun i hi => (hb i hi).symm
  have h3 := lackTo_le (G := G) (l := l) (r := r) (2 ^ l)
  unfold Just at h2
  unfold exc at h1
  omega
theorem cnt_succ (k : Nat) (p : Nat → Bool) : cnt (k + 1) p = cnt k p + if p k = true then 1 else 0 := by
  unfold cnt
  rw [List.range_succ, List.countP_append]
  simp [List.countP_cons]
theorem nbr_succ (k : Nat) (S : Nat → Bool) (j : Nat) : nbr G (k + 1) S j = (nbr G k S j || (S k && G k j)) := by
  simp [nbr, nb, List.range_succ]
theorem pow_le (k : Nat) (hk : k ≤ 6) : 2 ^ k ≤ 64 := Nat.pow_le_pow_right (by omega) hk
/-- the marks of those that the first k of a set have lines to, for the first b one more of them -/
def mrk (G : Nat → Nat → Bool) (r s k b : Nat) : List Bool := (List.range r).map fun j => if j < b then nbr G (k + 1) (bit s) j else nbr G k (bit s) j
theorem mrk_len (s k b : Nat) : (mrk G r s k b).length = r := by simp [mrk]
theorem mrk_at (s k b : Nat) {j : Nat} (hj : j < r) : (mrk G r s k b).getD j false = if j < b then nbr G (k + 1) (bit s) j else nbr G k (bit s) j := by simp [mrk, List.getD, hj]
theorem mrk_none (r s : Nat) : mrk G r s 0 0 = List.replicate r false := by
  rw [List.eq_replicate_iff]
  refine ⟨mrk_len _ _ _, fun b hb => ?_⟩
  unfold mrk at hb
  obtain ⟨j, _, rfl⟩ := List.mem_map.1 hb
  simp [nbr, nb]
theorem mrk_all (s k : Nat) : mrk G r s k r = mrk G r s (k + 1) 0 := by
  unfold mrk
  refine List.map_congr_left fun j hj => ?_
  have := List.mem_range.1 hj
  simp [this]
theorem mrk_skip {s k : Nat} (h : bit s k = false) : mrk G r s (k + 1) 0 = mrk G r s k 0 := by
  unfold mrk
  refine List.map_congr_left fun j hj => ?_
  simp [nbr_succ, h]
theorem mrk_step {s k b : Nat} (hb : b < r) (h : bit s k = true) : (mrk G r s k b).set b (nbr G k (bit s) b || G k b) = mrk G r s k (b + 1) := by
  refine List.ext_getElem (by simp [mrk]) fun i h1 h2 => ?_
  rw [List.getElem_set]
  by_cases e : b = i
  · subst e
    simp [mrk, nbr_succ, h]
  · simp only [e, if_false, mrk, List.getElem_map, List.getElem_range]
    have : (i < b) ↔ (i < b + 1) := by omega
    simp [this]
theorem mrk_miss (s : Nat) : ((mrk G r s l 0).countP fun b => !b : Nat) + cnt r (nbr G l (bit s)) = r := by
  unfold mrk
  rw [List.countP_map]
  have h := cnt_not r (nbr G l (bit s))
  have e : (List.range r).countP ((fun b => !b) ∘ fun j => if j < 0 then nbr G (l + 1) (bit s) j else nbr G l (bit s) j) = cnt r fun j => !nbr G l (bit s) j := countP_eq fun j _ => by simp
  rw [e]
  omega
end

end Go.Proofs.YtbegepdeaeplgaaDoor.Ma
