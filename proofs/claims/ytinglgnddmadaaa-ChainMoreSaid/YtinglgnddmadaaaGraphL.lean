/-
  Plain facts on lines for the laws on graphs, with no program in them: lines turned round, lines without two points, the others of the others. There is no condition.
-/
import Derived.Test.YtinglgnddmadaaaGraph
namespace Go.Proofs.Ytinglgnddmadaaa.Gr

/-- lines turned round -/
def back (ls : List Ln) : List Ln := (ls.map fun p => (p.2, p.1)).reverse
theorem back_drop {ls : List Ln} {k : Nat} (hk : k < ls.length) (x : Ln) (hx : x = ls.getD k (0, 0)) : back (ls.drop k) = back (ls.drop (k + 1)) ++ [(x.2, x.1)] := by
  subst hx
  rw [List.drop_eq_getElem_cons hk]
  simp only [back, List.map_cons, List.reverse_cons, List.getD, hk, List.getElem?_eq_getElem, Option.getD_some]
theorem back_len (ls : List Ln) : (back ls).length = ls.length := by simp [back]
theorem mem_back {ls : List Ln} {a b : Int} : (a, b) ∈ back ls ↔ (b, a) ∈ ls := by
  simp only [back, List.mem_reverse, List.mem_map, Prod.mk.injEq]
  constructor
  · rintro ⟨⟨x, y⟩, h, rfl, rfl⟩; exact h
  · intro h; exact ⟨(b, a), h, rfl, rfl⟩
theorem adj_back (ls : List Ln) (a b : Int) : adj (back ls) a b = adj ls a b := by
  rw [Bool.eq_iff_iff, adj_iff, adj_iff, mem_back, mem_back]
  exact Or.comm
theorem rows_same {m : Nat} {ls ks : List Ln} (h : ∀ a b : Nat, a < m → b < m → adj ls a b = adj ks a b) : rows m ls = rows m ks := by
  refine List.map_congr_left fun a ha => ?_
  unfold row
  congr 1
  refine List.filter_congr fun b hb => ?_
  exact h a b (List.mem_range.1 ha) (List.mem_range.1 hb)
theorem rows_back (m : Nat) (ls : List Ln) : rows m (back ls) = rows m ls := rows_same fun a b _ _ => adj_back ls a b
theorem code_back {n : Int} {ls : List Ln} (h : code n ls = 0) : code n (back ls) = 0 := by
  obtain ⟨h1, h2, h3, h4⟩ := code_zero.1 h
  refine code_zero.2 ⟨h1, h2, by rw [back_len]; exact h3, fun p hp => ?_⟩
  obtain ⟨a, b⟩ := p
  have := h4 _ (mem_back.1 hp)
  unfold Good at this ⊢
  simp only at this ⊢
  exact ⟨this.2.2.1, this.2.2.2.1, this.1, this.2.1, fun e => this.2.2.2.2 e.symm⟩
theorem adj_ne {n : Int} {ls : List Ln} (h : code n ls = 0) {a b : Int} (hab : adj ls a b = true) : a ≠ b := by
  obtain ⟨_, _, _, h4⟩ := code_zero.1 h
  rcases adj_iff.1 hab with h | h
  · exact (h4 _ h).2.2.2.2
  · exact fun e => (h4 _ h).2.2.2.2 e.symm
/-- what stands in a row -/
theorem row_at {m : Nat} {ls : List Ln} (h : code (m : Int) ls = 0) {a k : Nat} (hk : k < (row m ls a).length) (ha : a < m) (x : Int) (hx : x = (row m ls a).getD k 0) :
    0 ≤ x ∧ x < m ∧ (row m ls x.toNat).contains (a : Int) = true ∧ x ≠ a := by
  have hm : x ∈ row m ls a := by
    rw [hx]
    simp only [List.getD, hk, List.getElem?_eq_getElem, Option.getD_some]
    exact List.getElem_mem hk
  obtain ⟨h1, h2, h3⟩ := mem_row.1 hm
  refine ⟨h1, h2, ?_, fun e => adj_ne h h3 e.symm⟩
  rw [List.contains_iff_mem, mem_row]
  refine ⟨by omega, by omega, ?_⟩
  rw [show ((x.toNat : Nat) : Int) = x by omega, adj_comm]
  exact h3

/-! ### without two points -/
theorem dn_good {n i v : Int} (h0 : 0 ≤ v) (h1 : v < n) (hi0 : 0 ≤ i) (hi1 : i < n) (hv : v ≠ i) : 0 ≤ dn i v ∧ dn i v < n - 1 := by
  unfold dn
  split <;> omega
theorem dn_inj {i v u : Int} (hv : v ≠ i) (hu : u ≠ i) (h : v ≠ u) : dn i v ≠ dn i u := by
  unfold dn
  split <;> split <;> omega
theorem dn_hit {i j v : Int} (hij : i < j) (hv : v ≠ i) : dn i v = j - 1 ↔ v = j := by
  unfold dn
  split <;> omega
theorem dn_low {i j v : Int} (hij : i < j) (_hv : v ≠ j) : dn j v = i ↔ v = i := by
  unfold dn
  split <;> omega
theorem dn_swap {i j v : Int} (hij : i < j) (_h1 : v ≠ i) (_h2 : v ≠ j) : dn (j - 1) (dn i v) = dn i (dn j v) := by
  unfold dn
  (repeat' split) <;> omega
theorem without_good {n i : Int} (hi0 : 0 ≤ i) (hi1 : i < n) : ∀ {ls : List Ln}, (∀ p ∈ ls, Good n p) → ∀ p ∈ without i ls, Good (n - 1) p := by
  intro ls
  induction ls with
  | nil => intro _ p hp; cases hp
  | cons q qs ih =>
    intro h p hp
    have hq := h q (by simp)
    have hqs := ih (fun p hp => h p (List.mem_cons_of_mem _ hp))
    unfold without at hp
    split at hp
    · exact hqs p hp
    · rename_i hne
      rcases List.mem_cons.1 hp with rfl | hp
      · unfold Good at hq ⊢
        obtain ⟨g1, g2, g3, g4, g5⟩ := hq
        obtain ⟨a1, a2⟩ := dn_good g1 g2 hi0 hi1 (fun e => hne (.inl e))
        obtain ⟨b1, b2⟩ := dn_good g3 g4 hi0 hi1 (fun e => hne (.inr e))
        exact ⟨a1, a2, b1, b2, dn_inj (fun e => hne (.inl e)) (fun e => hne (.inr e)) g5⟩
      · exact hqs p hp
theorem without_swap {i j : Int} (hij : i < j) : ∀ ls : List Ln, without (j - 1) (without i ls) = without i (without j ls) := by
  intro ls
  induction ls with
  | nil => rfl
  | cons p ps ih =>
    obtain ⟨a, b⟩ := p
    by_cases h1 : a = i ∨ b = i
    · by_cases h2 : a = j ∨ b = j
      · simp only [without, if_pos h1, if_pos h2]; exact ih
      · have h3 : dn j a = i ∨ dn j b = i := by
          rcases h1 with h | h
          · exact .inl ((dn_low hij (fun e => h2 (.inl e))).2 h)
          · exact .inr ((dn_low hij (fun e => h2 (.inr e))).2 h)
        simp only [without, if_pos h1, if_neg h2, if_pos h3]; exact ih
    · by_cases h2 : a = j ∨ b = j
      · have h3 : dn i a = j - 1 ∨ dn i b = j - 1 := by
          rcases h2 with h | h
          · exact .inl ((dn_hit hij (fun e => h1 (.inl e))).2 h)
          · exact .inr ((dn_hit hij (fun e => h1 (.inr e))).2 h)
        simp only [without, if_neg h1, if_pos h2, if_pos h3]; exact ih
      · have n1 : ¬ (dn i a = j - 1 ∨ dn i b = j - 1) := by
          rintro (h | h)
          · exact h2 (.inl ((dn_hit hij (fun e => h1 (.inl e))).1 h))
          · exact h2 (.inr ((dn_hit hij (fun e => h1 (.inr e))).1 h))
        have n2 : ¬ (dn j a = i ∨ dn j b = i) := by
          rintro (h | h)
          · exact h1 (.inl ((dn_low hij (fun e => h2 (.inl e))).1 h))
          · exact h1 (.inr ((dn_low hij (fun e => h2 (.inr e))).1 h))
        simp only [without, if_neg h1, if_neg h2, if_neg n1, if_neg n2, ih]
        rw [dn_swap hij (fun e => h1 (.inl e)) (fun e => h2 (.inl e)), dn_swap hij (fun e => h1 (.inr e)) (fun e => h2 (.inr e))]
theorem code_without {n i : Int} {ls : List Ln} (h : code n ls = 0) (hn : n ≠ 1) (hi0 : 0 ≤ i) (hi1 : i < n) : code (n - 1) (without i ls) = 0 := by
  obtain ⟨h1, h2, h3, h4⟩ := code_zero.1 h
  exact code_zero.2 ⟨by omega, by omega, Nat.le_trans (without_len i ls) h3, without_good hi0 hi1 h4⟩

/-! ### the others -/
theorem code_other {m : Nat} {ls : List Ln} (h : code (m : Int) ls = 0) (hl : (other m ls).length ≤ 24) : code (m : Int) (other m ls) = 0 := by
  obtain ⟨h1, h2, _, _⟩ := code_zero.1 h
  refine code_zero.2 ⟨h1, h2, hl, fun p hp => ?_⟩
  obtain ⟨a1, a2, a3, _⟩ := mem_other.1 hp
  exact ⟨a1, by omega, by omega, a3, by omega⟩
theorem adj_other {m : Nat} {ls : List Ln} {a b : Int} (ha0 : 0 ≤ a) (ha : a < m) (hb0 : 0 ≤ b) (hb : b < m) (hab : a ≠ b) : adj (other m ls) a b = !adj ls a b := by
  rw [Bool.eq_iff_iff, adj_iff, mem_other, mem_other, Bool.not_eq_true']
  simp only
  constructor
  · rintro (h | h)
    · exact h.2.2.2
    · rw [adj_comm]; exact h.2.2.2
  · intro h
    rcases Int.lt_or_gt_of_ne hab with h1 | h1
    · exact .inl ⟨ha0, h1, hb, h⟩
    · exact .inr ⟨hb0, h1, ha, by rw [adj_comm]; exact h⟩
theorem adj_other_self {m : Nat} {ls : List Ln} {a : Int} : adj (other m ls) a a = false := by
  cases h : adj (other m ls) a a with
  | false => rfl
  | true =>
    rcases adj_iff.1 h with h | h <;> (have := mem_other.1 h; simp only at this; omega)
theorem rows_other {m : Nat} {ls : List Ln} (h : code (m : Int) ls = 0) : rows m (other m (other m ls)) = rows m ls := by
  refine rows_same fun a b ha hb => ?_
  by_cases hab : (a : Int) = b
  · rw [hab, adj_other_self]
    cases hx : adj ls (b : Int) (b : Int) with
    | false => rfl
    | true => exact absurd rfl (adj_ne h hx)
  · rw [adj_other (by omega) (by omega) (by omega) (by omega) hab, adj_other (by omega) (by omega) (by omega) (by omega) hab, Bool.not_not]

end Go.Proofs.Ytinglgnddmadaaa.Gr
