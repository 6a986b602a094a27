/-
  Plain facts on lines, with no program in them: what is wrong with points and lines, who is beside whom, the other lines, the lines without a point. No statement of the program is proved here; there is no condition.
  Plain facts on lines for the laws on graphs, with no program in them: lines turned round, lines without two points, the others of the others. There is no condition.
-/
import Derived.WalkKit
namespace Go.Proofs.YtojkjdccjomaaaaDoor.Gr

abbrev Ln := Int × Int

/-- the first wrong line -/
def fault (n : Int) : List Ln → Int
  | [] => 0
  | p :: ps => if p.1 < 0 ∨ n ≤ p.1 ∨ p.2 < 0 ∨ n ≤ p.2 then 1 else if p.1 = p.2 then 3 else fault n ps
/-- what is wrong with points and lines -/
def code (n : Int) (ls : List Ln) : Int := if n < 1 ∨ 8 < n then 1 else if 24 < ls.length then 4 else fault n ls

theorem fault_bad {n : Int} {ls : List Ln} {k : Nat} (hk : k < ls.length) (h : (ls.getD k (0, 0)).1 < 0 ∨ n ≤ (ls.getD k (0, 0)).1 ∨ (ls.getD k (0, 0)).2 < 0 ∨ n ≤ (ls.getD k (0, 0)).2) : fault n (ls.drop k) = 1 := by
  rw [List.drop_eq_getElem_cons hk, fault, if_pos]
  simpa [List.getD, hk] using h
theorem fault_same {n : Int} {ls : List Ln} {k : Nat} (hk : k < ls.length) (h : ¬ ((ls.getD k (0, 0)).1 < 0 ∨ n ≤ (ls.getD k (0, 0)).1 ∨ (ls.getD k (0, 0)).2 < 0 ∨ n ≤ (ls.getD k (0, 0)).2)) (he : (ls.getD k (0, 0)).1 = (ls.getD k (0, 0)).2) : fault n (ls.drop k) = 3 := by
  rw [List.drop_eq_getElem_cons hk, fault, if_neg, if_pos]
  · simpa [List.getD, hk] using he
  · simpa [List.getD, hk] using h
theorem fault_on {n : Int} {ls : List Ln} {k : Nat} (hk : k < ls.length) (h : ¬ ((ls.getD k (0, 0)).1 < 0 ∨ n ≤ (ls.getD k (0, 0)).1 ∨ (ls.getD k (0, 0)).2 < 0 ∨ n ≤ (ls.getD k (0, 0)).2)) (he : ¬ (ls.getD k (0, 0)).1 = (ls.getD k (0, 0)).2) : fault n (ls.drop k) = fault n (ls.drop (k + 1)) := by
  rw [List.drop_eq_getElem_cons hk, fault, if_neg, if_neg]
  · simpa [List.getD, hk] using he
  · simpa [List.getD, hk] using h

/-- a good line -/
def Good (n : Int) (p : Ln) : Prop := 0 ≤ p.1 ∧ p.1 < n ∧ 0 ≤ p.2 ∧ p.2 < n ∧ p.1 ≠ p.2
theorem fault_zero {n : Int} : ∀ {ls : List Ln}, fault n ls = 0 ↔ ∀ p ∈ ls, Good n p := by
  intro ls
  induction ls with
  | nil => simp [fault]
  | cons p ps ih =>
    unfold fault
    split
    · rename_i h
      constructor
      · intro h0; omega
      · intro hg
        have := hg p (by simp)
        unfold Good at this
        omega
    · rename_i h
      split
      · rename_i he
        constructor
        · intro h0; omega
        · intro hg
          have := hg p (by simp)
          exact absurd he this.2.2.2.2
      · rename_i he
        rw [ih]
        constructor
        · intro hg q hq
          rcases List.mem_cons.1 hq with rfl | hq
          · unfold Good; exact ⟨by omega, by omega, by omega, by omega, he⟩
          · exact hg q hq
        · intro hg q hq
          exact hg q (List.mem_cons_of_mem _ hq)
theorem code_zero {n : Int} {ls : List Ln} : code n ls = 0 ↔ 1 ≤ n ∧ n ≤ 8 ∧ ls.length ≤ 24 ∧ ∀ p ∈ ls, Good n p := by
  unfold code
  split
  · constructor
    · intro h; omega
    · intro h; omega
  · split
    · constructor
      · intro h; omega
      · intro h; omega
    · rw [fault_zero]
      constructor
      · intro h; exact ⟨by omega, by omega, by omega, h⟩
      · intro h; exact h.2.2.2
theorem fault_cases (n : Int) : ∀ ls : List Ln, fault n ls = 0 ∨ fault n ls = 1 ∨ fault n ls = 3 := by
  intro ls
  induction ls with
  | nil => simp [fault]
  | cons p ps ih =>
    unfold fault
    split
    · simp
    · split
      · simp
      · exact ih
theorem code_cases (n : Int) (ls : List Ln) : code n ls = 0 ∨ code n ls = 1 ∨ code n ls = 3 ∨ code n ls = 4 := by
  unfold code
  split
  · simp
  · split
    · simp
    · rcases fault_cases n ls with h | h | h <;> simp [h]

/-- does a line go from a to b? -/
def has (ls : List Ln) (a b : Int) : Bool := ls.contains (a, b)
/-- are a and b beside each other? -/
def adj (ls : List Ln) (a b : Int) : Bool := has ls a b || has ls b a
theorem has_iff {ls : List Ln} {a b : Int} : has ls a b = true ↔ (a, b) ∈ ls := by simp [has]
theorem adj_iff {ls : List Ln} {a b : Int} : adj ls a b = true ↔ (a, b) ∈ ls ∨ (b, a) ∈ ls := by simp [adj, has]
theorem adj_comm (ls : List Ln) (a b : Int) : adj ls a b = adj ls b a := by simp [adj, Bool.or_comm]

/-- the pairs below m that are related, in order -/
def full (m : Nat) (r : Nat → Nat → Bool) : List (Nat × Nat) := (List.range m).flatMap fun a => ((List.range m).filter (r a)).map fun b => (a, b)
/-- those that come ahead of (a, b) -/
def upTo (m : Nat) (r : Nat → Nat → Bool) (a b : Nat) : List (Nat × Nat) := ((List.range a).flatMap fun a => ((List.range m).filter (r a)).map fun b => (a, b)) ++ ((List.range b).filter (r a)).map fun b => (a, b)
theorem upTo_hit {m : Nat} {r : Nat → Nat → Bool} {a b : Nat} (h : r a b = true) : upTo m r a (b + 1) = upTo m r a b ++ [(a, b)] := by
  simp [upTo, List.range_succ, List.filter_append, h]
theorem upTo_miss {m : Nat} {r : Nat → Nat → Bool} {a b : Nat} (h : r a b = false) : upTo m r a (b + 1) = upTo m r a b := by
  simp [upTo, List.range_succ, List.filter_append, h]
theorem upTo_row {m : Nat} {r : Nat → Nat → Bool} {a : Nat} : upTo m r a m = upTo m r (a + 1) 0 := by
  simp [upTo, List.range_succ]
theorem upTo_done {m : Nat} {r : Nat → Nat → Bool} : upTo m r m 0 = full m r := by simp [upTo, full]
theorem upTo_len {m : Nat} {r : Nat → Nat → Bool} (a b : Nat) : (upTo m r a b).length ≤ a * m + b := by
  have h1 : ∀ k, ((List.range k).flatMap fun a => ((List.range m).filter (r a)).map fun b => (a, b)).length ≤ k * m := by
    intro k
    induction k with
    | zero => simp
    | succ k ih =>
      rw [List.range_succ, List.flatMap_append, List.length_append, Nat.succ_mul]
      have := List.length_filter_le (r k) (List.range m)
      simp at this ⊢
      simp at ih
      omega
  have h2 := List.length_filter_le (r a) (List.range b)
  have h3 := h1 a
  unfold upTo
  rw [List.length_append, List.length_map]
  simp only [List.length_range] at h2
  omega
theorem upTo_small {m : Nat} {r : Nat → Nat → Bool} {a b : Nat} (ha : a < m) (hb : b < m) : (upTo m r a b).length < m * m := by
  have := upTo_len (m := m) (r := r) a b
  have : a * m + m ≤ m * m := by rw [← Nat.succ_mul]; exact Nat.mul_le_mul_right m ha
  omega
theorem full_len (m : Nat) (r : Nat → Nat → Bool) : (full m r).length ≤ m * m := by
  rw [← upTo_done]
  have := upTo_len (m := m) (r := r) m 0
  omega
theorem mem_full {m : Nat} {r : Nat → Nat → Bool} {p : Nat × Nat} : p ∈ full m r ↔ p.1 < m ∧ p.2 < m ∧ r p.1 p.2 = true := by
  obtain ⟨a, b⟩ := p
  simp only [full, List.mem_flatMap, List.mem_range, List.mem_map, List.mem_filter, Prod.mk.injEq]
  constructor
  · rintro ⟨x, hx, y, ⟨hy, hr⟩, rfl, rfl⟩; exact ⟨hx, hy, hr⟩
  · rintro ⟨h1, h2, h3⟩; exact ⟨a, h1, b, ⟨h2, h3⟩, rfl, rfl⟩

/-- what stands beside a among pairs -/
def side (pre : List (Nat × Nat)) (a : Nat) : List Int := (pre.filter fun p => p.1 == a).map fun p => (p.2 : Int)
theorem side_hit (pre : List (Nat × Nat)) (a b : Nat) : side (pre ++ [(a, b)]) a = side pre a ++ [(b : Int)] := by simp [side, List.filter_append]
theorem side_miss (pre : List (Nat × Nat)) (a b c : Nat) (h : ¬ a = c) : side (pre ++ [(a, b)]) c = side pre c := by simp [side, List.filter_append, h]
theorem side_len (pre : List (Nat × Nat)) (a : Nat) : (side pre a).length ≤ pre.length := by simp [side, List.length_filter_le]
theorem side_full (m : Nat) (r : Nat → Nat → Bool) {a : Nat} (ha : a < m) : side (full m r) a = ((List.range m).filter (r a)).map fun b => ((b : Nat) : Int) := by
  have key : ∀ k, (((List.range k).flatMap fun a => ((List.range m).filter (r a)).map fun b => (a, b)).filter fun p => p.1 == a) = if a < k then ((List.range m).filter (r a)).map fun b => (a, b) else [] := by
    intro k
    induction k with
    | zero => simp
    | succ k ih =>
      rw [List.range_succ, List.flatMap_append, List.filter_append, ih]
      simp only [List.flatMap_cons, List.flatMap_nil, List.append_nil, List.filter_map]
      by_cases hk : a = k
      · subst hk
        have : ((fun p : Nat × Nat => p.1 == a) ∘ fun b => (a, b)) = fun _ => true := by funext b; simp
        rw [this]
        simp
      · have : ((fun p : Nat × Nat => p.1 == a) ∘ fun b => (k, b)) = fun _ => false := by funext b; simp; omega
        rw [this]
        by_cases hl : a < k
        · rw [if_pos hl, if_pos (by omega)]; simp
        · rw [if_neg hl, if_neg (by omega)]; simp
  unfold side full
  rw [key m, if_pos ha]
  simp [List.map_map, Function.comp_def]

/-- who is beside a -/
def row (m : Nat) (ls : List Ln) (a : Nat) : List Int := ((List.range m).filter fun b : Nat => adj ls (a : Int) (b : Int)).map fun b => ((b : Nat) : Int)
/-- who is beside whom -/
def rows (m : Nat) (ls : List Ln) : List (List Int) := (List.range m).map (row m ls)
/-- the other lines -/
def other (m : Nat) (ls : List Ln) : List Ln := (full m fun a b => decide (a < b) && !adj ls (a : Int) (b : Int)).map fun p => ((p.1 : Int), (p.2 : Int))
theorem rows_len (m : Nat) (ls : List Ln) : (rows m ls).length = m := by simp [rows]
theorem rows_getD {m : Nat} (ls : List Ln) {a : Nat} (ha : a < m) : (rows m ls).getD a [] = row m ls a := by simp [rows, List.getD, ha]
theorem row_len (m : Nat) (ls : List Ln) (a : Nat) : (row m ls a).length ≤ m := by
  have := List.length_filter_le (fun b : Nat => adj ls a b) (List.range m)
  simpa [row] using this
theorem other_len (m : Nat) (ls : List Ln) : (other m ls).length ≤ m * m := by simpa [other] using full_len m _
theorem mem_row {m : Nat} {ls : List Ln} {a : Nat} {x : Int} : x ∈ row m ls a ↔ 0 ≤ x ∧ x < m ∧ adj ls a x = true := by
  simp only [row, List.mem_map, List.mem_filter, List.mem_range]
  constructor
  · rintro ⟨b, ⟨h1, h2⟩, rfl⟩; exact ⟨by omega, by omega, h2⟩
  · rintro ⟨h1, h2, h3⟩
    refine ⟨x.toNat, ⟨by omega, ?_⟩, by omega⟩
    rw [show ((x.toNat : Nat) : Int) = x by omega]
    exact h3
theorem mem_other {m : Nat} {ls : List Ln} {p : Ln} : p ∈ other m ls ↔ 0 ≤ p.1 ∧ p.1 < p.2 ∧ p.2 < m ∧ adj ls p.1 p.2 = false := by
  obtain ⟨x, y⟩ := p
  simp only [other, List.mem_map, mem_full, Prod.mk.injEq]
  constructor
  · rintro ⟨⟨a, b⟩, ⟨h1, h2, h3⟩, rfl, rfl⟩
    simp only [Bool.and_eq_true, decide_eq_true_eq, Bool.not_eq_true'] at h3
    exact ⟨by omega, by omega, by omega, h3.2⟩
  · rintro ⟨h1, h2, h3, h4⟩
    refine ⟨(x.toNat, y.toNat), ⟨by simp; omega, by simp; omega, ?_⟩, by simp; omega, by simp; omega⟩
    simp only [Bool.and_eq_true, decide_eq_true_eq, Bool.not_eq_true']
    refine ⟨by omega, ?_⟩
    rw [show ((x.toNat : Nat) : Int) = x by omega, show ((y.toNat : Nat) : Int) = y by omega]
    exact h4

/-- the number that a point has once i is gone -/
def dn (i v : Int) : Int := if i < v then v - 1 else v
/-- the lines without a point -/
def without (i : Int) : List Ln → List Ln
  | [] => []
  | p :: ps => if p.1 = i ∨ p.2 = i then without i ps else (dn i p.1, dn i p.2) :: without i ps
theorem without_app (i : Int) (qs : List Ln) : ∀ ps : List Ln, without i (ps ++ qs) = without i ps ++ without i qs := by
  intro ps
  induction ps with
  | nil => rfl
  | cons p ps ih =>
    simp only [List.cons_append, without]
    split
    · exact ih
    · rw [ih]; rfl
theorem without_len (i : Int) : ∀ ps : List Ln, (without i ps).length ≤ ps.length := by
  intro ps
  induction ps with
  | nil => simp [without]
  | cons p ps ih =>
    simp only [without]
    split
    · simp; omega
    · simp; omega
theorem without_take {i : Int} {ls : List Ln} {k : Nat} (hk : k < ls.length) (x : Ln) (hx : x = ls.getD k (0, 0)) : without i (ls.take (k + 1)) = if x.1 = i ∨ x.2 = i then without i (ls.take k) else without i (ls.take k) ++ [(dn i x.1, dn i x.2)] := by
  subst hx
  rw [List.take_succ_eq_append_getElem hk, without_app]
  simp only [List.getD, hk, List.getElem?_eq_getElem, Option.getD_some, without]
  split <;> simp

end Go.Proofs.YtojkjdccjomaaaaDoor.Gr

namespace Go.Proofs.YtojkjdccjomaaaaDoor.Gr

/-- lines turned round -/
def back (ls : List Ln) : List Ln := (ls.map fun p => (p.2, p.1)).reverse
theorem back_drop {ls : List Ln} {k : Nat} (hk : k < ls.length) (x : Ln) (hx : x = ls.getD k (0, 0)) : back (ls.drop k) = back (ls.drop (k + 1)) ++ [(x.2, x.1)] := by
  subst hx
  rw [List.drop_eq_getElem_cons hk]
  simp only [back, List.map_cons, List.reverse_cons, List.getD, hk, List.getElem?_eq_getElem, Option.getD_some]
theorem back_len (ls : List Ln) : (back ls).length = ls.length := by simp [back]
theorem mem_back {ls : List Ln} {a b : Int} : (a, b) ∈ back ls ↔ (b, a) ∈ ls := by
  simp only [back, List.mem_reverse, List.mem_map, Prod.mk.injEq]
  constructor
  · rintro ⟨⟨x, y⟩, h, rfl, rfl⟩; exact h
  · intro h; exact ⟨(b, a), h, rfl, rfl⟩
theorem adj_back (ls : List Ln) (a b : Int) : adj (back ls) a b = adj ls a b := by
  rw [Bool.eq_iff_iff, adj_iff, adj_iff, mem_back, mem_back]
  exact Or.comm
theorem rows_same {m : Nat} {ls ks : List Ln} (h : ∀ a b : Nat, a < m → b < m → adj ls a b = adj ks a b) : rows m ls = rows m ks := by
  refine List.map_congr_left fun a ha => ?_
  unfold row
  congr 1
  refine List.filter_congr fun b hb => ?_
  exact h a b (List.mem_range.1 ha) (List.mem_range.1 hb)
theorem rows_back (m : Nat) (ls : List Ln) : rows m (back ls) = rows m ls := rows_same fun a b _ _ => adj_back ls a b
theorem code_back {n : Int} {ls : List Ln} (h : code n ls = 0) : code n (back ls) = 0 := by
  obtain ⟨h1, h2, h3, h4⟩ := code_zero.1 h
  refine code_zero.2 ⟨h1, h2, by rw [back_len]; exact h3, fun p hp => ?_⟩
  obtain ⟨a, b⟩ := p
  have := h4 _ (mem_back.1 hp)
  unfold Good at this ⊢
  simp only at this ⊢
  exact ⟨this.2.2.1, this.2.2.2.1, this.1, this.2.1, fun e => this.2.2.2.2 e.symm⟩
theorem adj_ne {n : Int} {ls : List Ln} (h : code n ls = 0) {a b : Int} (hab : adj ls a b = true) : a ≠ b := by
  obtain ⟨_, _, _, h4⟩ := code_zero.1 h
  rcases adj_iff.1 hab with h | h
  · exact (h4 _ h).2.2.2.2
  · exact fun e => (h4 _ h).2.2.2.2 e.symm
/-- what stands in a row -/
theorem row_at {m : Nat} {ls : List Ln} (h : code (m : Int) ls = 0) {a k : Nat} (hk : k < (row m ls a).length) (ha : a < m) (x : Int) (hx : x = (row m ls a).getD k 0) :
    0 ≤ x ∧ x < m ∧ (row m ls x.toNat).contains (a : Int) = true ∧ x ≠ a := by
  have hm : x ∈ row m ls a := by
    rw [hx]
    simp only [List.getD, hk, List.getElem?_eq_getElem, Option.getD_some]
    exact List.getElem_mem hk
  obtain ⟨h1, h2, h3⟩ := mem_row.1 hm
  refine ⟨h1, h2, ?_, fun e => adj_ne h h3 e.symm⟩
  rw [List.contains_iff_mem, mem_row]
  refine ⟨by omega, by omega, ?_⟩
  rw [show ((x.toNat : Nat) : Int) = x by omega, adj_comm]
  exact h3

/-! ### without two points -/
theorem dn_good {n i v : Int} (h0 : 0 ≤ v) (h1 : v < n) (hi0 : 0 ≤ i) (hi1 : i < n) (hv : v ≠ i) : 0 ≤ dn i v ∧ dn i v < n - 1 := by
  unfold dn
  split <;> omega
theorem dn_inj {i v u : Int} (hv : v ≠ i) (hu : u ≠ i) (h : v ≠ u) : dn i v ≠ dn i u := by
  unfold dn
  split <;> split <;> omega
theorem dn_hit {i j v : Int} (hij : i < j) (hv : v ≠ i) : dn i v = j - 1 ↔ v = j := by
  unfold dn
  split <;> omega
theorem dn_low {i j v : Int} (hij : i < j) (_hv : v ≠ j) : dn j v = i ↔ v = i := by
  unfold dn
  split <;> omega
theorem dn_swap {i j v : Int} (hij : i < j) (_h1 : v ≠ i) (_h2 : v ≠ j) : dn (j - 1) (dn i v) = dn i (dn j v) := by
  unfold dn
  (repeat' split) <;> omega
theorem without_good {n i : Int} (hi0 : 0 ≤ i) (hi1 : i < n) : ∀ {ls : List Ln}, (∀ p ∈ ls, Good n p) → ∀ p ∈ without i ls, Good (n - 1) p := by
  intro ls
  induction ls with
  | nil => intro _ p hp; cases hp
  | cons q qs ih =>
    intro h p hp
    have hq := h q (by simp)
    have hqs := ih (fun p hp => h p (List.mem_cons_of_mem _ hp))
    unfold without at hp
    split at hp
    · exact hqs p hp
    · rename_i hne
      rcases List.mem_cons.1 hp with rfl | hp
      · unfold Good at hq ⊢
        obtain ⟨g1, g2, g3, g4, g5⟩ := hq
        obtain ⟨a1, a2⟩ := dn_good g1 g2 hi0 hi1 (fun e => hne (.inl e))
        obtain ⟨b1, b2⟩ := dn_good g3 g4 hi0 hi1 (fun e => hne (.inr e))
        exact ⟨a1, a2, b1, b2, dn_inj (fun e => hne (.inl e)) (fun e => hne (.inr e)) g5⟩
      · exact hqs p hp
theorem without_swap {i j : Int} (hij : i < j) : ∀ ls : List Ln, without (j - 1) (without i ls) = without i (without j ls) := by
  intro ls
  induction ls with
  | nil => rfl
  | cons p ps ih =>
    obtain ⟨a, b⟩ := p
    by_cases h1 : a = i ∨ b = i
    · by_cases h2 : a = j ∨ b = j
      · simp only [without, if_pos h1, if_pos h2]; exact ih
      · have h3 : dn j a = i ∨ dn j b = i := by
          rcases h1 with h | h
          · exact .inl ((dn_low hij (fun e => h2 (.inl e))).2 h)
          · exact .inr ((dn_low hij (fun e => h2 (.inr e))).2 h)
        simp only [without, if_pos h1, if_neg h2, if_pos h3]; exact ih
    · by_cases h2 : a = j ∨ b = j
      · have h3 : dn i a = j - 1 ∨ dn i b = j - 1 := by
          rcases h2 with h | h
          · exact .inl ((dn_hit hij (fun e => h1 (.inl e))).2 h)
          · exact .inr ((dn_hit hij (fun e => h1 (.inr e))).2 h)
        simp only [without, if_neg h1, if_pos h2, if_pos h3]; exact ih
      · have n1 : ¬ (dn i a = j - 1 ∨ dn i b = j - 1) := by
          rintro (h | h)
          · exact h2 (.inl ((dn_hit hij (fun e => h1 (.inl e))).1 h))
          · exact h2 (.inr ((dn_hit hij (fun e => h1 (.inr e))).1 h))
        have n2 : ¬ (dn j a = i ∨ dn j b = i) := by
          rintro (h | h)
          · exact h1 (.inl ((dn_low hij (fun e => h2 (.inl e))).1 h))
          · exact h1 (.inr ((dn_low hij (fun e => h2 (.inr e))).1 h))
        simp only [without, if_neg h1, if_neg h2, if_neg n1, if_neg n2, ih]
        rw [dn_swap hij (fun e => h1 (.inl e)) (fun e => h2 (.inl e)), dn_swap hij (fun e => h1 (.inr e)) (fun e => h2 (.inr e))]
theorem code_without {n i : Int} {ls : List Ln} (h : code n ls = 0) (hn : n ≠ 1) (hi0 : 0 ≤ i) (hi1 : i < n) : code (n - 1) (without i ls) = 0 := by
  obtain ⟨h1, h2, h3, h4⟩ := code_zero.1 h
  exact code_zero.2 ⟨by omega, by omega, Nat.le_trans (without_len i ls) h3, without_good hi0 hi1 h4⟩

/-! ### the others -/
theorem code_other {m : Nat} {ls : List Ln} (h : code (m : Int) ls = 0) (hl : (other m ls).length ≤ 24) : code (m : Int) (other m ls) = 0 := by
  obtain ⟨h1, h2, _, _⟩ := code_zero.1 h
  refine code_zero.2 ⟨h1, h2, hl, fun p hp => ?_⟩
  obtain ⟨a1, a2, a3, _⟩ := mem_other.1 hp
  exact ⟨a1, by omega, by omega, a3, by omega⟩
theorem adj_other {m : Nat} {ls : List Ln} {a b : Int} (ha0 : 0 ≤ a) (ha : a < m) (hb0 : 0 ≤ b) (hb : b < m) (hab : a ≠ b) : adj (other m ls) a b = !adj ls a b := by
  rw [Bool.eq_iff_iff, adj_iff, mem_other, mem_other, Bool.not_eq_true']
  simp only
  constructor
  · rintro (h | h)
    · exact h.2.2.2
    · rw [adj_comm]; exact h.2.2.2
  · intro h
    rcases Int.lt_or_gt_of_ne hab with h1 | h1
    · exact .inl ⟨ha0, h1, hb, h⟩
    · exact .inr ⟨hb0, h1, ha, by rw [adj_comm]; exact h⟩
theorem adj_other_self {m : Nat} {ls : List Ln} {a : Int} : adj (other m ls) a a = false := by
  cases h : adj (other m ls) a a with
  | false => rfl
  | true =>
    rcases adj_iff.1 h with h | h <;> (have := mem_other.1 h; simp only at this; omega)
theorem rows_other {m : Nat} {ls : List Ln} (h : code (m : Int) ls = 0) : rows m (other m (other m ls)) = rows m ls := by
  refine rows_same fun a b ha hb => ?_
  by_cases hab : (a : Int) = b
  · rw [hab, adj_other_self]
    cases hx : adj ls (b : Int) (b : Int) with
    | false => rfl
    | true => exact absurd rfl (adj_ne h hx)
  · rw [adj_other (by omega) (by omega) (by omega) (by omega) hab, adj_other (by omega) (by omega) (by omega) (by omega) hab, Bool.not_not]

end Go.Proofs.YtojkjdccjomaaaaDoor.Gr
