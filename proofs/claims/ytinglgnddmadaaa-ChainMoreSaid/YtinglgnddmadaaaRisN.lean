/-
  Plain facts on choosing the least again and again, with no program in them: what is chosen rises, and is the same numbers. No statement of the program is proved here; there is no condition.
-/
import Derived.WalkKit
set_option linter.unusedSimpArgs false
set_option linter.unusedVariables false
namespace Go.Proofs.Ytinglgnddmadaaa.Ri

/-- those that are not used -/
def rest (zs : List Int) (u : List Bool) : List Int := ((List.range zs.length).filter fun i => !u.getD i false).map fun i => zs.getD i 0
theorem filter_but {p : Nat → Bool} {i : Nat} (hp : p i = true) : ∀ {l : List Nat}, l.Nodup → i ∈ l → (l.filter p).Perm (i :: l.filter fun x => p x && !decide (x = i))
  | [], _, h => absurd h (by simp)
  | x :: l, hn, h => by
    obtain ⟨hx, hn⟩ := List.nodup_cons.1 hn
    by_cases e : x = i
    · subst e
      have e1 : (l.filter fun y => p y && !decide (y = x)) = l.filter p := List.filter_congr fun y hy => by
        have : ¬ y = x := fun e => hx (e ▸ hy)
        simp [this]
      rw [List.filter_cons_of_pos hp, List.filter_cons_of_neg (by simp), e1]
    · have hm : i ∈ l := by
        rcases List.mem_cons.1 h with h | h
        · exact absurd h.symm e
        · exact h
      have ih := filter_but hp hn hm
      cases hpx : p x with
      | true =>
        rw [List.filter_cons_of_pos hpx, List.filter_cons_of_pos (by simp [hpx, e])]
        exact (ih.cons x).trans (List.Perm.swap _ _ _)
      | false =>
        rw [List.filter_cons_of_neg (by simp [hpx]), List.filter_cons_of_neg (by simp [hpx])]
        exact ih
theorem set_at (u : List Bool) (i j : Nat) (hi : i < u.length) : (u.set i true).getD j false = (u.getD j false || decide (j = i)) := by
  simp only [List.getD, List.getElem?_set]
  by_cases e : i = j
  · subst e; simp [hi]
  · have : ¬ j = i := fun h => e h.symm
    simp [e, this]
/-- what holds behind some choices -/
structure Inv (zs : List Int) (u : List Bool) (o : List Int) : Prop where
  len : u.length = zs.length
  srt : o.Pairwise (· ≤ ·)
  low : ∀ i, i < zs.length → u.getD i false = false → ∀ x ∈ o, x ≤ zs.getD i 0
  perm : (o ++ rest zs u).Perm zs
theorem all_at (zs : List Int) : ((List.range zs.length).map fun i => zs.getD i 0) = zs := by
  refine List.ext_getElem (by simp) fun i h1 h2 => ?_
  simp [List.getD, h2]
theorem Inv.start (zs : List Int) : Inv zs (List.replicate zs.length false) [] := by
  refine ⟨by simp, List.Pairwise.nil, fun i _ _ x hx => absurd hx (by simp), ?_⟩
  have e : (List.range zs.length).filter (fun i => !(List.replicate zs.length false).getD i false) = List.range zs.length := List.filter_eq_self.2 fun i hi => by
    have := List.mem_range.1 hi
    simp [List.getD, this]
  unfold rest
  rw [e, all_at]
  exact List.Perm.refl _
theorem Inv.take {zs : List Int} {u : List Bool} {o : List Int} (h : Inv zs u o) {i : Nat} (hi : i < zs.length) (hu : u.getD i false = false) (hm : ∀ j, j < zs.length → u.getD j false = false → zs.getD i 0 ≤ zs.getD j 0) : Inv zs (u.set i true) (o ++ [zs.getD i 0]) := by
  have hil : i < u.length := by rw [h.len]; exact hi
  refine ⟨by rw [List.length_set]; exact h.len, ?_, fun j hj hju x hx => ?_, ?_⟩
  · rw [List.pairwise_append]
    refine ⟨h.srt, by simp, fun a ha b hb => ?_⟩
    obtain rfl : b = zs.getD i 0 := by simpa using hb
    exact h.low i hi hu a ha
  · rw [set_at _ _ _ hil] at hju
    have hju' : u.getD j false = false := by
      cases e : u.getD j false
      · rfl
      · rw [e] at hju; simp at hju
    rcases List.mem_append.1 hx with hx | hx
    · exact h.low j hj hju' x hx
    · obtain rfl : x = zs.getD i 0 := by simpa using hx
      exact hm j hj hju'
  · have e : (List.range zs.length).filter (fun j => !(u.set i true).getD j false) = (List.range zs.length).filter fun j => (!u.getD j false) && !decide (j = i) := List.filter_congr fun j _ => by
      rw [set_at _ _ _ hil, Bool.not_or]
    have hp := (filter_but (p := fun j => !u.getD j false) (i := i) (by simpa using hu) (l := List.range zs.length) List.nodup_range (List.mem_range.2 hi)).map fun j => zs.getD j 0
    have h2 := h.perm
    unfold rest at h2 ⊢
    rw [e, List.append_assoc]
    refine List.Perm.trans ?_ h2
    exact (hp.symm.append_left o)
theorem Inv.count {zs : List Int} {u : List Bool} {o : List Int} (h : Inv zs u o) : o.length + (rest zs u).length = zs.length := by
  have := h.perm.length_eq
  rwa [List.length_append] at this
/-- one is left -/
theorem Inv.more {zs : List Int} {u : List Bool} {o : List Int} (h : Inv zs u o) (hl : o.length < zs.length) : ∃ i, i < zs.length ∧ u.getD i false = false := by
  have hc := h.count
  have : 0 < (rest zs u).length := by omega
  unfold rest at this
  rw [List.length_map] at this
  obtain ⟨i, hi⟩ := List.exists_mem_of_length_pos this
  obtain ⟨h1, h2⟩ := List.mem_filter.1 hi
  exact ⟨i, List.mem_range.1 h1, by simpa using h2⟩
theorem Inv.done {zs : List Int} {u : List Bool} {o : List Int} (h : Inv zs u o) (hl : o.length = zs.length) : o.Pairwise (· ≤ ·) ∧ o.Perm zs := by
  have hc := h.count
  have e : rest zs u = [] := List.eq_nil_of_length_eq_zero (by omega)
  have := h.perm
  rw [e, List.append_nil] at this
  exact ⟨h.srt, this⟩

/-- the least so far of those that are not used -/
def Best (zs : List Int) (u : List Bool) (i : Nat) (b : Int) : Prop :=
  (b = -1 ∧ ∀ j, j < i → u.getD j false = true) ∨ ∃ p : Nat, b = (p : Int) ∧ p < i ∧ u.getD p false = false ∧ ∀ j, j < i → u.getD j false = false → zs.getD p 0 ≤ zs.getD j 0
theorem Best.start (zs : List Int) (u : List Bool) : Best zs u 0 (-1) := .inl ⟨rfl, fun j hj => absurd hj (Nat.not_lt_zero _)⟩
theorem Best.skip {zs : List Int} {u : List Bool} {i : Nat} {b : Int} (h : Best zs u i b) (hi : u.getD i false = true) : Best zs u (i + 1) b := by
  rcases h with ⟨e, h⟩ | ⟨p, e, hp, h1, h2⟩
  · refine .inl ⟨e, fun j hj => ?_⟩
    by_cases ej : j = i
    · rw [ej]; exact hi
    · exact h j (by omega)
  · refine .inr ⟨p, e, by omega, h1, fun j hj hu => ?_⟩
    by_cases ej : j = i
    · rw [ej, hi] at hu; cases hu
    · exact h2 j (by omega) hu
theorem Best.first {zs : List Int} {u : List Bool} {i : Nat} (h : Best zs u i (-1)) (hi : u.getD i false = false) : Best zs u (i + 1) (i : Int) := by
  rcases h with ⟨_, h⟩ | ⟨p, e, _⟩
  · refine .inr ⟨i, rfl, by omega, hi, fun j hj hu => ?_⟩
    by_cases ej : j = i
    · rw [ej]; exact Int.le_refl _
    · rw [h j (by omega)] at hu; cases hu
  · omega
theorem Best.less {zs : List Int} {u : List Bool} {i p : Nat} (h : Best zs u i (p : Int)) (hi : u.getD i false = false) (hl : zs.getD i 0 < zs.getD p 0) : Best zs u (i + 1) (i : Int) := by
  rcases h with ⟨e, _⟩ | ⟨q, e, hq, h1, h2⟩
  · omega
  · obtain rfl : p = q := by omega
    refine .inr ⟨i, rfl, by omega, hi, fun j hj hu => ?_⟩
    by_cases ej : j = i
    · rw [ej]; exact Int.le_refl _
    · have := h2 j (by omega) hu; omega
theorem Best.keep {zs : List Int} {u : List Bool} {i p : Nat} (h : Best zs u i (p : Int)) (hl : ¬ zs.getD i 0 < zs.getD p 0) : Best zs u (i + 1) (p : Int) := by
  rcases h with ⟨e, _⟩ | ⟨q, e, hq, h1, h2⟩
  · omega
  · obtain rfl : p = q := by omega
    refine .inr ⟨p, rfl, by omega, h1, fun j hj hu => ?_⟩
    by_cases ej : j = i
    · rw [ej]; omega
    · exact h2 j (by omega) hu
theorem Best.end_ {zs : List Int} {u : List Bool} {o : List Int} {b : Int} (h : Best zs u zs.length b) (hI : Inv zs u o) (hl : o.length < zs.length) : ∃ p : Nat, b = (p : Int) ∧ p < zs.length ∧ u.getD p false = false ∧ ∀ j, j < zs.length → u.getD j false = false → zs.getD p 0 ≤ zs.getD j 0 := by
  rcases h with ⟨_, h⟩ | h
  · obtain ⟨i, hi, hu⟩ := hI.more hl
    rw [h i hi] at hu
    cases hu
  · exact h

/-- the last one is the greatest -/
theorem last_most {zs r : List Int} (hs : r.Pairwise (· ≤ ·)) (hp : r.Perm zs) (h0 : 0 < zs.length) : (∃ i, i < zs.length ∧ zs.getD i 0 = r.getD (zs.length - 1) 0) ∧ ∀ i, i < zs.length → zs.getD i 0 ≤ r.getD (zs.length - 1) 0 := by
  have hl := hp.length_eq
  have hk : zs.length - 1 < r.length := by omega
  have e1 : r.getD (zs.length - 1) 0 = r[zs.length - 1] := by simp [List.getD, hk]
  constructor
  · have hm : r[zs.length - 1] ∈ zs := hp.mem_iff.1 (List.getElem_mem hk)
    obtain ⟨i, hi, e⟩ := List.mem_iff_getElem.1 hm
    exact ⟨i, hi, by rw [e1, ← e]; simp [List.getD, hi]⟩
  · intro i hi
    have hm : zs[i] ∈ r := hp.mem_iff.2 (List.getElem_mem hi)
    obtain ⟨j, hj, e⟩ := List.mem_iff_getElem.1 hm
    have e2 : zs.getD i 0 = r[j] := by rw [e]; simp [List.getD, hi]
    rw [e1, e2]
    by_cases ej : j = zs.length - 1
    · subst ej; exact Int.le_refl _
    · exact List.pairwise_iff_getElem.1 hs j (zs.length - 1) hj hk (by omega)
end Go.Proofs.Ytinglgnddmadaaa.Ri
