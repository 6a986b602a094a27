/-
  Plain facts on pairs of points, with no program in them: adding pairs one by one, what hangs together, how many parts there are, and when a ring closes. No statement of the program is proved here; there is no condition.
-/
import Derived.WalkKit
set_option linter.unusedSimpArgs false
set_option linter.unusedVariables false
namespace Go.Proofs.Ytjcdnkbandagoaa.Wr

/-- beside each other by a pair -/
def Adj (E : List (Nat × Nat)) (u v : Nat) : Prop := (u, v) ∈ E ∨ (v, u) ∈ E
/-- hanging together by pairs -/
inductive Conn (E : List (Nat × Nat)) : Nat → Nat → Prop
  | refl (u : Nat) : Conn E u u
  | step {u v x : Nat} : Conn E u v → Adj E v x → Conn E u x

section
variable {E E' : List (Nat × Nat)} {u v x y : Nat}
theorem Conn.one (h : Adj E u v) : Conn E u v := (Conn.refl u).step h
theorem Conn.trans (h1 : Conn E u v) (h2 : Conn E v x) : Conn E u x := by
  induction h2 with
  | refl => exact h1
  | step _ ha ih => exact ih.step ha
theorem Conn.symm (h : Conn E u v) : Conn E v u := by
  induction h with
  | refl => exact .refl _
  | step _ ha ih => exact (Conn.one (Or.symm ha)).trans ih
theorem Conn.mono (hs : ∀ p ∈ E, p ∈ E') (h : Conn E u v) : Conn E' u v := by
  induction h with
  | refl => exact .refl _
  | step _ ha ih => exact ih.step (ha.imp (hs _) (hs _))
theorem Conn.cons (h : Conn E u v) (p : Nat × Nat) : Conn (p :: E) u v := h.mono fun _ hp => List.mem_cons_of_mem _ hp
/-- one pair more -/
theorem Conn.split (h : Conn ((x, y) :: E) u v) : Conn E u v ∨ (Conn E u x ∧ Conn E y v) ∨ (Conn E u y ∧ Conn E x v) := by
  induction h with
  | refl => exact .inl (.refl _)
  | @step a b _ ha ih =>
    have hcase : Adj E a b ∨ (a = x ∧ b = y) ∨ (a = y ∧ b = x) := by
      rcases ha with h | h
      · rcases List.mem_cons.1 h with h | h
        · simp only [Prod.mk.injEq] at h; exact .inr (.inl h)
        · exact .inl (.inl h)
      · rcases List.mem_cons.1 h with h | h
        · simp only [Prod.mk.injEq] at h; exact .inr (.inr ⟨h.2, h.1⟩)
        · exact .inl (.inr h)
    rcases hcase with hE | ⟨rfl, rfl⟩ | ⟨rfl, rfl⟩
    · rcases ih with h | ⟨h1, h2⟩ | ⟨h1, h2⟩
      · exact .inl (h.step hE)
      · exact .inr (.inl ⟨h1, h2.step hE⟩)
      · exact .inr (.inr ⟨h1, h2.step hE⟩)
    · rcases ih with h | ⟨h1, h2⟩ | ⟨h1, h2⟩
      · exact .inr (.inl ⟨h, .refl _⟩)
      · exact .inr (.inl ⟨h1, .refl _⟩)
      · exact .inl h1
    · rcases ih with h | ⟨h1, h2⟩ | ⟨h1, h2⟩
      · exact .inr (.inr ⟨h, .refl _⟩)
      · exact .inl h1
      · exact .inr (.inr ⟨h1, .refl _⟩)
theorem Conn.unsplit (h : Conn E u v ∨ (Conn E u x ∧ Conn E y v) ∨ (Conn E u y ∧ Conn E x v)) : Conn ((x, y) :: E) u v := by
  have hxy : Conn ((x, y) :: E) x y := .one (.inl (List.mem_cons_self ..))
  rcases h with h | ⟨h1, h2⟩ | ⟨h1, h2⟩
  · exact h.cons _
  · exact ((h1.cons _).trans hxy).trans (h2.cons _)
  · exact ((h1.cons _).trans hxy.symm).trans (h2.cons _)
end

/-- the least point that hangs together with one, by pairs -/
def fl : List (Nat × Nat) → Nat → Nat
  | [], v => v
  | p :: E, v => if fl E v = max (fl E p.1) (fl E p.2) then min (fl E p.1) (fl E p.2) else fl E v
theorem fl_cons (p : Nat × Nat) (E : List (Nat × Nat)) (v : Nat) : fl (p :: E) v = if fl E v = max (fl E p.1) (fl E p.2) then min (fl E p.1) (fl E p.2) else fl E v := rfl
/-- how many pairs have joined two parts -/
def joins : List (Nat × Nat) → Nat
  | [] => 0
  | p :: E => if fl E p.1 = fl E p.2 then joins E else joins E + 1

theorem fl_le : ∀ (E : List (Nat × Nat)) (v : Nat), fl E v ≤ v
  | [], v => Nat.le_refl _
  | p :: E, v => by
    have h := fl_le E v
    rw [fl_cons]
    split
    · omega
    · exact h
theorem fl_fix : ∀ (E : List (Nat × Nat)) (v : Nat), fl E (fl E v) = fl E v
  | [], v => rfl
  | p :: E, v => by
    have hx := fl_fix E p.1
    have hy := fl_fix E p.2
    have hv := fl_fix E v
    have hmin : fl E (min (fl E p.1) (fl E p.2)) = min (fl E p.1) (fl E p.2) := by
      rcases Nat.le_total (fl E p.1) (fl E p.2) with h | h
      · rw [Nat.min_eq_left h]; exact hx
      · rw [Nat.min_eq_right h]; exact hy
    by_cases h : fl E v = max (fl E p.1) (fl E p.2)
    · have e : fl (p :: E) v = min (fl E p.1) (fl E p.2) := by rw [fl_cons, if_pos h]
      rw [e, fl_cons, hmin]
      split <;> rfl
    · have e : fl (p :: E) v = fl E v := by rw [fl_cons, if_neg h]
      rw [e, fl_cons, hv, if_neg h]
theorem fl_conn : ∀ (E : List (Nat × Nat)) (u v : Nat), fl E u = fl E v ↔ Conn E u v
  | [], u, v => by
    constructor
    · intro h
      have : u = v := h
      subst this; exact .refl _
    · intro h
      induction h with
      | refl => rfl
      | step _ ha _ => simp [Adj] at ha
  | (x, y) :: E, u, v => by
    have key : fl ((x, y) :: E) u = fl ((x, y) :: E) v ↔ (fl E u = fl E v ∨ (fl E u = fl E x ∧ fl E y = fl E v) ∨ (fl E u = fl E y ∧ fl E x = fl E v)) := by
      rw [fl_cons, fl_cons]
      simp only
      split <;> split <;> omega
    rw [key, fl_conn E u v, fl_conn E u x, fl_conn E y v, fl_conn E u y, fl_conn E x v]
    exact ⟨Conn.unsplit, Conn.split⟩
/-- the least of all that hang together with v -/
theorem fl_least {E : List (Nat × Nat)} {t v : Nat} (h : Conn E t v) : fl E v ≤ t := by
  rw [← (fl_conn E t v).2 h]
  exact fl_le E t
theorem fl_self (E : List (Nat × Nat)) (v : Nat) : Conn E (fl E v) v := (fl_conn E _ _).1 (fl_fix E v)

theorem filter_less (p : Nat → Bool) (M : Nat) (hp : p M = true) : ∀ (l : List Nat), l.Nodup → M ∈ l → (l.filter fun v => p v && !decide (v = M)).length + 1 = (l.filter p).length
  | [], _, h => by simp at h
  | a :: l, hnd, h => by
    obtain ⟨hn1, hn2⟩ := List.nodup_cons.1 hnd
    by_cases e : a = M
    · subst e
      have : l.filter (fun v => p v && !decide (v = a)) = l.filter p := by
        refine List.filter_congr fun v hv => ?_
        have : v ≠ a := fun e => hn1 (by rw [← e]; exact hv)
        simp [this]
      simp [List.filter_cons, hp, this]
    · have ih := filter_less p M hp l hn2 (by rcases List.mem_cons.1 h with h | h; exact absurd h.symm e; exact h)
      cases hpa : p a
      · simp [List.filter_cons, hpa]
        simpa using ih
      · simp [List.filter_cons, hpa, e]
        simpa using ih
/-- how many points are the least of their part -/
def cnt (E : List (Nat × Nat)) (n : Nat) : Nat := ((List.range n).filter fun v => decide (fl E v = v)).length
theorem cnt_joins (n : Nat) : ∀ (E : List (Nat × Nat)), (∀ p ∈ E, p.1 < n ∧ p.2 < n) → cnt E n + joins E = n
  | [], _ => by
    have : (List.range n).filter (fun _ => true) = List.range n := List.filter_eq_self.2 (by simp)
    simp [cnt, joins, fl, this]
  | (x, y) :: E, h => by
    have ih := cnt_joins n E (fun p hp => h p (List.mem_cons_of_mem _ hp))
    obtain ⟨hx, hy⟩ := h (x, y) (List.mem_cons_self ..)
    have fx := fl_fix E x
    have fy := fl_fix E y
    have lx := fl_le E x
    have ly := fl_le E y
    by_cases e : fl E x = fl E y
    · have hs : ∀ v, fl ((x, y) :: E) v = fl E v := by
        intro v
        rw [fl_cons]
        simp only
        split <;> omega
      have : cnt ((x, y) :: E) n = cnt E n := by
        unfold cnt
        simp only [hs]
      rw [this, joins, if_pos e]
      exact ih
    · obtain ⟨M, hM⟩ : ∃ M, M = max (fl E x) (fl E y) := ⟨_, rfl⟩
      have hMf : fl E M = M := by
        rcases Nat.le_total (fl E x) (fl E y) with h | h
        · rw [hM, Nat.max_eq_right h]; exact fy
        · rw [hM, Nat.max_eq_left h]; exact fx
      have hmf : fl E (min (fl E x) (fl E y)) = min (fl E x) (fl E y) := by
        rcases Nat.le_total (fl E x) (fl E y) with h | h
        · rw [Nat.min_eq_left h]; exact fx
        · rw [Nat.min_eq_right h]; exact fy
      have hs : ∀ v, decide (fl ((x, y) :: E) v = v) = (decide (fl E v = v) && !decide (v = M)) := by
        intro v
        have hv : fl ((x, y) :: E) v = if fl E v = M then min (fl E x) (fl E y) else fl E v := by rw [hM]; rfl
        rw [hv]
        by_cases h1 : fl E v = M
        · rw [if_pos h1]
          have h2 : ¬ min (fl E x) (fl E y) = v := by
            intro h3
            rw [h3] at hmf
            omega
          by_cases h3 : fl E v = v
          · have : v = M := by omega
            rw [decide_eq_false h2, decide_eq_true this]
            simp
          · simp [h2, h3]
        · rw [if_neg h1]
          by_cases h3 : fl E v = v
          · have : ¬ v = M := by omega
            simp [h3, this]
          · simp [h3]
      have hless := filter_less (fun v => decide (fl E v = v)) M (by simp [hMf]) (List.range n) List.nodup_range (by rw [List.mem_range]; omega)
      have hc : cnt ((x, y) :: E) n + 1 = cnt E n := by
        unfold cnt
        simp only [hs]
        exact hless
      rw [joins, if_neg e]
      omega
theorem joins_le : ∀ (E : List (Nat × Nat)), joins E ≤ E.length
  | [] => Nat.le_refl _
  | p :: E => by
    have := joins_le E
    unfold joins
    rw [List.length_cons]
    split <;> omega

/-- a pair whose points hang together without it -/
def Cyc (E : List (Nat × Nat)) : Prop := ∃ g ∈ E, Conn (E.erase g) g.1 g.2
theorem cyc_of_less : ∀ (E : List (Nat × Nat)), joins E < E.length → Cyc E
  | [], h => by simp at h
  | p :: E, h => by
    by_cases e : fl E p.1 = fl E p.2
    · refine ⟨p, List.mem_cons_self .., ?_⟩
      rw [List.erase_cons_head]
      exact (fl_conn E _ _).1 e
    · rw [joins, if_neg e, List.length_cons] at h
      obtain ⟨g, hg, hc⟩ := cyc_of_less E (by omega)
      refine ⟨g, List.mem_cons_of_mem _ hg, hc.mono fun q hq => ?_⟩
      by_cases e2 : p = g
      · subst e2
        rw [List.erase_cons_head]
        exact List.mem_of_mem_erase hq
      · rw [List.erase_cons_tail (by simpa using e2)]
        exact List.mem_cons_of_mem _ hq
theorem not_cyc_of_all : ∀ (E : List (Nat × Nat)), joins E = E.length → ¬ Cyc E
  | [], _ => fun ⟨g, hg, _⟩ => by simp at hg
  | (x, y) :: E, h => by
    have hle := joins_le E
    by_cases e : fl E x = fl E y
    · rw [joins, if_pos e, List.length_cons] at h
      omega
    · rw [joins, if_neg e, List.length_cons] at h
      have ih := not_cyc_of_all E (by omega)
      have hnc : ¬ Conn E x y := fun hc => e ((fl_conn E x y).2 hc)
      rintro ⟨g, hg, hc⟩
      by_cases e2 : (x, y) = g
      · subst e2
        rw [List.erase_cons_head] at hc
        exact hnc hc
      · have hgE : g ∈ E := by
          rcases List.mem_cons.1 hg with h | h
          · exact absurd h.symm e2
          · exact h
        rw [List.erase_cons_tail (by simpa using e2)] at hc
        have sub : ∀ q ∈ E.erase g, q ∈ E := fun q hq => List.mem_of_mem_erase hq
        have hgc : Conn E g.1 g.2 := .one (.inl hgE)
        rcases hc.split with h1 | ⟨h1, h2⟩ | ⟨h1, h2⟩
        · exact ih ⟨g, hgE, h1⟩
        · exact hnc (((h1.mono sub).symm.trans hgc).trans (h2.mono sub).symm)
        · exact hnc ((((h1.mono sub).symm.trans hgc).trans (h2.mono sub).symm).symm)
theorem cyc_iff (E : List (Nat × Nat)) : Cyc E ↔ joins E ≠ E.length := by
  have := joins_le E
  constructor
  · intro h e; exact not_cyc_of_all E e h
  · intro h; exact cyc_of_less E (by omega)

end Go.Proofs.Ytjcdnkbandagoaa.Wr
