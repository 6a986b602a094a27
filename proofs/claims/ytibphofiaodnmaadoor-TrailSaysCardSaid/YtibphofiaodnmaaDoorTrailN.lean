/-
  Plain facts on ways that use every line once, with no program in them: at how many points an odd number of lines end, when there is such a way, and which comes first. No statement of the program is proved here; there is no condition.
-/
import Derived.Test.YtibphofiaodnmaaDoorWalkR
set_option linter.unusedSimpArgs false
set_option linter.unusedVariables false
namespace Go.Proofs.YtibphofiaodnmaaDoor.Tl
open Wr

/-- ends the line there? -/
def inc (v : Nat) (p : Nat × Nat) : Bool := decide (p.1 = v) || decide (p.2 = v)
/-- how many lines end there -/
def dg (E : List (Nat × Nat)) (v : Nat) : Nat := E.countP (inc v)
/-- an odd number of lines ends there -/
def Odd (E : List (Nat × Nat)) (v : Nat) : Prop := dg E v % 2 = 1
/-- lines between points below m, the lesser first -/
def Good (m : Nat) (E : List (Nat × Nat)) : Prop := ∀ p ∈ E, p.1 < p.2 ∧ p.2 < m
/-- the line between two points -/
def sg (u v : Nat) : Nat × Nat := (min u v, max u v)
theorem sg_comm (u v : Nat) : sg u v = sg v u := by unfold sg; rw [Nat.min_comm, Nat.max_comm]
theorem sg_adj {E : List (Nat × Nat)} {u v : Nat} (h : sg u v ∈ E) : Adj E u v := by
  unfold sg at h
  rcases Nat.le_total u v with h' | h'
  · rw [Nat.min_eq_left h', Nat.max_eq_right h'] at h; exact .inl h
  · rw [Nat.min_eq_right h', Nat.max_eq_left h'] at h; exact .inr h
theorem adj_sg {m : Nat} {E : List (Nat × Nat)} (hE : Good m E) {u v : Nat} (h : Adj E u v) : sg u v ∈ E ∧ u ≠ v ∧ u < m ∧ v < m := by
  unfold sg
  rcases h with h | h
  · have := hE _ h
    simp only at this
    rw [Nat.min_eq_left (by omega), Nat.max_eq_right (by omega)]
    exact ⟨h, by omega, by omega, by omega⟩
  · have := hE _ h
    simp only at this
    rw [Nat.min_eq_right (by omega), Nat.max_eq_left (by omega)]
    exact ⟨h, by omega, by omega, by omega⟩
theorem inc_sg (v a b : Nat) : inc v (sg a b) = (decide (a = v) || decide (b = v)) := by
  unfold inc sg
  rcases Nat.le_total a b with h | h
  · rw [Nat.min_eq_left h, Nat.max_eq_right h]
  · rw [Nat.min_eq_right h, Nat.max_eq_left h, Bool.or_comm]
theorem Good.perm {m : Nat} {E E' : List (Nat × Nat)} (h : Good m E) (hp : E.Perm E') : Good m E' := fun p hm => h p (hp.mem_iff.2 hm)
theorem Good.tail {m : Nat} {E : List (Nat × Nat)} {p : Nat × Nat} (h : Good m (p :: E)) : Good m E := fun q hq => h q (List.mem_cons_of_mem _ hq)
theorem dg_perm {E E' : List (Nat × Nat)} (hp : E.Perm E') (v : Nat) : dg E v = dg E' v := hp.countP_eq _
theorem dg_cons (p : Nat × Nat) (E : List (Nat × Nat)) (v : Nat) : dg (p :: E) v = dg E v + if inc v p = true then 1 else 0 := List.countP_cons ..
theorem conn_perm {E E' : List (Nat × Nat)} (hp : E.Perm E') {u v : Nat} : Conn E u v ↔ Conn E' u v := ⟨Conn.mono fun p => hp.mem_iff.1, Conn.mono fun p => hp.mem_iff.2⟩

/-! ### sums -/
theorem sum_add (L : List Nat) (x y : Nat → Nat) : (L.map fun v => x v + y v).sum = (L.map x).sum + (L.map y).sum := by
  induction L with
  | nil => rfl
  | cons a L ih => simp only [List.map_cons, List.sum_cons, ih]; omega
theorem sum_zero (L : List Nat) (x : Nat → Nat) (h : ∀ v ∈ L, x v = 0) : (L.map x).sum = 0 := by
  induction L with
  | nil => rfl
  | cons a L ih => rw [List.map_cons, List.sum_cons, h a List.mem_cons_self, ih (fun v hv => h v (List.mem_cons_of_mem _ hv))]
theorem sum_one (a c : Nat) : ∀ m, a < m → ((List.range m).map fun v => if v = a then c else 0).sum = c
  | 0, h => by omega
  | m + 1, h => by
    rw [List.range_succ, List.map_append, List.sum_append]
    by_cases e : a = m
    · subst e
      rw [sum_zero _ _ (fun v hv => if_neg (by have := List.mem_range.1 hv; omega))]
      simp
    · rw [sum_one a c m (by omega)]
      simp [Ne.symm e]
theorem sum_parity (L : List Nat) (x : Nat → Nat) : (L.map x).sum % 2 = (L.countP fun v => decide (x v % 2 = 1)) % 2 := by
  induction L with
  | nil => rfl
  | cons a L ih =>
    rw [List.map_cons, List.sum_cons, List.countP_cons]
    by_cases h : x a % 2 = 1
    · simp only [h, decide_true, if_true]; omega
    · simp only [h, decide_false, if_false]
      have : (if false = true then 1 else 0 : Nat) = 0 := rfl
      omega
/-- in a set that no line leaves the ends of lines are even in number -/
theorem hands (S : Nat → Bool) (m : Nat) : ∀ (E : List (Nat × Nat)), Good m E → (∀ p ∈ E, S p.1 = S p.2) → ((List.range m).map fun v => if S v = true then dg E v else 0).sum % 2 = 0
  | [], _, _ => by rw [sum_zero _ _ (fun v _ => by simp [dg])]
  | p :: E, hE, hS => by
    have ih := hands S m E hE.tail (fun q hq => hS q (List.mem_cons_of_mem _ hq))
    have hp := hE p List.mem_cons_self
    have hs := hS p List.mem_cons_self
    have e : ((List.range m).map fun v => if S v = true then dg (p :: E) v else 0) = (List.range m).map fun v => (if S v = true then dg E v else 0) + ((if v = p.1 then (if S p.1 = true then 1 else 0) else 0) + (if v = p.2 then (if S p.1 = true then 1 else 0) else 0)) := by
      refine List.map_congr_left (fun v _ => ?_)
      rw [dg_cons]
      unfold inc
      by_cases h1 : v = p.1
      · subst h1
        have : ¬ p.2 = p.1 := by omega
        have h3 : ¬ p.1 = p.2 := by omega
        cases h : S p.1 <;> simp [h, this, h3]
      · by_cases h2 : v = p.2
        · subst h2
          have : ¬ p.1 = p.2 := by omega
          have h3 : ¬ p.2 = p.1 := by omega
          rw [hs]
          cases h : S p.2 <;> simp [h, this, h3]
        · have h1' : ¬ p.1 = v := fun e => h1 e.symm
          have h2' : ¬ p.2 = v := fun e => h2 e.symm
          cases h : S v <;> simp [h, h1, h2, h1', h2']
    rw [e, sum_add, sum_add, sum_one _ _ _ (by omega), sum_one _ _ _ (by omega)]
    split <;> omega
theorem hands_odd (S : Nat → Bool) {m : Nat} {E : List (Nat × Nat)} (hE : Good m E) (hS : ∀ p ∈ E, S p.1 = S p.2) : ((List.range m).countP fun v => S v && decide (dg E v % 2 = 1)) % 2 = 0 := by
  have h := hands S m E hE hS
  rw [sum_parity] at h
  rw [← h]
  congr 1
  refine List.countP_congr (fun v _ => ?_)
  cases S v <;> simp
theorem two_of' {α : Type} {p : α → Bool} : ∀ {l : List α}, l.Nodup → 2 ≤ l.countP p → ∀ a, ∃ b ∈ l, p b = true ∧ b ≠ a
  | [], _, h, _ => by simp at h
  | x :: l, hn, h, a => by
    obtain ⟨h1, h2⟩ := List.nodup_cons.1 hn
    rw [List.countP_cons] at h
    by_cases hx : p x = true ∧ x ≠ a
    · exact ⟨x, List.mem_cons_self, hx⟩
    · by_cases hpx : p x = true
      · have hxa : x = a := Classical.byContradiction fun e => hx ⟨hpx, e⟩
        rw [if_pos hpx] at h
        obtain ⟨b, hb, hpb⟩ := List.countP_pos_iff.1 (show 0 < l.countP p by omega)
        exact ⟨b, List.mem_cons_of_mem _ hb, hpb, fun e => h1 (by rw [hxa, ← e]; exact hb)⟩
      · rw [if_neg hpx] at h
        obtain ⟨b, hb, r⟩ := two_of' h2 (by omega) a
        exact ⟨b, List.mem_cons_of_mem _ hb, r⟩
/-- an odd point in such a set is not alone -/
theorem other_odd (S : Nat → Bool) {m : Nat} {E : List (Nat × Nat)} (hE : Good m E) (hS : ∀ p ∈ E, S p.1 = S p.2) {a : Nat} (ha : a < m) (hSa : S a = true) (ho : Odd E a) : ∃ b, b < m ∧ S b = true ∧ Odd E b ∧ b ≠ a := by
  have h := hands_odd S hE hS
  have hpos : 0 < (List.range m).countP fun v => S v && decide (dg E v % 2 = 1) := List.countP_pos_iff.2 ⟨a, List.mem_range.2 ha, by simp [hSa, show dg E a % 2 = 1 from ho]⟩
  obtain ⟨b, hb, hpb, hne⟩ := two_of' (p := fun v => S v && decide (dg E v % 2 = 1)) (l := List.range m) List.nodup_range (by omega) a
  simp only [Bool.and_eq_true, decide_eq_true_eq] at hpb
  exact ⟨b, List.mem_range.1 hb, hpb.1, hpb.2, hne⟩

/-! ### ways -/
/-- a way from v that uses every line once -/
inductive Way : Nat → List (Nat × Nat) → List Nat → Prop
  | nil (v : Nat) : Way v [] [v]
  | go {v u : Nat} {E E' : List (Nat × Nat)} {w : List Nat} : E.Perm (sg v u :: E') → Way u E' w → Way v E (v :: w)
/-- all lines hang together with v -/
def Lined (E : List (Nat × Nat)) (v : Nat) : Prop := ∀ p ∈ E, Conn E v p.1
/-- v and t are the odd points, or v is t and there are none -/
def Par (E : List (Nat × Nat)) (v t : Nat) : Prop := ∀ x, Odd E x ↔ (x = v ∨ x = t) ∧ v ≠ t

theorem Way.perm {v : Nat} {E E2 : List (Nat × Nat)} {w : List Nat} (h : Way v E w) (hp : E2.Perm E) : Way v E2 w := by
  cases h with
  | nil => rw [hp.eq_nil]; exact .nil v
  | go h1 h2 => exact .go (hp.trans h1) h2
theorem Lined.perm {v : Nat} {E E2 : List (Nat × Nat)} (h : Lined E v) (hp : E2.Perm E) : Lined E2 v := fun p hm => (conn_perm hp).2 (h p (hp.mem_iff.1 hm))
theorem Par.perm {v t : Nat} {E E2 : List (Nat × Nat)} (h : Par E v t) (hp : E2.Perm E) : Par E2 v t := fun x => by
  have := h x
  unfold Odd at this ⊢
  rw [dg_perm hp]
  exact this

/-- one line off: where it led -/
theorem odd_cons {E : List (Nat × Nat)} {v u : Nat} (hne : v ≠ u) (x : Nat) : Odd (sg v u :: E) x ↔ ((x = v ∨ x = u) ∧ ¬ Odd E x) ∨ (¬ (x = v ∨ x = u) ∧ Odd E x) := by
  unfold Odd
  rw [dg_cons, inc_sg]
  by_cases h1 : x = v
  · subst h1; simp; omega
  · by_cases h2 : x = u
    · subst h2; simp; omega
    · have h1' : ¬ v = x := fun e => h1 e.symm
      have h2' : ¬ u = x := fun e => h2 e.symm
      simp [h1, h2, h1', h2']
theorem par_on {E : List (Nat × Nat)} {v u t : Nat} (hne : v ≠ u) (h : Par (sg v u :: E) v t) : Par E u t := by
  intro x
  have hx := h x
  rw [odd_cons hne] at hx
  by_cases e1 : x = v <;> by_cases e2 : x = u <;> by_cases e3 : x = t <;> by_cases e4 : v = t <;> by_cases e5 : u = t <;> by_cases ho : Odd E x <;> simp_all
theorem par_back {E : List (Nat × Nat)} {v u t : Nat} (hne : v ≠ u) (h : Par E u t) : Par (sg v u :: E) v t := by
  intro x
  have hx := h x
  rw [odd_cons hne]
  by_cases e1 : x = v <;> by_cases e2 : x = u <;> by_cases e3 : x = t <;> by_cases e4 : v = t <;> by_cases e5 : u = t <;> by_cases ho : Odd E x <;> simp_all

/-- what a way says -/
theorem Way.says {m : Nat} {v : Nat} {E : List (Nat × Nat)} {w : List Nat} (h : Way v E w) : Good m E → Lined E v ∧ Par E v (w.getLastD 0) ∧ w.length = E.length + 1 ∧ w.headD 0 = v ∧ w ≠ [] := by
  induction h with
  | nil v =>
    intro _
    exact ⟨fun p hp => (by cases hp), fun x => (by simp [Odd, dg]), rfl, rfl, (by simp)⟩
  | @go v u E E' w hp hw ih =>
    intro hE
    have hE' := hE.perm hp
    obtain ⟨h1, h2, h3, h4, h5⟩ := ih hE'.tail
    have hne : v ≠ u := by
      have := hE' (sg v u) List.mem_cons_self
      unfold sg at this
      simp only at this
      omega
    refine ⟨?_, ?_, ?_, rfl, by simp⟩
    · refine Lined.perm ?_ hp
      have hadj : Conn (sg v u :: E') v u := Conn.one (sg_adj List.mem_cons_self)
      intro p hm
      rcases List.mem_cons.1 hm with rfl | hm
      · have h : (sg v u).1 = v ∨ (sg v u).1 = u := by unfold sg; simp only; omega
        rcases h with h | h
        · rw [h]; exact .refl _
        · rw [h]; exact hadj
      · exact hadj.trans ((h1 p hm).cons _)
    · have hl : (v :: w).getLastD 0 = w.getLastD 0 := by
        cases w with
        | nil => exact absurd rfl h5
        | cons a w => simp
      rw [hl]
      exact (par_back hne h2).perm hp
    · rw [List.length_cons, h3, hp.length_eq]; rfl

theorem split_sg {E : List (Nat × Nat)} {v u a b : Nat} (h : Conn (sg v u :: E) a b) : Conn E a b ∨ (Conn E a v ∧ Conn E u b) ∨ (Conn E a u ∧ Conn E v b) := by
  unfold sg at h
  rcases Nat.le_total v u with h' | h'
  · rw [Nat.min_eq_left h', Nat.max_eq_right h'] at h; exact h.split
  · rw [Nat.min_eq_right h', Nat.max_eq_left h'] at h
    rcases h.split with h | h | h
    · exact .inl h
    · exact .inr (.inr h)
    · exact .inr (.inl h)
/-- one may go on over a line that is not the only way -/
theorem lined_on {E : List (Nat × Nat)} {v u : Nat} (hL : Lined (sg v u :: E) v) (hc : Conn E v u) : Lined E u := fun p hp => by
  rcases split_sg (hL p (List.mem_cons_of_mem _ hp)) with h | ⟨_, h⟩ | ⟨_, h⟩
  · exact hc.symm.trans h
  · exact h
  · exact hc.symm.trans h
/-- .. or over the last line that is left at v -/
theorem lined_last {m : Nat} {E : List (Nat × Nat)} {v u : Nat} (hE : Good m E) (hL : Lined (sg v u :: E) v) (hn : ∀ x, ¬ Adj E v x) : Lined E u := fun p hp => by
  have stay : ∀ x, Conn E v x → x = v := fun x h => by
    have : ∀ a b, Conn E a b → a = v → b = v := fun a b h => by
      induction h with
      | refl => exact id
      | step _ ha ih => intro e; have := ih e; subst this; exact absurd ha (hn _)
    exact this v x h rfl
  have hpv : p.1 ≠ v := fun e => hn p.2 (.inl (by rw [← e]; exact hp))
  rcases split_sg (hL p (List.mem_cons_of_mem _ hp)) with h | ⟨_, h⟩ | ⟨_, h⟩
  · exact absurd (stay _ h) hpv
  · exact h
  · exact absurd (stay _ h) hpv

/-- does it hang together with a? -/
def fam (E : List (Nat × Nat)) (a x : Nat) : Bool := decide (fl E x = fl E a)
theorem fam_iff {E : List (Nat × Nat)} {a x : Nat} : fam E a x = true ↔ Conn E a x := by
  unfold fam
  rw [decide_eq_true_eq, eq_comm]
  exact fl_conn E a x
theorem fam_shut (E : List (Nat × Nat)) (a : Nat) : ∀ p ∈ E, fam E a p.1 = fam E a p.2 := fun p hp => by
  rw [Bool.eq_iff_iff, fam_iff, fam_iff]
  exact ⟨fun h => h.step (.inl hp), fun h => h.step (.inr hp)⟩

/-- two lines at v: over one of them one may go on -/
theorem one_on {m : Nat} {E : List (Nat × Nat)} {v t a b : Nat} (hE : Good m (sg v a :: sg v b :: E)) (hP : Par (sg v a :: sg v b :: E) v t) : Conn (sg v b :: E) v a ∨ Conn (sg v a :: E) v b := by
  by_cases h1 : Conn (sg v b :: E) v a
  · exact .inl h1
  by_cases h2 : Conn (sg v a :: E) v b
  · exact .inr h2
  exfalso
  have hE1 : Good m E := hE.tail.tail
  have lt : ∀ x, sg v x ∈ sg v a :: sg v b :: E → v ≠ x ∧ v < m ∧ x < m := fun x hx => by
    have := hE _ hx
    unfold sg at this
    simp only at this
    omega
  obtain ⟨hva, hvm, ham⟩ := lt a (by simp)
  obtain ⟨hvb, _, hbm⟩ := lt b (by simp)
  have n1 : ¬ Conn E a v := fun h => h1 (h.symm.cons _)
  have n2 : ¬ Conn E b v := fun h => h2 (h.symm.cons _)
  have n3 : ¬ Conn E a b := fun h => h1 ((Conn.one (sg_adj (u := v) (v := b) List.mem_cons_self)).trans (h.symm.cons _))
  have hab : a ≠ b := fun e => n3 (by rw [e]; exact .refl _)
  -- in the part of a point that v leads to there is an odd one
  have find : ∀ c, (c = a ∨ c = b) → ¬ Conn E c v → (∀ d, (d = a ∨ d = b) → d ≠ c → ¬ Conn E c d) → ∃ x, Conn E c x ∧ Odd (sg v a :: sg v b :: E) x := by
    intro c hc hcv hcd
    have hcm : c < m := by rcases hc with rfl | rfl <;> assumption
    have same : ∀ x, Conn E c x → x ≠ c → (Odd (sg v a :: sg v b :: E) x ↔ Odd E x) := fun x hx hxc => by
      have x1 : x ≠ v := fun e => hcv (e ▸ hx)
      have x2 : x ≠ a := fun e => by
        by_cases hca : a = c
        · exact hxc (e.trans hca)
        · exact hcd a (.inl rfl) hca (e ▸ hx)
      have x3 : x ≠ b := fun e => by
        by_cases hcb : b = c
        · exact hxc (e.trans hcb)
        · exact hcd b (.inr rfl) hcb (e ▸ hx)
      rw [odd_cons hva, odd_cons hvb]
      simp [x1, x2, x3]
    have flip : Odd (sg v a :: sg v b :: E) c ↔ ¬ Odd E c := by
      have c1 : c ≠ v := fun e => hcv (by rw [e]; exact .refl _)
      rw [odd_cons hva, odd_cons hvb]
      rcases hc with rfl | rfl
      · simp [c1, hab]
      · simp [c1, Ne.symm hab]
    by_cases ho : Odd E c
    · obtain ⟨y, hy, hSy, hoy, hyc⟩ := other_odd (fam E c) hE1 (fam_shut E c) hcm (fam_iff.2 (.refl _)) ho
      have hcy := fam_iff.1 hSy
      exact ⟨y, hcy, (same y hcy hyc).2 hoy⟩
    · exact ⟨c, .refl _, flip.2 ho⟩
  obtain ⟨x, hx, hox⟩ := find a (.inl rfl) n1 (fun d hd hda => by
    rcases hd with rfl | rfl
    · exact absurd rfl hda
    · exact n3)
  obtain ⟨y, hy, hoy⟩ := find b (.inr rfl) n2 (fun d hd hdb => by
    rcases hd with rfl | rfl
    · exact fun h => n3 h.symm
    · exact absurd rfl hdb)
  have hxv : x ≠ v := fun e => n1 (e ▸ hx)
  have hyv : y ≠ v := fun e => n2 (e ▸ hy)
  have ex := ((hP x).1 hox).1.resolve_left hxv
  have ey := ((hP y).1 hoy).1.resolve_left hyv
  exact n3 (hx.trans (by rw [ex, ← ey]; exact hy.symm))

theorem perm_of_mem {E : List (Nat × Nat)} {p : Nat × Nat} (h : p ∈ E) : ∃ E', E.Perm (p :: E') := ⟨E.erase p, List.perm_cons_erase h⟩
/-- there is a line at v, if there are lines at all -/
theorem some_at {E : List (Nat × Nat)} {v : Nat} (hL : Lined E v) (hne : E ≠ []) : ∃ x, Adj E v x := by
  obtain ⟨p, hp⟩ := List.exists_mem_of_ne_nil E hne
  have key : ∀ a b, Conn E a b → a ≠ b → ∃ x, Adj E a x := fun a b h => by
    induction h with
    | refl => intro h; exact absurd rfl h
    | @step x y hc ha ih =>
      intro hab
      by_cases e : a = x
      · subst e; exact ⟨_, ha⟩
      · exact ih e
  by_cases e : v = p.1
  · exact ⟨p.2, .inl (by rw [e]; exact hp)⟩
  · exact key _ _ (hL p hp) e
/-- one may go on -/
theorem step {m : Nat} {E : List (Nat × Nat)} {v t : Nat} (hE : Good m E) (hL : Lined E v) (hP : Par E v t) (hne : E ≠ []) : ∃ u E', E.Perm (sg v u :: E') ∧ Lined E' u ∧ Par E' u t := by
  obtain ⟨a, ha⟩ := some_at hL hne
  obtain ⟨ham, hva, _⟩ := adj_sg hE ha
  obtain ⟨E1, h1⟩ := perm_of_mem ham
  have hE1 := hE.perm h1
  have hL1 := hL.perm h1.symm
  have hP1 := hP.perm h1.symm
  by_cases hc : Conn E1 v a
  · exact ⟨a, E1, h1, lined_on hL1 hc, par_on hva hP1⟩
  by_cases hn : ∃ x, Adj E1 v x
  · obtain ⟨b, hb⟩ := hn
    obtain ⟨hbm, hvb, _⟩ := adj_sg hE1.tail hb
    obtain ⟨E2, h2⟩ := perm_of_mem hbm
    have h12 : E.Perm (sg v a :: sg v b :: E2) := h1.trans (h2.cons _)
    have h21 : E.Perm (sg v b :: sg v a :: E2) := h12.trans (List.Perm.swap ..)
    have hc' : Conn (sg v a :: E2) v b := (one_on (hE.perm h12) (hP.perm h12.symm)).resolve_left (fun h => hc ((conn_perm h2).2 h))
    exact ⟨b, _, h21, lined_on (hL.perm h21.symm) hc', par_on hvb (hP.perm h21.symm)⟩
  · exact ⟨a, E1, h1, lined_last hE1.tail hL1 (fun x hx => hn ⟨x, hx⟩), par_on hva hP1⟩
/-- there is a way -/
theorem exist {m : Nat} {t : Nat} : ∀ (n : Nat) {E : List (Nat × Nat)} {v : Nat}, E.length = n → Good m E → Lined E v → Par E v t → ∃ w, Way v E w
  | 0, E, v, hn, _, _, _ => by
    rw [List.eq_nil_of_length_eq_zero hn]
    exact ⟨[v], .nil v⟩
  | n + 1, E, v, hn, hE, hL, hP => by
    obtain ⟨u, E', h1, h2, h3⟩ := step hE hL hP (fun e => by rw [e] at hn; simp at hn)
    have hl := h1.length_eq
    rw [List.length_cons] at hl
    obtain ⟨w, hw⟩ := exist n (by omega) (hE.perm h1).tail h2 h3
    exact ⟨v :: w, .go h1 hw⟩

/-! ### the first of all ways -/
/-- comes ahead, or is the same -/
inductive Le : List Nat → List Nat → Prop
  | nil : Le [] []
  | lt {a b : Nat} {l l' : List Nat} : a < b → Le (a :: l) (b :: l')
  | cons {a : Nat} {l l' : List Nat} : Le l l' → Le (a :: l) (a :: l')
theorem Le.antisymm {l l' : List Nat} (h : Le l l') : Le l' l → l = l' := by
  induction h with
  | nil => intro _; rfl
  | lt h => intro h'; cases h' with
    | lt h2 => omega
    | cons _ => omega
  | cons _ ih => intro h'; cases h' with
    | lt h2 => omega
    | cons h2 => rw [ih h2]
/-- the first of all ways from v -/
def First (v : Nat) (E : List (Nat × Nat)) (w : List Nat) : Prop := Way v E w ∧ ∀ w', Way v E w' → Le w w'
theorem First.unique {v : Nat} {E : List (Nat × Nat)} {w w' : List Nat} (h : First v E w) (h' : First v E w') : w = w' := (h.2 _ h'.1).antisymm (h'.2 _ h.1)
theorem First.perm {v : Nat} {E E' : List (Nat × Nat)} {w : List Nat} (h : First v E w) (hp : E'.Perm E) : First v E' w := ⟨h.1.perm hp, fun w' hw' => h.2 w' (hw'.perm hp.symm)⟩
theorem First.nil (v : Nat) : First v [] [v] := by
  refine ⟨.nil v, fun w' h => ?_⟩
  cases h with
  | nil => exact .cons .nil
  | go hp _ => exact absurd hp.symm.eq_nil (by simp)
/-- going on to the least point that one may go on to -/
theorem First.go {m : Nat} {v u : Nat} {E E' : List (Nat × Nat)} {w : List Nat} (hE : Good m E) (hp : E.Perm (sg v u :: E')) (hw : First u E' w) (hmin : ∀ x Ex, E.Perm (sg v x :: Ex) → Lined Ex x → u ≤ x) : First v E (v :: w) := by
  refine ⟨.go hp hw.1, fun w' h => ?_⟩
  cases h with
  | nil => exact absurd hp.symm.eq_nil (by simp)
  | @go _ x _ Ex w' hp' hw' =>
    have hs := hw'.says (hE.perm hp').tail
    have hs0 := hw.1.says (hE.perm hp).tail
    refine .cons ?_
    rcases Nat.lt_or_ge u x with hlt | hge
    · obtain ⟨_, _, _, h4, h5⟩ := hs
      obtain ⟨_, _, _, g4, g5⟩ := hs0
      cases w with
      | nil => exact absurd rfl g5
      | cons a w =>
        cases w' with
        | nil => exact absurd rfl h5
        | cons b w' =>
          simp only [List.headD_cons] at h4 g4
          exact .lt (by omega)
    · have hxu : x = u := by have := hmin x Ex hp' hs.1; omega
      subst hxu
      exact hw.2 w' (hw'.perm (List.Perm.cons_inv (hp.symm.trans hp')))

/-! ### the lines of a way -/
/-- the lines that a way goes over -/
def steps : List Nat → List (Nat × Nat)
  | a :: b :: l => sg a b :: steps (b :: l)
  | _ => []
theorem Way.lines {v : Nat} {E : List (Nat × Nat)} {w : List Nat} (h : Way v E w) : E.Perm (steps w) ∧ ∃ r, w = v :: r := by
  induction h with
  | nil v => exact ⟨by simp [steps], [], rfl⟩
  | @go v u E E' w hp hw ih =>
    obtain ⟨h1, r, rfl⟩ := ih
    exact ⟨hp.trans (h1.cons _), _, rfl⟩
theorem Way.of_steps : ∀ {w : List Nat} {v : Nat} {E : List (Nat × Nat)}, E.Perm (steps (v :: w)) → Way v E (v :: w)
  | [], v, E, h => by
    have : E = [] := by simpa [steps] using h
    rw [this]
    exact .nil v
  | b :: w, v, E, h => .go (u := b) (E' := steps (b :: w)) h (Way.of_steps (List.Perm.refl _))

end Go.Proofs.YtibphofiaodnmaaDoor.Tl
