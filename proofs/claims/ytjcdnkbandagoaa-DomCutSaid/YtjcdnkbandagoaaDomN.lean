/-
  Plain facts on points over which all ways go, with no program in them: ways that pass a point or go round it, those that rule a point are one behind another, the last of them, a point left out. No statement of the program is proved here; there is no condition.
-/
import Derived.Test.YtjcdnkbandagoaaStrongN
set_option linter.unusedSimpArgs false
set_option linter.unusedVariables false
namespace Go.Proofs.Ytjcdnkbandagoaa.Do
open Wa (wk wk_zero wk_succ wk_add wk_one)
open To (frow mem_frow frow_ok)
open Sg (reach reach_iff reach_refl reach_trans reach_lt)
open Ma (cnt cnt_le)

/-- the lines without a point -/
def cut (ls : List Gr.Ln) (k : Nat) : List Gr.Ln := ls.filter fun p => !decide (p.1 = (k : Int)) && !decide (p.2 = (k : Int))
theorem has_cut {ls : List Gr.Ln} {k : Nat} {a b : Int} : Gr.has (cut ls k) a b = true ↔ Gr.has ls a b = true ∧ a ≠ (k : Int) ∧ b ≠ (k : Int) := by
  rw [Gr.has_iff, Gr.has_iff]
  unfold cut
  rw [List.mem_filter]
  simp
theorem cut_sub {ls : List Gr.Ln} {k : Nat} : ∀ p ∈ cut ls k, p ∈ ls := fun p hp => (List.mem_filter.1 hp).1
section
variable {n : Nat} {ls : List Gr.Ln}
theorem wk_sub {ks : List Gr.Ln} (h : ∀ p ∈ ks, p ∈ ls) {k a b : Nat} (hw : wk n (frow n ks) k a b = true) : wk n (frow n ls) k a b = true :=
  Wa.wk_mono (fun x _ y hy => mem_frow.2 ⟨(mem_frow.1 hy).1, Gr.has_iff.2 (h _ (Gr.has_iff.1 (mem_frow.1 hy).2))⟩) hw
theorem reach_sub {ks : List Gr.Ln} (h : ∀ p ∈ ks, p ∈ ls) {a b : Nat} (ha : a < n) (hr : reach n ks a b = true) : reach n ls a b = true := by
  obtain ⟨k, hk⟩ := (reach_iff ha).1 hr
  exact (reach_iff ha).2 ⟨k, wk_sub h hk⟩
/-- a way goes round y, or it passes there -/
theorem pass {y a : Nat} (hne : a ≠ y) : ∀ (k b : Nat), wk n (frow n ls) k a b = true → (b ≠ y ∧ wk n (frow n (cut ls y)) k a b = true) ∨ ∃ j, j < k ∧ wk n (frow n ls) j y b = true ∧ wk n (frow n ls) (k - j) a y = true
  | 0, b, h => by
    obtain rfl := wk_zero.1 h
    exact .inl ⟨hne, wk_zero.2 rfl⟩
  | k + 1, b, h => by
    obtain ⟨c, hc, h1, h2⟩ := wk_succ.1 h
    rcases pass hne k c h1 with ⟨hcy, h3⟩ | ⟨j, hj, h3, h4⟩
    · by_cases hb : b = y
      · subst hb
        exact .inr ⟨0, by omega, wk_zero.2 rfl, h⟩
      · exact .inl ⟨hb, wk_succ.2 ⟨c, hc, h3, mem_frow.2 ⟨(mem_frow.1 h2).1, has_cut.2 ⟨(mem_frow.1 h2).2, by omega, by omega⟩⟩⟩⟩
    · exact .inr ⟨j + 1, by omega, wk_succ.2 ⟨c, hc, h3, h2⟩, by rw [show k + 1 - (j + 1) = k - j by omega]; exact h4⟩
/-- nothing leads to a point that is left out -/
theorem cut_none {y a : Nat} (hne : a ≠ y) (ha : a < n) : reach n (cut ls y) a y = false := by
  cases h : reach n (cut ls y) a y with
  | false => rfl
  | true =>
    exfalso
    obtain ⟨k, hk⟩ := (reach_iff ha).1 h
    cases k with
    | zero => exact hne (wk_zero.1 hk)
    | succ k =>
      obtain ⟨c, hc, h1, h2⟩ := wk_succ.1 hk
      exact (has_cut.1 (mem_frow.1 h2).2).2.2 rfl

/-! ### those that rule a point -/
/-- do all ways from s to v go over k? (none where there is no way) -/
def dom (n : Nat) (ls : List Gr.Ln) (s v k : Nat) : Bool := reach n ls s v && (decide (k = s) || decide (k = v) || !reach n (cut ls k) s v)
theorem dom_iff {s v k : Nat} : dom n ls s v k = true ↔ reach n ls s v = true ∧ (k = s ∨ k = v ∨ reach n (cut ls k) s v = false) := by
  unfold dom
  simp only [Bool.and_eq_true, Bool.or_eq_true, decide_eq_true_eq, Bool.not_eq_true', or_assoc]
variable {s : Nat}
theorem dom_self {v : Nat} (h : reach n ls s v = true) : dom n ls s v v = true := dom_iff.2 ⟨h, .inr (.inl rfl)⟩
theorem dom_start {v : Nat} (h : reach n ls s v = true) : dom n ls s v s = true := dom_iff.2 ⟨h, .inl rfl⟩
/-- a way leads there first, and on from there -/
theorem dom_way (hs : s < n) {v k : Nat} (h : dom n ls s v k = true) : reach n ls s k = true ∧ (k < n ∧ reach n ls k v = true) := by
  obtain ⟨h1, h2⟩ := dom_iff.1 h
  rcases h2 with rfl | rfl | h2
  · exact ⟨reach_refl hs, hs, h1⟩
  · exact ⟨h1, reach_lt hs h1, reach_refl (reach_lt hs h1)⟩
  · by_cases e : s = k
    · subst e; exact ⟨reach_refl hs, hs, h1⟩
    · obtain ⟨m, hm⟩ := (reach_iff hs).1 h1
      rcases pass e m v hm with ⟨_, h3⟩ | ⟨j, hj, h3, h4⟩
      · have : reach n (cut ls k) s v = true := (reach_iff hs).2 ⟨m, h3⟩
        rw [h2] at this; cases this
      · have hr : reach n ls s k = true := (reach_iff hs).2 ⟨_, h4⟩
        have hk := reach_lt hs hr
        exact ⟨hr, hk, (reach_iff hk).2 ⟨j, h3⟩⟩
/-- the start is ruled by itself alone -/
theorem dom_first (hs : s < n) {k : Nat} (h : dom n ls s s k = true) : k = s := by
  rcases (dom_iff.1 h).2 with e | e | e
  · exact e
  · exact e
  · rw [reach_refl hs] at e; cases e
theorem dom_trans (hs : s < n) {i x y : Nat} (h1 : dom n ls s i x = true) (h2 : dom n ls s x y = true) : dom n ls s i y = true := by
  obtain ⟨r1, c1⟩ := dom_iff.1 h1
  obtain ⟨r2, c2⟩ := dom_iff.1 h2
  refine dom_iff.2 ⟨r1, ?_⟩
  by_cases ys : y = s
  · exact .inl ys
  · by_cases yi : y = i
    · exact .inr (.inl yi)
    · refine .inr (.inr ?_)
      rcases c1 with rfl | rfl | c1
      · exact absurd (dom_first hs h2) ys
      · rcases c2 with e | e | e
        · exact absurd e ys
        · exact absurd e yi
        · exact e
      · by_cases yx : y = x
        · rw [yx]; exact c1
        · have c2' : reach n (cut ls y) s x = false := by
            rcases c2 with e | e | e
            · exact absurd e ys
            · exact absurd e yx
            · exact e
          cases hr : reach n (cut ls y) s i with
          | false => rfl
          | true =>
            exfalso
            by_cases xs : s = x
            · subst xs
              rw [reach_refl hs] at c2'; cases c2'
            · obtain ⟨m, hm⟩ := (reach_iff hs).1 hr
              rcases pass xs m i hm with ⟨_, h3⟩ | ⟨j, hj, h3, h4⟩
              · have : reach n (cut ls x) s i = true := (reach_iff hs).2 ⟨m, wk_sub (fun p hp => by
                  have hp' := List.mem_filter.1 hp
                  exact List.mem_filter.2 ⟨cut_sub p hp'.1, hp'.2⟩) h3⟩
                rw [c1] at this; cases this
              · have : reach n (cut ls y) s x = true := (reach_iff hs).2 ⟨_, h4⟩
                rw [c2'] at this; cases this
/-- of two points one is the last on the way -/
theorem last_of (hs : s < n) {x y i : Nat} (hx : x < n) (hy : y < n) (hne : x ≠ y) : ∀ (k a : Nat), (a = x ∨ a = y) → wk n (frow n ls) k a i = true → reach n (cut ls y) x i = true ∨ reach n (cut ls x) y i = true := by
  intro k
  induction k using Nat.strongRecOn with
  | _ k ih =>
    intro a ha hw
    rcases ha with rfl | rfl
    · rcases pass (y := y) hne k i hw with ⟨_, h3⟩ | ⟨j, hj, h3, _⟩
      · exact .inl ((reach_iff hx).2 ⟨k, h3⟩)
      · exact ih j hj y (.inr rfl) h3
    · rcases pass (y := x) (fun e => hne e.symm) k i hw with ⟨_, h3⟩ | ⟨j, hj, h3, _⟩
      · exact .inr ((reach_iff hy).2 ⟨k, h3⟩)
      · exact ih j hj x (.inl rfl) h3
theorem dom_chain (hs : s < n) {i x y : Nat} (h1 : dom n ls s i x = true) (h2 : dom n ls s i y = true) : dom n ls s x y = true ∨ dom n ls s y x = true := by
  obtain ⟨rx, hx, rxi⟩ := dom_way hs h1
  obtain ⟨ry, hy, ryi⟩ := dom_way hs h2
  by_cases e : x = y
  · subst e; exact .inl (dom_self rx)
  · by_cases xs : x = s
    · subst xs; exact .inr (dom_start ry)
    · by_cases ys : y = s
      · subst ys; exact .inl (dom_start rx)
      · cases c1 : reach n (cut ls y) s x with
        | false => exact .inl (dom_iff.2 ⟨rx, .inr (.inr c1)⟩)
        | true =>
          cases c2 : reach n (cut ls x) s y with
          | false => exact .inr (dom_iff.2 ⟨ry, .inr (.inr c2)⟩)
          | true =>
            exfalso
            obtain ⟨k, hk⟩ := (reach_iff hx).1 rxi
            rcases last_of hs hx hy e k x (.inl rfl) hk with h3 | h3
            · have h4 := reach_trans hs c1 h3
              rcases (dom_iff.1 h2).2 with e2 | e2 | e2
              · exact ys e2
              · rw [← e2, cut_none (fun e => ys e.symm) hs] at h4; cases h4
              · rw [e2] at h4; cases h4
            · have h4 := reach_trans hs c2 h3
              rcases (dom_iff.1 h1).2 with e2 | e2 | e2
              · exact xs e2
              · rw [← e2, cut_none (fun e => xs e.symm) hs] at h4; cases h4
              · rw [e2] at h4; cases h4
/-- no two rule each other -/
theorem dom_anti (hs : s < n) {x y : Nat} (h1 : dom n ls s x y = true) (h2 : dom n ls s y x = true) : x = y := by
  refine Classical.byContradiction fun e => ?_
  obtain ⟨rx, c1⟩ := dom_iff.1 h1
  obtain ⟨ry, c2⟩ := dom_iff.1 h2
  by_cases xs : x = s
  · subst xs; exact e (dom_first hs h1).symm
  · by_cases ys : y = s
    · subst ys; exact e (dom_first hs h2)
    · have c1' : reach n (cut ls y) s x = false := by
        rcases c1 with h | h | h
        · exact absurd h ys
        · exact absurd h.symm e
        · exact h
      have c2' : reach n (cut ls x) s y = false := by
        rcases c2 with h | h | h
        · exact absurd h xs
        · exact absurd h e
        · exact h
      have key : ∀ k, wk n (frow n ls) k s x = false ∧ wk n (frow n ls) k s y = false := by
        intro k
        induction k using Nat.strongRecOn with
        | _ k ih =>
          constructor
          · cases hw : wk n (frow n ls) k s x with
            | false => rfl
            | true =>
              exfalso
              rcases pass (fun e => ys e.symm) k x hw with ⟨_, h3⟩ | ⟨j, hj, h3, h4⟩
              · have : reach n (cut ls y) s x = true := (reach_iff hs).2 ⟨k, h3⟩
                rw [c1'] at this; cases this
              · by_cases j0 : j = 0
                · subst j0; exact e (wk_zero.1 h3).symm
                · have := (ih (k - j) (by omega)).2
                  rw [h4] at this; cases this
          · cases hw : wk n (frow n ls) k s y with
            | false => rfl
            | true =>
              exfalso
              rcases pass (fun e => xs e.symm) k y hw with ⟨_, h3⟩ | ⟨j, hj, h3, h4⟩
              · have : reach n (cut ls x) s y = true := (reach_iff hs).2 ⟨k, h3⟩
                rw [c2'] at this; cases this
              · by_cases j0 : j = 0
                · subst j0; exact e (wk_zero.1 h3)
                · have := (ih (k - j) (by omega)).1
                  rw [h4] at this; cases this
      obtain ⟨k, hk⟩ := (reach_iff hs).1 rx
      rw [(key k).1] at hk
      cases hk

/-! ### the last one ahead -/
/-- how many rule a point -/
def ruled (n : Nat) (ls : List Gr.Ln) (s v : Nat) : Nat := cnt n (dom n ls s v)
theorem countP_less {p q : Nat → Bool} (hpq : ∀ i, p i = true → q i = true) : ∀ {l : List Nat} {x : Nat}, x ∈ l → p x = false → q x = true → l.countP p < l.countP q
  | [], _, h, _, _ => absurd h (by simp)
  | y :: l, x, h, h1, h2 => by
    rw [List.countP_cons, List.countP_cons]
    rcases List.mem_cons.1 h with rfl | h
    · have := Ma.countP_mono (p := p) (q := q) (l := l) fun x _ => hpq x
      rw [h1, h2]
      simp
      omega
    · have ih := countP_less hpq h h1 h2
      cases hp : p y with
      | true => rw [hpq y hp]; simp; exact ih
      | false => cases q y <;> simp <;> omega
/-- j: of those that rule i, i left out, the one that the most rule -/
def IsLast (n : Nat) (ls : List Gr.Ln) (s i j : Nat) : Prop := dom n ls s i j = true ∧ j ≠ i ∧ ∀ z, dom n ls s i z = true → z ≠ i → ruled n ls s z ≤ ruled n ls s j
theorem IsLast.iff (hs : s < n) {i j : Nat} (h : IsLast n ls s i j) (z : Nat) : dom n ls s j z = true ↔ dom n ls s i z = true ∧ z ≠ i := by
  obtain ⟨h1, h2, h3⟩ := h
  constructor
  · intro hz
    exact ⟨dom_trans hs h1 hz, fun e => h2 (by subst e; exact dom_anti hs hz h1)⟩
  · rintro ⟨hz, hzi⟩
    rcases dom_chain hs h1 hz with h4 | h4
    · exact h4
    · -- j rules z
      by_cases e : j = z
      · subst e; exact dom_self (dom_way hs h1).1
      · exfalso
        have hzr := dom_way hs hz
        have : ruled n ls s j < ruled n ls s z := by
          refine countP_less (x := z) (fun y hy => dom_trans hs h4 hy) (List.mem_range.2 hzr.2.1) ?_ (dom_self hzr.1)
          cases hh : dom n ls s j z with
          | false => rfl
          | true => exact absurd (dom_anti hs hh h4) e
        have := h3 z hz hzi
        omega
theorem IsLast.only (hs : s < n) {i j k : Nat} (h : IsLast n ls s i j) (h' : IsLast n ls s i k) : j = k := by
  have h1 := (h.iff hs k).2 ⟨h'.1, h'.2.1⟩
  have h2 := (h'.iff hs j).2 ⟨h.1, h.2.1⟩
  exact dom_anti hs h1 h2
/-- there is one, but for the start -/
theorem last_ex (hs : s < n) {i : Nat} (hr : reach n ls s i = true) (hi : i ≠ s) : ∃ j, IsLast n ls s i j := by
  have key : ∀ m, m ≤ n → (∃ z, z < m ∧ dom n ls s i z = true ∧ z ≠ i) → ∃ j, j < m ∧ dom n ls s i j = true ∧ j ≠ i ∧ ∀ z, z < m → dom n ls s i z = true → z ≠ i → ruled n ls s z ≤ ruled n ls s j := by
    intro m
    induction m with
    | zero => rintro _ ⟨z, hz, _⟩; omega
    | succ m ih =>
      rintro hm ⟨z, hz, h1, h2⟩
      by_cases hex : ∃ z, z < m ∧ dom n ls s i z = true ∧ z ≠ i
      · obtain ⟨j, hj, a1, a2, a3⟩ := ih (by omega) hex
        by_cases hmm : dom n ls s i m = true ∧ m ≠ i ∧ ruled n ls s j < ruled n ls s m
        · refine ⟨m, by omega, hmm.1, hmm.2.1, fun y hy b1 b2 => ?_⟩
          by_cases e : y = m
          · rw [e]; exact Nat.le_refl _
          · have := a3 y (by omega) b1 b2
            omega
        · refine ⟨j, by omega, a1, a2, fun y hy b1 b2 => ?_⟩
          by_cases e : y = m
          · subst e
            rcases Nat.lt_or_ge (ruled n ls s j) (ruled n ls s y) with hl | hl
            · exact absurd ⟨b1, b2, hl⟩ hmm
            · exact hl
          · exact a3 y (by omega) b1 b2
      · have e : z = m := by
          rcases Nat.lt_or_ge z m with hl | hl
          · exact absurd ⟨z, hl, h1, h2⟩ hex
          · omega
        subst e
        refine ⟨z, hz, h1, h2, fun y hy b1 b2 => ?_⟩
        by_cases e : y = z
        · rw [e]; exact Nat.le_refl _
        · exact absurd ⟨y, by omega, b1, b2⟩ hex
  obtain ⟨j, _, a1, a2, a3⟩ := key n (Nat.le_refl _) ⟨s, hs, dom_start hr, fun e => hi e.symm⟩
  exact ⟨j, a1, a2, fun z h1 h2 => a3 z (dom_way hs h1).2.1 h1 h2⟩
theorem start_alone (hs : s < n) {z : Nat} : dom n ls s s z = true ↔ z = s := ⟨dom_first hs, fun e => by rw [e]; exact dom_start (reach_refl hs)⟩
/-- one fewer rule the last one -/
theorem IsLast.ruled (hs : s < n) {i j : Nat} (h : IsLast n ls s i j) (hr : reach n ls s i = true) : ruled n ls s i = ruled n ls s j + 1 := by
  have hi := reach_lt hs hr
  have h1 := Ma.cnt_but (n := n) (dom n ls s i) hi
  rw [if_pos (dom_self hr)] at h1
  unfold Do.ruled
  rw [h1]
  congr 1
  refine Ma.cnt_eq fun x _ => ?_
  rw [Bool.eq_iff_iff, h.iff hs]
  simp

/-- a point left out: what it rules can not be reached -/
theorem dom_cut {i k : Nat} (hr : reach n ls s i = true) (hks : k ≠ s) (hki : k ≠ i) : dom n ls s i k = !reach n (cut ls k) s i := by
  unfold dom
  rw [hr]
  simp [hks, hki]
end
end Go.Proofs.Ytjcdnkbandagoaa.Do
