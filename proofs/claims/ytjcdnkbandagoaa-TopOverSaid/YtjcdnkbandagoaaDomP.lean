/-
  Plain facts on points over which all ways go, with no program in them: ways that pass a point or go round it, those that rule a point are one behind another, the last of them, a point left out. No statement of the program is proved here; there is no condition.
  Plain facts on the program's search for those over whom all ways go, with no program in it: whom one comes to without a point, line by line; the lists of those that rule a point; the last one ahead, as both choose it; the way back by the last ones. No statement of the program is proved here; there is no condition.
-/
import Derived.Test.YtjcdnkbandagoaaStrongN
set_option linter.unusedSimpArgs false
set_option linter.unusedVariables false
namespace Go.Proofs.Ytjcdnkbandagoaa.Do
open Wa (wk wk_zero wk_succ wk_add wk_one)
open To (frow mem_frow frow_ok)
open Sg (reach reach_iff reach_refl reach_trans reach_lt)
open Ma (cnt cnt_le)

/-- the lines without a point -/
def cut (ls : List Gr.Ln) (k : Nat) : List Gr.Ln := ls.filter fun p => !decide (p.1 = (k : Int)) && !decide (p.2 = (k : Int))
theorem has_cut {ls : List Gr.Ln} {k : Nat} {a b : Int} : Gr.has (cut ls k) a b = true ↔ Gr.has ls a b = true ∧ a ≠ (k : Int) ∧ b ≠ (k : Int) := by
  rw [Gr.has_iff, Gr.has_iff]
  unfold cut
  rw [List.mem_filter]
  simp
theorem cut_sub {ls : List Gr.Ln} {k : Nat} : ∀ p ∈ cut ls k, p ∈ ls := fun p hp => (List.mem_filter.1 hp).1
section
variable {n : Nat} {ls : List Gr.Ln}
theorem wk_sub {ks : List Gr.Ln} (h : ∀ p ∈ ks, p ∈ ls) {k a b : Nat} (hw : wk n (frow n ks) k a b = true) : wk n (frow n ls) k a b = true :=
  Wa.wk_mono (fun x _ y hy => mem_frow.2 ⟨(mem_frow.1 hy).1, Gr.has_iff.2 (h _ (Gr.has_iff.1 (mem_frow.1 hy).2))⟩) hw
theorem reach_sub {ks : List Gr.Ln} (h : ∀ p ∈ ks, p ∈ ls) {a b : Nat} (ha : a < n) (hr : reach n ks a b = true) : reach n ls a b = true := by
  obtain ⟨k, hk⟩ := (reach_iff ha).1 hr
  exact (reach_iff ha).2 ⟨k, wk_sub h hk⟩
/-- a way goes round y, or it passes there -/
theorem pass {y a : Nat} (hne : a ≠ y) : ∀ (k b : Nat), wk n (frow n ls) k a b = true → (b ≠ y ∧ wk n (frow n (cut ls y)) k a b = true) ∨ ∃ j, j < k ∧ wk n (frow n ls) j y b = true ∧ wk n (frow n ls) (k - j) a y = true
  | 0, b, h => by
    obtain rfl := wk_zero.1 h
    exact .inl ⟨hne, wk_zero.2 rfl⟩
  | k + 1, b, h => by
    obtain ⟨c, hc, h1, h2⟩ := wk_succ.1 h
    rcases pass hne k c h1 with ⟨hcy, h3⟩ | ⟨j, hj, h3, h4⟩
    · by_cases hb : b = y
      · subst hb
        exact .inr ⟨0, by omega, wk_zero.2 rfl, h⟩
      · exact .inl ⟨hb, wk_succ.2 ⟨c, hc, h3, mem_frow.2 ⟨(mem_frow.1 h2).1, has_cut.2 ⟨(mem_frow.1 h2).2, by omega, by omega⟩⟩⟩⟩
    · exact .inr ⟨j + 1, by omega, wk_succ.2 ⟨c, hc, h3, h2⟩, by rw [show k + 1 - (j + 1) = k - j by omega]; exact h4⟩
/-- nothing leads to a point that is left out -/
theorem cut_none {y a : Nat} (hne : a ≠ y) (ha : a < n) : reach n (cut ls y) a y = false := by
  cases h : reach n (cut ls y) a y with
  | false => rfl
  | true =>
    exfalso
    obtain ⟨k, hk⟩ := (reach_iff ha).1 h
    cases k with
    | zero => exact hne (wk_zero.1 hk)
    | succ k =>
      obtain ⟨c, hc, h1, h2⟩ := wk_succ.1 hk
      exact (has_cut.1 (mem_frow.1 h2).2).2.2 rfl

/-! ### those that rule a point -/
/-- do all ways from s to v go over k? (none where there is no way) -/
def dom (n : Nat) (ls : List Gr.Ln) (s v k : Nat) : Bool := reach n ls s v && (decide (k = s) || decide (k = v) || !reach n (cut ls k) s v)
theorem dom_iff {s v k : Nat} : dom n ls s v k = true ↔ reach n ls s v = true ∧ (k = s ∨ k = v ∨ reach n (cut ls k) s v = false) := by
  unfold dom
  simp only [Bool.and_eq_true, Bool.or_eq_true, decide_eq_true_eq, Bool.not_eq_true', or_assoc]
variable {s : Nat}
theorem dom_self {v : Nat} (h : reach n ls s v = true) : dom n ls s v v = true := dom_iff.2 ⟨h, .inr (.inl rfl)⟩
theorem dom_start {v : Nat} (h : reach n ls s v = true) : dom n ls s v s = true := dom_iff.2 ⟨h, .inl rfl⟩
/-- a way leads there first, and on from there -/
theorem dom_way (hs : s < n) {v k : Nat} (h : dom n ls s v k = true) : reach n ls s k = true ∧ (k < n ∧ reach n ls k v = true) := by
  obtain ⟨h1, h2⟩ := dom_iff.1 h
  rcases h2 with rfl | rfl | h2
  · exact ⟨reach_refl hs, hs, h1⟩
  · exact ⟨h1, reach_lt hs h1, reach_refl (reach_lt hs h1)⟩
  · by_cases e : s = k
    · subst e; exact ⟨reach_refl hs, hs, h1⟩
    · obtain ⟨m, hm⟩ := (reach_iff hs).1 h1
      rcases pass e m v hm with ⟨_, h3⟩ | ⟨j, hj, h3, h4⟩
      · have : reach n (cut ls k) s v = true := (reach_iff hs).2 ⟨m, h3⟩
        rw [h2] at this; cases this
      · have hr : reach n ls s k = true := (reach_iff hs).2 ⟨_, h4⟩
        have hk := reach_lt hs hr
        exact ⟨hr, hk, (reach_iff hk).2 ⟨j, h3⟩⟩
/-- the start is ruled by itself alone -/
theorem dom_first (hs : s < n) {k : Nat} (h : dom n ls s s k = true) : k = s := by
  rcases (dom_iff.1 h).2 with e | e | e
  · exact e
  · exact e
  · rw [reach_refl hs] at e; cases e
theorem dom_trans (hs : s < n) {i x y : Nat} (h1 : dom n ls s i x = true) (h2 : dom n ls s x y = true) : dom n ls s i y = true := by
  obtain ⟨r1, c1⟩ := dom_iff.1 h1
  obtain ⟨r2, c2⟩ := dom_iff.1 h2
  refine dom_iff.2 ⟨r1, ?_⟩
  by_cases ys : y = s
  · exact .inl ys
  · by_cases yi : y = i
    · exact .inr (.inl yi)
    · refine .inr (.inr ?_)
      rcases c1 with rfl | rfl | c1
      · exact absurd (dom_first hs h2) ys
      · rcases c2 with e | e | e
        · exact absurd e ys
        · exact absurd e yi
        · exact e
      · by_cases yx : y = x
        · rw [yx]; exact c1
        · have c2' : reach n (cut ls y) s x = false := by
            rcases c2 with e | e | e
            · exact absurd e ys
            · exact absurd e yx
            · exact e
          cases hr : reach n (cut ls y) s i with
          | false => rfl
          | true =>
            exfalso
            by_cases xs : s = x
            · subst xs
              rw [reach_refl hs] at c2'; cases c2'
            · obtain ⟨m, hm⟩ := (reach_iff hs).1 hr
              rcases pass xs m i hm with ⟨_, h3⟩ | ⟨j, hj, h3, h4⟩
              · have : reach n (cut ls x) s i = true := (reach_iff hs).2 ⟨m, wk_sub (fun p hp => by
                  have hp' := List.mem_filter.1 hp
                  exact List.mem_filter.2 ⟨cut_sub p hp'.1, hp'.2⟩) h3⟩
                rw [c1] at this; cases this
              · have : reach n (cut ls y) s x = true := (reach_iff hs).2 ⟨_, h4⟩
                rw [c2'] at this; cases this
/-- of two points one is the last on the way -/
theorem last_of (hs : s < n) {x y i : Nat} (hx : x < n) (hy : y < n) (hne : x ≠ y) : ∀ (k a : Nat), (a = x ∨ a = y) → wk n (frow n ls) k a i = true → reach n (cut ls y) x i = true ∨ reach n (cut ls x) y i = true := by
  intro k
  induction k using Nat.strongRecOn with
  | _ k ih =>
    intro a ha hw
    rcases ha with rfl | rfl
    · rcases pass (y := y) hne k i hw with ⟨_, h3⟩ | ⟨j, hj, h3, _⟩
      · exact .inl ((reach_iff hx).2 ⟨k, h3⟩)
      · exact ih j hj y (.inr rfl) h3
    · rcases pass (y := x) (fun e => hne e.symm) k i hw with ⟨_, h3⟩ | ⟨j, hj, h3, _⟩
      · exact .inr ((reach_iff hy).2 ⟨k, h3⟩)
      · exact ih j hj x (.inl rfl) h3
theorem dom_chain (hs : s < n) {i x y : Nat} (h1 : dom n ls s i x = true) (h2 : dom n ls s i y = true) : dom n ls s x y = true ∨ dom n ls s y x = true := by
  obtain ⟨rx, hx, rxi⟩ := dom_way hs h1
  obtain ⟨ry, hy, ryi⟩ := dom_way hs h2
  by_cases e : x = y
  · subst e; exact .inl (dom_self rx)
  · by_cases xs : x = s
    · subst xs; exact .inr (dom_start ry)
    · by_cases ys : y = s
      · subst ys; exact .inl (dom_start rx)
      · cases c1 : reach n (cut ls y) s x with
        | false => exact .inl (dom_iff.2 ⟨rx, .inr (.inr c1)⟩)
        | true =>
          cases c2 : reach n (cut ls x) s y with
          | false => exact .inr (dom_iff.2 ⟨ry, .inr (.inr c2)⟩)
          | true =>
            exfalso
            obtain ⟨k, hk⟩ := (reach_iff hx).1 rxi
            rcases last_of hs hx hy e k x (.inl rfl) hk with h3 | h3
            · have h4 := reach_trans hs c1 h3
              rcases (dom_iff.1 h2).2 with e2 | e2 | e2
              · exact ys e2
              · rw [← e2, cut_none (fun e => ys e.symm) hs] at h4; cases h4
              · rw [e2] at h4; cases h4
            · have h4 := reach_trans hs c2 h3
              rcases (dom_iff.1 h1).2 with e2 | e2 | e2
              · exact xs e2
              · rw [← e2, cut_none (fun e => xs e.symm) hs] at h4; cases h4
              · rw [e2] at h4; cases h4
/-- no two rule each other -/
theorem dom_anti (hs : s < n) {x y : Nat} (h1 : dom n ls s x y = true) (h2 : dom n ls s y x = true) : x = y := by
  refine Classical.byContradiction fun e => ?_
  obtain ⟨rx, c1⟩ := dom_iff.1 h1
  obtain ⟨ry, c2⟩ := dom_iff.1 h2
  by_cases xs : x = s
  · subst xs; exact e (dom_first hs h1).symm
  · by_cases ys : y = s
    · subst ys; exact e (dom_first hs h2)
    · have c1' : reach n (cut ls y) s x = false := by
        rcases c1 with h | h | h
        · exact absurd h ys
        · exact absurd h.symm e
        · exact h
      have c2' : reach n (cut ls x) s y = false := by
        rcases c2 with h | h | h
        · exact absurd h xs
        · exact absurd h e
        · exact h
      have key : ∀ k, wk n (frow n ls) k s x = false ∧ wk n (frow n ls) k s y = false := by
        intro k
        induction k using Nat.strongRecOn with
        | _ k ih =>
          constructor
          · cases hw : wk n (frow n ls) k s x with
            | false => rfl
            | true =>
              exfalso
              rcases pass (fun e => ys e.symm) k x hw with ⟨_, h3⟩ | ⟨j, hj, h3, h4⟩
              · have : reach n (cut ls y) s x = true := (reach_iff hs).2 ⟨k, h3⟩
                rw [c1'] at this; cases this
              · by_cases j0 : j = 0
                · subst j0; exact e (wk_zero.1 h3).symm
                · have := (ih (k - j) (by omega)).2
                  rw [h4] at this; cases this
          · cases hw : wk n (frow n ls) k s y with
            | false => rfl
            | true =>
              exfalso
              rcases pass (fun e => xs e.symm) k y hw with ⟨_, h3⟩ | ⟨j, hj, h3, h4⟩
              · have : reach n (cut ls x) s y = true := (reach_iff hs).2 ⟨k, h3⟩
                rw [c2'] at this; cases this
              · by_cases j0 : j = 0
                · subst j0; exact e (wk_zero.1 h3)
                · have := (ih (k - j) (by omega)).1
                  rw [h4] at this; cases this
      obtain ⟨k, hk⟩ := (reach_iff hs).1 rx
      rw [(key k).1] at hk
      cases hk

/-! ### the last one ahead -/
/-- how many rule a point -/
def ruled (n : Nat) (ls : List Gr.Ln) (s v : Nat) : Nat := cnt n (dom n ls s v)
theorem countP_less {p q : Nat → Bool} (hpq : ∀ i, p i = true → q i = true) : ∀ {l : List Nat} {x : Nat}, x ∈ l → p x = false → q x = true → l.countP p < l.countP q
  | [], _, h, _, _ => absurd h (by simp)
  | y :: l, x, h, h1, h2 => by
    rw [List.countP_cons, List.countP_cons]
    rcases List.mem_cons.1 h with rfl | h
    · have := Ma.countP_mono (p := p) (q := q) (l := l) fun x _ => hpq x
      rw [h1, h2]
      simp
      omega
    · have ih := countP_less hpq h h1 h2
      cases hp : p y with
      | true => rw [hpq y hp]; simp; exact ih
      | false => cases q y <;> simp <;> omega
/-- j: of those that rule i, i left out, the one that the most rule -/
def IsLast (n : Nat) (ls : List Gr.Ln) (s i j : Nat) : Prop := dom n ls s i j = true ∧ j ≠ i ∧ ∀ z, dom n ls s i z = true → z ≠ i → ruled n ls s z ≤ ruled n ls s j
theorem IsLast.iff (hs : s < n) {i j : Nat} (h : IsLast n ls s i j) (z : Nat) : dom n ls s j z = true ↔ dom n ls s i z = true ∧ z ≠ i := by
  obtain ⟨h1, h2, h3⟩ := h
  constructor
  · intro hz
    exact ⟨dom_trans hs h1 hz, fun e => h2 (by subst e; exact dom_anti hs hz h1)⟩
  · rintro ⟨hz, hzi⟩
    rcases dom_chain hs h1 hz with h4 | h4
    · exact h4
    · -- j rules z
      by_cases e : j = z
      · subst e; exact dom_self (dom_way hs h1).1
      · exfalso
        have hzr := dom_way hs hz
        have : ruled n ls s j < ruled n ls s z := by
          refine countP_less (x := z) (fun y hy => dom_trans hs h4 hy) (List.mem_range.2 hzr.2.1) ?_ (dom_self hzr.1)
          cases hh : dom n ls s j z with
          | false => rfl
          | true => exact absurd (dom_anti hs hh h4) e
        have := h3 z hz hzi
        omega
theorem IsLast.only (hs : s < n) {i j k : Nat} (h : IsLast n ls s i j) (h' : IsLast n ls s i k) : j = k := by
  have h1 := (h.iff hs k).2 ⟨h'.1, h'.2.1⟩
  have h2 := (h'.iff hs j).2 ⟨h.1, h.2.1⟩
  exact dom_anti hs h1 h2
/-- there is one, but for the start -/
theorem last_ex (hs : s < n) {i : Nat} (hr : reach n ls s i = true) (hi : i ≠ s) : ∃ j, IsLast n ls s i j := by
  have key : ∀ m, m ≤ n → (∃ z, z < m ∧ dom n ls s i z = true ∧ z ≠ i) → ∃ j, j < m ∧ dom n ls s i j = true ∧ j ≠ i ∧ ∀ z, z < m → dom n ls s i z = true → z ≠ i → ruled n ls s z ≤ ruled n ls s j := by
    intro m
    induction m with
    | zero => rintro _ ⟨z, hz, _⟩; omega
    | succ m ih =>
      rintro hm ⟨z, hz, h1, h2⟩
      by_cases hex : ∃ z, z < m ∧ dom n ls s i z = true ∧ z ≠ i
      · obtain ⟨j, hj, a1, a2, a3⟩ := ih (by omega) hex
        by_cases hmm : dom n ls s i m = true ∧ m ≠ i ∧ ruled n ls s j < ruled n ls s m
        · refine ⟨m, by omega, hmm.1, hmm.2.1, fun y hy b1 b2 => ?_⟩
          by_cases e : y = m
          · rw [e]; exact Nat.le_refl _
          · have := a3 y (by omega) b1 b2
            omega
        · refine ⟨j, by omega, a1, a2, fun y hy b1 b2 => ?_⟩
          by_cases e : y = m
          · subst e
            rcases Nat.lt_or_ge (ruled n ls s j) (ruled n ls s y) with hl | hl
            · exact absurd ⟨b1, b2, hl⟩ hmm
            · exact hl
          · exact a3 y (by omega) b1 b2
      · have e : z = m := by
          rcases Nat.lt_or_ge z m with hl | hl
          · exact absurd ⟨z, hl, h1, h2⟩ hex
          · omega
        subst e
        refine ⟨z, hz, h1, h2, fun y hy b1 b2 => ?_⟩
        by_cases e : y = z
        · rw [e]; exact Nat.le_refl _
        · exact absurd ⟨y, by omega, b1, b2⟩ hex
  obtain ⟨j, _, a1, a2, a3⟩ := key n (Nat.le_refl _) ⟨s, hs, dom_start hr, fun e => hi e.symm⟩
  exact ⟨j, a1, a2, fun z h1 h2 => a3 z (dom_way hs h1).2.1 h1 h2⟩
theorem start_alone (hs : s < n) {z : Nat} : dom n ls s s z = true ↔ z = s := ⟨dom_first hs, fun e => by rw [e]; exact dom_start (reach_refl hs)⟩
/-- one fewer rule the last one -/
theorem IsLast.ruled (hs : s < n) {i j : Nat} (h : IsLast n ls s i j) (hr : reach n ls s i = true) : ruled n ls s i = ruled n ls s j + 1 := by
  have hi := reach_lt hs hr
  have h1 := Ma.cnt_but (n := n) (dom n ls s i) hi
  rw [if_pos (dom_self hr)] at h1
  unfold Do.ruled
  rw [h1]
  congr 1
  refine Ma.cnt_eq fun x _ => ?_
  rw [Bool.eq_iff_iff, h.iff hs]
  simp

/-- a point left out: what it rules can not be reached -/
theorem dom_cut {i k : Nat} (hr : reach n ls s i = true) (hks : k ≠ s) (hki : k ≠ i) : dom n ls s i k = !reach n (cut ls k) s i := by
  unfold dom
  rw [hr]
  simp [hks, hki]
end
end Go.Proofs.Ytjcdnkbandagoaa.Do

set_option linter.unusedSimpArgs false
set_option linter.unusedVariables false
namespace Go.Proofs.Ytjcdnkbandagoaa.Do
open Wa (wk wk_zero wk_succ wk_add wk_one)
open To (frow mem_frow frow_ok)
open Sg (reach reach_iff reach_refl reach_trans reach_lt)
open Ma (cnt cnt_le)

/-- what is wrong: with the points and lines, then with the start -/
def fcode (n : Int) (ls : List Gr.Ln) (a : Int) : Int := if Gr.code n ls = 0 then (if a < 0 ∨ n ≤ a then 1 else 0) else Gr.code n ls
theorem fcode_zero {n : Int} {ls : List Gr.Ln} {a : Int} : fcode n ls a = 0 ↔ Gr.code n ls = 0 ∧ 0 ≤ a ∧ a < n := by
  unfold fcode
  split
  · rename_i h
    split
    · rename_i h2
      constructor
      · intro h3; omega
      · rintro ⟨_, h3, h4⟩; omega
    · exact ⟨fun _ => ⟨h, by omega, by omega⟩, fun _ => rfl⟩
  · rename_i h
    exact ⟨fun h2 => absurd h2 h, fun h2 => absurd h2.1 h⟩

/-! ### whom one comes to without a point -/
/-- the lines without a number -/
def sans (ls : List Gr.Ln) (av : Int) : List Gr.Ln := ls.filter fun p => !decide (p.1 = av) && !decide (p.2 = av)
theorem sans_cut (ls : List Gr.Ln) (k : Nat) : sans ls (k : Int) = cut ls k := rfl
theorem sans_none {n : Nat} {ls : List Gr.Ln} (hg : ∀ p ∈ ls, Gr.Good (n : Int) p) : sans ls (-1) = ls := by
  unfold sans
  refine List.filter_eq_self.2 fun p hp => ?_
  obtain ⟨h1, h2, h3, h4, _⟩ := hg p hp
  have e1 : ¬ p.1 = -1 := by omega
  have e2 : ¬ p.2 = -1 := by omega
  simp [e1, e2]
theorem has_sans {ls : List Gr.Ln} {av a b : Int} : Gr.has (sans ls av) a b = true ↔ Gr.has ls a b = true ∧ a ≠ av ∧ b ≠ av := by
  rw [Gr.has_iff, Gr.has_iff]
  unfold sans
  rw [List.mem_filter]
  simp
/-- one line is looked at from a point: who has not been met comes behind -/
def stp (av a : Int) (met : List Int) (p : Gr.Ln) : List Int := if p.1 = a ∧ p.2 ≠ av ∧ met.contains p.2 = false then met ++ [p.2] else met
def grow (ls : List Gr.Ln) (av a : Int) (met : List Int) : List Int := ls.foldl (stp av a) met
theorem grow_zero (ls : List Gr.Ln) (av a : Int) (met : List Int) : grow (ls.take 0) av a met = met := rfl
theorem grow_take {ls : List Gr.Ln} {av a : Int} {met : List Int} {j : Nat} (hj : j < ls.length) : grow (ls.take (j + 1)) av a met = stp av a (grow (ls.take j) av a met) (ls.getD j (0, 0)) := by
  unfold grow
  rw [List.take_succ_eq_append_getElem hj, List.foldl_append]
  simp [List.getD, hj]
def srch (ls : List Gr.Ln) (av : Int) : Nat → Nat → List Int → List Int
  | 0, _, met => met
  | f + 1, i, met => if i < met.length then srch ls av f (i + 1) (grow ls av (met.getD i 0) met) else met
/-- all of them, as they come -/
def out (n : Nat) (ls : List Gr.Ln) (av s : Int) : List Int := if s = av then [] else srch ls av n 0 [s]

theorem stp_pre (av a : Int) (met : List Int) (p : Gr.Ln) : met <+: stp av a met p := by
  unfold stp
  split
  · exact List.prefix_append _ _
  · exact List.prefix_refl _
theorem grow_pre (av a : Int) : ∀ (ls : List Gr.Ln) (met : List Int), met <+: grow ls av a met
  | [], met => List.prefix_refl _
  | p :: ls, met => (stp_pre av a met p).trans (grow_pre av a ls _)
theorem srch_pre (ls : List Gr.Ln) (av : Int) : ∀ (f i : Nat) (met : List Int), met <+: srch ls av f i met
  | 0, _, met => List.prefix_refl _
  | f + 1, i, met => by
    unfold srch
    split
    · exact (grow_pre av _ ls met).trans (srch_pre ls av f _ _)
    · exact List.prefix_refl _
theorem pre_getD {l m : List Int} (h : l <+: m) {j : Nat} (hj : j < l.length) : m.getD j 0 = l.getD j 0 := by
  obtain ⟨t, rfl⟩ := h
  simp [List.getD, List.getElem?_append, hj]
/-- what is yielded next is the next of all -/
theorem srch_next {ls : List Gr.Ln} {av : Int} {f i : Nat} {met zs : List Int} (h : srch ls av f i met = zs) (hi : i < met.length) : (met.take i ++ [met.getD i 0]) <+: zs := by
  have e : met.take i ++ [met.getD i 0] = met.take (i + 1) := by
    rw [List.take_succ_eq_append_getElem hi]
    simp [List.getD, hi]
  rw [e, ← h]
  exact (List.take_prefix _ _).trans (srch_pre ls av f i met)
theorem srch_step {ls : List Gr.Ln} {av : Int} {f i : Nat} {met : List Int} (hi : i < met.length) : srch ls av (f + 1) i met = srch ls av f (i + 1) (grow ls av (met.getD i 0) met) := by
  rw [srch, if_pos hi]
theorem srch_done {ls : List Gr.Ln} {av : Int} {f i : Nat} {met : List Int} (hi : met.length ≤ i) : srch ls av f i met = met := by
  cases f with
  | zero => rfl
  | succ f => rw [srch, if_neg (by omega)]

section
variable {n : Nat} {ls : List Gr.Ln} {av : Int} {s : Nat}
/-- those that have been met -/
structure Met (n : Nat) (ls : List Gr.Ln) (av : Int) (s : Nat) (met : List Int) : Prop where
  nd : met.Nodup
  at_ : ∀ x ∈ met, ∃ v : Nat, x = (v : Int) ∧ v < n ∧ reach n (sans ls av) s v = true
  on : (s : Int) ∈ met
  no : av ∉ met
theorem Met.len {met : List Int} (h : Met n ls av s met) : met.length ≤ n := by
  have : met.length ≤ ((List.range n).map fun i => ((i : Nat) : Int)).length := List.Nodup.length_le_of_subset h.nd fun x hx => by
    obtain ⟨v, rfl, hv, _⟩ := h.at_ x hx
    exact List.mem_map.2 ⟨v, List.mem_range.2 hv, rfl⟩
  simpa using this
theorem Met.start (hs : s < n) (hne : (s : Int) ≠ av) : Met n ls av s [(s : Int)] where
  nd := by simp
  at_ := fun x hx => ⟨s, by simpa using hx, hs, reach_refl hs⟩
  on := by simp
  no := by simpa using fun e => hne e.symm
theorem Met.stp (hs : s < n) {met : List Int} (h : Met n ls av s met) {a : Int} (ha : a ∈ met) {p : Gr.Ln} (hp : p ∈ ls) (hg : Gr.Good (n : Int) p) : Met n ls av s (stp av a met p) := by
  unfold Do.stp
  split
  · rename_i hc
    obtain ⟨h1, h2, h3⟩ := hc
    have h3' : p.2 ∉ met := by simpa using h3
    obtain ⟨u, hu, hun, hur⟩ := h.at_ a ha
    obtain ⟨g1, g2, g3, g4, _⟩ := hg
    refine ⟨?_, ?_, ?_, ?_⟩
    · refine List.nodup_append.2 ⟨h.nd, by simp, fun x hx y hy => ?_⟩
      obtain rfl : y = p.2 := by simpa using hy
      exact fun e => h3' (e ▸ hx)
    · intro x hx
      rcases List.mem_append.1 hx with hx | hx
      · exact h.at_ x hx
      · obtain rfl : x = p.2 := by simpa using hx
        refine ⟨p.2.toNat, by omega, by omega, reach_trans hs hur ((reach_iff hun).2 ⟨1, wk_one hun (mem_frow.2 ⟨by omega, ?_⟩)⟩)⟩
        rw [show ((p.2.toNat : Nat) : Int) = p.2 by omega]
        refine has_sans.2 ⟨Gr.has_iff.2 ?_, ?_, h2⟩
        · rw [← hu, ← h1]; exact hp
        · intro e
          rw [← hu] at e
          exact h.no (e ▸ ha)
    · exact List.mem_append_left _ h.on
    · intro hx
      rcases List.mem_append.1 hx with hx | hx
      · exact h.no hx
      · exact h2 (show av = p.2 by simpa using hx).symm
  · exact h
theorem Met.grow (hs : s < n) {a : Int} : ∀ {ks : List Gr.Ln} {met : List Int}, (∀ p ∈ ks, p ∈ ls ∧ Gr.Good (n : Int) p) → Met n ls av s met → a ∈ met → Met n ls av s (grow ks av a met)
  | [], met, _, h, _ => h
  | p :: ks, met, hk, h, ha => Met.grow (ks := ks) (met := Do.stp av a met p) hs (fun q hq => hk q (List.mem_cons_of_mem _ hq)) (h.stp hs ha (hk p (by simp)).1 (hk p (by simp)).2) ((stp_pre av a met p).subset ha)
theorem Met.take (hs : s < n) (hg : ∀ p ∈ ls, Gr.Good (n : Int) p) {a : Int} {met : List Int} (h : Met n ls av s met) (ha : a ∈ met) (j : Nat) : Met n ls av s (Do.grow (ls.take j) av a met) :=
  Met.grow hs (fun p hp => ⟨List.mem_of_mem_take hp, hg p (List.mem_of_mem_take hp)⟩) h ha
theorem grow_in (av a : Int) : ∀ {ks : List Gr.Ln} {met : List Int} {p : Gr.Ln}, p ∈ ks → p.1 = a → p.2 ≠ av → p.2 ∈ grow ks av a met
  | [], _, _, h, _, _ => absurd h (by simp)
  | q :: ks, met, p, h, h1, h2 => by
    rcases List.mem_cons.1 h with rfl | h
    · refine (grow_pre av a ks (stp av a met p)).subset ?_
      unfold stp
      split
      · simp
      · rename_i hc
        cases hm : met.contains p.2 with
        | true => simpa using hm
        | false => exact absurd ⟨h1, h2, hm⟩ hc
    · exact grow_in (ks := ks) (met := stp av a met q) av a h h1 h2
/-- all lines from the first i of them have been looked at -/
def Shut (ls : List Gr.Ln) (av : Int) (met : List Int) (i : Nat) : Prop := ∀ j, j < i → ∀ b : Int, Gr.has ls (met.getD j 0) b = true → b ≠ av → b ∈ met
theorem Shut.next {met : List Int} {i : Nat} (h : Shut ls av met i) (hi : i < met.length) : Shut ls av (grow ls av (met.getD i 0) met) (i + 1) := by
  intro j hj b hb hne
  rw [pre_getD (grow_pre av _ ls met) (by omega)] at hb
  by_cases e : j = i
  · subst e
    have := grow_in av (met.getD j 0) (met := met) (Gr.has_iff.1 hb) rfl hne
    exact this
  · exact (grow_pre av _ ls met).subset (h j (by omega) b hb hne)
theorem srch_spec (hs : s < n) (hg : ∀ p ∈ ls, Gr.Good (n : Int) p) : ∀ (f i : Nat) (met : List Int), Met n ls av s met → Shut ls av met i → i ≤ met.length → n ≤ f + i → Met n ls av s (srch ls av f i met) ∧ Shut ls av (srch ls av f i met) (srch ls av f i met).length
  | 0, i, met, h, hc, hi, hf => by
    have := h.len
    have e : i = met.length := by omega
    subst e
    exact ⟨h, hc⟩
  | f + 1, i, met, h, hc, hi, hf => by
    by_cases hlt : i < met.length
    · rw [srch_step hlt]
      have ha : met.getD i 0 ∈ met := by simp [List.getD, hlt]
      refine srch_spec hs hg f (i + 1) _ (Met.grow hs (fun p hp => ⟨hp, hg p hp⟩) h ha) (hc.next hlt) ?_ (by omega)
      have := (grow_pre av (met.getD i 0) ls met).length_le
      omega
    · rw [srch_done (by omega)]
      have e : i = met.length := by omega
      subst e
      exact ⟨h, hc⟩
/-- who comes: those to whom a way leads without the point -/
theorem mem_out (hs : s < n) (hg : ∀ p ∈ ls, Gr.Good (n : Int) p) (hne : (s : Int) ≠ av) {v : Nat} : (v : Int) ∈ out n ls av (s : Int) ↔ reach n (sans ls av) s v = true := by
  unfold out
  rw [if_neg hne]
  obtain ⟨h1, h2⟩ := srch_spec (av := av) hs hg n 0 [(s : Int)] (Met.start hs hne) (fun j hj => by omega) (by simp) (by omega)
  constructor
  · intro h
    obtain ⟨u, hu, _, hr⟩ := h1.at_ _ h
    obtain rfl : v = u := by omega
    exact hr
  · intro h
    obtain ⟨k, hk⟩ := (reach_iff hs).1 h
    have key : ∀ k v, wk n (frow n (sans ls av)) k s v = true → (v : Int) ∈ srch ls av n 0 [(s : Int)] := by
      intro k
      induction k with
      | zero => intro v hw; rw [← wk_zero.1 hw]; exact h1.on
      | succ k ih =>
        intro v hw
        obtain ⟨c, hc, hw1, hw2⟩ := wk_succ.1 hw
        obtain ⟨e1, e2, e3⟩ := has_sans.1 (mem_frow.1 hw2).2
        obtain ⟨j, hj, ej⟩ := List.getElem_of_mem (ih c hw1)
        refine h2 j hj (v : Int) ?_ e3
        rw [show (srch ls av n 0 [(s : Int)]).getD j 0 = (c : Int) by simp [List.getD, hj, ej]]
        exact e1
    exact key k v hk
theorem out_lt (hs : s < n) (hg : ∀ p ∈ ls, Gr.Good (n : Int) p) {x : Int} (hx : x ∈ out n ls av (s : Int)) : ∃ v : Nat, x = (v : Int) ∧ v < n := by
  unfold out at hx
  split at hx
  · exact absurd hx (by simp)
  · rename_i hne
    obtain ⟨h1, _⟩ := srch_spec (av := av) hs hg n 0 [(s : Int)] (Met.start hs hne) (fun j hj => by omega) (by simp) (by omega)
    obtain ⟨v, hv, hn, _⟩ := h1.at_ x hx
    exact ⟨v, hv, hn⟩
theorem out_nodup (hs : s < n) (hg : ∀ p ∈ ls, Gr.Good (n : Int) p) : (out n ls av (s : Int)).Nodup := by
  unfold out
  split
  · simp
  · rename_i hne
    exact (srch_spec (av := av) hs hg n 0 [(s : Int)] (Met.start hs hne) (fun j hj => by omega) (by simp) (by omega)).1.nd
/-- without the point there is no way any more: it rules -/
theorem out_dom (hs : s < n) (hg : ∀ p ∈ ls, Gr.Good (n : Int) p) {v : Nat} (hr : reach n ls s v = true) (k : Nat) : (out n ls (k : Int) (s : Int)).contains (v : Int) = !dom n ls s v k := by
  by_cases hks : s = k
  · subst hks
    rw [dom_start hr]
    unfold out
    simp
  · have hne : (s : Int) ≠ (k : Int) := by omega
    have h1 := mem_out (v := v) hs hg hne
    rw [sans_cut] at h1
    unfold dom
    rw [hr]
    by_cases hkv : k = v
    · subst hkv
      rw [cut_none hks hs] at h1
      have : (out n ls (k : Int) (s : Int)).contains (k : Int) = false := by
        cases h : (out n ls (k : Int) (s : Int)).contains (k : Int) with
        | false => rfl
        | true => exact absurd (h1.1 (by simpa using h)) (by simp)
      rw [this]
      simp
    · have : (out n ls (k : Int) (s : Int)).contains (v : Int) = reach n (cut ls k) s v := by
        rw [Bool.eq_iff_iff]
        constructor
        · intro h; exact h1.1 (by simpa using h)
        · intro h; simpa using h1.2 h
      rw [this]
      have : ¬ k = s := fun e => hks e.symm
      simp [this, hkv]
theorem out_all (hs : s < n) (hg : ∀ p ∈ ls, Gr.Good (n : Int) p) {v : Nat} : (v : Int) ∈ out n ls (-1) (s : Int) ↔ reach n ls s v = true := by
  have := mem_out (av := -1) (v := v) hs hg (by omega)
  rw [sans_none hg] at this
  exact this

/-! ### the lists of those that rule a point -/
def dlN (n : Nat) (ls : List Gr.Ln) (s v k : Nat) : List Nat := (List.range k).filter (dom n ls s v)
def dlTo (n : Nat) (ls : List Gr.Ln) (s v k : Nat) : List Int := (dlN n ls s v k).map fun i => ((i : Nat) : Int)
def dl (n : Nat) (ls : List Gr.Ln) (s v : Nat) : List Int := dlTo n ls s v n
def dls (n : Nat) (ls : List Gr.Ln) (s : Nat) : List (List Int) := (List.range n).map (dl n ls s)
theorem dls_len (n : Nat) (ls : List Gr.Ln) (s : Nat) : (dls n ls s).length = n := by simp [dls]
theorem dls_at {i : Nat} (hi : i < n) : (dls n ls s).getD i [] = dl n ls s i := by simp [dls, List.getD, hi]
theorem dlTo_zero (v : Nat) : dlTo n ls s v 0 = [] := rfl
theorem dlTo_yes {v k : Nat} (h : dom n ls s v k = true) : dlTo n ls s v (k + 1) = dlTo n ls s v k ++ [(k : Int)] := by
  unfold dlTo dlN
  rw [List.range_succ, List.filter_append, List.map_append]
  simp [h]
theorem dlTo_no {v k : Nat} (h : dom n ls s v k = false) : dlTo n ls s v (k + 1) = dlTo n ls s v k := by
  unfold dlTo dlN
  rw [List.range_succ, List.filter_append, List.map_append]
  simp [h]
theorem dlTo_len (v k : Nat) : (dlTo n ls s v k).length ≤ k := by
  unfold dlTo dlN
  rw [List.length_map]
  have := List.length_filter_le (dom n ls s v) (List.range k)
  rwa [List.length_range] at this
theorem dl_len (v : Nat) : (dl n ls s v).length = ruled n ls s v := by
  unfold dl dlTo dlN ruled cnt
  rw [List.length_map, List.countP_eq_length_filter]
theorem mem_dl (hs : s < n) {v : Nat} {x : Int} : x ∈ dl n ls s v ↔ ∃ k : Nat, x = (k : Int) ∧ dom n ls s v k = true := by
  unfold dl dlTo dlN
  constructor
  · intro h
    obtain ⟨k, hk, rfl⟩ := List.mem_map.1 h
    exact ⟨k, rfl, (List.mem_filter.1 hk).2⟩
  · rintro ⟨k, rfl, hk⟩
    exact List.mem_map.2 ⟨k, List.mem_filter.2 ⟨List.mem_range.2 (dom_way hs hk).2.1, hk⟩, rfl⟩
theorem dl_has (hs : s < n) (v k : Nat) : (dl n ls s v).contains (k : Int) = dom n ls s v k := by
  rw [Bool.eq_iff_iff]
  constructor
  · intro h
    obtain ⟨j, e, hj⟩ := (mem_dl hs).1 (by simpa using h)
    obtain rfl : k = j := by omega
    exact hj
  · intro h
    have := (mem_dl hs).2 ⟨k, rfl, h⟩
    simpa using this
theorem dl_none {v : Nat} (h : reach n ls s v = false) : dl n ls s v = [] := by
  unfold dl dlTo dlN
  rw [List.filter_eq_nil_iff.2, List.map_nil]
  intro k _
  unfold dom
  rw [h]
  simp
theorem dl_pos (hs : s < n) {v : Nat} (h : reach n ls s v = true) : 0 < (dl n ls s v).length :=
  List.length_pos_of_mem ((mem_dl hs).2 ⟨v, rfl, dom_self h⟩)
theorem dl_empty (hs : s < n) (v : Nat) : (dl n ls s v).length = 0 ↔ reach n ls s v = false := by
  cases h : reach n ls s v with
  | false => rw [dl_none h]; simp
  | true => have := dl_pos hs h; simp; intro e; rw [e] at this; simp at this
theorem dl_at (hs : s < n) {v j : Nat} (hj : j < (dl n ls s v).length) : ∃ k : Nat, (dl n ls s v).getD j 0 = (k : Int) ∧ k < n ∧ dom n ls s v k = true := by
  have hm : (dl n ls s v).getD j 0 ∈ dl n ls s v := by simp [List.getD, hj]
  obtain ⟨k, e, hk⟩ := (mem_dl hs).1 hm
  exact ⟨k, e, (dom_way hs hk).2.1, hk⟩
theorem dl_pw (v : Nat) : (dl n ls s v).Pairwise (· < ·) := by
  unfold dl dlTo dlN
  rw [List.pairwise_map]
  exact (List.pairwise_lt_range.filter _).imp fun h => by omega
theorem dl_first (hs : s < n) : dl n ls s s = [(s : Int)] := by
  unfold dl dlTo dlN
  have e : (List.range n).filter (dom n ls s s) = (List.range n).filter (fun k => decide (k = s)) := List.filter_congr fun k _ => by
    rw [Bool.eq_iff_iff, start_alone hs]; simp
  have hp : ∀ m, s < m → (List.range m).filter (fun k => decide (k = s)) = [s] := by
    intro m
    induction m with
    | zero => intro h; omega
    | succ m ih =>
      intro h
      rw [List.range_succ, List.filter_append]
      by_cases e : s = m
      · subst e
        have : (List.range s).filter (fun k => decide (k = s)) = [] := List.filter_eq_nil_iff.2 fun x hx => by
          have := List.mem_range.1 hx
          simp; omega
        rw [this]; simp
      · rw [ih (by omega)]
        have : ¬ m = s := fun h => e h.symm
        simp [this]
  rw [e, hp n hs]
  rfl

/-! ### the last one ahead, as it is chosen -/
/-- one more of them is looked at -/
def pkS (rk : Nat → Nat) (i : Nat) (b : Int) (d : Nat) : Int := if d ≠ i ∧ (b < 0 ∨ rk b.toNat < rk d) then (d : Int) else b
def pk (rk : Nat → Nat) (i : Nat) (l : List Nat) : Int := l.foldl (pkS rk i) (-1)
theorem pk_zero (rk : Nat → Nat) (i : Nat) (l : List Nat) : pk rk i (l.take 0) = -1 := rfl
theorem pk_take {rk : Nat → Nat} {i : Nat} {l : List Nat} {j : Nat} (hj : j < l.length) : pk rk i (l.take (j + 1)) = pkS rk i (pk rk i (l.take j)) (l.getD j 0) := by
  unfold pk
  rw [List.take_succ_eq_append_getElem hj, List.foldl_append]
  simp [List.getD, hj]
theorem pk_spec {rk : Nat → Nat} {i : Nat} {l : List Nat} : ∀ k, k ≤ l.length → (pk rk i (l.take k) = -1 ∧ ∀ d ∈ l.take k, d = i) ∨ ∃ j : Nat, pk rk i (l.take k) = (j : Int) ∧ j ∈ l.take k ∧ j ≠ i ∧ ∀ d ∈ l.take k, d ≠ i → rk d ≤ rk j
  | 0, _ => .inl ⟨rfl, by simp⟩
  | k + 1, hk => by
    have hlt : k < l.length := by omega
    rw [pk_take hlt, List.take_succ_eq_append_getElem hlt]
    have e : l.getD k 0 = l[k] := by simp [List.getD, hlt]
    rw [e]
    generalize l[k] = d
    rcases pk_spec (rk := rk) (i := i) (l := l) k (by omega) with ⟨h1, h2⟩ | ⟨j, h1, h2, h3, h4⟩
    · rw [h1]
      unfold pkS
      by_cases hd : d = i
      · subst hd
        rw [if_neg (by simp)]
        refine .inl ⟨rfl, fun x hx => ?_⟩
        rcases List.mem_append.1 hx with hx | hx
        · exact h2 x hx
        · simpa using hx
      · rw [if_pos ⟨hd, .inl (by omega)⟩]
        refine .inr ⟨d, rfl, by simp, hd, fun x hx hxi => ?_⟩
        rcases List.mem_append.1 hx with hx | hx
        · exact absurd (h2 x hx) hxi
        · rw [show x = d by simpa using hx]; exact Nat.le_refl _
    · rw [h1]
      unfold pkS
      rw [Int.toNat_natCast]
      by_cases hc : d ≠ i ∧ ((j : Int) < 0 ∨ rk j < rk d)
      · rw [if_pos hc]
        have hlt2 : rk j < rk d := by rcases hc.2 with h | h <;> omega
        refine .inr ⟨d, rfl, by simp, hc.1, fun x hx hxi => ?_⟩
        rcases List.mem_append.1 hx with hx | hx
        · have := h4 x hx hxi; omega
        · rw [show x = d by simpa using hx]; exact Nat.le_refl _
      · rw [if_neg hc]
        refine .inr ⟨j, rfl, List.mem_append_left _ h2, h3, fun x hx hxi => ?_⟩
        rcases List.mem_append.1 hx with hx | hx
        · exact h4 x hx hxi
        · obtain rfl : x = d := by simpa using hx
          rcases Nat.lt_or_ge (rk j) (rk x) with h | h
          · exact absurd ⟨hxi, .inr h⟩ hc
          · exact h
theorem pk_cases {rk : Nat → Nat} {i : Nat} {l : List Nat} (k : Nat) (hk : k ≤ l.length) : pk rk i (l.take k) = -1 ∨ ∃ j : Nat, pk rk i (l.take k) = (j : Int) ∧ j ∈ l := by
  rcases pk_spec (rk := rk) (i := i) k hk with ⟨h, _⟩ | ⟨j, h, hj, _⟩
  · exact .inl h
  · exact .inr ⟨j, h, List.mem_of_mem_take hj⟩
/-- how many rule the one that is chosen so far; 0 where there is none -/
def mo (rk : Nat → Nat) (b : Int) : Nat := if b < 0 then 0 else rk b.toNat
theorem pkS_mo {rk : Nat → Nat} {i d : Nat} {b : Int} (hd : 0 < rk d) : pkS rk i b d = if d ≠ i ∧ mo rk b < rk d then (d : Int) else b := by
  unfold pkS mo
  by_cases hb : b < 0
  · rw [if_pos hb]
    by_cases h : d ≠ i
    · rw [if_pos ⟨h, .inl hb⟩, if_pos ⟨h, hd⟩]
    · rw [if_neg (fun h' => h h'.1), if_neg (fun h' => h h'.1)]
  · rw [if_neg hb]
    by_cases h : d ≠ i ∧ rk b.toNat < rk d
    · rw [if_pos h, if_pos ⟨h.1, .inr h.2⟩]
    · rw [if_neg h, if_neg]
      rintro ⟨h1, h2 | h2⟩
      · exact hb h2
      · exact h ⟨h1, h2⟩
/-- the last one ahead of a point; -1 where there is none -/
def lst (n : Nat) (ls : List Gr.Ln) (s i : Nat) : Int := pk (ruled n ls s) i (dlN n ls s i n)
def lsts (n : Nat) (ls : List Gr.Ln) (s : Nat) : List Int := (List.range n).map (lst n ls s)
theorem lsts_len (n : Nat) (ls : List Gr.Ln) (s : Nat) : (lsts n ls s).length = n := by simp [lsts]
theorem lsts_at {i : Nat} (hi : i < n) : (lsts n ls s).getD i 0 = lst n ls s i := by simp [lsts, List.getD, hi]
theorem mem_dlN (hs : s < n) {v k : Nat} : k ∈ dlN n ls s v n ↔ dom n ls s v k = true := by
  unfold dlN
  rw [List.mem_filter, List.mem_range]
  exact ⟨fun h => h.2, fun h => ⟨(dom_way hs h).2.1, h⟩⟩
theorem dlN_len (v : Nat) : (dlN n ls s v n).length = (dl n ls s v).length := by unfold dl dlTo; rw [List.length_map]
theorem dlN_at {v j : Nat} (hj : j < (dlN n ls s v n).length) : (dl n ls s v).getD j 0 = (((dlN n ls s v n).getD j 0 : Nat) : Int) := by
  unfold dl dlTo
  simp [List.getD, hj]
theorem ruled_pos (hs : s < n) {v : Nat} (h : reach n ls s v = true) : 0 < ruled n ls s v := by rw [← dl_len]; exact dl_pos hs h
theorem lst_all (i : Nat) : lst n ls s i = pk (ruled n ls s) i ((dlN n ls s i n).take (dlN n ls s i n).length) := by rw [List.take_length]; rfl
theorem lst_cases (hs : s < n) (i : Nat) : (lst n ls s i = -1 ∧ (reach n ls s i = false ∨ i = s)) ∨ ∃ j : Nat, lst n ls s i = (j : Int) ∧ IsLast n ls s i j := by
  rw [lst_all]
  rcases pk_spec (rk := ruled n ls s) (i := i) _ (Nat.le_refl (dlN n ls s i n).length) with ⟨h1, h2⟩ | ⟨j, h1, h2, h3, h4⟩
  · refine .inl ⟨h1, ?_⟩
    cases hr : reach n ls s i with
    | false => exact .inl rfl
    | true =>
      right
      rw [List.take_length] at h2
      exact (h2 s ((mem_dlN hs).2 (dom_start hr))).symm
  · rw [List.take_length] at h2 h4
    exact .inr ⟨j, h1, (mem_dlN hs).1 h2, h3, fun z hz hzi => h4 z ((mem_dlN hs).2 hz) hzi⟩
theorem lst_none (hs : s < n) {i : Nat} (h : reach n ls s i = false) : lst n ls s i = -1 := by
  rcases lst_cases hs i with h1 | ⟨j, _, h2⟩
  · exact h1.1
  · have := (dom_iff.1 h2.1).1
    rw [h] at this
    cases this

/-! ### the way back by the last ones -/
/-- so far on the way, and where it stands -/
def Way (n : Nat) (ls : List Gr.Ln) (s i : Nat) (w : List Int) (at_ : Int) : Prop :=
  (at_ = -1 ∧ w.Perm (dl n ls s i) ∧ 0 < w.length ∧ w.getD (w.length - 1) 0 = (s : Int)) ∨
  ∃ a : Nat, at_ = (a : Int) ∧ a < n ∧ reach n ls s a = true ∧ (w ++ dl n ls s a).Perm (dl n ls s i)
theorem Way.start (hs : s < n) {i : Nat} (h : reach n ls s i = true) : Way n ls s i [] (i : Int) := .inr ⟨i, rfl, reach_lt hs h, h, by simp⟩
theorem dl_next (hs : s < n) {a j : Nat} (ha : reach n ls s a = true) (h : IsLast n ls s a j) : (dl n ls s a).Perm ((a : Int) :: dl n ls s j) := by
  unfold dl dlTo dlN
  have h1 := Ri.filter_but (p := dom n ls s a) (dom_self ha) List.nodup_range (List.mem_range.2 (reach_lt hs ha))
  have h2 : ((List.range n).filter fun x => dom n ls s a x && !decide (x = a)) = (List.range n).filter (dom n ls s j) := List.filter_congr fun x _ => by
    rw [Bool.eq_iff_iff, h.iff hs]
    simp
  rw [h2] at h1
  have := h1.map fun i => ((i : Nat) : Int)
  simpa using this
theorem Way.step (hs : s < n) {i : Nat} {w : List Int} {a : Nat} (h : Way n ls s i w (a : Int)) : Way n ls s i (w ++ [(a : Int)]) (lst n ls s a) := by
  rcases h with ⟨h, _⟩ | ⟨a', e, han, har, hp⟩
  · omega
  · obtain rfl : a = a' := by omega
    rcases lst_cases (ls := ls) hs a with ⟨h1, h2⟩ | ⟨j, h1, h2⟩
    · rcases h2 with h2 | rfl
      · rw [har] at h2; cases h2
      · left
        refine ⟨h1, ?_, by simp, by simp [List.getD]⟩
        rw [dl_first hs] at hp
        exact hp
    · right
      obtain ⟨hj1, hj2, _⟩ := dom_way hs h2.1
      refine ⟨j, h1, hj2, hj1, ?_⟩
      rw [List.append_assoc]
      exact ((dl_next hs har h2).symm.append_left w).trans hp
theorem Way.short (hs : s < n) {i : Nat} {w : List Int} {a : Nat} (h : Way n ls s i w (a : Int)) : a < n ∧ w.length < n := by
  rcases h with ⟨h, _⟩ | ⟨a', e, han, har, hp⟩
  · omega
  · obtain rfl : a = a' := by omega
    have h1 := hp.length_eq
    rw [List.length_append, dl_len i] at h1
    have h2 := dl_pos hs har
    have h3 : ruled n ls s i ≤ n := cnt_le n _
    exact ⟨han, by omega⟩
theorem Way.cases {i : Nat} {w : List Int} {at_ : Int} (h : Way n ls s i w at_) : at_ = -1 ∨ ∃ a : Nat, at_ = (a : Int) := by
  rcases h with ⟨h, _⟩ | ⟨a, h, _⟩
  · exact .inl h
  · exact .inr ⟨a, h⟩
theorem Way.len {i : Nat} {w : List Int} {at_ : Int} (h : Way n ls s i w at_) : w.length ≤ n := by
  have h3 : ruled n ls s i ≤ n := cnt_le n _
  rcases h with ⟨_, hp, _⟩ | ⟨a, _, _, _, hp⟩
  · have h1 := hp.length_eq
    rw [dl_len i] at h1
    omega
  · have h1 := hp.length_eq
    rw [List.length_append, dl_len i] at h1
    omega
theorem Way.done {i : Nat} {w : List Int} (h : Way n ls s i w (-1)) : w.Perm (dl n ls s i) ∧ 0 < w.length ∧ w.getD (w.length - 1) 0 = (s : Int) := by
  rcases h with ⟨_, h⟩ | ⟨a, h, _⟩
  · exact h
  · omega
/-- in rising order it is the list of those that rule the point -/
theorem rising_dl {i : Nat} {w r : List Int} (h : w.Perm (dl n ls s i)) (h1 : r.Pairwise (· ≤ ·)) (h2 : r.Perm w) : r = dl n ls s i :=
  List.Perm.eq_of_pairwise (le := fun x y : Int => x ≤ y) (fun a b _ _ h1 h2 => by omega) h1 ((dl_pw i).imp fun h => by omega) (h2.trans h)

/-! ### a point left out -/
theorem code_cut {k : Nat} (h : Gr.code (n : Int) ls = 0) : Gr.code (n : Int) (cut ls k) = 0 := by
  obtain ⟨h1, h2, h3, h4⟩ := Gr.code_zero.1 h
  refine Gr.code_zero.2 ⟨h1, h2, ?_, fun p hp => h4 p (cut_sub p hp)⟩
  have := List.length_filter_le (fun p : Gr.Ln => !decide (p.1 = (k : Int)) && !decide (p.2 = (k : Int))) ls
  unfold cut
  omega
end
end Go.Proofs.Ytjcdnkbandagoaa.Do
