/-
  Plain facts on the program's own way to the best pairing, with no program in them: the lists of partners and of how often each has asked. No statement of the program is proved here; there is no condition.
-/
import Derived.Test.YthdibdghnfkoeaaDoorStableM
set_option linter.unusedSimpArgs false
set_option linter.unusedVariables false
namespace Go.Proofs.YthdibdghnfkoeaaDoor.St

/-- nobody, or someone -/
def encO : Option Nat → Int
  | none => -1
  | some k => (k : Int)
/-- m have begun to ask, s is the one who asks; at most f rounds are to come -/
def Gs (n : Nat) (L R : Nat → Nat → Nat) (m : Nat) (s : Option Nat) (f : Nat) (ps qs : List Int) : Prop :=
  ps.length = 6 ∧ qs.length = 6 ∧ ∃ (pos : Nat → Nat) (eng : Nat → Option Nat), Inv n L R pos eng ∧ left_ n pos eng ≤ f ∧ (∀ j, j < n → ps.getD j 0 = encO (eng j)) ∧
    (∀ a, a < n → qs.getD a 0 = ((pos a + if a < m ∧ s ≠ some a then 1 else 0 : Nat) : Int)) ∧ (∀ a, a < n → ((∃ j, j < n ∧ eng j = some a) ↔ (a < m ∧ s ≠ some a))) ∧ (∀ a, s = some a → a < m)

theorem set_getI (xs : List Int) (i j : Nat) (x : Int) (hi : i < xs.length) : (xs.set i x).getD j 0 = if j = i then x else xs.getD j 0 := by
  simp only [List.getD, List.getElem?_set]
  by_cases e : i = j
  · subst e; simp [hi]
  · have : ¬ j = i := fun h => e h.symm
    simp [e, this]

section
variable {n m f : Nat} {L R : Nat → Nat → Nat} {ps qs : List Int}
theorem Gs.start (hp : ps.length = 6) (hq : qs.length = 6) (h6 : n ≤ 6) (h1 : ∀ j, j < 6 → ps.getD j 0 = -1) (h2 : ∀ j, j < 6 → qs.getD j 0 = 0) : ∃ f, Gs n L R 0 none f ps qs := by
  refine ⟨_, hp, hq, _, _, Inv.start n L R, Nat.le_refl _, fun j hj => h1 j (by omega), fun a ha => ?_, fun a ha => ⟨?_, ?_⟩, fun a e => by cases e⟩
  · rw [h2 a (by omega), if_neg (by omega)]; rfl
  · rintro ⟨j, _, e⟩; cases e
  · rintro ⟨h, _⟩; omega
theorem Gs.begin (h : Gs n L R m none f ps qs) : Gs n L R (m + 1) (some m) f ps qs := by
  obtain ⟨h1, h2, pos, eng, h3, h4, h5, h6, h7, h8⟩ := h
  have key : ∀ a, (a < m + 1 ∧ some m ≠ some a) ↔ (a < m ∧ (none : Option Nat) ≠ some a) := fun a => by
    constructor
    · rintro ⟨x, y⟩
      exact ⟨by have : m ≠ a := fun e => y (by rw [e]); omega, by simp⟩
    · rintro ⟨x, _⟩
      exact ⟨by omega, fun e => by cases e; omega⟩
  refine ⟨h1, h2, pos, eng, h3, h4, h5, fun a ha => ?_, fun a ha => ?_, fun a e => by cases e; omega⟩
  · rw [h6 a ha]
    simp only [key]
  · rw [h7 a ha, key]

/-- one asks -/
theorem Gs.step {left : List (List Int)} (hk : Rks n left) (hR : Ord n R) (hm : m ≤ n) {a : Nat} (h6n : n ≤ 6) (h : Gs n (pl left) R m (some a) f ps qs) :
    a < n ∧ ∃ p j, p < n ∧ j < n ∧ qs.getD a 0 = (p : Int) ∧ (left.getD a []).getD p 0 = (j : Int) ∧
      ((ps.getD j 0 = -1 ∧ ∃ f', f' < f ∧ Gs n (pl left) R m none f' (ps.set j (a : Int)) (qs.set a ((p : Int) + 1))) ∨
       (∃ k, k < n ∧ ps.getD j 0 = (k : Int) ∧ R j a < R j k ∧ ∃ f', f' < f ∧ Gs n (pl left) R m (some k) f' (ps.set j (a : Int)) (qs.set a ((p : Int) + 1))) ∨
       (∃ k, k < n ∧ ps.getD j 0 = (k : Int) ∧ R j k < R j a ∧ ∃ f', f' < f ∧ Gs n (pl left) R m (some a) f' ps (qs.set a ((p : Int) + 1)))) := by
  obtain ⟨h1, h2, pos, eng, h3, h4, h5, h6, h7, h8⟩ := h
  have ham := h8 a rfl
  have ha : a < n := by omega
  have hL := hk.ord
  have hfree : ∀ j, j < n → eng j ≠ some a := fun j hj e => ((h7 a ha).1 ⟨j, hj, e⟩).2 rfl
  have hpn := h3.more hL ha hfree
  have hrow := hk.row ha
  have hpl : pos a < (left.getD a []).length := by rw [hrow.len]; exact hpn
  have hg := hrow.rng _ (getD_mem hpl)
  obtain ⟨j, hj⟩ : ∃ j : Nat, (left.getD a []).getD (pos a) 0 = (j : Int) := ⟨((left.getD a []).getD (pos a) 0).toNat, by omega⟩
  have hjn : j < n := by omega
  have hLp : pl left a j = pos a := by
    unfold pl
    rw [← hj, plc_at hrow.nodup hpl]
    rfl
  have hq0 : qs.getD a 0 = (pos a : Int) := by
    have := h6 a ha
    rw [if_neg (fun hh => hh.2 rfl)] at this
    exact this
  have hal : a < qs.length := by omega
  have hjl : j < ps.length := by omega
  refine ⟨ha, pos a, j, hpn, hjn, hq0, hj, ?_⟩
  have hps := h5 j hjn
  cases he : eng j with
  | none =>
    refine .inl ⟨by rw [hps, he]; rfl, ?_⟩
    have hleft := count_upd eng (i := a) he n hjn
    refine ⟨left_ n pos (upd eng j (some a)), by unfold left_ at h4 ⊢; omega, by simp [h1], by simp [h2], pos, _, h3.take ha hjn hLp he, Nat.le_refl _, fun j' hj' => ?_, fun b hb => ?_, fun b hb => ?_, fun b e => by cases e⟩
    · rw [set_getI _ _ _ _ hjl]
      by_cases e : j' = j
      · subst e; rw [if_pos rfl, upd_same]; rfl
      · rw [if_neg e, upd_ne _ _ e]; exact h5 j' hj'
    · rw [set_getI _ _ _ _ hal]
      by_cases e : b = a
      · subst e; rw [if_pos rfl, if_pos ⟨ham, by simp⟩]; push_cast; rfl
      · rw [if_neg e, h6 b hb]
        have : (b < m ∧ some a ≠ some b) ↔ (b < m ∧ (none : Option Nat) ≠ some b) := by
          constructor
          · rintro ⟨x, _⟩; exact ⟨x, by simp⟩
          · rintro ⟨x, _⟩; exact ⟨x, fun e2 => e (by cases e2; rfl)⟩
        simp only [this]
    · by_cases e : b = a
      · subst e
        exact ⟨fun _ => ⟨ham, by simp⟩, fun _ => ⟨j, hjn, upd_same _ _ _⟩⟩
      · constructor
        · rintro ⟨j', hj', e'⟩
          have hne : j' ≠ j := fun e2 => by subst e2; rw [upd_same] at e'; exact e (by cases e'; rfl)
          rw [upd_ne _ _ hne] at e'
          exact ⟨((h7 b hb).1 ⟨j', hj', e'⟩).1, by simp⟩
        · rintro ⟨x, _⟩
          obtain ⟨j', hj', e'⟩ := (h7 b hb).2 ⟨x, fun e2 => e (by cases e2; rfl)⟩
          have hne : j' ≠ j := fun e2 => by subst e2; rw [he] at e'; cases e'
          exact ⟨j', hj', by rw [upd_ne _ _ hne]; exact e'⟩
  | some k =>
    obtain ⟨hkn, hpk⟩ := h3.at_ j hjn k he
    have hak : a ≠ k := fun e => hfree j hjn (by rw [he, e])
    have hkm := ((h7 k hkn).1 ⟨j, hjn, he⟩).1
    have hne : R j a ≠ R j k := fun e => hak (hR.inj j hjn a ha k hkn e)
    have hpkn : pos k < n := by rw [← hpk]; exact hL.lt k hkn j hjn
    rcases Nat.lt_or_ge (R j a) (R j k) with hr | hr
    · refine .inr (.inl ⟨k, hkn, by rw [hps, he]; rfl, hr, ?_⟩)
      refine ⟨left_ n (upd pos k (pos k + 1)) (upd eng j (some a)), ?_, by simp [h1], by simp [h2], _, _, h3.swap hL ha hjn hLp hfree he hr, Nat.le_refl _, fun j' hj' => ?_, fun b hb => ?_, fun b hb => ?_, fun b e => by cases e; exact hkm⟩
      · unfold left_ at h4 ⊢
        rw [map_upd, count_upd_some eng he]
        have := sum_upd (fun x => n - pos x) (x := n - (pos k + 1)) n hkn
        omega
      · rw [set_getI _ _ _ _ hjl]
        by_cases e : j' = j
        · subst e; rw [if_pos rfl, upd_same]; rfl
        · rw [if_neg e, upd_ne _ _ e]; exact h5 j' hj'
      · rw [set_getI _ _ _ _ hal]
        by_cases e : b = a
        · subst e
          rw [if_pos rfl, if_pos ⟨ham, fun e2 => hak (by cases e2; rfl)⟩, upd_ne _ _ hak]; push_cast; rfl
        · rw [if_neg e, h6 b hb]
          by_cases e2 : b = k
          · subst e2
            rw [upd_same, if_pos ⟨hkm, fun e3 => e (by cases e3; rfl)⟩, if_neg (fun hh => hh.2 rfl)]
          · rw [upd_ne _ _ e2]
            have : (b < m ∧ some a ≠ some b) ↔ (b < m ∧ some k ≠ some b) := by
              constructor
              · rintro ⟨x, _⟩; exact ⟨x, fun e3 => e2 (by cases e3; rfl)⟩
              · rintro ⟨x, _⟩; exact ⟨x, fun e3 => e (by cases e3; rfl)⟩
            simp only [this]
      · by_cases e : b = a
        · subst e
          exact ⟨fun _ => ⟨ham, fun e2 => hak (by cases e2; rfl)⟩, fun _ => ⟨j, hjn, upd_same _ _ _⟩⟩
        · constructor
          · rintro ⟨j', hj', e'⟩
            have hnj : j' ≠ j := fun e2 => by subst e2; rw [upd_same] at e'; exact e (by cases e'; rfl)
            rw [upd_ne _ _ hnj] at e'
            refine ⟨((h7 b hb).1 ⟨j', hj', e'⟩).1, fun e2 => ?_⟩
            cases e2
            exact hnj (h3.one hL hj' hjn e' he)
          · rintro ⟨x, y⟩
            obtain ⟨j', hj', e'⟩ := (h7 b hb).2 ⟨x, fun e2 => e (by cases e2; rfl)⟩
            have hnj : j' ≠ j := fun e2 => by subst e2; rw [he] at e'; exact y (by rw [← e'])
            exact ⟨j', hj', by rw [upd_ne _ _ hnj]; exact e'⟩
    · refine .inr (.inr ⟨k, hkn, by rw [hps, he]; rfl, by omega, ?_⟩)
      refine ⟨left_ n (upd pos a (pos a + 1)) eng, ?_, h1, by simp [h2], _, _, h3.keep hL ha hjn hLp hfree he (by omega), Nat.le_refl _, h5, fun b hb => ?_, h7, h8⟩
      · unfold left_ at h4 ⊢
        rw [map_upd]
        have := sum_upd (fun x => n - pos x) (x := n - (pos a + 1)) n ha
        omega
      · rw [set_getI _ _ _ _ hal]
        by_cases e : b = a
        · subst e
          rw [if_pos rfl, upd_same, if_neg (fun hh => hh.2 rfl)]; push_cast; rfl
        · rw [if_neg e, upd_ne _ _ e]
          exact h6 b hb

/-- all have asked -/
theorem Gs.done (hL : Ord n L) (h : Gs n L R n none f ps qs) : ∃ g, Opt n L R g ∧ ∀ i, i < n → ps.getD (g.getD i 0) 0 = (i : Int) := by
  obtain ⟨h1, h2, pos, eng, h3, h4, h5, h6, h7, h8⟩ := h
  have hall : ∀ i, i < n → ∃ j, j < n ∧ eng j = some i := fun i hi => (h7 i hi).2 ⟨hi, by simp⟩
  obtain ⟨g, hg⟩ : ∃ g : Nat → Nat, ∀ i, i < n → g i < n ∧ eng (g i) = some i := by
    refine ⟨fun i => if h : i < n then (hall i h).choose else 0, fun i hi => ?_⟩
    simp only [hi, dite_true]
    exact (hall i hi).choose_spec
  refine ⟨(List.range n).map g, h3.done hL (by simp) (fun i hi => by rw [getD_map hi]; exact hg i hi), fun i hi => ?_⟩
  rw [getD_map hi, h5 _ (hg i hi).1, (hg i hi).2]
  rfl
end

end Go.Proofs.YthdibdghnfkoeaaDoor.St
