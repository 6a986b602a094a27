/-
  Plain facts on going from point to point, with no program in them: ways of so many steps, the search by levels, distances. No statement of the program is proved here; there is no condition.
  Plain facts on what hangs together and on rings, with no program in them. No statement of the program is proved here; there is no condition.
  Plain facts on distances, on what hangs together and on rings, with no program in them. No statement of the program is proved here; there is no condition.
  Plain facts on the reference's own answers on ways and rings, with no program in them: how far by all three points, rings by all ways. No statement of the program is proved here; there is no condition.
  Plain facts that join lines and ways: the points beside each point as plain numbers. No statement of the program is proved here; there is no condition.
-/
import Derived.WalkKit
import Derived.Test.YtojkjdccjomaaaaDoorGraphL
set_option linter.unusedSimpArgs false
set_option linter.unusedVariables false
namespace Go.Proofs.YtojkjdccjomaaaaDoor.Wa

/-- the points beside each point lie among the points -/
def Ok (m : Nat) (R : Nat → List Nat) : Prop := ∀ a, a < m → ∀ b ∈ R a, b < m

/-- may one go from a to b in k steps? -/
def wk (m : Nat) (R : Nat → List Nat) : Nat → Nat → Nat → Bool
  | 0, a, b => a == b
  | k + 1, a, b => (List.range m).any fun c => wk m R k a c && (R c).contains b

theorem wk_zero {m : Nat} {R : Nat → List Nat} {a b : Nat} : wk m R 0 a b = true ↔ a = b := by simp [wk]
theorem wk_succ {m : Nat} {R : Nat → List Nat} {k a b : Nat} : wk m R (k + 1) a b = true ↔ ∃ c, c < m ∧ wk m R k a c = true ∧ b ∈ R c := by
  simp [wk]
theorem wk_lt {m : Nat} {R : Nat → List Nat} (hR : Ok m R) {k a b : Nat} (ha : a < m) (h : wk m R k a b = true) : b < m := by
  cases k with
  | zero => rw [wk_zero] at h; omega
  | succ k =>
    obtain ⟨c, hc, _, hb⟩ := wk_succ.1 h
    exact hR c hc b hb
theorem wk_add {m : Nat} {R : Nat → List Nat} {i j a b c : Nat} (h1 : wk m R i a c = true) (h2 : wk m R j c b = true) : wk m R (i + j) a b = true := by
  induction j generalizing b with
  | zero => rw [wk_zero] at h2; subst h2; exact h1
  | succ j ih =>
    obtain ⟨d, hd, h3, h4⟩ := wk_succ.1 h2
    exact wk_succ.2 ⟨d, hd, ih h3, h4⟩
theorem wk_split {m : Nat} {R : Nat → List Nat} {i j a b : Nat} (h : wk m R (i + j) a b = true) : ∃ c, wk m R i a c = true ∧ wk m R j c b = true := by
  induction j generalizing b with
  | zero => exact ⟨b, h, wk_zero.2 rfl⟩
  | succ j ih =>
    obtain ⟨d, hd, h3, h4⟩ := wk_succ.1 h
    obtain ⟨c, h5, h6⟩ := ih h3
    exact ⟨c, h5, wk_succ.2 ⟨d, hd, h6, h4⟩⟩
theorem wk_mono {m : Nat} {R R' : Nat → List Nat} (h : ∀ a, a < m → ∀ b ∈ R a, b ∈ R' a) {k a b : Nat} (hw : wk m R k a b = true) : wk m R' k a b = true := by
  induction k generalizing b with
  | zero => exact hw
  | succ k ih =>
    obtain ⟨c, hc, h1, h2⟩ := wk_succ.1 hw
    exact wk_succ.2 ⟨c, hc, ih h1, h c hc b h2⟩
theorem wk_one {m : Nat} {R : Nat → List Nat} {a b : Nat} (ha : a < m) (hb : b ∈ R a) : wk m R 1 a b = true := wk_succ.2 ⟨a, ha, wk_zero.2 rfl, hb⟩
/-- beside goes both ways -/
def Sym (m : Nat) (R : Nat → List Nat) : Prop := ∀ a b, a < m → b < m → b ∈ R a → a ∈ R b
theorem wk_sym {m : Nat} {R : Nat → List Nat} (hR : Ok m R) (hs : Sym m R) {k a b : Nat} (ha : a < m) (h : wk m R k a b = true) : wk m R k b a = true := by
  induction k generalizing b with
  | zero => rw [wk_zero] at *; exact h.symm
  | succ k ih =>
    obtain ⟨c, hc, h1, h2⟩ := wk_succ.1 h
    have hb := hR c hc b h2
    have := wk_add (wk_one hb (hs c b hc hb h2)) (ih h1)
    rwa [Nat.add_comm] at this

/-- k is the fewest steps from a to b -/
def Dst (m : Nat) (R : Nat → List Nat) (a b k : Nat) : Prop := wk m R k a b = true ∧ ∀ j, j < k → wk m R j a b = false

theorem Dst.unique {m : Nat} {R : Nat → List Nat} {a b k j : Nat} (h : Dst m R a b k) (h' : Dst m R a b j) : k = j := by
  rcases Nat.lt_trichotomy k j with hl | he | hl
  · have := h'.2 k hl; rw [h.1] at this; cases this
  · exact he
  · have := h.2 j hl; rw [h'.1] at this; cases this
theorem Dst.of_wk {m : Nat} {R : Nat → List Nat} {a b : Nat} : ∀ {k : Nat}, wk m R k a b = true → ∃ j, j ≤ k ∧ Dst m R a b j := by
  intro k
  induction k using Nat.strongRecOn with
  | _ k ih =>
    intro h
    by_cases hx : ∃ j, j < k ∧ wk m R j a b = true
    · obtain ⟨j, hj, h2⟩ := hx
      obtain ⟨i, hi, hd⟩ := ih j hj h2
      exact ⟨i, by omega, hd⟩
    · refine ⟨k, Nat.le_refl _, h, fun j hj => ?_⟩
      cases hw : wk m R j a b with
      | false => rfl
      | true => exact absurd ⟨j, hj, hw⟩ hx
/-- on the way, each number of steps is the fewest to some point -/
theorem Dst.before {m : Nat} {R : Nat → List Nat} {a b k j : Nat} (h : Dst m R a b k) (hj : j ≤ k) : ∃ c, Dst m R a c j ∧ wk m R (k - j) c b = true := by
  obtain ⟨c, h1, h2⟩ := wk_split (i := j) (j := k - j) (by rw [Nat.add_sub_cancel' hj]; exact h.1)
  refine ⟨c, ⟨h1, fun i hi => ?_⟩, h2⟩
  cases hw : wk m R i a c with
  | false => rfl
  | true =>
    have := h.2 (i + (k - j)) (by omega)
    rw [wk_add hw h2] at this
    cases this

/-! ### the search, level by level -/
def vis1 (st : List Bool × List Nat) (w : Nat) : List Bool × List Nat := if st.1.getD w false then st else (st.1.set w true, st.2 ++ [w])
def visRow (st : List Bool × List Nat) (row : List Nat) : List Bool × List Nat := row.foldl vis1 st
def visLev (R : Nat → List Nat) (st : List Bool × List Nat) (lev : List Nat) : List Bool × List Nat := lev.foldl (fun st v => visRow st (R v)) st

def bfs (R : Nat → List Nat) : Nat → Nat → List Bool → List Nat → List (Nat × Nat)
  | 0, _, _, _ => []
  | f + 1, d, seen, lev => if lev = [] then [] else lev.map (fun v => (v, d)) ++ bfs R f (d + 1) (visLev R (seen, []) lev).1 (visLev R (seen, []) lev).2
/-- the points that can be reached, each with its distance -/
def out (m : Nat) (R : Nat → List Nat) (a : Nat) : List (Nat × Nat) := bfs R (m + 1) 0 ((List.replicate m false).set a true) [a]

theorem bfs_nil (R : Nat → List Nat) (f d : Nat) (seen : List Bool) : bfs R f d seen [] = [] := by cases f <;> simp [bfs]

theorem getD_set (l : List Bool) (w v : Nat) (hw : w < l.length) : (l.set w true).getD v false = (decide (v = w) || l.getD v false) := by
  by_cases h : v = w
  · subst h; simp [List.getD, hw]
  · have : w ≠ v := fun e => h e.symm
    simp [List.getD, List.getElem?_set, this, h]
theorem vis1_hit {st : List Bool × List Nat} {w : Nat} (h : st.1.getD w false = true) : vis1 st w = st := by unfold vis1; rw [if_pos h]
theorem vis1_miss {st : List Bool × List Nat} {w : Nat} (h : st.1.getD w false = false) : vis1 st w = (st.1.set w true, st.2 ++ [w]) := by unfold vis1; rw [if_neg (by rw [h]; simp)]
theorem visRow_take {st : List Bool × List Nat} {row : List Nat} {k : Nat} (hk : k < row.length) : visRow st (row.take (k + 1)) = vis1 (visRow st (row.take k)) (row.getD k 0) := by
  unfold visRow
  rw [List.take_succ_eq_append_getElem hk, List.foldl_append]
  simp [List.getD, hk]
theorem visLev_take {R : Nat → List Nat} {st : List Bool × List Nat} {lev : List Nat} {k : Nat} (hk : k < lev.length) : visLev R st (lev.take (k + 1)) = visRow (visLev R st (lev.take k)) (R (lev.getD k 0)) := by
  unfold visLev
  rw [List.take_succ_eq_append_getElem hk, List.foldl_append]
  simp [List.getD, hk]

/-- what a visit of some points makes of the state: B are the points that have been looked at -/
structure St (m : Nat) (seen : List Bool) (B : Nat → Prop) (st : List Bool × List Nat) : Prop where
  len : st.1.length = m
  cnt : st.1.count true = seen.count true + st.2.length
  see : ∀ v, v < m → (st.1.getD v false = true ↔ seen.getD v false = true ∨ B v)
  nxt : ∀ v, v ∈ st.2 ↔ v < m ∧ seen.getD v false = false ∧ B v

theorem count_set : ∀ {l : List Bool} {w : Nat}, w < l.length → l.getD w false = false → (l.set w true).count true = l.count true + 1
  | [], w, h, _ => by simp at h
  | x :: l, 0, _, h => by
    simp at h
    subst h
    simp
  | x :: l, w + 1, hl, h => by
    have := count_set (l := l) (w := w) (by simpa using hl) (by simpa using h)
    simp only [List.set_cons_succ, List.count_cons, this]
    omega

theorem St.start {m : Nat} {seen : List Bool} (h : seen.length = m) : St m seen (fun _ => False) (seen, []) :=
  ⟨h, by simp, fun v _ => by simp, fun v => by simp⟩
theorem St.vis {m : Nat} {seen : List Bool} {B : Nat → Prop} {st : List Bool × List Nat} (h : St m seen B st) {w : Nat} (hw : w < m) : St m seen (fun v => B v ∨ v = w) (vis1 st w) := by
  cases hs : st.1.getD w false with
  | true =>
    rw [vis1_hit hs]
    have hw' := (h.see w hw).1 hs
    refine ⟨h.len, h.cnt, fun v hv => ?_, fun v => ?_⟩
    · rw [h.see v hv]
      constructor
      · rintro (h1 | h1)
        · exact .inl h1
        · exact .inr (.inl h1)
      · rintro (h1 | h1 | h1)
        · exact .inl h1
        · exact .inr h1
        · subst h1; exact hw'
    · rw [h.nxt v]
      constructor
      · rintro ⟨h1, h2, h3⟩; exact ⟨h1, h2, .inl h3⟩
      · rintro ⟨h1, h2, h3 | h3⟩
        · exact ⟨h1, h2, h3⟩
        · subst h3
          rcases hw' with h4 | h4
          · rw [h2] at h4; cases h4
          · exact ⟨h1, h2, h4⟩
  | false =>
    rw [vis1_miss hs]
    have hn : (seen.getD w false = true ∨ B w) → False := fun hx => by
      have := (h.see w hw).2 hx
      rw [hs] at this
      cases this
    refine ⟨by simp [h.len], ?_, fun v hv => ?_, fun v => ?_⟩
    · rw [count_set (by rw [h.len]; exact hw) hs, h.cnt]
      simp
      omega
    · rw [getD_set _ _ _ (by rw [h.len]; exact hw)]
      simp only [Bool.or_eq_true, decide_eq_true_eq, h.see v hv]
      constructor
      · rintro (h1 | h1 | h1)
        · exact .inr (.inr h1)
        · exact .inl h1
        · exact .inr (.inl h1)
      · rintro (h1 | h1 | h1)
        · exact .inr (.inl h1)
        · exact .inr (.inr h1)
        · exact .inl h1
    · rw [List.mem_append, h.nxt v, List.mem_singleton]
      constructor
      · rintro (⟨h1, h2, h3⟩ | h1)
        · exact ⟨h1, h2, .inl h3⟩
        · subst h1
          refine ⟨hw, ?_, .inr rfl⟩
          cases hx : seen.getD v false with
          | false => rfl
          | true => exact (hn (.inl hx)).elim
      · rintro ⟨h1, h2, h3 | h3⟩
        · exact .inl ⟨h1, h2, h3⟩
        · exact .inr h3
theorem St.congr {m : Nat} {seen : List Bool} {B B' : Nat → Prop} {st : List Bool × List Nat} (h : St m seen B st) (he : ∀ v, B v ↔ B' v) : St m seen B' st := by
  have : B = B' := funext fun v => propext (he v)
  rw [← this]; exact h
theorem St.row {m : Nat} {seen : List Bool} : ∀ {row : List Nat} {B : Nat → Prop} {st : List Bool × List Nat}, St m seen B st → (∀ v ∈ row, v < m) → St m seen (fun v => B v ∨ v ∈ row) (visRow st row)
  | [], B, st, h, _ => h.congr fun v => by simp
  | w :: row, B, st, h, hr => by
    have h1 := h.vis (hr w (by simp))
    have h2 := St.row (row := row) h1 (fun v hv => hr v (by simp [hv]))
    exact h2.congr fun v => by simp [or_assoc]
theorem St.lev {m : Nat} {R : Nat → List Nat} (hR : Ok m R) {seen : List Bool} : ∀ {lev : List Nat} {B : Nat → Prop} {st : List Bool × List Nat}, St m seen B st → (∀ v ∈ lev, v < m) → St m seen (fun v => B v ∨ ∃ u ∈ lev, v ∈ R u) (visLev R st lev)
  | [], B, st, h, _ => h.congr fun v => by simp
  | u :: lev, B, st, h, hr => by
    have h1 := h.row (hR u (hr u (by simp)))
    have h2 := St.lev hR (lev := lev) h1 (fun v hv => hr v (by simp [hv]))
    exact h2.congr fun v => by simp [or_assoc]
theorem St.small {m : Nat} {seen : List Bool} {B : Nat → Prop} {st : List Bool × List Nat} (h : St m seen B st) : st.2.length ≤ m := by
  have h1 : st.1.count true ≤ st.1.length := List.count_le_length
  have h2 := h.cnt
  have h3 := h.len
  omega
theorem St.less {m : Nat} {seen : List Bool} {B : Nat → Prop} {st : List Bool × List Nat} (h : St m seen B st) {w : Nat} (hw : w < m) (hs : st.1.getD w false = false) : st.2.length < m := by
  have h1 := (h.vis hw).small
  rw [vis1_miss hs] at h1
  simp at h1
  omega

/-- what holds at the head of level d -/
structure Lev (m : Nat) (R : Nat → List Nat) (a d : Nat) (seen : List Bool) (lev : List Nat) : Prop where
  len : seen.length = m
  cnt : lev ≠ [] → d + 1 ≤ seen.count true
  see : ∀ v, v < m → (seen.getD v false = true ↔ ∃ k, k ≤ d ∧ wk m R k a v = true)
  lev : ∀ v, v ∈ lev ↔ Dst m R a v d

theorem Lev.start {m : Nat} {R : Nat → List Nat} {a : Nat} (ha : a < m) : Lev m R a 0 ((List.replicate m false).set a true) [a] := by
  refine ⟨by simp, fun _ => ?_, fun v hv => ?_, fun v => ?_⟩
  · rw [count_set (by simpa using ha) (by simp [List.getD, List.getElem?_replicate, ha])]
    omega
  · rw [getD_set _ _ _ (by simpa using ha)]
    simp only [List.getD, List.getElem?_replicate, hv]
    simp
    constructor
    · intro h; subst h; exact wk_zero.2 rfl
    · intro h; exact (wk_zero.1 h).symm
  · simp only [List.mem_singleton]
    constructor
    · intro h; subst h; exact ⟨wk_zero.2 rfl, fun j hj => by omega⟩
    · intro h; exact (wk_zero.1 h.1).symm
theorem Lev.lt {m : Nat} {R : Nat → List Nat} {a d : Nat} {seen : List Bool} {lev : List Nat} (hR : Ok m R) (ha : a < m) (h : Lev m R a d seen lev) : ∀ v ∈ lev, v < m := fun v hv => wk_lt hR ha ((h.lev v).1 hv).1
theorem Lev.st {m : Nat} {R : Nat → List Nat} {a d : Nat} {seen : List Bool} {lev : List Nat} (hR : Ok m R) (ha : a < m) (h : Lev m R a d seen lev) : St m seen (fun v => ∃ u ∈ lev, v ∈ R u) (visLev R (seen, []) lev) :=
  ((St.start h.len).lev hR (h.lt hR ha)).congr fun v => by simp
theorem Lev.next {m : Nat} {R : Nat → List Nat} {a d : Nat} {seen : List Bool} {lev : List Nat} (hR : Ok m R) (ha : a < m) (h : Lev m R a d seen lev) (hne : lev ≠ []) : Lev m R a (d + 1) (visLev R (seen, []) lev).1 (visLev R (seen, []) lev).2 := by
  have hs := h.st hR ha
  have step : ∀ v, (∃ u ∈ lev, v ∈ R u) → wk m R (d + 1) a v = true := by
    rintro v ⟨u, hu, hv⟩
    exact wk_succ.2 ⟨u, h.lt hR ha u hu, ((h.lev u).1 hu).1, hv⟩
  have back : ∀ v, wk m R (d + 1) a v = true → (∃ k, k ≤ d ∧ wk m R k a v = true) ∨ ∃ u ∈ lev, v ∈ R u := by
    intro v hv
    obtain ⟨u, hu, h1, h2⟩ := wk_succ.1 hv
    obtain ⟨j, hj, hd⟩ := Dst.of_wk h1
    by_cases e : j = d
    · subst e; exact .inr ⟨u, (h.lev u).2 hd, h2⟩
    · exact .inl ⟨j + 1, by omega, wk_succ.2 ⟨u, hu, hd.1, h2⟩⟩
  refine ⟨hs.len, fun hn => ?_, fun v hv => ?_, fun v => ?_⟩
  · have h1 := hs.cnt
    have h2 := h.cnt hne
    have h3 : 0 < (visLev R (seen, []) lev).2.length := List.length_pos_iff.2 hn
    omega
  · rw [hs.see v hv, h.see v hv]
    constructor
    · rintro (⟨k, hk, h1⟩ | h1)
      · exact ⟨k, by omega, h1⟩
      · exact ⟨d + 1, Nat.le_refl _, step v h1⟩
    · rintro ⟨k, hk, h1⟩
      by_cases e : k = d + 1
      · subst e; exact back v h1
      · exact .inl ⟨k, by omega, h1⟩
  · rw [hs.nxt v]
    constructor
    · rintro ⟨h1, h2, h3⟩
      refine ⟨step v h3, fun j hj => ?_⟩
      cases hw : wk m R j a v with
      | false => rfl
      | true =>
        have := (h.see v h1).2 ⟨j, by omega, hw⟩
        rw [h2] at this; cases this
    · intro hd
      have hv := wk_lt hR ha hd.1
      have hno : ¬ ∃ k, k ≤ d ∧ wk m R k a v = true := by
        rintro ⟨k, hk, h1⟩
        have := hd.2 k (by omega)
        rw [h1] at this; cases this
      refine ⟨hv, ?_, (back v hd.1).resolve_left hno⟩
      cases hx : seen.getD v false with
      | false => rfl
      | true => exact absurd ((h.see v hv).1 hx) hno
theorem Lev.small {m : Nat} {R : Nat → List Nat} {a d : Nat} {seen : List Bool} {lev : List Nat} (h : Lev m R a d seen lev) (hne : lev ≠ []) : d < m := by
  have h1 : seen.count true ≤ seen.length := List.count_le_length
  have h2 := h.cnt hne
  have h3 := h.len
  omega

theorem mem_bfs {m : Nat} {R : Nat → List Nat} {a : Nat} (hR : Ok m R) (ha : a < m) : ∀ (f d : Nat) (seen : List Bool) (lev : List Nat), m + 1 = f + d → Lev m R a d seen lev → ∀ v k, (v, k) ∈ bfs R f d seen lev ↔ d ≤ k ∧ Dst m R a v k := by
  have none : ∀ (d : Nat) (seen : List Bool), Lev m R a d seen [] → ∀ v k, ¬ (d ≤ k ∧ Dst m R a v k) := by
    rintro d seen h v k ⟨hk, hd⟩
    obtain ⟨c, hc, _⟩ := hd.before hk
    have := (h.lev c).2 hc
    simp at this
  intro f
  induction f with
  | zero =>
    intro d seen lev hf h v k
    have he : lev = [] := by
      by_cases hn : lev = []
      · exact hn
      · have := h.small hn; omega
    subst he
    simp only [bfs, List.not_mem_nil, false_iff]
    exact none d seen h v k
  | succ f ih =>
    intro d seen lev hf h v k
    by_cases hn : lev = []
    · subst hn
      simp only [bfs, if_pos, List.not_mem_nil, false_iff]
      exact none d seen h v k
    · rw [bfs, if_neg hn, List.mem_append, ih (d + 1) _ _ (by omega) (h.next hR ha hn) v k]
      simp only [List.mem_map, Prod.mk.injEq]
      constructor
      · rintro (⟨u, hu, rfl, rfl⟩ | ⟨h1, h2⟩)
        · exact ⟨Nat.le_refl _, (h.lev u).1 hu⟩
        · exact ⟨by omega, h2⟩
      · rintro ⟨h1, h2⟩
        by_cases e : k = d
        · subst e; exact .inl ⟨v, (h.lev v).2 h2, rfl, rfl⟩
        · exact .inr ⟨by omega, h2⟩
theorem mem_out {m : Nat} {R : Nat → List Nat} {a : Nat} (hR : Ok m R) (ha : a < m) (v k : Nat) : (v, k) ∈ out m R a ↔ Dst m R a v k := by
  rw [out, mem_bfs hR ha (m + 1) 0 _ _ rfl (Lev.start ha) v k]
  simp
theorem bfs_small {m : Nat} {R : Nat → List Nat} {a : Nat} (hR : Ok m R) (ha : a < m) : ∀ (f d : Nat) (seen : List Bool) (lev : List Nat), Lev m R a d seen lev → ∀ x ∈ bfs R f d seen lev, x.2 < m
  | 0, _, _, _, _, x, hx => by simp [bfs] at hx
  | f + 1, d, seen, lev, h, x, hx => by
    by_cases hn : lev = []
    · subst hn; simp [bfs] at hx
    · rw [bfs, if_neg hn, List.mem_append] at hx
      rcases hx with hx | hx
      · obtain ⟨u, _, rfl⟩ := List.mem_map.1 hx
        exact h.small hn
      · exact bfs_small hR ha f (d + 1) _ _ (h.next hR ha hn) x hx
theorem Dst.small {m : Nat} {R : Nat → List Nat} {a b k : Nat} (hR : Ok m R) (ha : a < m) (h : Dst m R a b k) : k < m :=
  bfs_small hR ha (m + 1) 0 _ _ (Lev.start ha) (b, k) ((mem_out hR ha b k).2 h)

/-! ### distances -/
/-- the fewest steps, or -1 -/
def dist (m : Nat) (R : Nat → List Nat) (a b : Nat) : Int := match (List.range m).find? fun k => wk m R k a b with
  | some k => (k : Int)
  | none => -1

theorem dist_some {m : Nat} {R : Nat → List Nat} {a b k : Nat} (hR : Ok m R) (ha : a < m) (h : Dst m R a b k) : dist m R a b = (k : Int) := by
  have hk := h.small hR ha
  unfold dist
  cases hf : (List.range m).find? fun k => wk m R k a b with
  | none =>
    have := List.find?_eq_none.1 hf k (by simpa using hk)
    rw [h.1] at this
    exact absurd rfl this
  | some j =>
    have h1 := List.find?_some hf
    have h2 : j = k := by
      rcases Nat.lt_trichotomy j k with hl | he | hl
      · have := h.2 j hl; rw [h1] at this; cases this
      · exact he
      · have h3 := (List.find?_range_eq_some.1 hf).2.2 k hl
        rw [h.1] at h3; simp at h3
    rw [h2]
theorem dist_none {m : Nat} {R : Nat → List Nat} {a b : Nat} (h : ∀ k, wk m R k a b = false) : dist m R a b = -1 := by
  unfold dist
  rw [List.find?_eq_none.2 (fun k _ => by rw [h k]; simp)]
theorem dist_cases {m : Nat} {R : Nat → List Nat} {a : Nat} (b : Nat) (hR : Ok m R) (ha : a < m) : (∃ k, Dst m R a b k ∧ dist m R a b = (k : Int)) ∨ ((∀ k, wk m R k a b = false) ∧ dist m R a b = -1) := by
  by_cases h : ∃ k, wk m R k a b = true
  · obtain ⟨k, hk⟩ := h
    obtain ⟨j, _, hd⟩ := Dst.of_wk hk
    exact .inl ⟨j, hd, dist_some hR ha hd⟩
  · have : ∀ k, wk m R k a b = false := fun k => by
      cases hw : wk m R k a b with
      | false => rfl
      | true => exact absurd ⟨k, hw⟩ h
    exact .inr ⟨this, dist_none this⟩
theorem dist_nn {m : Nat} {R : Nat → List Nat} {a b : Nat} (hR : Ok m R) (ha : a < m) : 0 ≤ dist m R a b ↔ ∃ k, wk m R k a b = true := by
  rcases dist_cases b hR ha with ⟨k, hd, he⟩ | ⟨hn, he⟩
  · rw [he]; exact ⟨fun _ => ⟨k, hd.1⟩, fun _ => by omega⟩
  · rw [he]; exact ⟨fun h => by omega, fun ⟨k, hk⟩ => by rw [hn k] at hk; cases hk⟩
theorem dist_le {m : Nat} {R : Nat → List Nat} {a b k : Nat} (hR : Ok m R) (ha : a < m) (h : wk m R k a b = true) : 0 ≤ dist m R a b ∧ dist m R a b ≤ (k : Int) := by
  obtain ⟨j, hj, hd⟩ := Dst.of_wk h
  rw [dist_some hR ha hd]
  omega
theorem dist_ge {m : Nat} {R : Nat → List Nat} {a b : Nat} (hR : Ok m R) (ha : a < m) : -1 ≤ dist m R a b ∧ dist m R a b < (m : Int) := by
  rcases dist_cases b hR ha with ⟨k, hd, he⟩ | ⟨_, he⟩
  · have := hd.small hR ha; rw [he]; omega
  · rw [he]; omega

/-- numbers laid where the pairs say -/
def lay (zs : List (Nat × Nat)) (g : Nat × Nat → Int) (l : List Int) : List Int := zs.foldl (fun l x => l.set x.1 (g x)) l
theorem lay_len (g : Nat × Nat → Int) : ∀ (zs : List (Nat × Nat)) (l : List Int), (lay zs g l).length = l.length
  | [], _ => rfl
  | x :: zs, l => by rw [lay, List.foldl_cons]; exact (lay_len g zs _).trans (by simp)
theorem lay_snoc (zs : List (Nat × Nat)) (x : Nat × Nat) (g : Nat × Nat → Int) (l : List Int) : lay (zs ++ [x]) g l = (lay zs g l).set x.1 (g x) := by simp [lay, List.foldl_append]
theorem lay_at (g : Nat × Nat → Int) (D : Nat → Int) (v : Nat) : ∀ (zs : List (Nat × Nat)) (l : List Int), v < l.length → (∀ x ∈ zs, g x = D x.1) → (lay zs g l).getD v 0 = if v ∈ zs.map Prod.fst then D v else l.getD v 0
  | [], l, _, _ => by simp [lay]
  | x :: zs, l, hv, h => by
    have ih := lay_at g D v zs (l.set x.1 (g x)) (by simpa using hv) (fun y hy => h y (by simp [hy]))
    rw [lay, List.foldl_cons]
    refine ih.trans ?_
    by_cases h1 : v ∈ zs.map Prod.fst
    · rw [if_pos h1, if_pos (by simp only [List.map_cons, List.mem_cons]; exact .inr h1)]
    · rw [if_neg h1]
      by_cases h2 : v = x.1
      · rw [if_pos (by simp [h2]), h2, h x (by simp)]
        simp [List.getD, show x.1 < l.length by omega]
      · rw [if_neg (by simp only [List.map_cons, List.mem_cons]; exact fun e => e.elim h2 h1)]
        have : x.1 ≠ v := fun e => h2 e.symm
        simp [List.getD, List.getElem?_set, this]
theorem eq_of_getD {l l' : List Int} (h : l.length = l'.length) (hv : ∀ v, v < l.length → l.getD v 0 = l'.getD v 0) : l = l' := by
  refine List.ext_getElem h fun i h1 h2 => ?_
  have := hv i h1
  simpa [List.getD, h1, h2] using this
/-- all distances from a point -/
def dists (m : Nat) (R : Nat → List Nat) (a : Nat) : List Int := (List.range m).map (dist m R a)
theorem dists_len (m : Nat) (R : Nat → List Nat) (a : Nat) : (dists m R a).length = m := by simp [dists]
theorem dists_at {m : Nat} (R : Nat → List Nat) (a : Nat) {v : Nat} (hv : v < m) : (dists m R a).getD v 0 = dist m R a v := by simp [dists, List.getD, hv]
theorem lay_out {m : Nat} {R : Nat → List Nat} {a : Nat} (hR : Ok m R) (ha : a < m) : lay (out m R a) (fun x => (x.2 : Int)) (List.replicate m (-1)) = dists m R a := by
  refine eq_of_getD (by rw [lay_len, dists_len]; simp) fun v hv => ?_
  rw [lay_len] at hv
  have hv' : v < m := by simpa using hv
  rw [lay_at _ (dist m R a) v _ _ hv (fun x hx => (dist_some hR ha ((mem_out hR ha x.1 x.2).1 hx)).symm), dists_at R a hv']
  split
  · rfl
  · rename_i h
    rcases dist_cases v hR ha with ⟨k, hd, _⟩ | ⟨_, he⟩
    · exact absurd (List.mem_map.2 ⟨(v, k), (mem_out hR ha v k).2 hd, rfl⟩) h
    · rw [he]; simp [List.getD, hv']

end Go.Proofs.YtojkjdccjomaaaaDoor.Wa

set_option linter.unusedSimpArgs false
set_option linter.unusedVariables false
namespace Go.Proofs.YtojkjdccjomaaaaDoor.Wa

/-- can b be reached from a? -/
def rch (m : Nat) (R : Nat → List Nat) (a b : Nat) : Bool := decide (0 ≤ dist m R a b)
theorem rch_iff {m : Nat} {R : Nat → List Nat} {a b : Nat} (hR : Ok m R) (ha : a < m) : rch m R a b = true ↔ ∃ k, wk m R k a b = true := by
  unfold rch
  rw [decide_eq_true_iff]
  exact dist_nn hR ha
theorem rch_self {m : Nat} {R : Nat → List Nat} {a : Nat} (hR : Ok m R) (ha : a < m) : rch m R a a = true := (rch_iff hR ha).2 ⟨0, wk_zero.2 rfl⟩
theorem rch_trans {m : Nat} {R : Nat → List Nat} {a b c : Nat} (hR : Ok m R) (ha : a < m) (hb : b < m) (h1 : rch m R a b = true) (h2 : rch m R b c = true) : rch m R a c = true := by
  obtain ⟨i, hi⟩ := (rch_iff hR ha).1 h1
  obtain ⟨j, hj⟩ := (rch_iff hR hb).1 h2
  exact (rch_iff hR ha).2 ⟨i + j, wk_add hi hj⟩
theorem rch_sym {m : Nat} {R : Nat → List Nat} {a b : Nat} (hR : Ok m R) (hs : Sym m R) (ha : a < m) (hb : b < m) (h : rch m R a b = true) : rch m R b a = true := by
  obtain ⟨i, hi⟩ := (rch_iff hR ha).1 h
  exact (rch_iff hR hb).2 ⟨i, wk_sym hR hs ha hi⟩
theorem rch_lt {m : Nat} {R : Nat → List Nat} {a b : Nat} (hR : Ok m R) (ha : a < m) (h : rch m R a b = true) : b < m := by
  obtain ⟨i, hi⟩ := (rch_iff hR ha).1 h
  exact wk_lt hR ha hi

/-- the least point below i from which v can be reached, or -1 -/
def lab (m : Nat) (R : Nat → List Nat) (i v : Nat) : Int := match (List.range i).find? fun u => rch m R u v with
  | some u => (u : Int)
  | none => -1
def labs (m : Nat) (R : Nat → List Nat) (i : Nat) : List Int := (List.range m).map (lab m R i)
theorem labs_len (m : Nat) (R : Nat → List Nat) (i : Nat) : (labs m R i).length = m := by simp [labs]
theorem labs_at {m : Nat} (R : Nat → List Nat) (i : Nat) {v : Nat} (hv : v < m) : (labs m R i).getD v 0 = lab m R i v := by simp [labs, List.getD, hv]
theorem labs_zero (m : Nat) (R : Nat → List Nat) : labs m R 0 = List.replicate m (-1) := by
  refine eq_of_getD (by simp [labs]) fun v hv => ?_
  have hv' : v < m := by simpa [labs] using hv
  rw [labs_at R 0 hv']
  simp [lab, List.getD, hv']
theorem lab_succ (m : Nat) (R : Nat → List Nat) (i v : Nat) : lab m R (i + 1) v = if 0 ≤ lab m R i v then lab m R i v else if rch m R i v = true then (i : Int) else -1 := by
  unfold lab
  rw [List.range_succ, List.find?_append]
  cases hf : (List.range i).find? fun u => rch m R u v with
  | some u => simp
  | none =>
    simp only [Option.none_or, List.find?_singleton]
    cases hr : rch m R i v <;> simp
theorem lab_nn {m : Nat} {R : Nat → List Nat} {i v : Nat} : 0 ≤ lab m R i v ↔ ∃ u, u < i ∧ rch m R u v = true := by
  unfold lab
  cases hf : (List.range i).find? fun u => rch m R u v with
  | some u =>
    simp only
    have h1 := List.find?_some hf
    have h2 := List.mem_of_find?_eq_some hf
    exact ⟨fun _ => ⟨u, by simpa using h2, h1⟩, fun _ => by omega⟩
  | none =>
    simp only
    constructor
    · intro h; omega
    · rintro ⟨u, hu, hr⟩
      have := List.find?_eq_none.1 hf u (by simpa using hu)
      exact absurd hr this
theorem lab_none {m : Nat} {R : Nat → List Nat} {i v : Nat} (h : ¬ 0 ≤ lab m R i v) : lab m R i v = -1 := by
  unfold lab at *
  cases hf : (List.range i).find? fun u => rch m R u v with
  | some u => rw [hf] at h; simp at h
  | none => rfl
/-- a point that has its number already gives no number to anyone -/
theorem labs_skip {m : Nat} {R : Nat → List Nat} (hR : Ok m R) {i : Nat} (hi : i < m) (h : 0 ≤ lab m R i i) : labs m R (i + 1) = labs m R i := by
  refine eq_of_getD (by simp [labs]) fun v hv => ?_
  have hv' : v < m := by simpa [labs] using hv
  rw [labs_at R _ hv', labs_at R _ hv', lab_succ]
  split
  · rfl
  · rename_i h2
    obtain ⟨u, hu, hr⟩ := lab_nn.1 h
    rw [if_neg, lab_none h2]
    intro h3
    exact h2 (lab_nn.2 ⟨u, hu, rch_trans hR (by omega) hi hr h3⟩)
/-- a point that has none yet gives its own to all that it reaches -/
theorem labs_take {m : Nat} {R : Nat → List Nat} (hR : Ok m R) (hs : Sym m R) {i : Nat} (hi : i < m) (h : ¬ 0 ≤ lab m R i i) : lay (out m R i) (fun _ => (i : Int)) (labs m R i) = labs m R (i + 1) := by
  refine eq_of_getD (by rw [lay_len]; simp [labs]) fun v hv => ?_
  rw [lay_len, labs_len] at hv
  rw [lay_at _ (fun _ => (i : Int)) v _ _ (by rw [labs_len]; exact hv) (fun _ _ => rfl), labs_at R _ hv, labs_at R _ hv, lab_succ]
  have hmem : v ∈ (out m R i).map Prod.fst ↔ rch m R i v = true := by
    rw [rch_iff hR hi]
    constructor
    · intro hm
      obtain ⟨x, hx, rfl⟩ := List.mem_map.1 hm
      exact ⟨x.2, ((mem_out hR hi x.1 x.2).1 hx).1⟩
    · rintro ⟨k, hk⟩
      obtain ⟨j, _, hd⟩ := Dst.of_wk hk
      exact List.mem_map.2 ⟨(v, j), (mem_out hR hi v j).2 hd, rfl⟩
  by_cases hr : rch m R i v = true
  · rw [if_pos (hmem.2 hr), if_neg, if_pos hr]
    intro h2
    obtain ⟨u, hu, hu2⟩ := lab_nn.1 h2
    exact h (lab_nn.2 ⟨u, hu, rch_trans hR (by omega) hv hu2 (rch_sym hR hs hi hv hr)⟩)
  · rw [if_neg (fun h2 => hr (hmem.1 h2)), if_neg hr]
    split
    · rfl
    · rename_i h2; exact lab_none h2
/-- the least point that hangs together with v -/
theorem lab_spec {m : Nat} {R : Nat → List Nat} (hR : Ok m R) {v : Nat} (hv : v < m) : ∃ u : Nat, lab m R m v = (u : Int) ∧ u ≤ v ∧ rch m R u v = true ∧ ∀ t, t < u → rch m R t v = false := by
  unfold lab
  cases hf : (List.range m).find? fun u => rch m R u v with
  | some u =>
    have h1 := List.find?_some hf
    obtain ⟨_, h2, h3⟩ := List.find?_range_eq_some.1 hf
    refine ⟨u, rfl, ?_, h1, fun t ht => by have := h3 t ht; simpa using this⟩
    rcases Nat.lt_or_ge v u with h4 | h4
    · have := h3 v h4
      rw [rch_self hR hv] at this
      simp at this
    · exact h4
  | none =>
    have := List.find?_eq_none.1 hf v (by simpa using hv)
    rw [rch_self hR hv] at this
    exact absurd rfl this

/-! ### rings -/
/-- without the step from a to b -/
def rest (R : Nat → List Nat) (a b : Nat) : Nat → List Nat := fun u => if u = a then (R a).filter fun v => !decide (v = b) else R u
theorem mem_rest {R : Nat → List Nat} {a b u v : Nat} : v ∈ rest R a b u ↔ v ∈ R u ∧ ¬ (u = a ∧ v = b) := by
  unfold rest
  split
  · rename_i h; subst h; simp
  · rename_i h; simp [h]
theorem rest_ok {m : Nat} {R : Nat → List Nat} (hR : Ok m R) (a b : Nat) : Ok m (rest R a b) := fun u hu v hv => hR u hu v (mem_rest.1 hv).1
/-- the number of points of a shortest ring over the step from a to b, or 0 -/
def rt (m : Nat) (R : Nat → List Nat) (a b : Nat) : Int := dist m (rest R a b) a b + 1
/-- the better of two numbers of points -/
def better (x best : Int) : Int := if 0 < x ∧ (best = 0 ∨ x < best) then x else best
def ringRow (m : Nat) (R : Nat → List Nat) (a : Nat) (best : Int) (l : List Nat) : Int := l.foldl (fun best b => better (rt m R a b) best) best
def ringTo (m : Nat) (R : Nat → List Nat) : Nat → Int
  | 0 => 0
  | a + 1 => ringRow m R a (ringTo m R a) (R a)
/-- the girth -/
def girth (m : Nat) (R : Nat → List Nat) : Int := ringTo m R m
theorem ringRow_take {m : Nat} {R : Nat → List Nat} {a : Nat} {best : Int} {l : List Nat} {k : Nat} (hk : k < l.length) : ringRow m R a best (l.take (k + 1)) = better (rt m R a (l.getD k 0)) (ringRow m R a best (l.take k)) := by
  unfold ringRow
  rw [List.take_succ_eq_append_getElem hk, List.foldl_append]
  simp [List.getD, hk]

/-- what the best is, of some that have been looked at -/
def IsBest (S : Int → Prop) (best : Int) : Prop := (best = 0 ∧ ∀ x, S x → x ≤ 0) ∨ (0 < best ∧ S best ∧ ∀ x, S x → 0 < x → best ≤ x)
theorem IsBest.step {S : Int → Prop} {best x : Int} (h : IsBest S best) : IsBest (fun y => S y ∨ y = x) (better x best) := by
  unfold better
  split
  · rename_i hc
    rcases h with ⟨h0, h1⟩ | ⟨h0, h1, h2⟩
    · refine .inr ⟨hc.1, .inr rfl, fun y hy hp => ?_⟩
      rcases hy with hy | hy
      · have := h1 y hy; omega
      · omega
    · refine .inr ⟨hc.1, .inr rfl, fun y hy hp => ?_⟩
      rcases hy with hy | hy
      · have := h2 y hy hp; omega
      · omega
  · rename_i hc
    rcases h with ⟨h0, h1⟩ | ⟨h0, h1, h2⟩
    · refine .inl ⟨h0, fun y hy => ?_⟩
      rcases hy with hy | hy
      · exact h1 y hy
      · omega
    · refine .inr ⟨h0, .inl h1, fun y hy hp => ?_⟩
      rcases hy with hy | hy
      · exact h2 y hy hp
      · omega
theorem IsBest.congr {S S' : Int → Prop} {best : Int} (h : IsBest S best) (he : ∀ x, S x ↔ S' x) : IsBest S' best := by
  have : S = S' := funext fun x => propext (he x)
  rw [← this]; exact h
theorem ringRow_best {m : Nat} {R : Nat → List Nat} {a : Nat} : ∀ {l : List Nat} {S : Int → Prop} {best : Int}, IsBest S best → IsBest (fun y => S y ∨ ∃ b ∈ l, y = rt m R a b) (ringRow m R a best l)
  | [], S, best, h => h.congr fun x => by simp
  | b :: l, S, best, h => by
    have := ringRow_best (m := m) (R := R) (a := a) (l := l) (h.step (x := rt m R a b))
    exact this.congr fun x => by simp [or_assoc]
theorem ringTo_best (m : Nat) (R : Nat → List Nat) : ∀ a, IsBest (fun y => ∃ u, u < a ∧ ∃ b ∈ R u, y = rt m R u b) (ringTo m R a)
  | 0 => .inl ⟨rfl, fun x ⟨u, hu, _⟩ => by omega⟩
  | a + 1 => by
    refine (ringRow_best (ringTo_best m R a)).congr fun x => ?_
    constructor
    · rintro (⟨u, hu, h⟩ | h)
      · exact ⟨u, by omega, h⟩
      · exact ⟨a, by omega, h⟩
    · rintro ⟨u, hu, h⟩
      by_cases e : u = a
      · subst e; exact .inr h
      · exact .inl ⟨u, by omega, h⟩
/-- the girth is the least of all -/
theorem girth_best (m : Nat) (R : Nat → List Nat) : IsBest (fun y => ∃ u, u < m ∧ ∃ b ∈ R u, y = rt m R u b) (girth m R) := ringTo_best m R m
/-- a ring has at least three points, and at most all -/
theorem rt_cases {m : Nat} {R : Nat → List Nat} (hR : Ok m R) {a b : Nat} (ha : a < m) (hab : a ≠ b) : rt m R a b = 0 ∨ (3 ≤ rt m R a b ∧ rt m R a b ≤ (m : Int)) := by
  unfold rt
  rcases dist_cases b (rest_ok hR a b) ha with ⟨k, hd, he⟩ | ⟨_, he⟩
  · right
    rw [he]
    have h1 := hd.small (rest_ok hR a b) ha
    have h2 : k ≠ 0 := by
      intro e; subst e
      exact hab (wk_zero.1 hd.1)
    have h3 : k ≠ 1 := by
      intro e; subst e
      obtain ⟨c, hc, h4, h5⟩ := wk_succ.1 hd.1
      have := wk_zero.1 h4
      subst this
      exact (mem_rest.1 h5).2 ⟨rfl, rfl⟩
    omega
  · left; rw [he]; omega

end Go.Proofs.YtojkjdccjomaaaaDoor.Wa

set_option linter.unusedSimpArgs false
set_option linter.unusedVariables false
namespace Go.Proofs.YtojkjdccjomaaaaDoor.Wa

theorem dist_zero {m : Nat} {R : Nat → List Nat} (hR : Ok m R) {a v : Nat} (ha : a < m) : dist m R a v = 0 ↔ v = a := by
  rcases dist_cases v hR ha with ⟨k, hd, he⟩ | ⟨hn, he⟩
  · rw [he]
    constructor
    · intro h
      obtain rfl : k = 0 := by omega
      exact (wk_zero.1 hd.1).symm
    · intro h
      subst h
      have : k = 0 := hd.unique ⟨wk_zero.2 rfl, fun j hj => by omega⟩
      omega
  · rw [he]
    constructor
    · intro h; omega
    · intro h
      subst h
      have := hn 0
      rw [wk_zero.2 rfl] at this
      cases this
/-- points beside each other are one apart at most -/
theorem dist_step {m : Nat} {R : Nat → List Nat} (hR : Ok m R) {a i j : Nat} (ha : a < m) (hi : i < m) (hij : j ∈ R i) (h : 0 ≤ dist m R a i) : 0 ≤ dist m R a j ∧ dist m R a j ≤ dist m R a i + 1 := by
  rcases dist_cases i hR ha with ⟨k, hd, he⟩ | ⟨_, he⟩
  · have := dist_le hR ha (wk_succ.2 ⟨i, hi, hd.1, hij⟩)
    rw [he]
    omega
  · omega
/-- each point is one farther than one beside it -/
theorem dist_back {m : Nat} {R : Nat → List Nat} (hR : Ok m R) {a i : Nat} (ha : a < m) (h : 1 ≤ dist m R a i) : ∃ j, j < m ∧ i ∈ R j ∧ dist m R a j = dist m R a i - 1 := by
  rcases dist_cases i hR ha with ⟨k, hd, he⟩ | ⟨_, he⟩
  · obtain ⟨c, hc, hw⟩ := hd.before (j := k - 1) (by omega)
    rw [show k - (k - 1) = 1 by omega] at hw
    obtain ⟨e, he2, h1, h2⟩ := wk_succ.1 hw
    have := wk_zero.1 h1
    subst this
    refine ⟨c, he2, h2, ?_⟩
    rw [dist_some hR ha hc, he]
    omega
  · omega
theorem dist_sym {m : Nat} {R : Nat → List Nat} (hR : Ok m R) (hs : Sym m R) {a b : Nat} (ha : a < m) (hb : b < m) : dist m R a b = dist m R b a := by
  have key : ∀ k, wk m R k a b = wk m R k b a := by
    intro k
    cases h : wk m R k b a with
    | true => exact wk_sym hR hs hb h
    | false =>
      cases h2 : wk m R k a b with
      | false => rfl
      | true => rw [wk_sym hR hs ha h2] at h; cases h
  unfold dist
  simp only [key]
theorem dist_tri {m : Nat} {R : Nat → List Nat} (hR : Ok m R) {a b c : Nat} (ha : a < m) (hb : b < m) (h1 : 0 ≤ dist m R a b) (h2 : 0 ≤ dist m R b c) : 0 ≤ dist m R a c ∧ dist m R a c ≤ dist m R a b + dist m R b c := by
  rcases dist_cases b hR ha with ⟨k, hd, he⟩ | ⟨_, he⟩
  · rcases dist_cases c hR hb with ⟨j, hd2, he2⟩ | ⟨_, he2⟩
    · have := dist_le hR ha (wk_add hd.1 hd2.1)
      rw [he, he2]
      omega
    · omega
  · omega
theorem dist_mono {m : Nat} {R R' : Nat → List Nat} (hR : Ok m R) (hR' : Ok m R') (hsub : ∀ a, a < m → ∀ b ∈ R a, b ∈ R' a) {a b : Nat} (ha : a < m) (h : 0 ≤ dist m R a b) : 0 ≤ dist m R' a b ∧ dist m R' a b ≤ dist m R a b := by
  rcases dist_cases b hR ha with ⟨k, hd, he⟩ | ⟨_, he⟩
  · have := dist_le hR' ha (wk_mono hsub hd.1)
    rw [he]
    omega
  · omega

/-- points have the same number just if they hang together -/
theorem lab_eq {m : Nat} {R : Nat → List Nat} (hR : Ok m R) (hs : Sym m R) {a b : Nat} (ha : a < m) (hb : b < m) : lab m R m a = lab m R m b ↔ rch m R a b = true := by
  obtain ⟨u, hu, hua, hru, hmu⟩ := lab_spec hR ha
  obtain ⟨v, hv, hvb, hrv, hmv⟩ := lab_spec hR hb
  rw [hu, hv]
  constructor
  · intro h
    obtain rfl : u = v := by omega
    exact rch_trans hR ha (by omega) (rch_sym hR hs (by omega) ha hru) hrv
  · intro h
    rcases Nat.lt_trichotomy u v with hl | he | hl
    · have := hmv u hl
      rw [rch_trans hR (by omega) ha hru h] at this
      cases this
    · rw [he]
    · have := hmu v hl
      rw [rch_trans hR (by omega) hb hrv (rch_sym hR hs ha hb h)] at this
      cases this
theorem lab_range {m : Nat} {R : Nat → List Nat} (hR : Ok m R) {a : Nat} (ha : a < m) : 0 ≤ lab m R m a ∧ lab m R m a ≤ (a : Int) := by
  obtain ⟨u, hu, hua, _⟩ := lab_spec hR ha
  rw [hu]
  omega

/-- a line more between points that hang together, and are not beside each other, closes a ring -/
theorem girth_pos {m : Nat} {R R' : Nat → List Nat} (hR : Ok m R) (hR' : Ok m R') (hsub : ∀ a, a < m → ∀ b ∈ R a, b ∈ R' a) {a b : Nat} (ha : a < m) (hb : b ∈ R' a) (hnb : ¬ b ∈ R a) (h : rch m R a b = true) : 0 < girth m R' := by
  obtain ⟨k, hk⟩ := (rch_iff hR ha).1 h
  have h2 : wk m (rest R' a b) k a b = true := wk_mono (fun u hu v hv => mem_rest.2 ⟨hsub u hu v hv, fun e => hnb (by rw [← e.2, ← e.1]; exact hv)⟩) hk
  have h3 := dist_le (rest_ok hR' a b) ha h2
  have h4 : 0 < rt m R' a b := by unfold rt; omega
  rcases girth_best m R' with ⟨_, h0⟩ | ⟨h0, _, _⟩
  · have := h0 _ ⟨a, ha, b, hb, rfl⟩
    omega
  · exact h0

end Go.Proofs.YtojkjdccjomaaaaDoor.Wa

set_option linter.unusedSimpArgs false
set_option linter.unusedVariables false
namespace Go.Proofs.YtojkjdccjomaaaaDoor.Wf
open Go.Proofs.YtojkjdccjomaaaaDoor

/-- over a third point, or as it was -/
def rl (x y z : Int) : Int := if 0 ≤ x ∧ 0 ≤ y ∧ (z < 0 ∨ x + y < z) then x + y else z
/-- how far, over points below k alone -/
def dk (D : Nat → Nat → Int) : Nat → Nat → Nat → Int
  | 0, i, j => D i j
  | k + 1, i, j => rl (dk D k i k) (dk D k k j) (dk D k i j)

/-- what it starts with -/
structure Base (D : Nat → Nat → Int) : Prop where
  diag : ∀ i, D i i = 0
  low : ∀ i j, -1 ≤ D i j
  high : ∀ i j, D i j ≤ 1

theorem dk_low {D : Nat → Nat → Int} (h : Base D) : ∀ k i j, -1 ≤ dk D k i j
  | 0, i, j => h.low i j
  | k + 1, i, j => by
    have h1 := dk_low h k i j
    unfold dk rl
    split <;> omega
theorem dk_high {D : Nat → Nat → Int} (h : Base D) : ∀ k i j, dk D k i j ≤ ((2 ^ k : Nat) : Int)
  | 0, i, j => h.high i j
  | k + 1, i, j => by
    have h1 := dk_high h k i j
    have h2 := dk_high h k i k
    have h3 := dk_high h k k j
    have h4 : (2 ^ (k + 1) : Nat) = 2 ^ k + 2 ^ k := by rw [Nat.pow_succ]; omega
    rw [h4]
    generalize 2 ^ k = p at *
    unfold dk rl
    split <;> omega
theorem dk_diag {D : Nat → Nat → Int} (h : Base D) : ∀ k i, dk D k i i = 0
  | 0, i => h.diag i
  | k + 1, i => by
    have h1 := dk_diag h k i
    unfold dk rl
    split <;> omega
theorem dk_col {D : Nat → Nat → Int} (h : Base D) (k i : Nat) : dk D (k + 1) i k = dk D k i k := by
  have h1 := dk_diag h k k
  show rl _ _ _ = _
  unfold rl
  split <;> omega
theorem dk_row {D : Nat → Nat → Int} (h : Base D) (k j : Nat) : dk D (k + 1) k j = dk D k k j := by
  have h1 := dk_diag h k k
  show rl _ _ _ = _
  unfold rl
  split <;> omega
theorem dk_le (D : Nat → Nat → Int) (k i j : Nat) (h : 0 ≤ dk D k i j) : 0 ≤ dk D (k + 1) i j ∧ dk D (k + 1) i j ≤ dk D k i j := by
  show 0 ≤ rl _ _ _ ∧ rl _ _ _ ≤ _
  unfold rl
  split <;> omega
theorem dk_start (D : Nat → Nat → Int) (i j : Nat) (h : 0 ≤ D i j) : ∀ k, 0 ≤ dk D k i j ∧ dk D k i j ≤ D i j
  | 0 => ⟨h, Int.le_refl _⟩
  | k + 1 => by
    have h1 := dk_start D i j h k
    have h2 := dk_le D k i j h1.1
    omega
theorem dk_tri {D : Nat → Nat → Int} (h : Base D) : ∀ k c, c < k → ∀ i j, 0 ≤ dk D k i c → 0 ≤ dk D k c j → 0 ≤ dk D k i j ∧ dk D k i j ≤ dk D k i c + dk D k c j
  | 0, c, hc, _, _, _, _ => by omega
  | k + 1, c, hc, i, j, h1, h2 => by
    by_cases hk : c = k
    · subst hk
      rw [dk_col h] at h1 ⊢
      rw [dk_row h] at h2 ⊢
      show 0 ≤ rl _ _ _ ∧ rl _ _ _ ≤ _
      unfold rl
      split <;> omega
    · have hck : c < k := by omega
      have t1 := dk_tri h k c hck i j
      have t2 := dk_tri h k c hck k j
      have t3 := dk_tri h k c hck i k
      have l1 := dk_low h k i j
      have l2 := dk_low h k i k
      have l3 := dk_low h k k j
      have l4 := dk_low h k k c
      have l5 := dk_low h k c k
      revert h1 h2
      show 0 ≤ rl _ _ _ → 0 ≤ rl _ _ _ → 0 ≤ rl _ _ _ ∧ rl _ _ _ ≤ rl _ _ _ + rl _ _ _
      generalize dk D k i j = ij at *
      generalize dk D k i k = ik at *
      generalize dk D k k j = kj at *
      generalize dk D k i c = ic at *
      generalize dk D k c j = cj at *
      generalize dk D k k c = kc at *
      generalize dk D k c k = ck at *
      unfold rl
      split <;> split <;> split <;> omega

/-- one step from i to j -/
def Steps (m : Nat) (R : Nat → List Nat) (D : Nat → Nat → Int) : Prop := ∀ i j, i < m → j < m → D i j = if i = j then 0 else if (R i).contains j = true then 1 else -1

theorem dk_sound {m : Nat} {R : Nat → List Nat} {D : Nat → Nat → Int} (hS : Steps m R D) : ∀ k, k ≤ m → ∀ i j, i < m → j < m → 0 ≤ dk D k i j → Wa.wk m R (dk D k i j).toNat i j = true
  | 0, _, i, j, hi, hj, h => by
    have e := hS i j hi hj
    show Wa.wk m R (D i j).toNat i j = true
    have h' : 0 ≤ D i j := h
    rw [e] at h' ⊢
    split
    · rename_i he; subst he; exact Wa.wk_zero.2 rfl
    · rename_i he
      rw [if_neg he] at h'
      split
      · rename_i hc; exact Wa.wk_one hi (by simpa using hc)
      · rename_i hc; rw [if_neg hc] at h'; omega
  | k + 1, hk, i, j, hi, hj, h => by
    revert h
    show 0 ≤ rl _ _ _ → Wa.wk m R (rl _ _ _).toNat i j = true
    unfold rl
    split
    · rename_i hc
      intro _
      have h1 := dk_sound hS k (by omega) i k hi (by omega) hc.1
      have h2 := dk_sound hS k (by omega) k j (by omega) hj hc.2.1
      have := Wa.wk_add h1 h2
      rwa [← Int.toNat_add hc.1 hc.2.1] at this
    · intro h
      exact dk_sound hS k (by omega) i j hi hj h
theorem dk_full {m : Nat} {R : Nat → List Nat} {D : Nat → Nat → Int} (hB : Base D) (hR : Wa.Ok m R) (hS : Steps m R D) {i : Nat} (hi : i < m) : ∀ L j, Wa.wk m R L i j = true → 0 ≤ dk D m i j ∧ dk D m i j ≤ (L : Int)
  | 0, j, h => by
    have := Wa.wk_zero.1 h
    subst this
    rw [dk_diag hB]
    omega
  | L + 1, j, h => by
    obtain ⟨c, hc, h1, h2⟩ := Wa.wk_succ.1 h
    have ih := dk_full hB hR hS hi L c h1
    have hj := hR c hc j h2
    have e := hS c j hc hj
    have hn : 0 ≤ D c j ∧ D c j ≤ 1 := by
      rw [e]
      split
      · omega
      · rw [if_pos (by simpa using h2)]; omega
    have h3 := dk_start D c j hn.1 m
    have := dk_tri hB m c hc i j ih.1 h3.1
    omega
/-- how far by all three points is how far -/
theorem far_dist {m : Nat} {R : Nat → List Nat} {D : Nat → Nat → Int} (hB : Base D) (hR : Wa.Ok m R) (hS : Steps m R D) {i j : Nat} (hi : i < m) (hj : j < m) : dk D m i j = Wa.dist m R i j := by
  have hl := dk_low hB m i j
  rcases Wa.dist_cases j hR hi with ⟨k, hd, he⟩ | ⟨hn, he⟩
  · rw [he]
    have h1 := dk_full hB hR hS hi k j hd.1
    have h2 := dk_sound hS m (Nat.le_refl _) i j hi hj h1.1
    rcases Nat.lt_or_ge (dk D m i j).toNat k with h3 | h3
    · have := hd.2 _ h3
      rw [h2] at this
      cases this
    · omega
  · rw [he]
    by_cases h0 : 0 ≤ dk D m i j
    · have h2 := dk_sound hS m (Nat.le_refl _) i j hi hj h0
      rw [hn] at h2
      cases h2
    · omega

/-! ### rings by all ways -/
/-- may one go on by f points more, none twice, and come back? -/
def rg (m : Nat) (R : Nat → List Nat) : Nat → List Nat → Bool
  | 0, way => (R (way.getLastD 0)).contains (way.headD 0)
  | f + 1, way => (List.range m).any fun b => (R (way.getLastD 0)).contains b && (!way.contains b && rg m R f (way ++ [b]))
/-- is there a ring of so many points? -/
def ringOf (m : Nat) (R : Nat → List Nat) (many : Nat) : Bool := (List.range m).any fun a => rg m R (many - 1) [a]

theorem rg_succ {m : Nat} {R : Nat → List Nat} {f : Nat} {way : List Nat} : rg m R (f + 1) way = true ↔ ∃ b, b < m ∧ b ∈ R (way.getLastD 0) ∧ b ∉ way ∧ rg m R f (way ++ [b]) = true := by
  simp [rg]
theorem last_app (way : List Nat) (b : Nat) : (way ++ [b]).getLastD 0 = b := by simp
theorem head_app {way : List Nat} (h : way ≠ []) (b : Nat) : (way ++ [b]).headD 0 = way.headD 0 := by
  cases way with
  | nil => exact absurd rfl h
  | cons x xs => rfl

theorem rg_way {m : Nat} {R : Nat → List Nat} {a s : Nat} : ∀ (f : Nat) (way : List Nat) (L p : Nat), way ≠ [] → way.headD 0 = a → a ∈ way → s ∈ way → way.getLastD 0 = p → p < m → p ≠ a →
    (∀ x, x ≠ s → Wa.wk m (Wa.rest R a x) L a p = true) → rg m R (f + 1) way = true → ∃ b, b < m ∧ Wa.wk m (Wa.rest R a b) (L + f + 1) a b = true ∧ a ∈ R b
  | f, way, L, p, hne, hh, ha, hs, hl, hp, hpa, hw, h => by
    obtain ⟨b, hb, hbR, hbw, h2⟩ := rg_succ.1 h
    rw [hl] at hbR
    have hstep : ∀ x, x ≠ s → Wa.wk m (Wa.rest R a x) (L + 1) a b = true := fun x hx => Wa.wk_succ.2 ⟨p, hp, hw x hx, Wa.mem_rest.2 ⟨hbR, fun e => hpa e.1⟩⟩
    have hba : b ≠ a := fun e => hbw (e ▸ ha)
    have hbs : b ≠ s := fun e => hbw (e ▸ hs)
    cases f with
    | zero =>
      unfold rg at h2
      rw [last_app, head_app hne, hh] at h2
      exact ⟨b, hb, hstep b hbs, by simpa using h2⟩
    | succ f =>
      obtain ⟨c, hc, h3, h4⟩ := rg_way (a := a) (s := s) f (way ++ [b]) (L + 1) b (by simp) (by rw [head_app hne, hh]) (by simp [ha]) (by simp [hs]) (last_app _ _) hb hba hstep h2
      exact ⟨c, hc, by rw [show L + (f + 1) + 1 = L + 1 + f + 1 by omega]; exact h3, h4⟩
/-- a ring of so many points: the girth is no more -/
theorem ringOf_girth {m : Nat} {R : Nat → List Nat} (hR : Wa.Ok m R) (hs : Wa.Sym m R) {q : Nat} (hq : 3 ≤ q) (h : ringOf m R q = true) : 0 < Wa.girth m R ∧ Wa.girth m R ≤ (q : Int) := by
  obtain ⟨f, rfl⟩ : ∃ f, q = f + 3 := ⟨q - 3, by omega⟩
  have h' : ∃ a, a < m ∧ rg m R (f + 1 + 1) [a] = true := by simpa [ringOf] using h
  obtain ⟨a, ha, h1⟩ := h'
  obtain ⟨s, hs1, hsR, hsa, h2⟩ := rg_succ.1 h1
  have hsR' : s ∈ R a := by simpa using hsR
  have hsa' : s ≠ a := by simpa using hsa
  obtain ⟨b, hb, h3, h4⟩ := rg_way (a := a) (s := s) f ([a] ++ [s]) 1 s (by simp) rfl (by simp) (by simp) (last_app _ _) hs1 hsa'
    (fun x hx => Wa.wk_succ.2 ⟨a, ha, Wa.wk_zero.2 rfl, Wa.mem_rest.2 ⟨hsR', fun e => hx e.2.symm⟩⟩) h2
  have h5 := Wa.dist_le (Wa.rest_ok hR a b) ha h3
  have h6 : Wa.rt m R a b ≤ ((f + 3 : Nat) : Int) ∧ 0 < Wa.rt m R a b := by unfold Wa.rt; omega
  have hmem : b ∈ R a := hs b a hb ha h4
  rcases Wa.girth_best m R with ⟨_, h0⟩ | ⟨h0, _, h8⟩
  · have := h0 _ ⟨a, ha, b, hmem, rfl⟩
    omega
  · exact ⟨h0, Int.le_trans (h8 _ ⟨a, ha, b, hmem, rfl⟩ h6.2) h6.1⟩

theorem rg_of {m : Nat} {R : Nat → List Nat} (hR : Wa.Ok m R) {u b k : Nat} (hd : Wa.Dst m (Wa.rest R u b) u b k) (hub : u ∈ R b) : ∀ (f : Nat) (way : List Nat) (L p : Nat), L + f = k → way ≠ [] → way.headD 0 = u → way.getLastD 0 = p → p < m →
    (∀ v ∈ way, ∃ j, j ≤ L ∧ Wa.wk m (Wa.rest R u b) j u v = true) → Wa.wk m (Wa.rest R u b) f p b = true → rg m R f way = true
  | 0, way, L, p, hk, hne, hh, hl, hp, hw, h => by
    unfold rg
    rw [hl, hh, Wa.wk_zero.1 h]
    simpa using hub
  | f + 1, way, L, p, hk, hne, hh, hl, hp, hw, h => by
    obtain ⟨c, h1, h2⟩ := Wa.wk_split (i := 1) (j := f) (by rw [Nat.add_comm]; exact h)
    obtain ⟨e, he, h3, h4⟩ := Wa.wk_succ.1 h1
    have := Wa.wk_zero.1 h3
    subst this
    have hc := (Wa.mem_rest.1 h4).1
    have hcm := hR p hp c hc
    have hne2 : c ∉ way := by
      intro hcw
      obtain ⟨j, hj, h5⟩ := hw c hcw
      have := hd.2 (j + f) (by omega)
      rw [Wa.wk_add h5 h2] at this
      cases this
    have hlast : ∃ j, j ≤ L ∧ Wa.wk m (Wa.rest R u b) j u p = true := hw p (by
      rw [← hl]
      cases way with
      | nil => exact absurd rfl hne
      | cons x xs =>
        have : (x :: xs).getLastD 0 = (x :: xs).getLast (by simp) := by rw [List.getLastD_cons, List.getLast_eq_getLastD]
        rw [this]
        exact List.getLast_mem _)
    obtain ⟨j, hj, h6⟩ := hlast
    have h7 := rg_of hR hd hub f (way ++ [c]) (L + 1) c (by omega) (by simp) (by rw [head_app hne, hh]) (last_app _ _) hcm (by
      intro v hv
      rcases List.mem_append.1 hv with hv | hv
      · obtain ⟨i, hi, h8⟩ := hw v hv
        exact ⟨i, by omega, h8⟩
      · obtain rfl : v = c := by simpa using hv
        exact ⟨j + 1, by omega, Wa.wk_add h6 h1⟩) h2
    exact rg_succ.2 ⟨c, hcm, by rw [hl]; exact hc, hne2, h7⟩
/-- there is a ring of as many points as the girth says -/
theorem girth_ringOf {m : Nat} {R : Nat → List Nat} (hR : Wa.Ok m R) (hs : Wa.Sym m R) (hi : ∀ a, a < m → a ∉ R a) (h : 0 < Wa.girth m R) : ringOf m R (Wa.girth m R).toNat = true ∧ 3 ≤ Wa.girth m R ∧ Wa.girth m R ≤ (m : Int) := by
  rcases Wa.girth_best m R with ⟨h0, _⟩ | ⟨_, ⟨u, hu, b, hb, he⟩, _⟩
  · omega
  · have hub : u ≠ b := fun e => hi u hu (by rw [← e] at hb; exact hb)
    have hbm := hR u hu b hb
    rcases Wa.rt_cases hR hu hub with h1 | ⟨h1, h2⟩
    · omega
    · rw [he]
      refine ⟨?_, h1, h2⟩
      rcases Wa.dist_cases b (Wa.rest_ok hR u b) hu with ⟨k, hd, he2⟩ | ⟨_, he2⟩
      · have hk : (Wa.rt m R u b).toNat - 1 = k := by unfold Wa.rt; omega
        have := rg_of hR hd (hs u b hu hbm hb) k [u] 0 u (by omega) (by simp) rfl rfl hu (by
          intro v hv
          obtain rfl : v = u := by simpa using hv
          exact ⟨0, Nat.le_refl _, Wa.wk_zero.2 rfl⟩) hd.1
        unfold ringOf
        rw [hk]
        simp only [List.any_eq_true, List.mem_range]
        exact ⟨u, hu, this⟩
      · unfold Wa.rt at h1; omega
/-- the first ring, by number -/
theorem girth_first {m : Nat} {R : Nat → List Nat} (hR : Wa.Ok m R) (hs : Wa.Sym m R) (hi : ∀ a, a < m → a ∉ R a) {q : Nat} (hq : 3 ≤ q) (hn : ∀ t, 3 ≤ t → t < q → ringOf m R t = false) (h : ringOf m R q = true) : Wa.girth m R = (q : Int) := by
  obtain ⟨h1, h2⟩ := ringOf_girth hR hs hq h
  obtain ⟨h3, h4, h5⟩ := girth_ringOf hR hs hi h1
  rcases Nat.lt_or_ge (Wa.girth m R).toNat q with h6 | h6
  · rw [hn _ (by omega) h6] at h3
    cases h3
  · omega
theorem girth_none {m : Nat} {R : Nat → List Nat} (hR : Wa.Ok m R) (hs : Wa.Sym m R) (hi : ∀ a, a < m → a ∉ R a) (hn : ∀ t, 3 ≤ t → t ≤ m → ringOf m R t = false) : Wa.girth m R = 0 := by
  rcases Wa.girth_best m R with ⟨h0, _⟩ | ⟨h0, _, _⟩
  · exact h0
  · obtain ⟨h3, h4, h5⟩ := girth_ringOf hR hs hi h0
    rw [hn _ (by omega) (by omega)] at h3
    cases h3

end Go.Proofs.YtojkjdccjomaaaaDoor.Wf

namespace Go.Proofs.YtojkjdccjomaaaaDoor.Wa

/-- the points beside a point -/
def nrow (m : Nat) (ls : List Gr.Ln) (a : Nat) : List Nat := (List.range m).filter fun b => Gr.adj ls (a : Int) (b : Int)
theorem mem_nrow {m : Nat} {ls : List Gr.Ln} {a b : Nat} : b ∈ nrow m ls a ↔ b < m ∧ Gr.adj ls (a : Int) (b : Int) = true := by simp [nrow]
theorem nrow_ok (m : Nat) (ls : List Gr.Ln) : Ok m (nrow m ls) := fun _ _ _ hb => (mem_nrow.1 hb).1
theorem nrow_sym (m : Nat) (ls : List Gr.Ln) : Sym m (nrow m ls) := fun a b ha _ h => mem_nrow.2 ⟨ha, by rw [Gr.adj_comm]; exact (mem_nrow.1 h).2⟩
theorem nrow_len (m : Nat) (ls : List Gr.Ln) (a : Nat) : (nrow m ls a).length ≤ m := by
  have := List.length_filter_le (fun b => Gr.adj ls (a : Int) ((b : Nat) : Int)) (List.range m)
  simpa [nrow] using this

end Go.Proofs.YtojkjdccjomaaaaDoor.Wa
