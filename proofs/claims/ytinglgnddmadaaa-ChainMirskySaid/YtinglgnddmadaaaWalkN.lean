/-
  Plain facts on going from point to point, with no program in them: ways of so many steps, the search by levels, distances. No statement of the program is proved here; there is no condition.
-/
import Derived.WalkKit
set_option linter.unusedSimpArgs false
set_option linter.unusedVariables false
namespace Go.Proofs.Ytinglgnddmadaaa.Wa

/-- the points beside each point lie among the points -/
def Ok (m : Nat) (R : Nat → List Nat) : Prop := ∀ a, a < m → ∀ b ∈ R a, b < m

/-- may one go from a to b in k steps? -/
def wk (m : Nat) (R : Nat → List Nat) : Nat → Nat → Nat → Bool
  | 0, a, b => a == b
  | k + 1, a, b => (List.range m).any fun c => wk m R k a c && (R c).contains b

theorem wk_zero {m : Nat} {R : Nat → List Nat} {a b : Nat} : wk m R 0 a b = true ↔ a = b := by simp [wk]
theorem wk_succ {m : Nat} {R : Nat → List Nat} {k a b : Nat} : wk m R (k + 1) a b = true ↔ ∃ c, c < m ∧ wk m R k a c = true ∧ b ∈ R c := by
  simp [wk]
theorem wk_lt {m : Nat} {R : Nat → List Nat} (hR : Ok m R) {k a b : Nat} (ha : a < m) (h : wk m R k a b = true) : b < m := by
  cases k with
  | zero => rw [wk_zero] at h; omega
  | succ k =>
    obtain ⟨c, hc, _, hb⟩ := wk_succ.1 h
    exact hR c hc b hb
theorem wk_add {m : Nat} {R : Nat → List Nat} {i j a b c : Nat} (h1 : wk m R i a c = true) (h2 : wk m R j c b = true) : wk m R (i + j) a b = true := by
  induction j generalizing b with
  | zero => rw [wk_zero] at h2; subst h2; exact h1
  | succ j ih =>
    obtain ⟨d, hd, h3, h4⟩ := wk_succ.1 h2
    exact wk_succ.2 ⟨d, hd, ih h3, h4⟩
theorem wk_split {m : Nat} {R : Nat → List Nat} {i j a b : Nat} (h : wk m R (i + j) a b = true) : ∃ c, wk m R i a c = true ∧ wk m R j c b = true := by
  induction j generalizing b with
  | zero => exact ⟨b, h, wk_zero.2 rfl⟩
  | succ j ih =>
    obtain ⟨d, hd, h3, h4⟩ := wk_succ.1 h
    obtain ⟨c, h5, h6⟩ := ih h3
    exact ⟨c, h5, wk_succ.2 ⟨d, hd, h6, h4⟩⟩
theorem wk_mono {m : Nat} {R R' : Nat → List Nat} (h : ∀ a, a < m → ∀ b ∈ R a, b ∈ R' a) {k a b : Nat} (hw : wk m R k a b = true) : wk m R' k a b = true := by
  induction k generalizing b with
  | zero => exact hw
  | succ k ih =>
    obtain ⟨c, hc, h1, h2⟩ := wk_succ.1 hw
    exact wk_succ.2 ⟨c, hc, ih h1, h c hc b h2⟩
theorem wk_one {m : Nat} {R : Nat → List Nat} {a b : Nat} (ha : a < m) (hb : b ∈ R a) : wk m R 1 a b = true := wk_succ.2 ⟨a, ha, wk_zero.2 rfl, hb⟩
/-- beside goes both ways -/
def Sym (m : Nat) (R : Nat → List Nat) : Prop := ∀ a b, a < m → b < m → b ∈ R a → a ∈ R b
theorem wk_sym {m : Nat} {R : Nat → List Nat} (hR : Ok m R) (hs : Sym m R) {k a b : Nat} (ha : a < m) (h : wk m R k a b = true) : wk m R k b a = true := by
  induction k generalizing b with
  | zero => rw [wk_zero] at *; exact h.symm
  | succ k ih =>
    obtain ⟨c, hc, h1, h2⟩ := wk_succ.1 h
    have hb := hR c hc b h2
    have := wk_add (wk_one hb (hs c b hc hb h2)) (ih h1)
    rwa [Nat.add_comm] at this

/-- k is the fewest steps from a to b -/
def Dst (m : Nat) (R : Nat → List Nat) (a b k : Nat) : Prop := wk m R k a b = true ∧ ∀ j, j < k → wk m R j a b = false

theorem Dst.unique {m : Nat} {R : Nat → List Nat} {a b k j : Nat} (h : Dst m R a b k) (h' : Dst m R a b j) : k = j := by
  rcases Nat.lt_trichotomy k j with hl | he | hl
  · have := h'.2 k hl; rw [h.1] at this; cases this
  · exact he
  · have := h.2 j hl; rw [h'.1] at this; cases this
theorem Dst.of_wk {m : Nat} {R : Nat → List Nat} {a b : Nat} : ∀ {k : Nat}, wk m R k a b = true → ∃ j, j ≤ k ∧ Dst m R a b j := by
  intro k
  induction k using Nat.strongRecOn with
  | _ k ih =>
    intro h
    by_cases hx : ∃ j, j < k ∧ wk m R j a b = true
    · obtain ⟨j, hj, h2⟩ := hx
      obtain ⟨i, hi, hd⟩ := ih j hj h2
      exact ⟨i, by omega, hd⟩
    · refine ⟨k, Nat.le_refl _, h, fun j hj => ?_⟩
      cases hw : wk m R j a b with
      | false => rfl
      | true => exact absurd ⟨j, hj, hw⟩ hx
/-- on the way, each number of steps is the fewest to some point -/
theorem Dst.before {m : Nat} {R : Nat → List Nat} {a b k j : Nat} (h : Dst m R a b k) (hj : j ≤ k) : ∃ c, Dst m R a c j ∧ wk m R (k - j) c b = true := by
  obtain ⟨c, h1, h2⟩ := wk_split (i := j) (j := k - j) (by rw [Nat.add_sub_cancel' hj]; exact h.1)
  refine ⟨c, ⟨h1, fun i hi => ?_⟩, h2⟩
  cases hw : wk m R i a c with
  | false => rfl
  | true =>
    have := h.2 (i + (k - j)) (by omega)
    rw [wk_add hw h2] at this
    cases this

/-! ### the search, level by level -/
def vis1 (st : List Bool × List Nat) (w : Nat) : List Bool × List Nat := if st.1.getD w false then st else (st.1.set w true, st.2 ++ [w])
def visRow (st : List Bool × List Nat) (row : List Nat) : List Bool × List Nat := row.foldl vis1 st
def visLev (R : Nat → List Nat) (st : List Bool × List Nat) (lev : List Nat) : List Bool × List Nat := lev.foldl (fun st v => visRow st (R v)) st

def bfs (R : Nat → List Nat) : Nat → Nat → List Bool → List Nat → List (Nat × Nat)
  | 0, _, _, _ => []
  | f + 1, d, seen, lev => if lev = [] then [] else lev.map (fun v => (v, d)) ++ bfs R f (d + 1) (visLev R (seen, []) lev).1 (visLev R (seen, []) lev).2
/-- the points that can be reached, each with its distance -/
def out (m : Nat) (R : Nat → List Nat) (a : Nat) : List (Nat × Nat) := bfs R (m + 1) 0 ((List.replicate m false).set a true) [a]

theorem bfs_nil (R : Nat → List Nat) (f d : Nat) (seen : List Bool) : bfs R f d seen [] = [] := by cases f <;> simp [bfs]

theorem getD_set (l : List Bool) (w v : Nat) (hw : w < l.length) : (l.set w true).getD v false = (decide (v = w) || l.getD v false) := by
  by_cases h : v = w
  · subst h; simp [List.getD, hw]
  · have : w ≠ v := fun e => h e.symm
    simp [List.getD, List.getElem?_set, this, h]
theorem vis1_hit {st : List Bool × List Nat} {w : Nat} (h : st.1.getD w false = true) : vis1 st w = st := by unfold vis1; rw [if_pos h]
theorem vis1_miss {st : List Bool × List Nat} {w : Nat} (h : st.1.getD w false = false) : vis1 st w = (st.1.set w true, st.2 ++ [w]) := by unfold vis1; rw [if_neg (by rw [h]; simp)]
theorem visRow_take {st : List Bool × List Nat} {row : List Nat} {k : Nat} (hk : k < row.length) : visRow st (row.take (k + 1)) = vis1 (visRow st (row.take k)) (row.getD k 0) := by
  unfold visRow
  rw [List.take_succ_eq_append_getElem hk, List.foldl_append]
  simp [List.getD, hk]
theorem visLev_take {R : Nat → List Nat} {st : List Bool × List Nat} {lev : List Nat} {k : Nat} (hk : k < lev.length) : visLev R st (lev.take (k + 1)) = visRow (visLev R st (lev.take k)) (R (lev.getD k 0)) := by
  unfold visLev
  rw [List.take_succ_eq_append_getElem hk, List.foldl_append]
  simp [List.getD, hk]

/-- what a visit of some points makes of the state: B are the points that have been looked at -/
structure St (m : Nat) (seen : List Bool) (B : Nat → Prop) (st : List Bool × List Nat) : Prop where
  len : st.1.length = m
  cnt : st.1.count true = seen.count true + st.2.length
  see : ∀ v, v < m → (st.1.getD v false = true ↔ seen.getD v false = true ∨ B v)
  nxt : ∀ v, v ∈ st.2 ↔ v < m ∧ seen.getD v false = false ∧ B v

theorem count_set : ∀ {l : List Bool} {w : Nat}, w < l.length → l.getD w false = false → (l.set w true).count true = l.count true + 1
  | [], w, h, _ => by simp at h
  | x :: l, 0, _, h => by
    simp at h
    subst h
    simp
  | x :: l, w + 1, hl, h => by
    have := count_set (l := l) (w := w) (by simpa using hl) (by simpa using h)
    simp only [List.set_cons_succ, List.count_cons, this]
    omega

theorem St.start {m : Nat} {seen : List Bool} (h : seen.length = m) : St m seen (fun _ => False) (seen, []) :=
  ⟨h, by simp, fun v _ => by simp, fun v => by simp⟩
theorem St.vis {m : Nat} {seen : List Bool} {B : Nat → Prop} {st : List Bool × List Nat} (h : St m seen B st) {w : Nat} (hw : w < m) : St m seen (fun v => B v ∨ v = w) (vis1 st w) := by
  cases hs : st.1.getD w false with
  | true =>
    rw [vis1_hit hs]
    have hw' := (h.see w hw).1 hs
    refine ⟨h.len, h.cnt, fun v hv => ?_, fun v => ?_⟩
    · rw [h.see v hv]
      constructor
      · rintro (h1 | h1)
        · exact .inl h1
        · exact .inr (.inl h1)
      · rintro (h1 | h1 | h1)
        · exact .inl h1
        · exact .inr h1
        · subst h1; exact hw'
    · rw [h.nxt v]
      constructor
      · rintro ⟨h1, h2, h3⟩; exact ⟨h1, h2, .inl h3⟩
      · rintro ⟨h1, h2, h3 | h3⟩
        · exact ⟨h1, h2, h3⟩
        · subst h3
          rcases hw' with h4 | h4
          · rw [h2] at h4; cases h4
          · exact ⟨h1, h2, h4⟩
  | false =>
    rw [vis1_miss hs]
    have hn : (seen.getD w false = true ∨ B w) → False := fun hx => by
      have := (h.see w hw).2 hx
      rw [hs] at this
      cases this
    refine ⟨by simp [h.len], ?_, fun v hv => ?_, fun v => ?_⟩
    · rw [count_set (by rw [h.len]; exact hw) hs, h.cnt]
      simp
      omega
    · rw [getD_set _ _ _ (by rw [h.len]; exact hw)]
      simp only [Bool.or_eq_true, decide_eq_true_eq, h.see v hv]
      constructor
      · rintro (h1 | h1 | h1)
        · exact .inr (.inr h1)
        · exact .inl h1
        · exact .inr (.inl h1)
      · rintro (h1 | h1 | h1)
        · exact .inr (.inl h1)
        · exact .inr (.inr h1)
        · exact .inl h1
    · rw [List.mem_append, h.nxt v, List.mem_singleton]
      constructor
      · rintro (⟨h1, h2, h3⟩ | h1)
        · exact ⟨h1, h2, .inl h3⟩
        · subst h1
          refine ⟨hw, ?_, .inr rfl⟩
          cases hx : seen.getD v false with
          | false => rfl
          | true => exact (hn (.inl hx)).elim
      · rintro ⟨h1, h2, h3 | h3⟩
        · exact .inl ⟨h1, h2, h3⟩
        · exact .inr h3
theorem St.congr {m : Nat} {seen : List Bool} {B B' : Nat → Prop} {st : List Bool × List Nat} (h : St m seen B st) (he : ∀ v, B v ↔ B' v) : St m seen B' st := by
  have : B = B' := funext fun v => propext (he v)
  rw [← this]; exact h
theorem St.row {m : Nat} {seen : List Bool} : ∀ {row : List Nat} {B : Nat → Prop} {st : List Bool × List Nat}, St m seen B st → (∀ v ∈ row, v < m) → St m seen (fun v => B v ∨ v ∈ row) (visRow st row)
  | [], B, st, h, _ => h.congr fun v => by simp
  | w :: row, B, st, h, hr => by
    have h1 := h.vis (hr w (by simp))
    have h2 := St.row (row := row) h1 (fun v hv => hr v (by simp [hv]))
    exact h2.congr fun v => by simp [or_assoc]
theorem St.lev {m : Nat} {R : Nat → List Nat} (hR : Ok m R) {seen : List Bool} : ∀ {lev : List Nat} {B : Nat → Prop} {st : List Bool × List Nat}, St m seen B st → (∀ v ∈ lev, v < m) → St m seen (fun v => B v ∨ ∃ u ∈ lev, v ∈ R u) (visLev R st lev)
  | [], B, st, h, _ => h.congr fun v => by simp
  | u :: lev, B, st, h, hr => by
    have h1 := h.row (hR u (hr u (by simp)))
    have h2 := St.lev hR (lev := lev) h1 (fun v hv => hr v (by simp [hv]))
    exact h2.congr fun v => by simp [or_assoc]
theorem St.small {m : Nat} {seen : List Bool} {B : Nat → Prop} {st : List Bool × List Nat} (h : St m seen B st) : st.2.length ≤ m := by
  have h1 : st.1.count true ≤ st.1.length := List.count_le_length
  have h2 := h.cnt
  have h3 := h.len
  omega
theorem St.less {m : Nat} {seen : List Bool} {B : Nat → Prop} {st : List Bool × List Nat} (h : St m seen B st) {w : Nat} (hw : w < m) (hs : st.1.getD w false = false) : st.2.length < m := by
  have h1 := (h.vis hw).small
  rw [vis1_miss hs] at h1
  simp at h1
  omega

/-- what holds at the head of level d -/
structure Lev (m : Nat) (R : Nat → List Nat) (a d : Nat) (seen : List Bool) (lev : List Nat) : Prop where
  len : seen.length = m
  cnt : lev ≠ [] → d + 1 ≤ seen.count true
  see : ∀ v, v < m → (seen.getD v false = true ↔ ∃ k, k ≤ d ∧ wk m R k a v = true)
  lev : ∀ v, v ∈ lev ↔ Dst m R a v d

theorem Lev.start {m : Nat} {R : Nat → List Nat} {a : Nat} (ha : a < m) : Lev m R a 0 ((List.replicate m false).set a true) [a] := by
  refine ⟨by simp, fun _ => ?_, fun v hv => ?_, fun v => ?_⟩
  · rw [count_set (by simpa using ha) (by simp [List.getD, List.getElem?_replicate, ha])]
    omega
  · rw [getD_set _ _ _ (by simpa using ha)]
    simp only [List.getD, List.getElem?_replicate, hv]
    simp
    constructor
    · intro h; subst h; exact wk_zero.2 rfl
    · intro h; exact (wk_zero.1 h).symm
  · simp only [List.mem_singleton]
    constructor
    · intro h; subst h; exact ⟨wk_zero.2 rfl, fun j hj => by omega⟩
    · intro h; exact (wk_zero.1 h.1).symm
theorem Lev.lt {m : Nat} {R : Nat → List Nat} {a d : Nat} {seen : List Bool} {lev : List Nat} (hR : Ok m R) (ha : a < m) (h : Lev m R a d seen lev) : ∀ v ∈ lev, v < m := fun v hv => wk_lt hR ha ((h.lev v).1 hv).1
theorem Lev.st {m : Nat} {R : Nat → List Nat} {a d : Nat} {seen : List Bool} {lev : List Nat} (hR : Ok m R) (ha : a < m) (h : Lev m R a d seen lev) : St m seen (fun v => ∃ u ∈ lev, v ∈ R u) (visLev R (seen, []) lev) :=
  ((St.start h.len).lev hR (h.lt hR ha)).congr fun v => by simp
theorem Lev.next {m : Nat} {R : Nat → List Nat} {a d : Nat} {seen : List Bool} {lev : List Nat} (hR : Ok m R) (ha : a < m) (h : Lev m R a d seen lev) (hne : lev ≠ []) : Lev m R a (d + 1) (visLev R (seen, []) lev).1 (visLev R (seen, []) lev).2 := by
  have hs := h.st hR ha
  have step : ∀ v, (∃ u ∈ lev, v ∈ R u) → wk m R (d + 1) a v = true := by
    rintro v ⟨u, hu, hv⟩
    exact wk_succ.2 ⟨u, h.lt hR ha u hu, ((h.lev u).1 hu).1, hv⟩
  have back : ∀ v, wk m R (d + 1) a v = true → (∃ k, k ≤ d ∧ wk m R k a v = true) ∨ ∃ u ∈ lev, v ∈ R u := by
    intro v hv
    obtain ⟨u, hu, h1, h2⟩ := wk_succ.1 hv
    obtain ⟨j, hj, hd⟩ := Dst.of_wk h1
    by_cases e : j = d
    · subst e; exact .inr ⟨u, (h.lev u).2 hd, h2⟩
    · exact .inl ⟨j + 1, by omega, wk_succ.2 ⟨u, hu, hd.1, h2⟩⟩
  refine ⟨hs.len, fun hn => ?_, fun v hv => ?_, fun v => ?_⟩
  · have h1 := hs.cnt
    have h2 := h.cnt hne
    have h3 : 0 < (visLev R (seen, []) lev).2.length := List.length_pos_iff.2 hn
    omega
  · rw [hs.see v hv, h.see v hv]
    constructor
    · rintro (⟨k, hk, h1⟩ | h1)
      · exact ⟨k, by omega, h1⟩
      · exact ⟨d + 1, Nat.le_refl _, step v h1⟩
    · rintro ⟨k, hk, h1⟩
      by_cases e : k = d + 1
      · subst e; exact back v h1
      · exact .inl ⟨k, by omega, h1⟩
  · rw [hs.nxt v]
    constructor
    · rintro ⟨h1, h2, h3⟩
      refine ⟨step v h3, fun j hj => ?_⟩
      cases hw : wk m R j a v with
      | false => rfl
      | true =>
        have := (h.see v h1).2 ⟨j, by omega, hw⟩
        rw [h2] at this; cases this
    · intro hd
      have hv := wk_lt hR ha hd.1
      have hno : ¬ ∃ k, k ≤ d ∧ wk m R k a v = true := by
        rintro ⟨k, hk, h1⟩
        have := hd.2 k (by omega)
        rw [h1] at this; cases this
      refine ⟨hv, ?_, (back v hd.1).resolve_left hno⟩
      cases hx : seen.getD v false with
      | false => rfl
      | true => exact absurd ((h.see v hv).1 hx) hno
theorem Lev.small {m : Nat} {R : Nat → List Nat} {a d : Nat} {seen : List Bool} {lev : List Nat} (h : Lev m R a d seen lev) (hne : lev ≠ []) : d < m := by
  have h1 : seen.count true ≤ seen.length := List.count_le_length
  have h2 := h.cnt hne
  have h3 := h.len
  omega

theorem mem_bfs {m : Nat} {R : Nat → List Nat} {a : Nat} (hR : Ok m R) (ha : a < m) : ∀ (f d : Nat) (seen : List Bool) (lev : List Nat), m + 1 = f + d → Lev m R a d seen lev → ∀ v k, (v, k) ∈ bfs R f d seen lev ↔ d ≤ k ∧ Dst m R a v k := by
  have none : ∀ (d : Nat) (seen : List Bool), Lev m R a d seen [] → ∀ v k, ¬ (d ≤ k ∧ Dst m R a v k) := by
    rintro d seen h v k ⟨hk, hd⟩
    obtain ⟨c, hc, _⟩ := hd.before hk
    have := (h.lev c).2 hc
    simp at this
  intro f
  induction f with
  | zero =>
    intro d seen lev hf h v k
    have he : lev = [] := by
      by_cases hn : lev = []
      · exact hn
      · have := h.small hn; omega
    subst he
    simp only [bfs, List.not_mem_nil, false_iff]
    exact none d seen h v k
  | succ f ih =>
    intro d seen lev hf h v k
    by_cases hn : lev = []
    · subst hn
      simp only [bfs, if_pos, List.not_mem_nil, false_iff]
      exact none d seen h v k
    · rw [bfs, if_neg hn, List.mem_append, ih (d + 1) _ _ (by omega) (h.next hR ha hn) v k]
      simp only [List.mem_map, Prod.mk.injEq]
      constructor
      · rintro (⟨u, hu, rfl, rfl⟩ | ⟨h1, h2⟩)
        · exact ⟨Nat.le_refl _, (h.lev u).1 hu⟩
        · exact ⟨by omega, h2⟩
      · rintro ⟨h1, h2⟩
        by_cases e : k = d
        · subst e; exact .inl ⟨v, (h.lev v).2 h2, rfl, rfl⟩
        · exact .inr ⟨by omega, h2⟩
theorem mem_out {m : Nat} {R : Nat → List Nat} {a : Nat} (hR : Ok m R) (ha : a < m) (v k : Nat) : (v, k) ∈ out m R a ↔ Dst m R a v k := by
  rw [out, mem_bfs hR ha (m + 1) 0 _ _ rfl (Lev.start ha) v k]
  simp
theorem bfs_small {m : Nat} {R : Nat → List Nat} {a : Nat} (hR : Ok m R) (ha : a < m) : ∀ (f d : Nat) (seen : List Bool) (lev : List Nat), Lev m R a d seen lev → ∀ x ∈ bfs R f d seen lev, x.2 < m
  | 0, _, _, _, _, x, hx => by simp [bfs] at hx
  | f + 1, d, seen, lev, h, x, hx => by
    by_cases hn : lev = []
    · subst hn; simp [bfs] at hx
    · rw [bfs, if_neg hn, List.mem_append] at hx
      rcases hx with hx | hx
      · obtain ⟨u, _, rfl⟩ := List.mem_map.1 hx
        exact h.small hn
      · exact bfs_small hR ha f (d + 1) _ _ (h.next hR ha hn) x hx
theorem Dst.small {m : Nat} {R : Nat → List Nat} {a b k : Nat} (hR : Ok m R) (ha : a < m) (h : Dst m R a b k) : k < m :=
  bfs_small hR ha (m + 1) 0 _ _ (Lev.start ha) (b, k) ((mem_out hR ha b k).2 h)

/-! ### distances -/
/-- the fewest steps, or -1 -/
def dist (m : Nat) (R : Nat → List Nat) (a b : Nat) : Int := match (List.range m).find? fun k => wk m R k a b with
  | some k => (k : Int)
  | none => -1

theorem dist_some {m : Nat} {R : Nat → List Nat} {a b k : Nat} (hR : Ok m R) (ha : a < m) (h : Dst m R a b k) : dist m R a b = (k : Int) := by
  have hk := h.small hR ha
  unfold dist
  cases hf : (List.range m).find? fun k => wk m R k a b with
  | none =>
    have := List.find?_eq_none.1 hf k (by simpa using hk)
    rw [h.1] at this
    exact absurd rfl this
  | some j =>
    have h1 := List.find?_some hf
    have h2 : j = k := by
      rcases Nat.lt_trichotomy j k with hl | he | hl
      · have := h.2 j hl; rw [h1] at this; cases this
      · exact he
      · have h3 := (List.find?_range_eq_some.1 hf).2.2 k hl
        rw [h.1] at h3; simp at h3
    rw [h2]
theorem dist_none {m : Nat} {R : Nat → List Nat} {a b : Nat} (h : ∀ k, wk m R k a b = false) : dist m R a b = -1 := by
  unfold dist
  rw [List.find?_eq_none.2 (fun k _ => by rw [h k]; simp)]
theorem dist_cases {m : Nat} {R : Nat → List Nat} {a : Nat} (b : Nat) (hR : Ok m R) (ha : a < m) : (∃ k, Dst m R a b k ∧ dist m R a b = (k : Int)) ∨ ((∀ k, wk m R k a b = false) ∧ dist m R a b = -1) := by
  by_cases h : ∃ k, wk m R k a b = true
  · obtain ⟨k, hk⟩ := h
    obtain ⟨j, _, hd⟩ := Dst.of_wk hk
    exact .inl ⟨j, hd, dist_some hR ha hd⟩
  · have : ∀ k, wk m R k a b = false := fun k => by
      cases hw : wk m R k a b with
      | false => rfl
      | true => exact absurd ⟨k, hw⟩ h
    exact .inr ⟨this, dist_none this⟩
theorem dist_nn {m : Nat} {R : Nat → List Nat} {a b : Nat} (hR : Ok m R) (ha : a < m) : 0 ≤ dist m R a b ↔ ∃ k, wk m R k a b = true := by
  rcases dist_cases b hR ha with ⟨k, hd, he⟩ | ⟨hn, he⟩
  · rw [he]; exact ⟨fun _ => ⟨k, hd.1⟩, fun _ => by omega⟩
  · rw [he]; exact ⟨fun h => by omega, fun ⟨k, hk⟩ => by rw [hn k] at hk; cases hk⟩
theorem dist_le {m : Nat} {R : Nat → List Nat} {a b k : Nat} (hR : Ok m R) (ha : a < m) (h : wk m R k a b = true) : 0 ≤ dist m R a b ∧ dist m R a b ≤ (k : Int) := by
  obtain ⟨j, hj, hd⟩ := Dst.of_wk h
  rw [dist_some hR ha hd]
  omega
theorem dist_ge {m : Nat} {R : Nat → List Nat} {a b : Nat} (hR : Ok m R) (ha : a < m) : -1 ≤ dist m R a b ∧ dist m R a b < (m : Int) := by
  rcases dist_cases b hR ha with ⟨k, hd, he⟩ | ⟨_, he⟩
  · have := hd.small hR ha; rw [he]; omega
  · rw [he]; omega

/-- numbers laid where the pairs say -/
def lay (zs : List (Nat × Nat)) (g : Nat × Nat → Int) (l : List Int) : List Int := zs.foldl (fun l x => l.set x.1 (g x)) l
theorem lay_len (g : Nat × Nat → Int) : ∀ (zs : List (Nat × Nat)) (l : List Int), (lay zs g l).length = l.length
  | [], _ => rfl
  | x :: zs, l => by rw [lay, List.foldl_cons]; exact (lay_len g zs _).trans (by simp)
theorem lay_snoc (zs : List (Nat × Nat)) (x : Nat × Nat) (g : Nat × Nat → Int) (l : List Int) : lay (zs ++ [x]) g l = (lay zs g l).set x.1 (g x) := by simp [lay, List.foldl_append]
theorem lay_at (g : Nat × Nat → Int) (D : Nat → Int) (v : Nat) : ∀ (zs : List (Nat × Nat)) (l : List Int), v < l.length → (∀ x ∈ zs, g x = D x.1) → (lay zs g l).getD v 0 = if v ∈ zs.map Prod.fst then D v else l.getD v 0
  | [], l, _, _ => by simp [lay]
  | x :: zs, l, hv, h => by
    have ih := lay_at g D v zs (l.set x.1 (g x)) (by simpa using hv) (fun y hy => h y (by simp [hy]))
    rw [lay, List.foldl_cons]
    refine ih.trans ?_
    by_cases h1 : v ∈ zs.map Prod.fst
    · rw [if_pos h1, if_pos (by simp only [List.map_cons, List.mem_cons]; exact .inr h1)]
    · rw [if_neg h1]
      by_cases h2 : v = x.1
      · rw [if_pos (by simp [h2]), h2, h x (by simp)]
        simp [List.getD, show x.1 < l.length by omega]
      · rw [if_neg (by simp only [List.map_cons, List.mem_cons]; exact fun e => e.elim h2 h1)]
        have : x.1 ≠ v := fun e => h2 e.symm
        simp [List.getD, List.getElem?_set, this]
theorem eq_of_getD {l l' : List Int} (h : l.length = l'.length) (hv : ∀ v, v < l.length → l.getD v 0 = l'.getD v 0) : l = l' := by
  refine List.ext_getElem h fun i h1 h2 => ?_
  have := hv i h1
  simpa [List.getD, h1, h2] using this
/-- all distances from a point -/
def dists (m : Nat) (R : Nat → List Nat) (a : Nat) : List Int := (List.range m).map (dist m R a)
theorem dists_len (m : Nat) (R : Nat → List Nat) (a : Nat) : (dists m R a).length = m := by simp [dists]
theorem dists_at {m : Nat} (R : Nat → List Nat) (a : Nat) {v : Nat} (hv : v < m) : (dists m R a).getD v 0 = dist m R a v := by simp [dists, List.getD, hv]
theorem lay_out {m : Nat} {R : Nat → List Nat} {a : Nat} (hR : Ok m R) (ha : a < m) : lay (out m R a) (fun x => (x.2 : Int)) (List.replicate m (-1)) = dists m R a := by
  refine eq_of_getD (by rw [lay_len, dists_len]; simp) fun v hv => ?_
  rw [lay_len] at hv
  have hv' : v < m := by simpa using hv
  rw [lay_at _ (dist m R a) v _ _ hv (fun x hx => (dist_some hR ha ((mem_out hR ha x.1 x.2).1 hx)).symm), dists_at R a hv']
  split
  · rfl
  · rename_i h
    rcases dist_cases v hR ha with ⟨k, hd, _⟩ | ⟨_, he⟩
    · exact absurd (List.mem_map.2 ⟨(v, k), (mem_out hR ha v k).2 hd, rfl⟩) h
    · rw [he]; simp [List.getD, hv']

end Go.Proofs.Ytinglgnddmadaaa.Wa
