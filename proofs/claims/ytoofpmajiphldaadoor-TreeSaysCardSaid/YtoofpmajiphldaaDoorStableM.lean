/-
  Plain facts on stable pairs, with no program in them: whoever is turned away is turned away by each stable pairing (step by step), there is always a stable pairing, it is the best for those who ask and the worst for those who are asked. No statement of the program is proved here; there is no condition.
  Plain facts on rankings as lists of numbers, with no program in them: the place of a number, what is wrong with rankings, whether some pairs are stable, the best of all stable pairs that begin with some (by trying all), and that this is the best pairing. No statement of the program is proved here; there is no condition.
-/
import Derived.WalkKit
set_option linter.unusedSimpArgs false
set_option linter.unusedVariables false
namespace Go.Proofs.YtoofpmajiphldaaDoor.St

/-- each of n ranks n others: L i j is the place of j for i -/
structure Ord (n : Nat) (L : Nat → Nat → Nat) : Prop where
  lt : ∀ i, i < n → ∀ j, j < n → L i j < n
  inj : ∀ i, i < n → ∀ j, j < n → ∀ k, k < n → L i j = L i k → j = k
  sur : ∀ i, i < n → ∀ p, p < n → ∃ j, j < n ∧ L i j = p
/-- pairs: whom each on the left has -/
def Pr (n : Nat) (h : List Nat) : Prop := h.length = n ∧ (∀ x ∈ h, x < n) ∧ h.Nodup
/-- no two would rather have each other -/
def Stab (n : Nat) (L R : Nat → Nat → Nat) (h : List Nat) : Prop := ∀ i, i < n → ∀ k, k < n → ¬ (L i (h.getD k 0) < L i (h.getD i 0) ∧ R (h.getD k 0) i < R (h.getD k 0) k)

section
variable {n : Nat} {L R : Nat → Nat → Nat}

theorem Pr.at_lt {h : List Nat} (hp : Pr n h) {i : Nat} (hi : i < n) : h.getD i 0 < n := by
  have hl : i < h.length := by rw [hp.1]; exact hi
  rw [show h.getD i 0 = h[i] by simp [List.getD, hl]]
  exact hp.2.1 _ (List.getElem_mem hl)
theorem Pr.at_inj {h : List Nat} (hp : Pr n h) {i k : Nat} (hi : i < n) (hk : k < n) (e : h.getD i 0 = h.getD k 0) : i = k := by
  have hl : i < h.length := by rw [hp.1]; exact hi
  have hm : k < h.length := by rw [hp.1]; exact hk
  rw [show h.getD i 0 = h[i] by simp [List.getD, hl], show h.getD k 0 = h[k] by simp [List.getD, hm]] at e
  exact (List.getElem_inj hp.2.2).1 e
theorem nodup_all {n : Nat} {l : List Nat} (hn : l.Nodup) (hl : ∀ x ∈ l, x < n) (hk : l.length = n) {x : Nat} (hx : x < n) : x ∈ l := by
  rcases Decidable.em (x ∈ l) with h | h
  · exact h
  · have h1 : (x :: l).Nodup := List.nodup_cons.2 ⟨h, hn⟩
    have h2 : ∀ y ∈ x :: l, y ∈ List.range n := fun y hy => by
      rcases List.mem_cons.1 hy with rfl | hy
      · exact List.mem_range.2 hx
      · exact List.mem_range.2 (hl y hy)
    have := List.Nodup.length_le_of_subset h1 h2
    rw [List.length_range, List.length_cons] at this
    omega
/-- each on the right is had by someone -/
theorem Pr.by {h : List Nat} (hp : Pr n h) {j : Nat} (hj : j < n) : ∃ i, i < n ∧ h.getD i 0 = j := by
  have hm := nodup_all hp.2.2 hp.2.1 hp.1 hj
  obtain ⟨i, hi, e⟩ := List.getElem_of_mem hm
  exact ⟨i, by rw [← hp.1]; exact hi, by simp [List.getD, hi, e]⟩
theorem Pr.of {f : Nat → Nat} (hlt : ∀ i, i < n → f i < n) (hinj : ∀ i, i < n → ∀ k, k < n → f i = f k → i = k) : Pr n ((List.range n).map f) := by
  refine ⟨by simp, fun x hx => ?_, ?_⟩
  · obtain ⟨i, hi, rfl⟩ := List.mem_map.1 hx
    exact hlt i (List.mem_range.1 hi)
  · show List.Pairwise (· ≠ ·) _
    rw [List.pairwise_map]
    exact List.Pairwise.imp_of_mem (fun {i k} hi hk hne e => hne (hinj i (List.mem_range.1 hi) k (List.mem_range.1 hk) e)) List.nodup_range
theorem getD_map {f : Nat → Nat} {i : Nat} (hi : i < n) : ((List.range n).map f).getD i 0 = f i := by simp [List.getD, hi]

/-! ### step by step -/
/-- where those on the left are in their rankings, and whom those on the right keep -/
structure Inv (n : Nat) (L R : Nat → Nat → Nat) (pos : Nat → Nat) (eng : Nat → Option Nat) : Prop where
  at_ : ∀ j, j < n → ∀ i, eng j = some i → i < n ∧ L i j = pos i
  better : ∀ i, i < n → ∀ j, j < n → L i j < pos i → ∃ k, eng j = some k ∧ R j k < R j i
  never : ∀ i, i < n → ∀ j, j < n → L i j < pos i → ∀ h, Pr n h → Stab n L R h → h.getD i 0 ≠ j

/-- i asks j, who keeps k: none of the stable pairings has k with j, if j would rather have i -/
theorem Inv.out {pos : Nat → Nat} {eng : Nat → Option Nat} (hL : Ord n L) (hI : Inv n L R pos eng) {i j k : Nat} (hi : i < n) (hj : j < n) (hk : k < n) (hp : L i j = pos i) (hik : i ≠ k) (hr : R j i < R j k) :
    ∀ h, Pr n h → Stab n L R h → h.getD k 0 ≠ j := by
  intro h hP hS e
  have h1 := hP.at_lt hi
  have h2 : ¬ L i (h.getD i 0) < pos i := fun hh => hI.never i hi _ h1 hh h hP hS rfl
  have h3 : L i (h.getD i 0) ≠ L i j := fun hh => by
    have := hL.inj i hi _ h1 j hj hh
    exact hik (hP.at_inj hi hk (this.trans e.symm))
  exact hS i hi k hk ⟨by rw [e]; omega, by rw [e]; exact hr⟩

theorem Inv.start (n : Nat) (L R : Nat → Nat → Nat) : Inv n L R (fun _ => 0) (fun _ => none) :=
  ⟨fun j _ i h => (by cases h), fun i _ j _ h => by omega, fun i _ j _ h => by omega⟩

def upd {α : Type} (f : Nat → α) (a : Nat) (x : α) : Nat → α := fun b => if b = a then x else f b
theorem upd_same {α : Type} (f : Nat → α) (a : Nat) (x : α) : upd f a x a = x := if_pos rfl
theorem upd_ne {α : Type} (f : Nat → α) {a b : Nat} (x : α) (h : b ≠ a) : upd f a x b = f b := if_neg h

/-- j keeps nobody yet -/
theorem Inv.take {pos : Nat → Nat} {eng : Nat → Option Nat} (hI : Inv n L R pos eng) {i j : Nat} (hi : i < n) (hj : j < n) (hp : L i j = pos i) (he : eng j = none) : Inv n L R pos (upd eng j (some i)) := by
  refine ⟨fun j' hj' i' h => ?_, fun i' hi' j' hj' h => ?_, hI.never⟩
  · rcases Decidable.em (j' = j) with e | e
    · subst e
      rw [upd_same] at h
      cases h
      exact ⟨hi, hp⟩
    · rw [upd_ne _ _ e] at h
      exact hI.at_ j' hj' i' h
  · obtain ⟨k, hk, hr⟩ := hI.better i' hi' j' hj' h
    have e : j' ≠ j := fun e => by rw [e, he] at hk; cases hk
    exact ⟨k, by rw [upd_ne _ _ e]; exact hk, hr⟩
/-- j keeps whom it has -/
theorem Inv.keep {pos : Nat → Nat} {eng : Nat → Option Nat} (hL : Ord n L) (hI : Inv n L R pos eng) {i j k : Nat} (hi : i < n) (hj : j < n) (hp : L i j = pos i) (hf : ∀ j', j' < n → eng j' ≠ some i) (he : eng j = some k) (hr : R j k < R j i) : Inv n L R (upd pos i (pos i + 1)) eng := by
  obtain ⟨hk, hpk⟩ := hI.at_ j hj k he
  have hki : k ≠ i := fun e => hf j hj (by rw [he, e])
  refine ⟨fun j' hj' i' h => ?_, fun i' hi' j' hj' h => ?_, fun i' hi' j' hj' h => ?_⟩
  · have e : i' ≠ i := fun e => hf j' hj' (by rw [h, e])
    rw [upd_ne _ _ e]
    exact hI.at_ j' hj' i' h
  · rcases Decidable.em (i' = i) with e | e
    · subst e
      rw [upd_same] at h
      rcases Nat.lt_or_ge (L i' j') (pos i') with h1 | h1
      · exact hI.better i' hi' j' hj' h1
      · have : j' = j := hL.inj i' hi' j' hj' j hj (by omega)
        subst this
        exact ⟨k, he, hr⟩
    · rw [upd_ne _ _ e] at h
      exact hI.better i' hi' j' hj' h
  · rcases Decidable.em (i' = i) with e | e
    · subst e
      rw [upd_same] at h
      rcases Nat.lt_or_ge (L i' j') (pos i') with h1 | h1
      · exact hI.never i' hi' j' hj' h1
      · have : j' = j := hL.inj i' hi' j' hj' j hj (by omega)
        subst this
        exact hI.out hL hk hj hi hpk hki hr
    · rw [upd_ne _ _ e] at h
      exact hI.never i' hi' j' hj' h
/-- j would rather have i -/
theorem Inv.swap {pos : Nat → Nat} {eng : Nat → Option Nat} (hL : Ord n L) (hI : Inv n L R pos eng) {i j k : Nat} (hi : i < n) (hj : j < n) (hp : L i j = pos i) (hf : ∀ j', j' < n → eng j' ≠ some i) (he : eng j = some k) (hr : R j i < R j k) : Inv n L R (upd pos k (pos k + 1)) (upd eng j (some i)) := by
  obtain ⟨hk, hpk⟩ := hI.at_ j hj k he
  have hki : i ≠ k := fun e => hf j hj (by rw [he, e])
  refine ⟨fun j' hj' i' h => ?_, fun i' hi' j' hj' h => ?_, fun i' hi' j' hj' h => ?_⟩
  · rcases Decidable.em (j' = j) with e | e
    · subst e
      rw [upd_same] at h
      cases h
      rw [upd_ne _ _ hki]
      exact ⟨hi, hp⟩
    · rw [upd_ne _ _ e] at h
      obtain ⟨h1, h2⟩ := hI.at_ j' hj' i' h
      have e2 : i' ≠ k := fun e2 => by
        subst e2
        exact e (hL.inj i' h1 j' hj' j hj (by omega))
      rw [upd_ne _ _ e2]
      exact ⟨h1, h2⟩
  · have old : L i' j' < pos i' → ∃ x, upd eng j (some i) j' = some x ∧ R j' x < R j' i' := fun h1 => by
      obtain ⟨x, hx, hr2⟩ := hI.better i' hi' j' hj' h1
      rcases Decidable.em (j' = j) with e | e
      · subst e
        rw [he] at hx
        cases hx
        exact ⟨i, upd_same _ _ _, by omega⟩
      · exact ⟨x, by rw [upd_ne _ _ e]; exact hx, hr2⟩
    rcases Decidable.em (i' = k) with e | e
    · subst e
      rw [upd_same] at h
      rcases Nat.lt_or_ge (L i' j') (pos i') with h1 | h1
      · exact old h1
      · have : j' = j := hL.inj i' hi' j' hj' j hj (by omega)
        subst this
        exact ⟨i, upd_same _ _ _, hr⟩
    · rw [upd_ne _ _ e] at h
      exact old h
  · rcases Decidable.em (i' = k) with e | e
    · subst e
      rw [upd_same] at h
      rcases Nat.lt_or_ge (L i' j') (pos i') with h1 | h1
      · exact hI.never i' hi' j' hj' h1
      · have : j' = j := hL.inj i' hi' j' hj' j hj (by omega)
        subst this
        exact hI.out hL hi hj hi' hp hki hr
    · rw [upd_ne _ _ e] at h
      exact hI.never i' hi' j' hj' h

/-- two on the right do not keep the same one -/
theorem Inv.one {pos : Nat → Nat} {eng : Nat → Option Nat} (hL : Ord n L) (hI : Inv n L R pos eng) {i j k : Nat} (hj : j < n) (hk : k < n) (h1 : eng j = some i) (h2 : eng k = some i) : j = k := by
  obtain ⟨hi, e1⟩ := hI.at_ j hj i h1
  obtain ⟨_, e2⟩ := hI.at_ k hk i h2
  exact hL.inj i hi j hj k hk (by omega)
/-- whom all keep, if all keep someone -/
theorem Inv.full {pos : Nat → Nat} {eng : Nat → Option Nat} (hL : Ord n L) (hI : Inv n L R pos eng) (hall : ∀ j, j < n → ∃ i, eng j = some i) {i : Nat} (hi : i < n) : ∃ j, j < n ∧ eng j = some i := by
  have hP : Pr n ((List.range n).map fun j => (eng j).getD 0) := by
    refine Pr.of (fun j hj => ?_) (fun j hj k hk e => ?_)
    · obtain ⟨x, hx⟩ := hall j hj
      rw [hx]
      exact (hI.at_ j hj x hx).1
    · obtain ⟨x, hx⟩ := hall j hj
      obtain ⟨y, hy⟩ := hall k hk
      rw [hx, hy] at e
      have e' : x = y := e
      subst e'
      exact hI.one hL hj hk hx hy
  obtain ⟨j, hj, e⟩ := hP.by hi
  rw [getD_map hj] at e
  obtain ⟨x, hx⟩ := hall j hj
  rw [hx] at e
  have e' : x = i := e
  subst e'
  exact ⟨j, hj, hx⟩
/-- who is kept by nobody has someone left to ask -/
theorem Inv.more {pos : Nat → Nat} {eng : Nat → Option Nat} (hL : Ord n L) (hI : Inv n L R pos eng) {i : Nat} (hi : i < n) (hf : ∀ j, j < n → eng j ≠ some i) : pos i < n := by
  rcases Nat.lt_or_ge (pos i) n with h | h
  · exact h
  · exfalso
    have hall : ∀ j, j < n → ∃ k, eng j = some k := fun j hj => by
      obtain ⟨k, hk, _⟩ := hI.better i hi j hj (by have := hL.lt i hi j hj; omega)
      exact ⟨k, hk⟩
    obtain ⟨j, hj, e⟩ := hI.full hL hall hi
    exact hf j hj e

/-- all are kept: these pairs are stable, and the best on the left -/
theorem Inv.done {pos : Nat → Nat} {eng : Nat → Option Nat} (hL : Ord n L) (hI : Inv n L R pos eng) {h : List Nat} (hl : h.length = n) (hh : ∀ i, i < n → h.getD i 0 < n ∧ eng (h.getD i 0) = some i) :
    Pr n h ∧ Stab n L R h ∧ ∀ h', Pr n h' → Stab n L R h' → ∀ i, i < n → L i (h.getD i 0) ≤ L i (h'.getD i 0) := by
  have hpos : ∀ i, i < n → L i (h.getD i 0) = pos i := fun i hi => (hI.at_ _ (hh i hi).1 i (hh i hi).2).2
  have hmap : h = (List.range n).map fun i => h.getD i 0 := by
    refine List.ext_getElem (by simp [hl]) fun k h1 h2 => ?_
    simp [List.getD, h1]
  have hP : Pr n h := by
    rw [hmap]
    refine Pr.of (fun i hi => (hh i hi).1) (fun i hi k hk e => ?_)
    have h1 := (hh i hi).2
    have h2 := (hh k hk).2
    have e' : h.getD i 0 = h.getD k 0 := e
    rw [e', h2] at h1
    exact (Option.some.inj h1).symm
  refine ⟨hP, fun i hi k hk ⟨h1, h2⟩ => ?_, fun h' hP' hS' i hi => ?_⟩
  · rw [hpos i hi] at h1
    obtain ⟨x, hx, hr⟩ := hI.better i hi _ (hh k hk).1 h1
    rw [(hh k hk).2] at hx
    cases hx
    omega
  · rcases Nat.lt_or_ge (L i (h'.getD i 0)) (L i (h.getD i 0)) with hlt | hge
    · rw [hpos i hi] at hlt
      exact absurd rfl (hI.never i hi _ (hP'.at_lt hi) hlt h' hP' hS')
    · exact hge

/-! ### there is one -/
/-- how much is left to do -/
def left_ (n : Nat) (pos : Nat → Nat) (eng : Nat → Option Nat) : Nat := ((List.range n).map fun i => n - pos i).sum + (List.range n).countP fun j => (eng j).isNone
theorem sum_upd (f : Nat → Nat) {a x : Nat} : ∀ m, a < m → ((List.range m).map (upd f a x)).sum + f a = ((List.range m).map f).sum + x
  | 0, h => by omega
  | m + 1, h => by
    rw [List.range_succ, List.map_append, List.map_append, List.sum_append, List.sum_append]
    simp only [List.map_cons, List.map_nil, List.sum_cons, List.sum_nil, Nat.add_zero]
    rcases Nat.lt_or_ge a m with h1 | h1
    · have := sum_upd f (x := x) m h1
      rw [upd_ne f x (show m ≠ a by omega)]
      omega
    · obtain rfl : a = m := by omega
      rw [upd_same]
      have : (List.range a).map (upd f a x) = (List.range a).map f := List.map_congr_left fun b hb => upd_ne f x (by have := List.mem_range.1 hb; omega)
      rw [this]
      omega
theorem count_upd (f : Nat → Option Nat) {a i : Nat} (hf : f a = none) : ∀ m, a < m → ((List.range m).countP fun j => (upd f a (some i) j).isNone) + 1 = (List.range m).countP fun j => (f j).isNone
  | 0, h => by omega
  | m + 1, h => by
    rw [List.range_succ, List.countP_append, List.countP_append]
    simp only [List.countP_cons, List.countP_nil, Nat.zero_add]
    rcases Nat.lt_or_ge a m with h1 | h1
    · have := count_upd f (i := i) hf m h1
      rw [upd_ne f _ (show m ≠ a by omega)]
      omega
    · obtain rfl : a = m := by omega
      rw [upd_same, hf]
      have : ((List.range a).countP fun j => (upd f a (some i) j).isNone) = (List.range a).countP fun j => (f j).isNone := List.countP_congr fun b hb => by rw [upd_ne f _ (by have := List.mem_range.1 hb; omega)]
      rw [this]
      simp
theorem count_upd_some (f : Nat → Option Nat) {a i k : Nat} (hf : f a = some k) (m : Nat) : ((List.range m).countP fun j => (upd f a (some i) j).isNone) = (List.range m).countP fun j => (f j).isNone := by
  refine List.countP_congr fun b _ => ?_
  rcases Decidable.em (b = a) with e | e
  · subst e
    rw [upd_same, hf]
    simp
  · rw [upd_ne _ _ e]
theorem map_upd (n : Nat) (pos : Nat → Nat) (i : Nat) : ((List.range n).map fun x => n - upd pos i (pos i + 1) x) = (List.range n).map (upd (fun x => n - pos x) i (n - (pos i + 1))) := by
  refine List.map_congr_left fun x _ => ?_
  unfold upd
  split <;> rfl
theorem Inv.go (hL : Ord n L) (hR : Ord n R) : ∀ (f : Nat) (pos : Nat → Nat) (eng : Nat → Option Nat), left_ n pos eng ≤ f → Inv n L R pos eng → ∃ pos' eng', Inv n L R pos' eng' ∧ ∀ i, i < n → ∃ j, j < n ∧ eng' j = some i := by
  intro f
  induction f with
  | zero =>
    intro pos eng hf hI
    refine ⟨pos, eng, hI, fun i hi => hI.full hL (fun j hj => ?_) hi⟩
    have h0 : (List.range n).countP (fun j => (eng j).isNone) = 0 := by unfold left_ at hf; omega
    rw [List.countP_eq_zero] at h0
    have := h0 j (List.mem_range.2 hj)
    cases he : eng j with
    | none => rw [he] at this; exact absurd rfl this
    | some k => exact ⟨k, rfl⟩
  | succ f ih =>
    intro pos eng hf hI
    by_cases hfree : ∃ i, i < n ∧ ∀ j, j < n → eng j ≠ some i
    · obtain ⟨i, hi, hfr⟩ := hfree
      have hpi := hI.more hL hi hfr
      obtain ⟨j, hj, hp⟩ := hL.sur i hi _ hpi
      cases he : eng j with
      | none =>
        refine ih pos _ ?_ (hI.take hi hj hp he)
        unfold left_ at hf ⊢
        have := count_upd eng (i := i) he n hj
        omega
      | some k =>
        obtain ⟨hk, hpk⟩ := hI.at_ j hj k he
        have hik : i ≠ k := fun e => hfr j hj (by rw [he, e])
        have hpkn : pos k < n := by rw [← hpk]; exact hL.lt k hk j hj
        have hne : R j i ≠ R j k := fun e => hik (hR.inj j hj i hi k hk e)
        rcases Nat.lt_or_ge (R j i) (R j k) with hr | hr
        · refine ih _ _ ?_ (hI.swap hL hi hj hp hfr he hr)
          unfold left_ at hf ⊢
          rw [map_upd, count_upd_some eng he]
          have := sum_upd (fun x => n - pos x) (x := n - (pos k + 1)) n hk
          omega
        · refine ih _ _ ?_ (hI.keep hL hi hj hp hfr he (by omega))
          unfold left_ at hf ⊢
          rw [map_upd]
          have := sum_upd (fun x => n - pos x) (x := n - (pos i + 1)) n hi
          omega
    · refine ⟨pos, eng, hI, fun i hi => ?_⟩
      by_cases h : ∃ j, j < n ∧ eng j = some i
      · exact h
      · exact absurd ⟨i, hi, fun j hj e => h ⟨j, hj, e⟩⟩ hfree

/-- the best on the left of all stable pairs -/
def Opt (n : Nat) (L R : Nat → Nat → Nat) (h : List Nat) : Prop := Pr n h ∧ Stab n L R h ∧ ∀ h', Pr n h' → Stab n L R h' → ∀ i, i < n → L i (h.getD i 0) ≤ L i (h'.getD i 0)
/-- Gale and Shapley -/
theorem opt_ex (hL : Ord n L) (hR : Ord n R) : ∃ h, Opt n L R h := by
  obtain ⟨pos, eng, hI, hall⟩ := Inv.go hL hR _ _ _ (Nat.le_refl _) (Inv.start n L R)
  obtain ⟨g, hg⟩ : ∃ g : Nat → Nat, ∀ i, i < n → g i < n ∧ eng (g i) = some i := by
    refine ⟨fun i => if h : i < n then (hall i h).choose else 0, fun i hi => ?_⟩
    simp only [hi, dite_true]
    exact (hall i hi).choose_spec
  exact ⟨_, hI.done hL (h := (List.range n).map g) (by simp) (fun i hi => by rw [getD_map hi]; exact hg i hi)⟩
theorem Pr.ext {h h' : List Nat} (hP : Pr n h) (hP' : Pr n h') (e : ∀ i, i < n → h.getD i 0 = h'.getD i 0) : h = h' := by
  refine List.ext_getElem (by rw [hP.1, hP'.1]) fun k h1 h2 => ?_
  have := e k (by rw [← hP.1]; exact h1)
  simpa [List.getD, h1, h2] using this
theorem Opt.unique (hL : Ord n L) {h h' : List Nat} (hO : Opt n L R h) (hO' : Opt n L R h') : h = h' :=
  hO.1.ext hO'.1 fun i hi => hL.inj i hi _ (hO.1.at_lt hi) _ (hO'.1.at_lt hi) (Nat.le_antisymm (hO.2.2 _ hO'.1 hO'.2.1 i hi) (hO'.2.2 _ hO.1 hO.2.1 i hi))
/-- who is asked has the worst -/
theorem Opt.worst (hL : Ord n L) {h h' : List Nat} (hO : Opt n L R h) (hP' : Pr n h') (hS' : Stab n L R h') {i k : Nat} (hi : i < n) (hk : k < n) (e : h'.getD k 0 = h.getD i 0) : R (h.getD i 0) k ≤ R (h.getD i 0) i := by
  rcases Nat.lt_or_ge (R (h.getD i 0) i) (R (h.getD i 0) k) with hr | hr
  · exfalso
    have hik : i ≠ k := fun e2 => by subst e2; omega
    have h1 := hO.2.2 h' hP' hS' i hi
    have h2 : L i (h.getD i 0) ≠ L i (h'.getD i 0) := fun e2 => by
      have := hL.inj i hi _ (hO.1.at_lt hi) _ (hP'.at_lt hi) e2
      exact hik (hP'.at_inj hi hk (this.symm.trans e.symm))
    exact hS' i hi k hk ⟨by rw [e]; omega, by rw [e]; exact hr⟩
  · exact hr
/-- where the first ones of all on the left are others, each has his -/
theorem Opt.first (hL : Ord n L) {h f : List Nat} (hO : Opt n L R h) (hf : Pr n f) (h0 : ∀ i, i < n → L i (f.getD i 0) = 0) : h = f := by
  have hS : Stab n L R f := fun i hi k hk ⟨h1, _⟩ => by rw [h0 i hi] at h1; omega
  refine hO.1.ext hf fun i hi => hL.inj i hi _ (hO.1.at_lt hi) _ (hf.at_lt hi) ?_
  have := hO.2.2 f hf hS i hi
  rw [h0 i hi] at this ⊢
  omega

/-! ### turned round -/
/-- r is h seen from the right -/
def Back (n : Nat) (h r : List Nat) : Prop := ∀ i, i < n → r.getD (h.getD i 0) 0 = i
theorem Back.stab {h r : List Nat} (hP : Pr n h) (hr : Pr n r) (hB : Back n h r) (hS : Stab n L R h) : Stab n R L r := by
  intro j hj k hk ⟨h1, h2⟩
  obtain ⟨i, hi, rfl⟩ := hP.by hj
  obtain ⟨i', hi', rfl⟩ := hP.by hk
  rw [hB i hi, hB i' hi'] at h1
  rw [hB i' hi'] at h2
  exact hS i' hi' i hi ⟨h2, h1⟩
theorem Back.ex {h : List Nat} (hP : Pr n h) : ∃ r, Pr n r ∧ Back n h r ∧ Back n r h := by
  obtain ⟨g, hg⟩ : ∃ g : Nat → Nat, ∀ j, j < n → g j < n ∧ h.getD (g j) 0 = j := by
    refine ⟨fun j => if hj : j < n then (hP.by hj).choose else 0, fun j hj => ?_⟩
    simp only [hj, dite_true]
    exact (hP.by hj).choose_spec
  refine ⟨(List.range n).map g, Pr.of (fun j hj => (hg j hj).1) (fun j hj k hk e => ?_), fun i hi => ?_, fun j hj => ?_⟩
  · rw [← (hg j hj).2, ← (hg k hk).2, e]
  · rw [getD_map (hP.at_lt hi)]
    exact hP.at_inj (hg _ (hP.at_lt hi)).1 hi (hg _ (hP.at_lt hi)).2
  · rw [getD_map hj]
    exact (hg j hj).2
/-- if both ways round the pairs are the same there are no others -/
theorem Opt.only (hL : Ord n L) (hR : Ord n R) {h r h' : List Nat} (hO : Opt n L R h) (hO2 : Opt n R L r) (hB : Back n h r) (hP' : Pr n h') (hS' : Stab n L R h') : h' = h := by
  obtain ⟨r', hr', hb1, hb2⟩ := Back.ex hP'
  have hS2 : Stab n R L r' := hb1.stab hP' hr' hS'
  refine hP'.ext hO.1 fun i hi => hL.inj i hi _ (hP'.at_lt hi) _ (hO.1.at_lt hi) (Nat.le_antisymm ?_ (hO.2.2 h' hP' hS' i hi))
  have hj := hO.1.at_lt hi
  have hk := hP'.at_lt hi
  have := hO2.worst hR hr' hS2 (i := h.getD i 0) (k := h'.getD i 0) hj hk (by rw [hb1 i hi, hB i hi])
  rw [hB i hi] at this
  exact this
end

end Go.Proofs.YtoofpmajiphldaaDoor.St

set_option linter.unusedSimpArgs false
set_option linter.unusedVariables false
namespace Go.Proofs.YtoofpmajiphldaaDoor.St

/-! ### places -/
def plcF (x : Int) : List Int → Nat → Int
  | [], _ => -1
  | y :: ys, k => if y = x then (k : Int) else plcF x ys (k + 1)
/-- the place of a number in a list, or -1 -/
def plc (l : List Int) (x : Int) : Int := plcF x l 0
theorem plcF_spec (x : Int) : ∀ (l : List Int) (k : Nat), (plcF x l k = -1 ∧ x ∉ l) ∨ ∃ j, j < l.length ∧ plcF x l k = ((k + j : Nat) : Int) ∧ l.getD j 0 = x
  | [], k => .inl ⟨rfl, by simp⟩
  | y :: ys, k => by
    unfold plcF
    by_cases h : y = x
    · rw [if_pos h]
      exact .inr ⟨0, by simp, by simp, by simpa using h⟩
    · rw [if_neg h]
      rcases plcF_spec x ys (k + 1) with ⟨h1, h2⟩ | ⟨j, h1, h2, h3⟩
      · exact .inl ⟨h1, by simp only [List.mem_cons, not_or]; exact ⟨fun e => h e.symm, h2⟩⟩
      · exact .inr ⟨j + 1, by simpa using h1, by rw [h2]; congr 1; omega, by simpa using h3⟩
theorem plc_spec (l : List Int) (x : Int) : (plc l x = -1 ∧ x ∉ l) ∨ ∃ j, j < l.length ∧ plc l x = (j : Int) ∧ l.getD j 0 = x := by
  rcases plcF_spec x l 0 with h | ⟨j, h1, h2, h3⟩
  · exact .inl h
  · exact .inr ⟨j, h1, by unfold plc; rw [h2]; simp, h3⟩
theorem plcF_step {l : List Int} {k : Nat} (hk : k < l.length) (x p : Int) (hp : p = l.getD k 0) : plcF x (l.drop k) k = if p = x then (k : Int) else plcF x (l.drop (k + 1)) (k + 1) := by
  rw [List.drop_eq_getElem_cons hk]
  have : l[k] = p := by rw [hp]; simp [List.getD, hk]
  rw [this]
  rfl
theorem getD_mem {l : List Int} {j : Nat} (hj : j < l.length) : l.getD j 0 ∈ l := by
  have : l.getD j 0 = l[j] := by simp [List.getD, hj]
  rw [this]
  exact List.getElem_mem hj
theorem getD_inj {l : List Int} (hn : l.Nodup) {i j : Nat} (hi : i < l.length) (hj : j < l.length) (e : l.getD i 0 = l.getD j 0) : i = j := by
  have e1 : l.getD i 0 = l[i] := by simp [List.getD, hi]
  have e2 : l.getD j 0 = l[j] := by simp [List.getD, hj]
  rw [e1, e2] at e
  exact (List.getElem_inj hn).1 e
theorem plc_at {l : List Int} (hn : l.Nodup) {k : Nat} (hk : k < l.length) : plc l (l.getD k 0) = (k : Int) := by
  rcases plc_spec l (l.getD k 0) with ⟨_, h⟩ | ⟨j, h1, h2, h3⟩
  · exact absurd (getD_mem hk) h
  · rw [h2, getD_inj hn h1 hk h3]

/-! ### rankings -/
structure Row (n : Nat) (l : List Int) : Prop where
  len : l.length = n
  rng : ∀ x ∈ l, 0 ≤ x ∧ x ≤ (n : Int) - 1
  nodup : l.Nodup
theorem Row.mem {n : Nat} {l : List Int} (h : Row n l) {j : Nat} (hj : j < n) : (j : Int) ∈ l := by
  have hm : j ∈ l.map Int.toNat := by
    refine nodup_all (n := n) ?_ (fun x hx => ?_) (by rw [List.length_map]; exact h.len) hj
    · show List.Pairwise (· ≠ ·) _
      rw [List.pairwise_map]
      exact List.Pairwise.imp_of_mem (fun {x y} hx hy hne e => hne (by have := h.rng x hx; have := h.rng y hy; omega)) h.nodup
    · obtain ⟨y, hy, rfl⟩ := List.mem_map.1 hx
      have := h.rng y hy
      omega
  obtain ⟨y, hy, e⟩ := List.mem_map.1 hm
  have := h.rng y hy
  obtain rfl : y = (j : Int) := by omega
  exact hy
theorem Row.plc {n : Nat} {l : List Int} (h : Row n l) {j : Nat} (hj : j < n) : ∃ p, p < n ∧ plc l (j : Int) = (p : Int) ∧ l.getD p 0 = (j : Int) := by
  rcases plc_spec l (j : Int) with ⟨_, h2⟩ | ⟨p, h1, h2, h3⟩
  · exact absurd (h.mem hj) h2
  · exact ⟨p, by rw [← h.len]; exact h1, h2, h3⟩
/-- the place of j for i -/
def pl (rows : List (List Int)) (i j : Nat) : Nat := (plc (rows.getD i []) (j : Int)).toNat
/-- n rankings of n -/
def Rks (n : Nat) (rows : List (List Int)) : Prop := rows.length = n ∧ ∀ row ∈ rows, Row n row
theorem Rks.row {n : Nat} {rows : List (List Int)} (h : Rks n rows) {i : Nat} (hi : i < n) : Row n (rows.getD i []) := by
  have hl : i < rows.length := by rw [h.1]; exact hi
  have : rows.getD i [] = rows[i] := by simp [List.getD, hl]
  rw [this]
  exact h.2 _ (List.getElem_mem hl)
theorem Rks.pl {n : Nat} {rows : List (List Int)} (h : Rks n rows) {i j : Nat} (hi : i < n) (hj : j < n) : plc (rows.getD i []) (j : Int) = (St.pl rows i j : Int) := by
  obtain ⟨p, h1, h2, h3⟩ := (h.row hi).plc hj
  unfold St.pl
  rw [h2]
  rfl
theorem Rks.ord {n : Nat} {rows : List (List Int)} (h : Rks n rows) : Ord n (St.pl rows) := by
  refine ⟨fun i hi j hj => ?_, fun i hi j hj k hk e => ?_, fun i hi p hp => ?_⟩
  · obtain ⟨p, h1, h2, h3⟩ := (h.row hi).plc hj
    unfold St.pl
    rw [h2]
    simpa using h1
  · obtain ⟨p, h1, h2, h3⟩ := (h.row hi).plc hj
    obtain ⟨q, g1, g2, g3⟩ := (h.row hi).plc hk
    unfold St.pl at e
    rw [h2, g2] at e
    have : p = q := by simpa using e
    subst this
    omega
  · have hr := h.row hi
    have hpl : p < (rows.getD i []).length := by rw [hr.len]; exact hp
    have hg := hr.rng _ (getD_mem hpl)
    refine ⟨((rows.getD i []).getD p 0).toNat, by omega, ?_⟩
    unfold St.pl
    rw [Int.toNat_of_nonneg hg.1, plc_at hr.nodup hpl]
    simp

/-! ### what is wrong -/
/-- do all lie there? -/
def allB (a b : Int) (l : List Int) : Bool := l.all fun x => decide (a ≤ x) && decide (x ≤ b)
theorem allB_iff {a b : Int} {l : List Int} : allB a b l = true ↔ ∀ x ∈ l, a ≤ x ∧ x ≤ b := by simp [allB]
/-- what is wrong with one ranking of n -/
def rcode (n : Nat) (l : List Int) : Int := if l.length ≠ n then 3 else if allB 0 ((n : Int) - 1) l = false then 1 else if ¬ l.Nodup then 6 else 0
theorem rcode_zero {n : Nat} {l : List Int} : rcode n l = 0 ↔ Row n l := by
  unfold rcode
  constructor
  · intro h
    split at h
    · omega
    · rename_i h1
      split at h
      · omega
      · rename_i h2
        split at h
        · omega
        · rename_i h3
          refine ⟨Classical.not_not.1 h1, allB_iff.1 (by simpa using h2), Classical.not_not.1 h3⟩
  · intro h
    rw [if_neg (fun e => e h.len), if_neg (by rw [allB_iff.2 h.rng]; simp), if_neg (fun e => e h.nodup)]
/-- the first wrong ranking -/
def scode (n : Nat) : List (List Int) → Int
  | [] => 0
  | l :: ls => if rcode n l ≠ 0 then rcode n l else scode n ls
theorem scode_zero {n : Nat} : ∀ {rows : List (List Int)}, scode n rows = 0 ↔ ∀ row ∈ rows, Row n row
  | [] => by simp [scode]
  | l :: ls => by
    unfold scode
    by_cases h : rcode n l ≠ 0
    · rw [if_pos h]
      constructor
      · intro e; exact absurd e h
      · intro hh; exact absurd (rcode_zero.2 (hh l (by simp))) h
    · rw [if_neg h, scode_zero (rows := ls)]
      have hl := rcode_zero.1 (Classical.not_not.1 h)
      constructor
      · intro hh row hr
        rcases List.mem_cons.1 hr with rfl | hr
        · exact hl
        · exact hh row hr
      · intro hh row hr
        exact hh row (List.mem_cons_of_mem _ hr)
theorem scode_step {n : Nat} {rows : List (List Int)} {k : Nat} (hk : k < rows.length) (row : List Int) (hr : row = rows.getD k []) : scode n (rows.drop k) = if rcode n row ≠ 0 then rcode n row else scode n (rows.drop (k + 1)) := by
  rw [List.drop_eq_getElem_cons hk]
  have : rows[k] = row := by rw [hr]; simp [List.getD, hk]
  rw [this]
  rfl
/-- what is wrong with the rankings of both sides -/
def code (left right : List (List Int)) : Int := if 6 < left.length ∨ 6 < right.length then 4 else if left.length ≠ right.length then 3 else if scode left.length left ≠ 0 then scode left.length left else scode right.length right
theorem code_zero {left right : List (List Int)} : code left right = 0 ↔ left.length ≤ 6 ∧ Rks left.length left ∧ Rks left.length right := by
  unfold code
  by_cases h1 : 6 < left.length ∨ 6 < right.length
  · rw [if_pos h1]
    constructor
    · intro h; omega
    · rintro ⟨h2, _, h3⟩
      have := h3.1
      omega
  · rw [if_neg h1]
    by_cases h2 : left.length ≠ right.length
    · rw [if_pos h2]
      constructor
      · intro h; omega
      · rintro ⟨_, _, h3⟩; exact absurd h3.1.symm h2
    · rw [if_neg h2]
      have h2' := Classical.not_not.1 h2
      by_cases h3 : scode left.length left ≠ 0
      · rw [if_pos h3]
        constructor
        · intro h; exact absurd h h3
        · rintro ⟨_, h4, _⟩; exact absurd (scode_zero.2 h4.2) h3
      · rw [if_neg h3]
        have h3' := scode_zero.1 (Classical.not_not.1 h3)
        constructor
        · intro h
          refine ⟨by omega, ⟨rfl, h3'⟩, h2'.symm, ?_⟩
          have := scode_zero.1 h
          rw [← h2'] at this
          exact this
        · rintro ⟨_, _, h4⟩
          rw [← h2']
          exact scode_zero.2 h4.2

/-! ### stable pairs -/
def up (l : List Nat) : List Int := l.map fun b => ((b : Nat) : Int)
theorem up_len (l : List Nat) : (up l).length = l.length := by simp [up]
theorem up_at (l : List Nat) (k : Nat) : (up l).getD k 0 = ((l.getD k 0 : Nat) : Int) := by
  simp only [up, List.getD, List.getElem?_map]
  cases l[k]? <;> rfl
theorem up_inj : ∀ {l l' : List Nat}, up l = up l' → l = l'
  | [], [], _ => rfl
  | [], _ :: _, h => by simp [up] at h
  | _ :: _, [], h => by simp [up] at h
  | a :: l, b :: l', h => by
    simp only [up, List.map_cons, List.cons.injEq] at h
    have h1 : a = b := by omega
    rw [h1, up_inj (l := l) (l' := l') h.2]
theorem Pr.row {n : Nat} {h : List Nat} (hp : Pr n h) : Row n (up h) := by
  refine ⟨by rw [up_len]; exact hp.1, fun x hx => ?_, ?_⟩
  · unfold up at hx
    obtain ⟨y, hy, rfl⟩ := List.mem_map.1 hx
    have := hp.2.1 y hy
    omega
  · show List.Pairwise (· ≠ ·) _
    unfold up
    rw [List.pairwise_map]
    exact hp.2.2.imp fun hne e => hne (by omega)
/-- every list of that kind says pairs -/
theorem Row.pr {n : Nat} {l : List Int} (h : Row n l) : ∃ p, l = up p ∧ Pr n p := by
  have e : l = up (l.map Int.toNat) := by
    unfold up
    rw [List.map_map]
    refine (List.map_id l).symm.trans (List.map_congr_left fun x hx => ?_)
    have := h.rng x hx
    show x = ((x.toNat : Nat) : Int)
    omega
  refine ⟨l.map Int.toNat, e, by rw [List.length_map]; exact h.len, fun x hx => ?_, ?_⟩
  · obtain ⟨y, hy, rfl⟩ := List.mem_map.1 hx
    have := h.rng y hy
    omega
  · show List.Pairwise (· ≠ ·) _
    rw [List.pairwise_map]
    exact List.Pairwise.imp_of_mem (fun {x y} hx hy hne e => hne (by have := h.rng x hx; have := h.rng y hy; omega)) h.nodup
/-- would i and j rather have each other? -/
def blk (left right : List (List Int)) (has : List Int) (i j : Nat) : Bool := decide (plc (left.getD i []) (j : Int) < plc (left.getD i []) (has.getD i 0)) && decide (plc (right.getD j []) (i : Int) < plc (right.getD j []) (plc has (j : Int)))
def stb (n : Nat) (left right : List (List Int)) (has : List Int) : Bool := (List.range n).all fun i => (List.range n).all fun j => !blk left right has i j
theorem stb_iff {n : Nat} {left right : List (List Int)} (hL : Rks n left) (hR : Rks n right) {h : List Nat} (hp : Pr n h) : stb n left right (up h) = true ↔ Stab n (pl left) (pl right) h := by
  have hrow := hp.row
  have key : ∀ i, i < n → ∀ k, k < n → (blk left right (up h) i (h.getD k 0) = true ↔ pl left i (h.getD k 0) < pl left i (h.getD i 0) ∧ pl right (h.getD k 0) i < pl right (h.getD k 0) k) := by
    intro i hi k hk
    unfold blk
    have hkl : k < (up h).length := by rw [hrow.len]; exact hk
    rw [← up_at h k, plc_at hrow.nodup hkl, up_at, up_at, hL.pl hi (hp.at_lt hk), hL.pl hi (hp.at_lt hi), hR.pl (hp.at_lt hk) hi, hR.pl (hp.at_lt hk) hk]
    simp only [Bool.and_eq_true, decide_eq_true_eq]
    omega
  unfold stb Stab
  simp only [List.all_eq_true, List.mem_range, Bool.not_eq_true']
  constructor
  · intro hh i hi k hk hb
    have := hh i hi (h.getD k 0) (hp.at_lt hk)
    rw [(key i hi k hk).2 hb] at this
    cases this
  · intro hh i hi j hj
    obtain ⟨k, hk, rfl⟩ := hp.by hj
    cases hb : blk left right (up h) i (h.getD k 0)
    · rfl
    · exact absurd ((key i hi k hk).1 hb) (hh i hi k hk)

/-! ### the best of all, by trying all -/
section
variable (n : Nat) (left right : List (List Int))
/-- the better of two at each of the first k -/
def best (l : List Nat) (acc : List Nat) : Nat → List Nat
  | 0 => acc
  | k + 1 => if plc (left.getD k []) ((l.getD k 0 : Nat) : Int) < plc (left.getD k []) (((best l acc k).getD k 0 : Nat) : Int) then (best l acc k).set k (l.getD k 0) else best l acc k
/-- one more that may come next: l is what comes of it -/
def joinB (out l : List Nat) : List Nat := if l = [] then out else best left l (if out = [] then l else out) n
/-- of the first k that may come next -/
def stbsTo (f : List Nat → List Nat) (has : List Nat) : Nat → List Nat
  | 0 => []
  | k + 1 => if has.contains k = true then stbsTo f has k else joinB n left (stbsTo f has k) (f (has ++ [k]))
/-- of all stable pairs that begin with some the best for each on the left -/
def stbs : Nat → List Nat → List Nat
  | 0, has => if stb n left right (up has) = true then has else []
  | f + 1, has => stbsTo n left (stbs f) has n
end
section
variable {n : Nat} {left right : List (List Int)}
theorem best_len (l acc : List Nat) : ∀ k, (best left l acc k).length = acc.length
  | 0 => rfl
  | k + 1 => by
    unfold best
    split
    · rw [List.length_set]; exact best_len l acc k
    · exact best_len l acc k
theorem set_at (xs : List Nat) (i j x : Nat) (hi : i < xs.length) : (xs.set i x).getD j 0 = if j = i then x else xs.getD j 0 := by
  simp only [List.getD, List.getElem?_set]
  by_cases e : i = j
  · subst e; simp [hi]
  · have : ¬ j = i := fun h => e h.symm
    simp [e, this]
theorem best_at (l acc : List Nat) (hl : acc.length = n) : ∀ k, k ≤ n → ∀ i, (best left l acc k).getD i 0 = if i < k ∧ plc (left.getD i []) ((l.getD i 0 : Nat) : Int) < plc (left.getD i []) ((acc.getD i 0 : Nat) : Int) then l.getD i 0 else acc.getD i 0
  | 0, _, i => by rw [if_neg (by omega)]; rfl
  | k + 1, hk, i => by
    have ih := best_at l acc hl k (by omega)
    have hkk : (best left l acc k).getD k 0 = acc.getD k 0 := by rw [ih k, if_neg (by omega)]
    unfold best
    rw [hkk]
    by_cases hc : plc (left.getD k []) ((l.getD k 0 : Nat) : Int) < plc (left.getD k []) ((acc.getD k 0 : Nat) : Int)
    · rw [if_pos hc, set_at _ _ _ _ (by rw [best_len, hl]; omega)]
      by_cases e : i = k
      · subst e
        rw [if_pos rfl, if_pos ⟨by omega, hc⟩]
      · rw [if_neg e, ih i]
        by_cases h1 : i < k
        · have h2 : i < k + 1 := by omega
          simp only [h1, h2, true_and]
        · have h2 : ¬ i < k + 1 := by omega
          simp only [h1, h2, false_and, if_false]
    · rw [if_neg hc, ih i]
      by_cases e : i = k
      · subst e
        rw [if_neg (by omega), if_neg (fun h => hc h.2)]
      · by_cases h1 : i < k
        · have h2 : i < k + 1 := by omega
          simp only [h1, h2, true_and]
        · have h2 : ¬ i < k + 1 := by omega
          simp only [h1, h2, false_and, if_false]
/-- out is the best, place by place, of the pairs that P says -/
def Bst (n : Nat) (left : List (List Int)) (P : List Nat → Prop) (out : List Nat) : Prop :=
  (out = [] ∧ ∀ h, ¬ P h) ∨ (out.length = n ∧ (∃ h, P h) ∧ (∀ i, i < n → ∃ h, P h ∧ out.getD i 0 = h.getD i 0) ∧ ∀ h, P h → ∀ i, i < n → pl left i (out.getD i 0) ≤ pl left i (h.getD i 0))
theorem Bst.join (hL : Rks n left) (h1 : 1 ≤ n) {P Q : List Nat → Prop} (hP : ∀ h, P h → Pr n h) (hQ : ∀ h, Q h → Pr n h) {out l : List Nat} (ho : Bst n left P out) (hl : Bst n left Q l) : Bst n left (fun h => P h ∨ Q h) (joinB n left out l) := by
  unfold joinB
  rcases hl with ⟨rfl, hl⟩ | ⟨hl1, hl2, hl3, hl4⟩
  · rw [if_pos rfl]
    rcases ho with ⟨rfl, ho⟩ | ⟨ho1, ho2, ho3, ho4⟩
    · exact .inl ⟨rfl, fun h hh => hh.elim (ho h) (hl h)⟩
    · refine .inr ⟨ho1, by obtain ⟨h, hh⟩ := ho2; exact ⟨h, .inl hh⟩, fun i hi => ?_, fun h hh i hi => ?_⟩
      · obtain ⟨h, hh, e⟩ := ho3 i hi
        exact ⟨h, .inl hh, e⟩
      · rcases hh with hh | hh
        · exact ho4 h hh i hi
        · exact absurd hh (hl h)
  · have hne : l ≠ [] := fun e => by rw [e] at hl1; simp at hl1; omega
    rw [if_neg hne]
    have hlt : ∀ i, i < n → l.getD i 0 < n := fun i hi => by
      obtain ⟨h, hh, e⟩ := hl3 i hi
      rw [e]
      exact (hQ h hh).at_lt hi
    rcases ho with ⟨rfl, ho⟩ | ⟨ho1, ho2, ho3, ho4⟩
    · rw [if_pos rfl]
      have hb : ∀ i, (best left l l n).getD i 0 = l.getD i 0 := fun i => by rw [best_at l l hl1 n (Nat.le_refl _) i]; split <;> rfl
      refine .inr ⟨by rw [best_len]; exact hl1, by obtain ⟨h, hh⟩ := hl2; exact ⟨h, .inr hh⟩, fun i hi => ?_, fun h hh i hi => ?_⟩
      · obtain ⟨h, hh, e⟩ := hl3 i hi
        exact ⟨h, .inr hh, by rw [hb, e]⟩
      · rw [hb]
        rcases hh with hh | hh
        · exact absurd hh (ho h)
        · exact hl4 h hh i hi
    · have hone : out ≠ [] := fun e => by rw [e] at ho1; simp at ho1; omega
      rw [if_neg hone]
      have hot : ∀ i, i < n → out.getD i 0 < n := fun i hi => by
        obtain ⟨h, hh, e⟩ := ho3 i hi
        rw [e]
        exact (hP h hh).at_lt hi
      have hb : ∀ i, i < n → (best left l out n).getD i 0 = if pl left i (l.getD i 0) < pl left i (out.getD i 0) then l.getD i 0 else out.getD i 0 := fun i hi => by
        rw [best_at l out ho1 n (Nat.le_refl _) i, hL.pl hi (hlt i hi), hL.pl hi (hot i hi)]
        have : ((pl left i (l.getD i 0) : Int) < (pl left i (out.getD i 0) : Int)) ↔ pl left i (l.getD i 0) < pl left i (out.getD i 0) := by omega
        simp only [hi, true_and, this]
      refine .inr ⟨by rw [best_len]; exact ho1, by obtain ⟨h, hh⟩ := ho2; exact ⟨h, .inl hh⟩, fun i hi => ?_, fun h hh i hi => ?_⟩
      · rw [hb i hi]
        split
        · obtain ⟨h, hh, e⟩ := hl3 i hi
          exact ⟨h, .inr hh, e⟩
        · obtain ⟨h, hh, e⟩ := ho3 i hi
          exact ⟨h, .inl hh, e⟩
      · rw [hb i hi]
        rcases hh with hh | hh
        · have := ho4 h hh i hi
          split <;> omega
        · have := hl4 h hh i hi
          split <;> omega
theorem Bst.congr {P Q : List Nat → Prop} {out : List Nat} (h : Bst n left P out) (e : ∀ h, P h ↔ Q h) : Bst n left Q out := by
  have : P = Q := funext fun h => propext (e h)
  rw [← this]
  exact h
/-- stable pairs that begin with some -/
def Ext (n : Nat) (left right : List (List Int)) (has h : List Nat) : Prop := Pr n h ∧ Stab n (pl left) (pl right) h ∧ has <+: h
theorem Ext.next {has h : List Nat} (he : Ext n left right has h) (hl : has.length < n) : ∃ k, k < n ∧ k ∉ has ∧ Ext n left right (has ++ [k]) h := by
  obtain ⟨hp, hs, t, rfl⟩ := he
  cases t with
  | nil =>
    have := hp.1
    rw [List.append_nil] at this
    omega
  | cons k t =>
    refine ⟨k, hp.2.1 k (by simp), fun hm => ?_, hp, hs, t, by simp⟩
    have := hp.2.2
    rw [List.nodup_append] at this
    exact this.2.2 k hm k (by simp) rfl
theorem stbsTo_spec (hL : Rks n left) (h1 : 1 ≤ n) {f : List Nat → List Nat} {has : List Nat} (hf : ∀ k, k < n → k ∉ has → Bst n left (Ext n left right (has ++ [k])) (f (has ++ [k]))) :
    ∀ k, k ≤ n → Bst n left (fun h => ∃ j, j < k ∧ j ∉ has ∧ Ext n left right (has ++ [j]) h) (stbsTo n left f has k)
  | 0, _ => .inl ⟨rfl, fun h ⟨j, hj, _⟩ => by omega⟩
  | k + 1, hk => by
    have ih := stbsTo_spec hL h1 hf k (by omega)
    unfold stbsTo
    by_cases hm : has.contains k = true
    · rw [if_pos hm]
      have hm' : k ∈ has := by simpa using hm
      refine ih.congr fun h => ⟨?_, ?_⟩
      · rintro ⟨j, h2, h3, h4⟩; exact ⟨j, by omega, h3, h4⟩
      · rintro ⟨j, h2, h3, h4⟩
        refine ⟨j, ?_, h3, h4⟩
        rcases Nat.lt_or_ge j k with h5 | h5
        · exact h5
        · obtain rfl : j = k := by omega
          exact absurd hm' h3
    · rw [if_neg hm]
      have hm' : k ∉ has := by simpa using hm
      refine (Bst.join hL h1 (fun h ⟨j, _, _, h4⟩ => h4.1) (fun h h4 => h4.1) ih (hf k (by omega) hm')).congr fun h => ⟨?_, ?_⟩
      · rintro (⟨j, h2, h3, h4⟩ | h4)
        · exact ⟨j, by omega, h3, h4⟩
        · exact ⟨k, by omega, hm', h4⟩
      · rintro ⟨j, h2, h3, h4⟩
        rcases Nat.lt_or_ge j k with h5 | h5
        · exact .inl ⟨j, h5, h3, h4⟩
        · obtain rfl : j = k := by omega
          exact .inr h4
theorem stbs_spec (hL : Rks n left) (hR : Rks n right) (h1 : 1 ≤ n) : ∀ (f : Nat) (has : List Nat), has.length + f = n → has.Nodup → (∀ x ∈ has, x < n) → Bst n left (Ext n left right has) (stbs n left right f has)
  | 0, has, hl, hn, hx => by
    have hp : Pr n has := ⟨by omega, hx, hn⟩
    have huniq : ∀ h, Ext n left right has h → h = has := fun h he => by
      obtain ⟨hp', _, hpre⟩ := he
      exact (hpre.eq_of_length (by rw [hp.1, hp'.1])).symm
    unfold stbs
    by_cases hs : stb n left right (up has) = true
    · rw [if_pos hs]
      have hst := (stb_iff hL hR hp).1 hs
      have he : Ext n left right has has := ⟨hp, hst, List.prefix_rfl⟩
      exact .inr ⟨hp.1, ⟨has, he⟩, fun i _ => ⟨has, he, rfl⟩, fun h hh i _ => by rw [huniq h hh]; exact Nat.le_refl _⟩
    · rw [if_neg hs]
      refine .inl ⟨rfl, fun h hh => hs ?_⟩
      have := hh.2.1
      rw [huniq h hh] at this
      exact (stb_iff hL hR hp).2 this
  | f + 1, has, hl, hn, hx => by
    have ih := stbs_spec hL hR h1 f
    have := stbsTo_spec (left := left) (right := right) hL h1 (f := stbs n left right f) (has := has) (fun k hk hm => ih (has ++ [k]) (by simp; omega) (by
      rw [List.nodup_append]
      exact ⟨hn, by simp, fun a ha b hb e => hm (by simp at hb; rw [← hb, ← e]; exact ha)⟩) (fun x hx' => by
      rcases List.mem_append.1 hx' with h2 | h2
      · exact hx x h2
      · obtain rfl : x = k := by simpa using h2
        exact hk)) n (Nat.le_refl _)
    unfold stbs
    refine this.congr fun h => ⟨?_, fun he => ?_⟩
    · rintro ⟨j, _, _, h4⟩
      exact ⟨h4.1, h4.2.1, (List.prefix_append has [j]).trans h4.2.2⟩
    · obtain ⟨k, h2, h3, h4⟩ := he.next (by omega)
      exact ⟨k, h2, h3, h4⟩
/-- of all: the best pairing -/
theorem stbs_opt (hL : Rks n left) (hR : Rks n right) {h : List Nat} (ho : Opt n (pl left) (pl right) h) : stbs n left right n [] = h := by
  rcases Nat.eq_zero_or_pos n with h0 | h1
  · subst h0
    have hh : h = [] := List.eq_nil_of_length_eq_zero ho.1.1
    subst hh
    unfold stbs
    split <;> rfl
  · have hE : ∀ h', Ext n left right [] h' ↔ Pr n h' ∧ Stab n (pl left) (pl right) h' := fun h' => ⟨fun e => ⟨e.1, e.2.1⟩, fun e => ⟨e.1, e.2, List.nil_prefix⟩⟩
    rcases stbs_spec hL hR h1 n [] (by simp) List.nodup_nil (by simp) with ⟨_, hn⟩ | ⟨hlen, _, h3, h4⟩
    · exact absurd ((hE h).2 ⟨ho.1, ho.2.1⟩) (hn h)
    · refine List.ext_getElem (by rw [hlen, ho.1.1]) fun i hi1 hi2 => ?_
      have hi : i < n := by rw [← hlen]; exact hi1
      obtain ⟨h', hh', e⟩ := h3 i hi
      have hp' := (hE h').1 hh'
      have a1 := h4 h ((hE h).2 ⟨ho.1, ho.2.1⟩) i hi
      have a2 := ho.2.2 h' hp'.1 hp'.2 i hi
      rw [← e] at a2
      have hlt : (stbs n left right n []).getD i 0 < n := by rw [e]; exact hp'.1.at_lt hi
      have := hL.ord.inj i hi _ hlt _ (ho.1.at_lt hi) (Nat.le_antisymm a1 a2)
      simpa [List.getD, hi1, hi2] using this
end

end Go.Proofs.YtoofpmajiphldaaDoor.St
