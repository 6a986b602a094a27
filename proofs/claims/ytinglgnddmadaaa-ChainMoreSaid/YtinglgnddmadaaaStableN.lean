/-
  Plain facts on stable pairs, with no program in them: whoever is turned away is turned away by each stable pairing (step by step), there is always a stable pairing, it is the best for those who ask and the worst for those who are asked. No statement of the program is proved here; there is no condition.
-/
import Derived.WalkKit
set_option linter.unusedSimpArgs false
set_option linter.unusedVariables false
namespace Go.Proofs.Ytinglgnddmadaaa.St

/-- each of n ranks n others: L i j is the place of j for i -/
structure Ord (n : Nat) (L : Nat → Nat → Nat) : Prop where
  lt : ∀ i, i < n → ∀ j, j < n → L i j < n
  inj : ∀ i, i < n → ∀ j, j < n → ∀ k, k < n → L i j = L i k → j = k
  sur : ∀ i, i < n → ∀ p, p < n → ∃ j, j < n ∧ L i j = p
/-- pairs: whom each on the left has -/
def Pr (n : Nat) (h : List Nat) : Prop := h.length = n ∧ (∀ x ∈ h, x < n) ∧ h.Nodup
/-- no two would rather have each other -/
def Stab (n : Nat) (L R : Nat → Nat → Nat) (h : List Nat) : Prop := ∀ i, i < n → ∀ k, k < n → ¬ (L i (h.getD k 0) < L i (h.getD i 0) ∧ R (h.getD k 0) i < R (h.getD k 0) k)

section
variable {n : Nat} {L R : Nat → Nat → Nat}

theorem Pr.at_lt {h : List Nat} (hp : Pr n h) {i : Nat} (hi : i < n) : h.getD i 0 < n := by
  have hl : i < h.length := by rw [hp.1]; exact hi
  rw [show h.getD i 0 = h[i] by simp [List.getD, hl]]
  exact hp.2.1 _ (List.getElem_mem hl)
theorem Pr.at_inj {h : List Nat} (hp : Pr n h) {i k : Nat} (hi : i < n) (hk : k < n) (e : h.getD i 0 = h.getD k 0) : i = k := by
  have hl : i < h.length := by rw [hp.1]; exact hi
  have hm : k < h.length := by rw [hp.1]; exact hk
  rw [show h.getD i 0 = h[i] by simp [List.getD, hl], show h.getD k 0 = h[k] by simp [List.getD, hm]] at e
  exact (List.getElem_inj hp.2.2).1 e
theorem nodup_all {n : Nat} {l : List Nat} (hn : l.Nodup) (hl : ∀ x ∈ l, x < n) (hk : l.length = n) {x : Nat} (hx : x < n) : x ∈ l := by
  rcases Decidable.em (x ∈ l) with h | h
  · exact h
  · have h1 : (x :: l).Nodup := List.nodup_cons.2 ⟨h, hn⟩
    have h2 : ∀ y ∈ x :: l, y ∈ List.range n := fun y hy => by
      rcases List.mem_cons.1 hy with rfl | hy
      · exact List.mem_range.2 hx
      · exact List.mem_range.2 (hl y hy)
    have := List.Nodup.length_le_of_subset h1 h2
    rw [List.length_range, List.length_cons] at this
    omega
/-- each on the right is had by someone -/
theorem Pr.by {h : List Nat} (hp : Pr n h) {j : Nat} (hj : j < n) : ∃ i, i < n ∧ h.getD i 0 = j := by
  have hm := nodup_all hp.2.2 hp.2.1 hp.1 hj
  obtain ⟨i, hi, e⟩ := List.getElem_of_mem hm
  exact ⟨i, by rw [← hp.1]; exact hi, by simp [List.getD, hi, e]⟩
theorem Pr.of {f : Nat → Nat} (hlt : ∀ i, i < n → f i < n) (hinj : ∀ i, i < n → ∀ k, k < n → f i = f k → i = k) : Pr n ((List.range n).map f) := by
  refine ⟨by simp, fun x hx => ?_, ?_⟩
  · obtain ⟨i, hi, rfl⟩ := List.mem_map.1 hx
    exact hlt i (List.mem_range.1 hi)
  · show List.Pairwise (· ≠ ·) _
    rw [List.pairwise_map]
    exact List.Pairwise.imp_of_mem (fun {i k} hi hk hne e => hne (hinj i (List.mem_range.1 hi) k (List.mem_range.1 hk) e)) List.nodup_range
theorem getD_map {f : Nat → Nat} {i : Nat} (hi : i < n) : ((List.range n).map f).getD i 0 = f i := by simp [List.getD, hi]

/-! ### step by step -/
/-- where those on the left are in their rankings, and whom those on the right keep -/
structure Inv (n : Nat) (L R : Nat → Nat → Nat) (pos : Nat → Nat) (eng : Nat → Option Nat) : Prop where
  at_ : ∀ j, j < n → ∀ i, eng j = some i → i < n ∧ L i j = pos i
  better : ∀ i, i < n → ∀ j, j < n → L i j < pos i → ∃ k, eng j = some k ∧ R j k < R j i
  never : ∀ i, i < n → ∀ j, j < n → L i j < pos i → ∀ h, Pr n h → Stab n L R h → h.getD i 0 ≠ j

/-- i asks j, who keeps k: none of the stable pairings has k with j, if j would rather have i -/
theorem Inv.out {pos : Nat → Nat} {eng : Nat → Option Nat} (hL : Ord n L) (hI : Inv n L R pos eng) {i j k : Nat} (hi : i < n) (hj : j < n) (hk : k < n) (hp : L i j = pos i) (hik : i ≠ k) (hr : R j i < R j k) :
    ∀ h, Pr n h → Stab n L R h → h.getD k 0 ≠ j := by
  intro h hP hS e
  have h1 := hP.at_lt hi
  have h2 : ¬ L i (h.getD i 0) < pos i := fun hh => hI.never i hi _ h1 hh h hP hS rfl
  have h3 : L i (h.getD i 0) ≠ L i j := fun hh => by
    have := hL.inj i hi _ h1 j hj hh
    exact hik (hP.at_inj hi hk (this.trans e.symm))
  exact hS i hi k hk ⟨by rw [e]; omega, by rw [e]; exact hr⟩

theorem Inv.start (n : Nat) (L R : Nat → Nat → Nat) : Inv n L R (fun _ => 0) (fun _ => none) :=
  ⟨fun j _ i h => (by cases h), fun i _ j _ h => by omega, fun i _ j _ h => by omega⟩

def upd {α : Type} (f : Nat → α) (a : Nat) (x : α) : Nat → α := fun b => if b = a then x else f b
theorem upd_same {α : Type} (f : Nat → α) (a : Nat) (x : α) : upd f a x a = x := if_pos rfl
theorem upd_ne {α : Type} (f : Nat → α) {a b : Nat} (x : α) (h : b ≠ a) : upd f a x b = f b := if_neg h

/-- j keeps nobody yet -/
theorem Inv.take {pos : Nat → Nat} {eng : Nat → Option Nat} (hI : Inv n L R pos eng) {i j : Nat} (hi : i < n) (hj : j < n) (hp : L i j = pos i) (he : eng j = none) : Inv n L R pos (upd eng j (some i)) := by
  refine ⟨fun j' hj' i' h => ?_, fun i' hi' j' hj' h => ?_, hI.never⟩
  · rcases Decidable.em (j' = j) with e | e
    · subst e
      rw [upd_same] at h
      cases h
      exact ⟨hi, hp⟩
    · rw [upd_ne _ _ e] at h
      exact hI.at_ j' hj' i' h
  · obtain ⟨k, hk, hr⟩ := hI.better i' hi' j' hj' h
    have e : j' ≠ j := fun e => by rw [e, he] at hk; cases hk
    exact ⟨k, by rw [upd_ne _ _ e]; exact hk, hr⟩
/-- j keeps whom it has -/
theorem Inv.keep {pos : Nat → Nat} {eng : Nat → Option Nat} (hL : Ord n L) (hI : Inv n L R pos eng) {i j k : Nat} (hi : i < n) (hj : j < n) (hp : L i j = pos i) (hf : ∀ j', j' < n → eng j' ≠ some i) (he : eng j = some k) (hr : R j k < R j i) : Inv n L R (upd pos i (pos i + 1)) eng := by
  obtain ⟨hk, hpk⟩ := hI.at_ j hj k he
  have hki : k ≠ i := fun e => hf j hj (by rw [he, e])
  refine ⟨fun j' hj' i' h => ?_, fun i' hi' j' hj' h => ?_, fun i' hi' j' hj' h => ?_⟩
  · have e : i' ≠ i := fun e => hf j' hj' (by rw [h, e])
    rw [upd_ne _ _ e]
    exact hI.at_ j' hj' i' h
  · rcases Decidable.em (i' = i) with e | e
    · subst e
      rw [upd_same] at h
      rcases Nat.lt_or_ge (L i' j') (pos i') with h1 | h1
      · exact hI.better i' hi' j' hj' h1
      · have : j' = j := hL.inj i' hi' j' hj' j hj (by omega)
        subst this
        exact ⟨k, he, hr⟩
    · rw [upd_ne _ _ e] at h
      exact hI.better i' hi' j' hj' h
  · rcases Decidable.em (i' = i) with e | e
    · subst e
      rw [upd_same] at h
      rcases Nat.lt_or_ge (L i' j') (pos i') with h1 | h1
      · exact hI.never i' hi' j' hj' h1
      · have : j' = j := hL.inj i' hi' j' hj' j hj (by omega)
        subst this
        exact hI.out hL hk hj hi hpk hki hr
    · rw [upd_ne _ _ e] at h
      exact hI.never i' hi' j' hj' h
/-- j would rather have i -/
theorem Inv.swap {pos : Nat → Nat} {eng : Nat → Option Nat} (hL : Ord n L) (hI : Inv n L R pos eng) {i j k : Nat} (hi : i < n) (hj : j < n) (hp : L i j = pos i) (hf : ∀ j', j' < n → eng j' ≠ some i) (he : eng j = some k) (hr : R j i < R j k) : Inv n L R (upd pos k (pos k + 1)) (upd eng j (some i)) := by
  obtain ⟨hk, hpk⟩ := hI.at_ j hj k he
  have hki : i ≠ k := fun e => hf j hj (by rw [he, e])
  refine ⟨fun j' hj' i' h => ?_, fun i' hi' j' hj' h => ?_, fun i' hi' j' hj' h => ?_⟩
  · rcases Decidable.em (j' = j) with e | e
    · subst e
      rw [upd_same] at h
      cases h
      rw [upd_ne _ _ hki]
      exact ⟨hi, hp⟩
    · rw [upd_ne _ _ e] at h
      obtain ⟨h1, h2⟩ := hI.at_ j' hj' i' h
      have e2 : i' ≠ k := fun e2 => by
        subst e2
        exact e (hL.inj i' h1 j' hj' j hj (by omega))
      rw [upd_ne _ _ e2]
      exact ⟨h1, h2⟩
  · have old : L i' j' < pos i' → ∃ x, upd eng j (some i) j' = some x ∧ R j' x < R j' i' := fun h1 => by
      obtain ⟨x, hx, hr2⟩ := hI.better i' hi' j' hj' h1
      rcases Decidable.em (j' = j) with e | e
      · subst e
        rw [he] at hx
        cases hx
        exact ⟨i, upd_same _ _ _, by omega⟩
      · exact ⟨x, by rw [upd_ne _ _ e]; exact hx, hr2⟩
    rcases Decidable.em (i' = k) with e | e
    · subst e
      rw [upd_same] at h
      rcases Nat.lt_or_ge (L i' j') (pos i') with h1 | h1
      · exact old h1
      · have : j' = j := hL.inj i' hi' j' hj' j hj (by omega)
        subst this
        exact ⟨i, upd_same _ _ _, hr⟩
    · rw [upd_ne _ _ e] at h
      exact old h
  · rcases Decidable.em (i' = k) with e | e
    · subst e
      rw [upd_same] at h
      rcases Nat.lt_or_ge (L i' j') (pos i') with h1 | h1
      · exact hI.never i' hi' j' hj' h1
      · have : j' = j := hL.inj i' hi' j' hj' j hj (by omega)
        subst this
        exact hI.out hL hi hj hi' hp hki hr
    · rw [upd_ne _ _ e] at h
      exact hI.never i' hi' j' hj' h

/-- two on the right do not keep the same one -/
theorem Inv.one {pos : Nat → Nat} {eng : Nat → Option Nat} (hL : Ord n L) (hI : Inv n L R pos eng) {i j k : Nat} (hj : j < n) (hk : k < n) (h1 : eng j = some i) (h2 : eng k = some i) : j = k := by
  obtain ⟨hi, e1⟩ := hI.at_ j hj i h1
  obtain ⟨_, e2⟩ := hI.at_ k hk i h2
  exact hL.inj i hi j hj k hk (by omega)
/-- whom all keep, if all keep someone -/
theorem Inv.full {pos : Nat → Nat} {eng : Nat → Option Nat} (hL : Ord n L) (hI : Inv n L R pos eng) (hall : ∀ j, j < n → ∃ i, eng j = some i) {i : Nat} (hi : i < n) : ∃ j, j < n ∧ eng j = some i := by
  have hP : Pr n ((List.range n).map fun j => (eng j).getD 0) := by
    refine Pr.of (fun j hj => ?_) (fun j hj k hk e => ?_)
    · obtain ⟨x, hx⟩ := hall j hj
      rw [hx]
      exact (hI.at_ j hj x hx).1
    · obtain ⟨x, hx⟩ := hall j hj
      obtain ⟨y, hy⟩ := hall k hk
      rw [hx, hy] at e
      have e' : x = y := e
      subst e'
      exact hI.one hL hj hk hx hy
  obtain ⟨j, hj, e⟩ := hP.by hi
  rw [getD_map hj] at e
  obtain ⟨x, hx⟩ := hall j hj
  rw [hx] at e
  have e' : x = i := e
  subst e'
  exact ⟨j, hj, hx⟩
/-- who is kept by nobody has someone left to ask -/
theorem Inv.more {pos : Nat → Nat} {eng : Nat → Option Nat} (hL : Ord n L) (hI : Inv n L R pos eng) {i : Nat} (hi : i < n) (hf : ∀ j, j < n → eng j ≠ some i) : pos i < n := by
  rcases Nat.lt_or_ge (pos i) n with h | h
  · exact h
  · exfalso
    have hall : ∀ j, j < n → ∃ k, eng j = some k := fun j hj => by
      obtain ⟨k, hk, _⟩ := hI.better i hi j hj (by have := hL.lt i hi j hj; omega)
      exact ⟨k, hk⟩
    obtain ⟨j, hj, e⟩ := hI.full hL hall hi
    exact hf j hj e

/-- all are kept: these pairs are stable, and the best on the left -/
theorem Inv.done {pos : Nat → Nat} {eng : Nat → Option Nat} (hL : Ord n L) (hI : Inv n L R pos eng) {h : List Nat} (hl : h.length = n) (hh : ∀ i, i < n → h.getD i 0 < n ∧ eng (h.getD i 0) = some i) :
    Pr n h ∧ Stab n L R h ∧ ∀ h', Pr n h' → Stab n L R h' → ∀ i, i < n → L i (h.getD i 0) ≤ L i (h'.getD i 0) := by
  have hpos : ∀ i, i < n → L i (h.getD i 0) = pos i := fun i hi => (hI.at_ _ (hh i hi).1 i (hh i hi).2).2
  have hmap : h = (List.range n).map fun i => h.getD i 0 := by
    refine List.ext_getElem (by simp [hl]) fun k h1 h2 => ?_
    simp [List.getD, h1]
  have hP : Pr n h := by
    rw [hmap]
    refine Pr.of (fun i hi => (hh i hi).1) (fun i hi k hk e => ?_)
    have h1 := (hh i hi).2
    have h2 := (hh k hk).2
    have e' : h.getD i 0 = h.getD k 0 := e
    rw [e', h2] at h1
    exact (Option.some.inj h1).symm
  refine ⟨hP, fun i hi k hk ⟨h1, h2⟩ => ?_, fun h' hP' hS' i hi => ?_⟩
  · rw [hpos i hi] at h1
    obtain ⟨x, hx, hr⟩ := hI.better i hi _ (hh k hk).1 h1
    rw [(hh k hk).2] at hx
    cases hx
    omega
  · rcases Nat.lt_or_ge (L i (h'.getD i 0)) (L i (h.getD i 0)) with hlt | hge
    · rw [hpos i hi] at hlt
      exact absurd rfl (hI.never i hi _ (hP'.at_lt hi) hlt h' hP' hS')
    · exact hge

/-! ### there is one -/
/-- how much is left to do -/
def left_ (n : Nat) (pos : Nat → Nat) (eng : Nat → Option Nat) : Nat := ((List.range n).map fun i => n - pos i).sum + (List.range n).countP fun j => (eng j).isNone
theorem sum_upd (f : Nat → Nat) {a x : Nat} : ∀ m, a < m → ((List.range m).map (upd f a x)).sum + f a = ((List.range m).map f).sum + x
  | 0, h => by omega
  | m + 1, h => by
    rw [List.range_succ, List.map_append, List.map_append, List.sum_append, List.sum_append]
    simp only [List.map_cons, List.map_nil, List.sum_cons, List.sum_nil, Nat.add_zero]
    rcases Nat.lt_or_ge a m with h1 | h1
    · have := sum_upd f (x := x) m h1
      rw [upd_ne f x (show m ≠ a by omega)]
      omega
    · obtain rfl : a = m := by omega
      rw [upd_same]
      have : (List.range a).map (upd f a x) = (List.range a).map f := List.map_congr_left fun b hb => upd_ne f x (by have := List.mem_range.1 hb; omega)
      rw [this]
      omega
theorem count_upd (f : Nat → Option Nat) {a i : Nat} (hf : f a = none) : ∀ m, a < m → ((List.range m).countP fun j => (upd f a (some i) j).isNone) + 1 = (List.range m).countP fun j => (f j).isNone
  | 0, h => by omega
  | m + 1, h => by
    rw [List.range_succ, List.countP_append, List.countP_append]
    simp only [List.countP_cons, List.countP_nil, Nat.zero_add]
    rcases Nat.lt_or_ge a m with h1 | h1
    · have := count_upd f (i := i) hf m h1
      rw [upd_ne f _ (show m ≠ a by omega)]
      omega
    · obtain rfl : a = m := by omega
      rw [upd_same, hf]
      have : ((List.range a).countP fun j => (upd f a (some i) j).isNone) = (List.range a).countP fun j => (f j).isNone := List.countP_congr fun b hb => by rw [upd_ne f _ (by have := List.mem_range.1 hb; omega)]
      rw [this]
      simp
theorem count_upd_some (f : Nat → Option Nat) {a i k : Nat} (hf : f a = some k) (m : Nat) : ((List.range m).countP fun j => (upd f a (some i) j).isNone) = (List.range m).countP fun j => (f j).isNone := by
  refine List.countP_congr fun b _ => ?_
  rcases Decidable.em (b = a) with e | e
  · subst e
    rw [upd_same, hf]
    simp
  · rw [upd_ne _ _ e]
theorem map_upd (n : Nat) (pos : Nat → Nat) (i : Nat) : ((List.range n).map fun x => n - upd pos i (pos i + 1) x) = (List.range n).map (upd (fun x => n - pos x) i (n - (pos i + 1))) := by
  refine List.map_congr_left fun x _ => ?_
  unfold upd
  split <;> rfl
theorem Inv.go (hL : Ord n L) (hR : Ord n R) : ∀ (f : Nat) (pos : Nat → Nat) (eng : Nat → Option Nat), left_ n pos eng ≤ f → Inv n L R pos eng → ∃ pos' eng', Inv n L R pos' eng' ∧ ∀ i, i < n → ∃ j, j < n ∧ eng' j = some i := by
  intro f
  induction f with
  | zero =>
    intro pos eng hf hI
    refine ⟨pos, eng, hI, fun i hi => hI.full hL (fun j hj => ?_) hi⟩
    have h0 : (List.range n).countP (fun j => (eng j).isNone) = 0 := by unfold left_ at hf; omega
    rw [List.countP_eq_zero] at h0
    have := h0 j (List.mem_range.2 hj)
    cases he : eng j with
    | none => rw [he] at this; exact absurd rfl this
    | some k => exact ⟨k, rfl⟩
  | succ f ih =>
    intro pos eng hf hI
    by_cases hfree : ∃ i, i < n ∧ ∀ j, j < n → eng j ≠ some i
    · obtain ⟨i, hi, hfr⟩ := hfree
      have hpi := hI.more hL hi hfr
      obtain ⟨j, hj, hp⟩ := hL.sur i hi _ hpi
      cases he : eng j with
      | none =>
        refine ih pos _ ?_ (hI.take hi hj hp he)
        unfold left_ at hf ⊢
        have := count_upd eng (i := i) he n hj
        omega
      | some k =>
        obtain ⟨hk, hpk⟩ := hI.at_ j hj k he
        have hik : i ≠ k := fun e => hfr j hj (by rw [he, e])
        have hpkn : pos k < n := by rw [← hpk]; exact hL.lt k hk j hj
        have hne : R j i ≠ R j k := fun e => hik (hR.inj j hj i hi k hk e)
        rcases Nat.lt_or_ge (R j i) (R j k) with hr | hr
        · refine ih _ _ ?_ (hI.swap hL hi hj hp hfr he hr)
          unfold left_ at hf ⊢
          rw [map_upd, count_upd_some eng he]
          have := sum_upd (fun x => n - pos x) (x := n - (pos k + 1)) n hk
          omega
        · refine ih _ _ ?_ (hI.keep hL hi hj hp hfr he (by omega))
          unfold left_ at hf ⊢
          rw [map_upd]
          have := sum_upd (fun x => n - pos x) (x := n - (pos i + 1)) n hi
          omega
    · refine ⟨pos, eng, hI, fun i hi => ?_⟩
      by_cases h : ∃ j, j < n ∧ eng j = some i
      · exact h
      · exact absurd ⟨i, hi, fun j hj e => h ⟨j, hj, e⟩⟩ hfree

/-- the best on the left of all stable pairs -/
def Opt (n : Nat) (L R : Nat → Nat → Nat) (h : List Nat) : Prop := Pr n h ∧ Stab n L R h ∧ ∀ h', Pr n h' → Stab n L R h' → ∀ i, i < n → L i (h.getD i 0) ≤ L i (h'.getD i 0)
/-- Gale and Shapley -/
theorem opt_ex (hL : Ord n L) (hR : Ord n R) : ∃ h, Opt n L R h := by
  obtain ⟨pos, eng, hI, hall⟩ := Inv.go hL hR _ _ _ (Nat.le_refl _) (Inv.start n L R)
  obtain ⟨g, hg⟩ : ∃ g : Nat → Nat, ∀ i, i < n → g i < n ∧ eng (g i) = some i := by
    refine ⟨fun i => if h : i < n then (hall i h).choose else 0, fun i hi => ?_⟩
    simp only [hi, dite_true]
    exact (hall i hi).choose_spec
  exact ⟨_, hI.done hL (h := (List.range n).map g) (by simp) (fun i hi => by rw [getD_map hi]; exact hg i hi)⟩
theorem Pr.ext {h h' : List Nat} (hP : Pr n h) (hP' : Pr n h') (e : ∀ i, i < n → h.getD i 0 = h'.getD i 0) : h = h' := by
  refine List.ext_getElem (by rw [hP.1, hP'.1]) fun k h1 h2 => ?_
  have := e k (by rw [← hP.1]; exact h1)
  simpa [List.getD, h1, h2] using this
theorem Opt.unique (hL : Ord n L) {h h' : List Nat} (hO : Opt n L R h) (hO' : Opt n L R h') : h = h' :=
  hO.1.ext hO'.1 fun i hi => hL.inj i hi _ (hO.1.at_lt hi) _ (hO'.1.at_lt hi) (Nat.le_antisymm (hO.2.2 _ hO'.1 hO'.2.1 i hi) (hO'.2.2 _ hO.1 hO.2.1 i hi))
/-- who is asked has the worst -/
theorem Opt.worst (hL : Ord n L) {h h' : List Nat} (hO : Opt n L R h) (hP' : Pr n h') (hS' : Stab n L R h') {i k : Nat} (hi : i < n) (hk : k < n) (e : h'.getD k 0 = h.getD i 0) : R (h.getD i 0) k ≤ R (h.getD i 0) i := by
  rcases Nat.lt_or_ge (R (h.getD i 0) i) (R (h.getD i 0) k) with hr | hr
  · exfalso
    have hik : i ≠ k := fun e2 => by subst e2; omega
    have h1 := hO.2.2 h' hP' hS' i hi
    have h2 : L i (h.getD i 0) ≠ L i (h'.getD i 0) := fun e2 => by
      have := hL.inj i hi _ (hO.1.at_lt hi) _ (hP'.at_lt hi) e2
      exact hik (hP'.at_inj hi hk (this.symm.trans e.symm))
    exact hS' i hi k hk ⟨by rw [e]; omega, by rw [e]; exact hr⟩
  · exact hr
/-- where the first ones of all on the left are others, each has his -/
theorem Opt.first (hL : Ord n L) {h f : List Nat} (hO : Opt n L R h) (hf : Pr n f) (h0 : ∀ i, i < n → L i (f.getD i 0) = 0) : h = f := by
  have hS : Stab n L R f := fun i hi k hk ⟨h1, _⟩ => by rw [h0 i hi] at h1; omega
  refine hO.1.ext hf fun i hi => hL.inj i hi _ (hO.1.at_lt hi) _ (hf.at_lt hi) ?_
  have := hO.2.2 f hf hS i hi
  rw [h0 i hi] at this ⊢
  omega

/-! ### turned round -/
/-- r is h seen from the right -/
def Back (n : Nat) (h r : List Nat) : Prop := ∀ i, i < n → r.getD (h.getD i 0) 0 = i
theorem Back.stab {h r : List Nat} (hP : Pr n h) (hr : Pr n r) (hB : Back n h r) (hS : Stab n L R h) : Stab n R L r := by
  intro j hj k hk ⟨h1, h2⟩
  obtain ⟨i, hi, rfl⟩ := hP.by hj
  obtain ⟨i', hi', rfl⟩ := hP.by hk
  rw [hB i hi, hB i' hi'] at h1
  rw [hB i' hi'] at h2
  exact hS i' hi' i hi ⟨h2, h1⟩
theorem Back.ex {h : List Nat} (hP : Pr n h) : ∃ r, Pr n r ∧ Back n h r ∧ Back n r h := by
  obtain ⟨g, hg⟩ : ∃ g : Nat → Nat, ∀ j, j < n → g j < n ∧ h.getD (g j) 0 = j := by
    refine ⟨fun j => if hj : j < n then (hP.by hj).choose else 0, fun j hj => ?_⟩
    simp only [hj, dite_true]
    exact (hP.by hj).choose_spec
  refine ⟨(List.range n).map g, Pr.of (fun j hj => (hg j hj).1) (fun j hj k hk e => ?_), fun i hi => ?_, fun j hj => ?_⟩
  · rw [← (hg j hj).2, ← (hg k hk).2, e]
  · rw [getD_map (hP.at_lt hi)]
    exact hP.at_inj (hg _ (hP.at_lt hi)).1 hi (hg _ (hP.at_lt hi)).2
  · rw [getD_map hj]
    exact (hg j hj).2
/-- if both ways round the pairs are the same there are no others -/
theorem Opt.only (hL : Ord n L) (hR : Ord n R) {h r h' : List Nat} (hO : Opt n L R h) (hO2 : Opt n R L r) (hB : Back n h r) (hP' : Pr n h') (hS' : Stab n L R h') : h' = h := by
  obtain ⟨r', hr', hb1, hb2⟩ := Back.ex hP'
  have hS2 : Stab n R L r' := hb1.stab hP' hr' hS'
  refine hP'.ext hO.1 fun i hi => hL.inj i hi _ (hP'.at_lt hi) _ (hO.1.at_lt hi) (Nat.le_antisymm ?_ (hO.2.2 h' hP' hS' i hi))
  have hj := hO.1.at_lt hi
  have hk := hP'.at_lt hi
  have := hO2.worst hR hr' hS2 (i := h.getD i 0) (k := h'.getD i 0) hj hk (by rw [hb1 i hi, hB i hi])
  rw [hB i hi] at this
  exact this
end

end Go.Proofs.Ytinglgnddmadaaa.St
