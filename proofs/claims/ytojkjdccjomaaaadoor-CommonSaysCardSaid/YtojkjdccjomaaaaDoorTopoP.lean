/-
  Plain facts on stable pairs, with no program in them: whoever is turned away is turned away by each stable pairing (step by step), there is always a stable pairing, it is the best for those who ask and the worst for those who are asked. No statement of the program is proved here; there is no condition.
  Plain facts on rankings as lists of numbers, with no program in them: the place of a number, what is wrong with rankings, whether some pairs are stable, the best of all stable pairs that begin with some (by trying all), and that this is the best pairing. No statement of the program is proved here; there is no condition.
  Plain facts on orders in which all lines go on, with no program in them: who may come next, that there is such an order just if no point comes back to itself, how deep each point is, and that turned lines are as deep. No statement of the program is proved here; there is no condition.
  Plain facts on choosing the least again and again, with no program in them: what is chosen rises, and is the same numbers. No statement of the program is proved here; there is no condition.
  Plain facts, with no program in them: who may come next as the program asks for it, how deep points are as it reckons them along an order, rings as the reference asks for them, the greatest of some numbers. No statement of the program is proved here; there is no condition.
-/
import Derived.WalkKit
import Derived.Test.YtojkjdccjomaaaaDoorWalkM
import Derived.Test.YtojkjdccjomaaaaDoorGraphL
set_option linter.unusedSimpArgs false
set_option linter.unusedVariables false
namespace Go.Proofs.YtojkjdccjomaaaaDoor.St

/-- each of n ranks n others: L i j is the place of j for i -/
structure Ord (n : Nat) (L : Nat → Nat → Nat) : Prop where
  lt : ∀ i, i < n → ∀ j, j < n → L i j < n
  inj : ∀ i, i < n → ∀ j, j < n → ∀ k, k < n → L i j = L i k → j = k
  sur : ∀ i, i < n → ∀ p, p < n → ∃ j, j < n ∧ L i j = p
/-- pairs: whom each on the left has -/
def Pr (n : Nat) (h : List Nat) : Prop := h.length = n ∧ (∀ x ∈ h, x < n) ∧ h.Nodup
/-- no two would rather have each other -/
def Stab (n : Nat) (L R : Nat → Nat → Nat) (h : List Nat) : Prop := ∀ i, i < n → ∀ k, k < n → ¬ (L i (h.getD k 0) < L i (h.getD i 0) ∧ R (h.getD k 0) i < R (h.getD k 0) k)

section
variable {n : Nat} {L R : Nat → Nat → Nat}

theorem Pr.at_lt {h : List Nat} (hp : Pr n h) {i : Nat} (hi : i < n) : h.getD i 0 < n := by
  have hl : i < h.length := by rw [hp.1]; exact hi
  rw [show h.getD i 0 = h[i] by simp [List.getD, hl]]
  exact hp.2.1 _ (List.getElem_mem hl)
theorem Pr.at_inj {h : List Nat} (hp : Pr n h) {i k : Nat} (hi : i < n) (hk : k < n) (e : h.getD i 0 = h.getD k 0) : i = k := by
  have hl : i < h.length := by rw [hp.1]; exact hi
  have hm : k < h.length := by rw [hp.1]; exact hk
  rw [show h.getD i 0 = h[i] by simp [List.getD, hl], show h.getD k 0 = h[k] by simp [List.getD, hm]] at e
  exact (List.getElem_inj hp.2.2).1 e
theorem nodup_all {n : Nat} {l : List Nat} (hn : l.Nodup) (hl : ∀ x ∈ l, x < n) (hk : l.length = n) {x : Nat} (hx : x < n) : x ∈ l := by
  rcases Decidable.em (x ∈ l) with h | h
  · exact h
  · have h1 : (x :: l).Nodup := List.nodup_cons.2 ⟨h, hn⟩
    have h2 : ∀ y ∈ x :: l, y ∈ List.range n := fun y hy => by
      rcases List.mem_cons.1 hy with rfl | hy
      · exact List.mem_range.2 hx
      · exact List.mem_range.2 (hl y hy)
    have := List.Nodup.length_le_of_subset h1 h2
    rw [List.length_range, List.length_cons] at this
    omega
/-- each on the right is had by someone -/
theorem Pr.by {h : List Nat} (hp : Pr n h) {j : Nat} (hj : j < n) : ∃ i, i < n ∧ h.getD i 0 = j := by
  have hm := nodup_all hp.2.2 hp.2.1 hp.1 hj
  obtain ⟨i, hi, e⟩ := List.getElem_of_mem hm
  exact ⟨i, by rw [← hp.1]; exact hi, by simp [List.getD, hi, e]⟩
theorem Pr.of {f : Nat → Nat} (hlt : ∀ i, i < n → f i < n) (hinj : ∀ i, i < n → ∀ k, k < n → f i = f k → i = k) : Pr n ((List.range n).map f) := by
  refine ⟨by simp, fun x hx => ?_, ?_⟩
  · obtain ⟨i, hi, rfl⟩ := List.mem_map.1 hx
    exact hlt i (List.mem_range.1 hi)
  · show List.Pairwise (· ≠ ·) _
    rw [List.pairwise_map]
    exact List.Pairwise.imp_of_mem (fun {i k} hi hk hne e => hne (hinj i (List.mem_range.1 hi) k (List.mem_range.1 hk) e)) List.nodup_range
theorem getD_map {f : Nat → Nat} {i : Nat} (hi : i < n) : ((List.range n).map f).getD i 0 = f i := by simp [List.getD, hi]

/-! ### step by step -/
/-- where those on the left are in their rankings, and whom those on the right keep -/
structure Inv (n : Nat) (L R : Nat → Nat → Nat) (pos : Nat → Nat) (eng : Nat → Option Nat) : Prop where
  at_ : ∀ j, j < n → ∀ i, eng j = some i → i < n ∧ L i j = pos i
  better : ∀ i, i < n → ∀ j, j < n → L i j < pos i → ∃ k, eng j = some k ∧ R j k < R j i
  never : ∀ i, i < n → ∀ j, j < n → L i j < pos i → ∀ h, Pr n h → Stab n L R h → h.getD i 0 ≠ j

/-- i asks j, who keeps k: none of the stable pairings has k with j, if j would rather have i -/
theorem Inv.out {pos : Nat → Nat} {eng : Nat → Option Nat} (hL : Ord n L) (hI : Inv n L R pos eng) {i j k : Nat} (hi : i < n) (hj : j < n) (hk : k < n) (hp : L i j = pos i) (hik : i ≠ k) (hr : R j i < R j k) :
    ∀ h, Pr n h → Stab n L R h → h.getD k 0 ≠ j := by
  intro h hP hS e
  have h1 := hP.at_lt hi
  have h2 : ¬ L i (h.getD i 0) < pos i := fun hh => hI.never i hi _ h1 hh h hP hS rfl
  have h3 : L i (h.getD i 0) ≠ L i j := fun hh => by
    have := hL.inj i hi _ h1 j hj hh
    exact hik (hP.at_inj hi hk (this.trans e.symm))
  exact hS i hi k hk ⟨by rw [e]; omega, by rw [e]; exact hr⟩

theorem Inv.start (n : Nat) (L R : Nat → Nat → Nat) : Inv n L R (fun _ => 0) (fun _ => none) :=
  ⟨fun j _ i h => (by cases h), fun i _ j _ h => by omega, fun i _ j _ h => by omega⟩

def upd {α : Type} (f : Nat → α) (a : Nat) (x : α) : Nat → α := fun b => if b = a then x else f b
theorem upd_same {α : Type} (f : Nat → α) (a : Nat) (x : α) : upd f a x a = x := if_pos rfl
theorem upd_ne {α : Type} (f : Nat → α) {a b : Nat} (x : α) (h : b ≠ a) : upd f a x b = f b := if_neg h

/-- j keeps nobody yet -/
theorem Inv.take {pos : Nat → Nat} {eng : Nat → Option Nat} (hI : Inv n L R pos eng) {i j : Nat} (hi : i < n) (hj : j < n) (hp : L i j = pos i) (he : eng j = none) : Inv n L R pos (upd eng j (some i)) := by
  refine ⟨fun j' hj' i' h => ?_, fun i' hi' j' hj' h => ?_, hI.never⟩
  · rcases Decidable.em (j' = j) with e | e
    · subst e
      rw [upd_same] at h
      cases h
      exact ⟨hi, hp⟩
    · rw [upd_ne _ _ e] at h
      exact hI.at_ j' hj' i' h
  · obtain ⟨k, hk, hr⟩ := hI.better i' hi' j' hj' h
    have e : j' ≠ j := fun e => by rw [e, he] at hk; cases hk
    exact ⟨k, by rw [upd_ne _ _ e]; exact hk, hr⟩
/-- j keeps whom it has -/
theorem Inv.keep {pos : Nat → Nat} {eng : Nat → Option Nat} (hL : Ord n L) (hI : Inv n L R pos eng) {i j k : Nat} (hi : i < n) (hj : j < n) (hp : L i j = pos i) (hf : ∀ j', j' < n → eng j' ≠ some i) (he : eng j = some k) (hr : R j k < R j i) : Inv n L R (upd pos i (pos i + 1)) eng := by
  obtain ⟨hk, hpk⟩ := hI.at_ j hj k he
  have hki : k ≠ i := fun e => hf j hj (by rw [he, e])
  refine ⟨fun j' hj' i' h => ?_, fun i' hi' j' hj' h => ?_, fun i' hi' j' hj' h => ?_⟩
  · have e : i' ≠ i := fun e => hf j' hj' (by rw [h, e])
    rw [upd_ne _ _ e]
    exact hI.at_ j' hj' i' h
  · rcases Decidable.em (i' = i) with e | e
    · subst e
      rw [upd_same] at h
      rcases Nat.lt_or_ge (L i' j') (pos i') with h1 | h1
      · exact hI.better i' hi' j' hj' h1
      · have : j' = j := hL.inj i' hi' j' hj' j hj (by omega)
        subst this
        exact ⟨k, he, hr⟩
    · rw [upd_ne _ _ e] at h
      exact hI.better i' hi' j' hj' h
  · rcases Decidable.em (i' = i) with e | e
    · subst e
      rw [upd_same] at h
      rcases Nat.lt_or_ge (L i' j') (pos i') with h1 | h1
      · exact hI.never i' hi' j' hj' h1
      · have : j' = j := hL.inj i' hi' j' hj' j hj (by omega)
        subst this
        exact hI.out hL hk hj hi hpk hki hr
    · rw [upd_ne _ _ e] at h
      exact hI.never i' hi' j' hj' h
/-- j would rather have i -/
theorem Inv.swap {pos : Nat → Nat} {eng : Nat → Option Nat} (hL : Ord n L) (hI : Inv n L R pos eng) {i j k : Nat} (hi : i < n) (hj : j < n) (hp : L i j = pos i) (hf : ∀ j', j' < n → eng j' ≠ some i) (he : eng j = some k) (hr : R j i < R j k) : Inv n L R (upd pos k (pos k + 1)) (upd eng j (some i)) := by
  obtain ⟨hk, hpk⟩ := hI.at_ j hj k he
  have hki : i ≠ k := fun e => hf j hj (by rw [he, e])
  refine ⟨fun j' hj' i' h => ?_, fun i' hi' j' hj' h => ?_, fun i' hi' j' hj' h => ?_⟩
  · rcases Decidable.em (j' = j) with e | e
    · subst e
      rw [upd_same] at h
      cases h
      rw [upd_ne _ _ hki]
      exact ⟨hi, hp⟩
    · rw [upd_ne _ _ e] at h
      obtain ⟨h1, h2⟩ := hI.at_ j' hj' i' h
      have e2 : i' ≠ k := fun e2 => by
        subst e2
        exact e (hL.inj i' h1 j' hj' j hj (by omega))
      rw [upd_ne _ _ e2]
      exact ⟨h1, h2⟩
  · have old : L i' j' < pos i' → ∃ x, upd eng j (some i) j' = some x ∧ R j' x < R j' i' := fun h1 => by
      obtain ⟨x, hx, hr2⟩ := hI.better i' hi' j' hj' h1
      rcases Decidable.em (j' = j) with e | e
      · subst e
        rw [he] at hx
        cases hx
        exact ⟨i, upd_same _ _ _, by omega⟩
      · exact ⟨x, by rw [upd_ne _ _ e]; exact hx, hr2⟩
    rcases Decidable.em (i' = k) with e | e
    · subst e
      rw [upd_same] at h
      rcases Nat.lt_or_ge (L i' j') (pos i') with h1 | h1
      · exact old h1
      · have : j' = j := hL.inj i' hi' j' hj' j hj (by omega)
        subst this
        exact ⟨i, upd_same _ _ _, hr⟩
    · rw [upd_ne _ _ e] at h
      exact old h
  · rcases Decidable.em (i' = k) with e | e
    · subst e
      rw [upd_same] at h
      rcases Nat.lt_or_ge (L i' j') (pos i') with h1 | h1
      · exact hI.never i' hi' j' hj' h1
      · have : j' = j := hL.inj i' hi' j' hj' j hj (by omega)
        subst this
        exact hI.out hL hi hj hi' hp hki hr
    · rw [upd_ne _ _ e] at h
      exact hI.never i' hi' j' hj' h

/-- two on the right do not keep the same one -/
theorem Inv.one {pos : Nat → Nat} {eng : Nat → Option Nat} (hL : Ord n L) (hI : Inv n L R pos eng) {i j k : Nat} (hj : j < n) (hk : k < n) (h1 : eng j = some i) (h2 : eng k = some i) : j = k := by
  obtain ⟨hi, e1⟩ := hI.at_ j hj i h1
  obtain ⟨_, e2⟩ := hI.at_ k hk i h2
  exact hL.inj i hi j hj k hk (by omega)
/-- whom all keep, if all keep someone -/
theorem Inv.full {pos : Nat → Nat} {eng : Nat → Option Nat} (hL : Ord n L) (hI : Inv n L R pos eng) (hall : ∀ j, j < n → ∃ i, eng j = some i) {i : Nat} (hi : i < n) : ∃ j, j < n ∧ eng j = some i := by
  have hP : Pr n ((List.range n).map fun j => (eng j).getD 0) := by
    refine Pr.of (fun j hj => ?_) (fun j hj k hk e => ?_)
    · obtain ⟨x, hx⟩ := hall j hj
      rw [hx]
      exact (hI.at_ j hj x hx).1
    · obtain ⟨x, hx⟩ := hall j hj
      obtain ⟨y, hy⟩ := hall k hk
      rw [hx, hy] at e
      have e' : x = y := e
      subst e'
      exact hI.one hL hj hk hx hy
  obtain ⟨j, hj, e⟩ := hP.by hi
  rw [getD_map hj] at e
  obtain ⟨x, hx⟩ := hall j hj
  rw [hx] at e
  have e' : x = i := e
  subst e'
  exact ⟨j, hj, hx⟩
/-- who is kept by nobody has someone left to ask -/
theorem Inv.more {pos : Nat → Nat} {eng : Nat → Option Nat} (hL : Ord n L) (hI : Inv n L R pos eng) {i : Nat} (hi : i < n) (hf : ∀ j, j < n → eng j ≠ some i) : pos i < n := by
  rcases Nat.lt_or_ge (pos i) n with h | h
  · exact h
  · exfalso
    have hall : ∀ j, j < n → ∃ k, eng j = some k := fun j hj => by
      obtain ⟨k, hk, _⟩ := hI.better i hi j hj (by have := hL.lt i hi j hj; omega)
      exact ⟨k, hk⟩
    obtain ⟨j, hj, e⟩ := hI.full hL hall hi
    exact hf j hj e

/-- all are kept: these pairs are stable, and the best on the left -/
theorem Inv.done {pos : Nat → Nat} {eng : Nat → Option Nat} (hL : Ord n L) (hI : Inv n L R pos eng) {h : List Nat} (hl : h.length = n) (hh : ∀ i, i < n → h.getD i 0 < n ∧ eng (h.getD i 0) = some i) :
    Pr n h ∧ Stab n L R h ∧ ∀ h', Pr n h' → Stab n L R h' → ∀ i, i < n → L i (h.getD i 0) ≤ L i (h'.getD i 0) := by
  have hpos : ∀ i, i < n → L i (h.getD i 0) = pos i := fun i hi => (hI.at_ _ (hh i hi).1 i (hh i hi).2).2
  have hmap : h = (List.range n).map fun i => h.getD i 0 := by
    refine List.ext_getElem (by simp [hl]) fun k h1 h2 => ?_
    simp [List.getD, h1]
  have hP : Pr n h := by
    rw [hmap]
    refine Pr.of (fun i hi => (hh i hi).1) (fun i hi k hk e => ?_)
    have h1 := (hh i hi).2
    have h2 := (hh k hk).2
    have e' : h.getD i 0 = h.getD k 0 := e
    rw [e', h2] at h1
    exact (Option.some.inj h1).symm
  refine ⟨hP, fun i hi k hk ⟨h1, h2⟩ => ?_, fun h' hP' hS' i hi => ?_⟩
  · rw [hpos i hi] at h1
    obtain ⟨x, hx, hr⟩ := hI.better i hi _ (hh k hk).1 h1
    rw [(hh k hk).2] at hx
    cases hx
    omega
  · rcases Nat.lt_or_ge (L i (h'.getD i 0)) (L i (h.getD i 0)) with hlt | hge
    · rw [hpos i hi] at hlt
      exact absurd rfl (hI.never i hi _ (hP'.at_lt hi) hlt h' hP' hS')
    · exact hge

/-! ### there is one -/
/-- how much is left to do -/
def left_ (n : Nat) (pos : Nat → Nat) (eng : Nat → Option Nat) : Nat := ((List.range n).map fun i => n - pos i).sum + (List.range n).countP fun j => (eng j).isNone
theorem sum_upd (f : Nat → Nat) {a x : Nat} : ∀ m, a < m → ((List.range m).map (upd f a x)).sum + f a = ((List.range m).map f).sum + x
  | 0, h => by omega
  | m + 1, h => by
    rw [List.range_succ, List.map_append, List.map_append, List.sum_append, List.sum_append]
    simp only [List.map_cons, List.map_nil, List.sum_cons, List.sum_nil, Nat.add_zero]
    rcases Nat.lt_or_ge a m with h1 | h1
    · have := sum_upd f (x := x) m h1
      rw [upd_ne f x (show m ≠ a by omega)]
      omega
    · obtain rfl : a = m := by omega
      rw [upd_same]
      have : (List.range a).map (upd f a x) = (List.range a).map f := List.map_congr_left fun b hb => upd_ne f x (by have := List.mem_range.1 hb; omega)
      rw [this]
      omega
theorem count_upd (f : Nat → Option Nat) {a i : Nat} (hf : f a = none) : ∀ m, a < m → ((List.range m).countP fun j => (upd f a (some i) j).isNone) + 1 = (List.range m).countP fun j => (f j).isNone
  | 0, h => by omega
  | m + 1, h => by
    rw [List.range_succ, List.countP_append, List.countP_append]
    simp only [List.countP_cons, List.countP_nil, Nat.zero_add]
    rcases Nat.lt_or_ge a m with h1 | h1
    · have := count_upd f (i := i) hf m h1
      rw [upd_ne f _ (show m ≠ a by omega)]
      omega
    · obtain rfl : a = m := by omega
      rw [upd_same, hf]
      have : ((List.range a).countP fun j => (upd f a (some i) j).isNone) = (List.range a).countP fun j => (f j).isNone := List.countP_congr fun b hb => by rw [upd_ne f _ (by have := List.mem_range.1 hb; omega)]
      rw [this]
      simp
theorem count_upd_some (f : Nat → Option Nat) {a i k : Nat} (hf : f a = some k) (m : Nat) : ((List.range m).countP fun j => (upd f a (some i) j).isNone) = (List.range m).countP fun j => (f j).isNone := by
  refine List.countP_congr fun b _ => ?_
  rcases Decidable.em (b = a) with e | e
  · subst e
    rw [upd_same, hf]
    simp
  · rw [upd_ne _ _ e]
theorem map_upd (n : Nat) (pos : Nat → Nat) (i : Nat) : ((List.range n).map fun x => n - upd pos i (pos i + 1) x) = (List.range n).map (upd (fun x => n - pos x) i (n - (pos i + 1))) := by
  refine List.map_congr_left fun x _ => ?_
  unfold upd
  split <;> rfl
theorem Inv.go (hL : Ord n L) (hR : Ord n R) : ∀ (f : Nat) (pos : Nat → Nat) (eng : Nat → Option Nat), left_ n pos eng ≤ f → Inv n L R pos eng → ∃ pos' eng', Inv n L R pos' eng' ∧ ∀ i, i < n → ∃ j, j < n ∧ eng' j = some i := by
  intro f
  induction f with
  | zero =>
    intro pos eng hf hI
    refine ⟨pos, eng, hI, fun i hi => hI.full hL (fun j hj => ?_) hi⟩
    have h0 : (List.range n).countP (fun j => (eng j).isNone) = 0 := by unfold left_ at hf; omega
    rw [List.countP_eq_zero] at h0
    have := h0 j (List.mem_range.2 hj)
    cases he : eng j with
    | none => rw [he] at this; exact absurd rfl this
    | some k => exact ⟨k, rfl⟩
  | succ f ih =>
    intro pos eng hf hI
    by_cases hfree : ∃ i, i < n ∧ ∀ j, j < n → eng j ≠ some i
    · obtain ⟨i, hi, hfr⟩ := hfree
      have hpi := hI.more hL hi hfr
      obtain ⟨j, hj, hp⟩ := hL.sur i hi _ hpi
      cases he : eng j with
      | none =>
        refine ih pos _ ?_ (hI.take hi hj hp he)
        unfold left_ at hf ⊢
        have := count_upd eng (i := i) he n hj
        omega
      | some k =>
        obtain ⟨hk, hpk⟩ := hI.at_ j hj k he
        have hik : i ≠ k := fun e => hfr j hj (by rw [he, e])
        have hpkn : pos k < n := by rw [← hpk]; exact hL.lt k hk j hj
        have hne : R j i ≠ R j k := fun e => hik (hR.inj j hj i hi k hk e)
        rcases Nat.lt_or_ge (R j i) (R j k) with hr | hr
        · refine ih _ _ ?_ (hI.swap hL hi hj hp hfr he hr)
          unfold left_ at hf ⊢
          rw [map_upd, count_upd_some eng he]
          have := sum_upd (fun x => n - pos x) (x := n - (pos k + 1)) n hk
          omega
        · refine ih _ _ ?_ (hI.keep hL hi hj hp hfr he (by omega))
          unfold left_ at hf ⊢
          rw [map_upd]
          have := sum_upd (fun x => n - pos x) (x := n - (pos i + 1)) n hi
          omega
    · refine ⟨pos, eng, hI, fun i hi => ?_⟩
      by_cases h : ∃ j, j < n ∧ eng j = some i
      · exact h
      · exact absurd ⟨i, hi, fun j hj e => h ⟨j, hj, e⟩⟩ hfree

/-- the best on the left of all stable pairs -/
def Opt (n : Nat) (L R : Nat → Nat → Nat) (h : List Nat) : Prop := Pr n h ∧ Stab n L R h ∧ ∀ h', Pr n h' → Stab n L R h' → ∀ i, i < n → L i (h.getD i 0) ≤ L i (h'.getD i 0)
/-- Gale and Shapley -/
theorem opt_ex (hL : Ord n L) (hR : Ord n R) : ∃ h, Opt n L R h := by
  obtain ⟨pos, eng, hI, hall⟩ := Inv.go hL hR _ _ _ (Nat.le_refl _) (Inv.start n L R)
  obtain ⟨g, hg⟩ : ∃ g : Nat → Nat, ∀ i, i < n → g i < n ∧ eng (g i) = some i := by
    refine ⟨fun i => if h : i < n then (hall i h).choose else 0, fun i hi => ?_⟩
    simp only [hi, dite_true]
    exact (hall i hi).choose_spec
  exact ⟨_, hI.done hL (h := (List.range n).map g) (by simp) (fun i hi => by rw [getD_map hi]; exact hg i hi)⟩
theorem Pr.ext {h h' : List Nat} (hP : Pr n h) (hP' : Pr n h') (e : ∀ i, i < n → h.getD i 0 = h'.getD i 0) : h = h' := by
  refine List.ext_getElem (by rw [hP.1, hP'.1]) fun k h1 h2 => ?_
  have := e k (by rw [← hP.1]; exact h1)
  simpa [List.getD, h1, h2] using this
theorem Opt.unique (hL : Ord n L) {h h' : List Nat} (hO : Opt n L R h) (hO' : Opt n L R h') : h = h' :=
  hO.1.ext hO'.1 fun i hi => hL.inj i hi _ (hO.1.at_lt hi) _ (hO'.1.at_lt hi) (Nat.le_antisymm (hO.2.2 _ hO'.1 hO'.2.1 i hi) (hO'.2.2 _ hO.1 hO.2.1 i hi))
/-- who is asked has the worst -/
theorem Opt.worst (hL : Ord n L) {h h' : List Nat} (hO : Opt n L R h) (hP' : Pr n h') (hS' : Stab n L R h') {i k : Nat} (hi : i < n) (hk : k < n) (e : h'.getD k 0 = h.getD i 0) : R (h.getD i 0) k ≤ R (h.getD i 0) i := by
  rcases Nat.lt_or_ge (R (h.getD i 0) i) (R (h.getD i 0) k) with hr | hr
  · exfalso
    have hik : i ≠ k := fun e2 => by subst e2; omega
    have h1 := hO.2.2 h' hP' hS' i hi
    have h2 : L i (h.getD i 0) ≠ L i (h'.getD i 0) := fun e2 => by
      have := hL.inj i hi _ (hO.1.at_lt hi) _ (hP'.at_lt hi) e2
      exact hik (hP'.at_inj hi hk (this.symm.trans e.symm))
    exact hS' i hi k hk ⟨by rw [e]; omega, by rw [e]; exact hr⟩
  · exact hr
/-- where the first ones of all on the left are others, each has his -/
theorem Opt.first (hL : Ord n L) {h f : List Nat} (hO : Opt n L R h) (hf : Pr n f) (h0 : ∀ i, i < n → L i (f.getD i 0) = 0) : h = f := by
  have hS : Stab n L R f := fun i hi k hk ⟨h1, _⟩ => by rw [h0 i hi] at h1; omega
  refine hO.1.ext hf fun i hi => hL.inj i hi _ (hO.1.at_lt hi) _ (hf.at_lt hi) ?_
  have := hO.2.2 f hf hS i hi
  rw [h0 i hi] at this ⊢
  omega

/-! ### turned round -/
/-- r is h seen from the right -/
def Back (n : Nat) (h r : List Nat) : Prop := ∀ i, i < n → r.getD (h.getD i 0) 0 = i
theorem Back.stab {h r : List Nat} (hP : Pr n h) (hr : Pr n r) (hB : Back n h r) (hS : Stab n L R h) : Stab n R L r := by
  intro j hj k hk ⟨h1, h2⟩
  obtain ⟨i, hi, rfl⟩ := hP.by hj
  obtain ⟨i', hi', rfl⟩ := hP.by hk
  rw [hB i hi, hB i' hi'] at h1
  rw [hB i' hi'] at h2
  exact hS i' hi' i hi ⟨h2, h1⟩
theorem Back.ex {h : List Nat} (hP : Pr n h) : ∃ r, Pr n r ∧ Back n h r ∧ Back n r h := by
  obtain ⟨g, hg⟩ : ∃ g : Nat → Nat, ∀ j, j < n → g j < n ∧ h.getD (g j) 0 = j := by
    refine ⟨fun j => if hj : j < n then (hP.by hj).choose else 0, fun j hj => ?_⟩
    simp only [hj, dite_true]
    exact (hP.by hj).choose_spec
  refine ⟨(List.range n).map g, Pr.of (fun j hj => (hg j hj).1) (fun j hj k hk e => ?_), fun i hi => ?_, fun j hj => ?_⟩
  · rw [← (hg j hj).2, ← (hg k hk).2, e]
  · rw [getD_map (hP.at_lt hi)]
    exact hP.at_inj (hg _ (hP.at_lt hi)).1 hi (hg _ (hP.at_lt hi)).2
  · rw [getD_map hj]
    exact (hg j hj).2
/-- if both ways round the pairs are the same there are no others -/
theorem Opt.only (hL : Ord n L) (hR : Ord n R) {h r h' : List Nat} (hO : Opt n L R h) (hO2 : Opt n R L r) (hB : Back n h r) (hP' : Pr n h') (hS' : Stab n L R h') : h' = h := by
  obtain ⟨r', hr', hb1, hb2⟩ := Back.ex hP'
  have hS2 : Stab n R L r' := hb1.stab hP' hr' hS'
  refine hP'.ext hO.1 fun i hi => hL.inj i hi _ (hP'.at_lt hi) _ (hO.1.at_lt hi) (Nat.le_antisymm ?_ (hO.2.2 h' hP' hS' i hi))
  have hj := hO.1.at_lt hi
  have hk := hP'.at_lt hi
  have := hO2.worst hR hr' hS2 (i := h.getD i 0) (k := h'.getD i 0) hj hk (by rw [hb1 i hi, hB i hi])
  rw [hB i hi] at this
  exact this
end

end Go.Proofs.YtojkjdccjomaaaaDoor.St

set_option linter.unusedSimpArgs false
set_option linter.unusedVariables false
namespace Go.Proofs.YtojkjdccjomaaaaDoor.St

/-! ### places -/
def plcF (x : Int) : List Int → Nat → Int
  | [], _ => -1
  | y :: ys, k => if y = x then (k : Int) else plcF x ys (k + 1)
/-- the place of a number in a list, or -1 -/
def plc (l : List Int) (x : Int) : Int := plcF x l 0
theorem plcF_spec (x : Int) : ∀ (l : List Int) (k : Nat), (plcF x l k = -1 ∧ x ∉ l) ∨ ∃ j, j < l.length ∧ plcF x l k = ((k + j : Nat) : Int) ∧ l.getD j 0 = x
  | [], k => .inl ⟨rfl, by simp⟩
  | y :: ys, k => by
    unfold plcF
    by_cases h : y = x
    · rw [if_pos h]
      exact .inr ⟨0, by simp, by simp, by simpa using h⟩
    · rw [if_neg h]
      rcases plcF_spec x ys (k + 1) with ⟨h1, h2⟩ | ⟨j, h1, h2, h3⟩
      · exact .inl ⟨h1, by simp only [List.mem_cons, not_or]; exact ⟨fun e => h e.symm, h2⟩⟩
      · exact .inr ⟨j + 1, by simpa using h1, by rw [h2]; congr 1; omega, by simpa using h3⟩
theorem plc_spec (l : List Int) (x : Int) : (plc l x = -1 ∧ x ∉ l) ∨ ∃ j, j < l.length ∧ plc l x = (j : Int) ∧ l.getD j 0 = x := by
  rcases plcF_spec x l 0 with h | ⟨j, h1, h2, h3⟩
  · exact .inl h
  · exact .inr ⟨j, h1, by unfold plc; rw [h2]; simp, h3⟩
theorem plcF_step {l : List Int} {k : Nat} (hk : k < l.length) (x p : Int) (hp : p = l.getD k 0) : plcF x (l.drop k) k = if p = x then (k : Int) else plcF x (l.drop (k + 1)) (k + 1) := by
  rw [List.drop_eq_getElem_cons hk]
  have : l[k] = p := by rw [hp]; simp [List.getD, hk]
  rw [this]
  rfl
theorem getD_mem {l : List Int} {j : Nat} (hj : j < l.length) : l.getD j 0 ∈ l := by
  have : l.getD j 0 = l[j] := by simp [List.getD, hj]
  rw [this]
  exact List.getElem_mem hj
theorem getD_inj {l : List Int} (hn : l.Nodup) {i j : Nat} (hi : i < l.length) (hj : j < l.length) (e : l.getD i 0 = l.getD j 0) : i = j := by
  have e1 : l.getD i 0 = l[i] := by simp [List.getD, hi]
  have e2 : l.getD j 0 = l[j] := by simp [List.getD, hj]
  rw [e1, e2] at e
  exact (List.getElem_inj hn).1 e
theorem plc_at {l : List Int} (hn : l.Nodup) {k : Nat} (hk : k < l.length) : plc l (l.getD k 0) = (k : Int) := by
  rcases plc_spec l (l.getD k 0) with ⟨_, h⟩ | ⟨j, h1, h2, h3⟩
  · exact absurd (getD_mem hk) h
  · rw [h2, getD_inj hn h1 hk h3]

/-! ### rankings -/
structure Row (n : Nat) (l : List Int) : Prop where
  len : l.length = n
  rng : ∀ x ∈ l, 0 ≤ x ∧ x ≤ (n : Int) - 1
  nodup : l.Nodup
theorem Row.mem {n : Nat} {l : List Int} (h : Row n l) {j : Nat} (hj : j < n) : (j : Int) ∈ l := by
  have hm : j ∈ l.map Int.toNat := by
    refine nodup_all (n := n) ?_ (fun x hx => ?_) (by rw [List.length_map]; exact h.len) hj
    · show List.Pairwise (· ≠ ·) _
      rw [List.pairwise_map]
      exact List.Pairwise.imp_of_mem (fun {x y} hx hy hne e => hne (by have := h.rng x hx; have := h.rng y hy; omega)) h.nodup
    · obtain ⟨y, hy, rfl⟩ := List.mem_map.1 hx
      have := h.rng y hy
      omega
  obtain ⟨y, hy, e⟩ := List.mem_map.1 hm
  have := h.rng y hy
  obtain rfl : y = (j : Int) := by omega
  exact hy
theorem Row.plc {n : Nat} {l : List Int} (h : Row n l) {j : Nat} (hj : j < n) : ∃ p, p < n ∧ plc l (j : Int) = (p : Int) ∧ l.getD p 0 = (j : Int) := by
  rcases plc_spec l (j : Int) with ⟨_, h2⟩ | ⟨p, h1, h2, h3⟩
  · exact absurd (h.mem hj) h2
  · exact ⟨p, by rw [← h.len]; exact h1, h2, h3⟩
/-- the place of j for i -/
def pl (rows : List (List Int)) (i j : Nat) : Nat := (plc (rows.getD i []) (j : Int)).toNat
/-- n rankings of n -/
def Rks (n : Nat) (rows : List (List Int)) : Prop := rows.length = n ∧ ∀ row ∈ rows, Row n row
theorem Rks.row {n : Nat} {rows : List (List Int)} (h : Rks n rows) {i : Nat} (hi : i < n) : Row n (rows.getD i []) := by
  have hl : i < rows.length := by rw [h.1]; exact hi
  have : rows.getD i [] = rows[i] := by simp [List.getD, hl]
  rw [this]
  exact h.2 _ (List.getElem_mem hl)
theorem Rks.pl {n : Nat} {rows : List (List Int)} (h : Rks n rows) {i j : Nat} (hi : i < n) (hj : j < n) : plc (rows.getD i []) (j : Int) = (St.pl rows i j : Int) := by
  obtain ⟨p, h1, h2, h3⟩ := (h.row hi).plc hj
  unfold St.pl
  rw [h2]
  rfl
theorem Rks.ord {n : Nat} {rows : List (List Int)} (h : Rks n rows) : Ord n (St.pl rows) := by
  refine ⟨fun i hi j hj => ?_, fun i hi j hj k hk e => ?_, fun i hi p hp => ?_⟩
  · obtain ⟨p, h1, h2, h3⟩ := (h.row hi).plc hj
    unfold St.pl
    rw [h2]
    simpa using h1
  · obtain ⟨p, h1, h2, h3⟩ := (h.row hi).plc hj
    obtain ⟨q, g1, g2, g3⟩ := (h.row hi).plc hk
    unfold St.pl at e
    rw [h2, g2] at e
    have : p = q := by simpa using e
    subst this
    omega
  · have hr := h.row hi
    have hpl : p < (rows.getD i []).length := by rw [hr.len]; exact hp
    have hg := hr.rng _ (getD_mem hpl)
    refine ⟨((rows.getD i []).getD p 0).toNat, by omega, ?_⟩
    unfold St.pl
    rw [Int.toNat_of_nonneg hg.1, plc_at hr.nodup hpl]
    simp

/-! ### what is wrong -/
/-- do all lie there? -/
def allB (a b : Int) (l : List Int) : Bool := l.all fun x => decide (a ≤ x) && decide (x ≤ b)
theorem allB_iff {a b : Int} {l : List Int} : allB a b l = true ↔ ∀ x ∈ l, a ≤ x ∧ x ≤ b := by simp [allB]
/-- what is wrong with one ranking of n -/
def rcode (n : Nat) (l : List Int) : Int := if l.length ≠ n then 3 else if allB 0 ((n : Int) - 1) l = false then 1 else if ¬ l.Nodup then 6 else 0
theorem rcode_zero {n : Nat} {l : List Int} : rcode n l = 0 ↔ Row n l := by
  unfold rcode
  constructor
  · intro h
    split at h
    · omega
    · rename_i h1
      split at h
      · omega
      · rename_i h2
        split at h
        · omega
        · rename_i h3
          refine ⟨Classical.not_not.1 h1, allB_iff.1 (by simpa using h2), Classical.not_not.1 h3⟩
  · intro h
    rw [if_neg (fun e => e h.len), if_neg (by rw [allB_iff.2 h.rng]; simp), if_neg (fun e => e h.nodup)]
/-- the first wrong ranking -/
def scode (n : Nat) : List (List Int) → Int
  | [] => 0
  | l :: ls => if rcode n l ≠ 0 then rcode n l else scode n ls
theorem scode_zero {n : Nat} : ∀ {rows : List (List Int)}, scode n rows = 0 ↔ ∀ row ∈ rows, Row n row
  | [] => by simp [scode]
  | l :: ls => by
    unfold scode
    by_cases h : rcode n l ≠ 0
    · rw [if_pos h]
      constructor
      · intro e; exact absurd e h
      · intro hh; exact absurd (rcode_zero.2 (hh l (by simp))) h
    · rw [if_neg h, scode_zero (rows := ls)]
      have hl := rcode_zero.1 (Classical.not_not.1 h)
      constructor
      · intro hh row hr
        rcases List.mem_cons.1 hr with rfl | hr
        · exact hl
        · exact hh row hr
      · intro hh row hr
        exact hh row (List.mem_cons_of_mem _ hr)
theorem scode_step {n : Nat} {rows : List (List Int)} {k : Nat} (hk : k < rows.length) (row : List Int) (hr : row = rows.getD k []) : scode n (rows.drop k) = if rcode n row ≠ 0 then rcode n row else scode n (rows.drop (k + 1)) := by
  rw [List.drop_eq_getElem_cons hk]
  have : rows[k] = row := by rw [hr]; simp [List.getD, hk]
  rw [this]
  rfl
/-- what is wrong with the rankings of both sides -/
def code (left right : List (List Int)) : Int := if 6 < left.length ∨ 6 < right.length then 4 else if left.length ≠ right.length then 3 else if scode left.length left ≠ 0 then scode left.length left else scode right.length right
theorem code_zero {left right : List (List Int)} : code left right = 0 ↔ left.length ≤ 6 ∧ Rks left.length left ∧ Rks left.length right := by
  unfold code
  by_cases h1 : 6 < left.length ∨ 6 < right.length
  · rw [if_pos h1]
    constructor
    · intro h; omega
    · rintro ⟨h2, _, h3⟩
      have := h3.1
      omega
  · rw [if_neg h1]
    by_cases h2 : left.length ≠ right.length
    · rw [if_pos h2]
      constructor
      · intro h; omega
      · rintro ⟨_, _, h3⟩; exact absurd h3.1.symm h2
    · rw [if_neg h2]
      have h2' := Classical.not_not.1 h2
      by_cases h3 : scode left.length left ≠ 0
      · rw [if_pos h3]
        constructor
        · intro h; exact absurd h h3
        · rintro ⟨_, h4, _⟩; exact absurd (scode_zero.2 h4.2) h3
      · rw [if_neg h3]
        have h3' := scode_zero.1 (Classical.not_not.1 h3)
        constructor
        · intro h
          refine ⟨by omega, ⟨rfl, h3'⟩, h2'.symm, ?_⟩
          have := scode_zero.1 h
          rw [← h2'] at this
          exact this
        · rintro ⟨_, _, h4⟩
          rw [← h2']
          exact scode_zero.2 h4.2

/-! ### stable pairs -/
def up (l : List Nat) : List Int := l.map fun b => ((b : Nat) : Int)
theorem up_len (l : List Nat) : (up l).length = l.length := by simp [up]
theorem up_at (l : List Nat) (k : Nat) : (up l).getD k 0 = ((l.getD k 0 : Nat) : Int) := by
  simp only [up, List.getD, List.getElem?_map]
  cases l[k]? <;> rfl
theorem up_inj : ∀ {l l' : List Nat}, up l = up l' → l = l'
  | [], [], _ => rfl
  | [], _ :: _, h => by simp [up] at h
  | _ :: _, [], h => by simp [up] at h
  | a :: l, b :: l', h => by
    simp only [up, List.map_cons, List.cons.injEq] at h
    have h1 : a = b := by omega
    rw [h1, up_inj (l := l) (l' := l') h.2]
theorem Pr.row {n : Nat} {h : List Nat} (hp : Pr n h) : Row n (up h) := by
  refine ⟨by rw [up_len]; exact hp.1, fun x hx => ?_, ?_⟩
  · unfold up at hx
    obtain ⟨y, hy, rfl⟩ := List.mem_map.1 hx
    have := hp.2.1 y hy
    omega
  · show List.Pairwise (· ≠ ·) _
    unfold up
    rw [List.pairwise_map]
    exact hp.2.2.imp fun hne e => hne (by omega)
/-- every list of that kind says pairs -/
theorem Row.pr {n : Nat} {l : List Int} (h : Row n l) : ∃ p, l = up p ∧ Pr n p := by
  have e : l = up (l.map Int.toNat) := by
    unfold up
    rw [List.map_map]
    refine (List.map_id l).symm.trans (List.map_congr_left fun x hx => ?_)
    have := h.rng x hx
    show x = ((x.toNat : Nat) : Int)
    omega
  refine ⟨l.map Int.toNat, e, by rw [List.length_map]; exact h.len, fun x hx => ?_, ?_⟩
  · obtain ⟨y, hy, rfl⟩ := List.mem_map.1 hx
    have := h.rng y hy
    omega
  · show List.Pairwise (· ≠ ·) _
    rw [List.pairwise_map]
    exact List.Pairwise.imp_of_mem (fun {x y} hx hy hne e => hne (by have := h.rng x hx; have := h.rng y hy; omega)) h.nodup
/-- would i and j rather have each other? -/
def blk (left right : List (List Int)) (has : List Int) (i j : Nat) : Bool := decide (plc (left.getD i []) (j : Int) < plc (left.getD i []) (has.getD i 0)) && decide (plc (right.getD j []) (i : Int) < plc (right.getD j []) (plc has (j : Int)))
def stb (n : Nat) (left right : List (List Int)) (has : List Int) : Bool := (List.range n).all fun i => (List.range n).all fun j => !blk left right has i j
theorem stb_iff {n : Nat} {left right : List (List Int)} (hL : Rks n left) (hR : Rks n right) {h : List Nat} (hp : Pr n h) : stb n left right (up h) = true ↔ Stab n (pl left) (pl right) h := by
  have hrow := hp.row
  have key : ∀ i, i < n → ∀ k, k < n → (blk left right (up h) i (h.getD k 0) = true ↔ pl left i (h.getD k 0) < pl left i (h.getD i 0) ∧ pl right (h.getD k 0) i < pl right (h.getD k 0) k) := by
    intro i hi k hk
    unfold blk
    have hkl : k < (up h).length := by rw [hrow.len]; exact hk
    rw [← up_at h k, plc_at hrow.nodup hkl, up_at, up_at, hL.pl hi (hp.at_lt hk), hL.pl hi (hp.at_lt hi), hR.pl (hp.at_lt hk) hi, hR.pl (hp.at_lt hk) hk]
    simp only [Bool.and_eq_true, decide_eq_true_eq]
    omega
  unfold stb Stab
  simp only [List.all_eq_true, List.mem_range, Bool.not_eq_true']
  constructor
  · intro hh i hi k hk hb
    have := hh i hi (h.getD k 0) (hp.at_lt hk)
    rw [(key i hi k hk).2 hb] at this
    cases this
  · intro hh i hi j hj
    obtain ⟨k, hk, rfl⟩ := hp.by hj
    cases hb : blk left right (up h) i (h.getD k 0)
    · rfl
    · exact absurd ((key i hi k hk).1 hb) (hh i hi k hk)

/-! ### the best of all, by trying all -/
section
variable (n : Nat) (left right : List (List Int))
/-- the better of two at each of the first k -/
def best (l : List Nat) (acc : List Nat) : Nat → List Nat
  | 0 => acc
  | k + 1 => if plc (left.getD k []) ((l.getD k 0 : Nat) : Int) < plc (left.getD k []) (((best l acc k).getD k 0 : Nat) : Int) then (best l acc k).set k (l.getD k 0) else best l acc k
/-- one more that may come next: l is what comes of it -/
def joinB (out l : List Nat) : List Nat := if l = [] then out else best left l (if out = [] then l else out) n
/-- of the first k that may come next -/
def stbsTo (f : List Nat → List Nat) (has : List Nat) : Nat → List Nat
  | 0 => []
  | k + 1 => if has.contains k = true then stbsTo f has k else joinB n left (stbsTo f has k) (f (has ++ [k]))
/-- of all stable pairs that begin with some the best for each on the left -/
def stbs : Nat → List Nat → List Nat
  | 0, has => if stb n left right (up has) = true then has else []
  | f + 1, has => stbsTo n left (stbs f) has n
end
section
variable {n : Nat} {left right : List (List Int)}
theorem best_len (l acc : List Nat) : ∀ k, (best left l acc k).length = acc.length
  | 0 => rfl
  | k + 1 => by
    unfold best
    split
    · rw [List.length_set]; exact best_len l acc k
    · exact best_len l acc k
theorem set_at (xs : List Nat) (i j x : Nat) (hi : i < xs.length) : (xs.set i x).getD j 0 = if j = i then x else xs.getD j 0 := by
  simp only [List.getD, List.getElem?_set]
  by_cases e : i = j
  · subst e; simp [hi]
  · have : ¬ j = i := fun h => e h.symm
    simp [e, this]
theorem best_at (l acc : List Nat) (hl : acc.length = n) : ∀ k, k ≤ n → ∀ i, (best left l acc k).getD i 0 = if i < k ∧ plc (left.getD i []) ((l.getD i 0 : Nat) : Int) < plc (left.getD i []) ((acc.getD i 0 : Nat) : Int) then l.getD i 0 else acc.getD i 0
  | 0, _, i => by rw [if_neg (by omega)]; rfl
  | k + 1, hk, i => by
    have ih := best_at l acc hl k (by omega)
    have hkk : (best left l acc k).getD k 0 = acc.getD k 0 := by rw [ih k, if_neg (by omega)]
    unfold best
    rw [hkk]
    by_cases hc : plc (left.getD k []) ((l.getD k 0 : Nat) : Int) < plc (left.getD k []) ((acc.getD k 0 : Nat) : Int)
    · rw [if_pos hc, set_at _ _ _ _ (by rw [best_len, hl]; omega)]
      by_cases e : i = k
      · subst e
        rw [if_pos rfl, if_pos ⟨by omega, hc⟩]
      · rw [if_neg e, ih i]
        by_cases h1 : i < k
        · have h2 : i < k + 1 := by omega
          simp only [h1, h2, true_and]
        · have h2 : ¬ i < k + 1 := by omega
          simp only [h1, h2, false_and, if_false]
    · rw [if_neg hc, ih i]
      by_cases e : i = k
      · subst e
        rw [if_neg (by omega), if_neg (fun h => hc h.2)]
      · by_cases h1 : i < k
        · have h2 : i < k + 1 := by omega
          simp only [h1, h2, true_and]
        · have h2 : ¬ i < k + 1 := by omega
          simp only [h1, h2, false_and, if_false]
/-- out is the best, place by place, of the pairs that P says -/
def Bst (n : Nat) (left : List (List Int)) (P : List Nat → Prop) (out : List Nat) : Prop :=
  (out = [] ∧ ∀ h, ¬ P h) ∨ (out.length = n ∧ (∃ h, P h) ∧ (∀ i, i < n → ∃ h, P h ∧ out.getD i 0 = h.getD i 0) ∧ ∀ h, P h → ∀ i, i < n → pl left i (out.getD i 0) ≤ pl left i (h.getD i 0))
theorem Bst.join (hL : Rks n left) (h1 : 1 ≤ n) {P Q : List Nat → Prop} (hP : ∀ h, P h → Pr n h) (hQ : ∀ h, Q h → Pr n h) {out l : List Nat} (ho : Bst n left P out) (hl : Bst n left Q l) : Bst n left (fun h => P h ∨ Q h) (joinB n left out l) := by
  unfold joinB
  rcases hl with ⟨rfl, hl⟩ | ⟨hl1, hl2, hl3, hl4⟩
  · rw [if_pos rfl]
    rcases ho with ⟨rfl, ho⟩ | ⟨ho1, ho2, ho3, ho4⟩
    · exact .inl ⟨rfl, fun h hh => hh.elim (ho h) (hl h)⟩
    · refine .inr ⟨ho1, by obtain ⟨h, hh⟩ := ho2; exact ⟨h, .inl hh⟩, fun i hi => ?_, fun h hh i hi => ?_⟩
      · obtain ⟨h, hh, e⟩ := ho3 i hi
        exact ⟨h, .inl hh, e⟩
      · rcases hh with hh | hh
        · exact ho4 h hh i hi
        · exact absurd hh (hl h)
  · have hne : l ≠ [] := fun e => by rw [e] at hl1; simp at hl1; omega
    rw [if_neg hne]
    have hlt : ∀ i, i < n → l.getD i 0 < n := fun i hi => by
      obtain ⟨h, hh, e⟩ := hl3 i hi
      rw [e]
      exact (hQ h hh).at_lt hi
    rcases ho with ⟨rfl, ho⟩ | ⟨ho1, ho2, ho3, ho4⟩
    · rw [if_pos rfl]
      have hb : ∀ i, (best left l l n).getD i 0 = l.getD i 0 := fun i => by rw [best_at l l hl1 n (Nat.le_refl _) i]; split <;> rfl
      refine .inr ⟨by rw [best_len]; exact hl1, by obtain ⟨h, hh⟩ := hl2; exact ⟨h, .inr hh⟩, fun i hi => ?_, fun h hh i hi => ?_⟩
      · obtain ⟨h, hh, e⟩ := hl3 i hi
        exact ⟨h, .inr hh, by rw [hb, e]⟩
      · rw [hb]
        rcases hh with hh | hh
        · exact absurd hh (ho h)
        · exact hl4 h hh i hi
    · have hone : out ≠ [] := fun e => by rw [e] at ho1; simp at ho1; omega
      rw [if_neg hone]
      have hot : ∀ i, i < n → out.getD i 0 < n := fun i hi => by
        obtain ⟨h, hh, e⟩ := ho3 i hi
        rw [e]
        exact (hP h hh).at_lt hi
      have hb : ∀ i, i < n → (best left l out n).getD i 0 = if pl left i (l.getD i 0) < pl left i (out.getD i 0) then l.getD i 0 else out.getD i 0 := fun i hi => by
        rw [best_at l out ho1 n (Nat.le_refl _) i, hL.pl hi (hlt i hi), hL.pl hi (hot i hi)]
        have : ((pl left i (l.getD i 0) : Int) < (pl left i (out.getD i 0) : Int)) ↔ pl left i (l.getD i 0) < pl left i (out.getD i 0) := by omega
        simp only [hi, true_and, this]
      refine .inr ⟨by rw [best_len]; exact ho1, by obtain ⟨h, hh⟩ := ho2; exact ⟨h, .inl hh⟩, fun i hi => ?_, fun h hh i hi => ?_⟩
      · rw [hb i hi]
        split
        · obtain ⟨h, hh, e⟩ := hl3 i hi
          exact ⟨h, .inr hh, e⟩
        · obtain ⟨h, hh, e⟩ := ho3 i hi
          exact ⟨h, .inl hh, e⟩
      · rw [hb i hi]
        rcases hh with hh | hh
        · have := ho4 h hh i hi
          split <;> omega
        · have := hl4 h hh i hi
          split <;> omega
theorem Bst.congr {P Q : List Nat → Prop} {out : List Nat} (h : Bst n left P out) (e : ∀ h, P h ↔ Q h) : Bst n left Q out := by
  have : P = Q := funext fun h => propext (e h)
  rw [← this]
  exact h
/-- stable pairs that begin with some -/
def Ext (n : Nat) (left right : List (List Int)) (has h : List Nat) : Prop := Pr n h ∧ Stab n (pl left) (pl right) h ∧ has <+: h
theorem Ext.next {has h : List Nat} (he : Ext n left right has h) (hl : has.length < n) : ∃ k, k < n ∧ k ∉ has ∧ Ext n left right (has ++ [k]) h := by
  obtain ⟨hp, hs, t, rfl⟩ := he
  cases t with
  | nil =>
    have := hp.1
    rw [List.append_nil] at this
    omega
  | cons k t =>
    refine ⟨k, hp.2.1 k (by simp), fun hm => ?_, hp, hs, t, by simp⟩
    have := hp.2.2
    rw [List.nodup_append] at this
    exact this.2.2 k hm k (by simp) rfl
theorem stbsTo_spec (hL : Rks n left) (h1 : 1 ≤ n) {f : List Nat → List Nat} {has : List Nat} (hf : ∀ k, k < n → k ∉ has → Bst n left (Ext n left right (has ++ [k])) (f (has ++ [k]))) :
    ∀ k, k ≤ n → Bst n left (fun h => ∃ j, j < k ∧ j ∉ has ∧ Ext n left right (has ++ [j]) h) (stbsTo n left f has k)
  | 0, _ => .inl ⟨rfl, fun h ⟨j, hj, _⟩ => by omega⟩
  | k + 1, hk => by
    have ih := stbsTo_spec hL h1 hf k (by omega)
    unfold stbsTo
    by_cases hm : has.contains k = true
    · rw [if_pos hm]
      have hm' : k ∈ has := by simpa using hm
      refine ih.congr fun h => ⟨?_, ?_⟩
      · rintro ⟨j, h2, h3, h4⟩; exact ⟨j, by omega, h3, h4⟩
      · rintro ⟨j, h2, h3, h4⟩
        refine ⟨j, ?_, h3, h4⟩
        rcases Nat.lt_or_ge j k with h5 | h5
        · exact h5
        · obtain rfl : j = k := by omega
          exact absurd hm' h3
    · rw [if_neg hm]
      have hm' : k ∉ has := by simpa using hm
      refine (Bst.join hL h1 (fun h ⟨j, _, _, h4⟩ => h4.1) (fun h h4 => h4.1) ih (hf k (by omega) hm')).congr fun h => ⟨?_, ?_⟩
      · rintro (⟨j, h2, h3, h4⟩ | h4)
        · exact ⟨j, by omega, h3, h4⟩
        · exact ⟨k, by omega, hm', h4⟩
      · rintro ⟨j, h2, h3, h4⟩
        rcases Nat.lt_or_ge j k with h5 | h5
        · exact .inl ⟨j, h5, h3, h4⟩
        · obtain rfl : j = k := by omega
          exact .inr h4
theorem stbs_spec (hL : Rks n left) (hR : Rks n right) (h1 : 1 ≤ n) : ∀ (f : Nat) (has : List Nat), has.length + f = n → has.Nodup → (∀ x ∈ has, x < n) → Bst n left (Ext n left right has) (stbs n left right f has)
  | 0, has, hl, hn, hx => by
    have hp : Pr n has := ⟨by omega, hx, hn⟩
    have huniq : ∀ h, Ext n left right has h → h = has := fun h he => by
      obtain ⟨hp', _, hpre⟩ := he
      exact (hpre.eq_of_length (by rw [hp.1, hp'.1])).symm
    unfold stbs
    by_cases hs : stb n left right (up has) = true
    · rw [if_pos hs]
      have hst := (stb_iff hL hR hp).1 hs
      have he : Ext n left right has has := ⟨hp, hst, List.prefix_rfl⟩
      exact .inr ⟨hp.1, ⟨has, he⟩, fun i _ => ⟨has, he, rfl⟩, fun h hh i _ => by rw [huniq h hh]; exact Nat.le_refl _⟩
    · rw [if_neg hs]
      refine .inl ⟨rfl, fun h hh => hs ?_⟩
      have := hh.2.1
      rw [huniq h hh] at this
      exact (stb_iff hL hR hp).2 this
  | f + 1, has, hl, hn, hx => by
    have ih := stbs_spec hL hR h1 f
    have := stbsTo_spec (left := left) (right := right) hL h1 (f := stbs n left right f) (has := has) (fun k hk hm => ih (has ++ [k]) (by simp; omega) (by
      rw [List.nodup_append]
      exact ⟨hn, by simp, fun a ha b hb e => hm (by simp at hb; rw [← hb, ← e]; exact ha)⟩) (fun x hx' => by
      rcases List.mem_append.1 hx' with h2 | h2
      · exact hx x h2
      · obtain rfl : x = k := by simpa using h2
        exact hk)) n (Nat.le_refl _)
    unfold stbs
    refine this.congr fun h => ⟨?_, fun he => ?_⟩
    · rintro ⟨j, _, _, h4⟩
      exact ⟨h4.1, h4.2.1, (List.prefix_append has [j]).trans h4.2.2⟩
    · obtain ⟨k, h2, h3, h4⟩ := he.next (by omega)
      exact ⟨k, h2, h3, h4⟩
/-- of all: the best pairing -/
theorem stbs_opt (hL : Rks n left) (hR : Rks n right) {h : List Nat} (ho : Opt n (pl left) (pl right) h) : stbs n left right n [] = h := by
  rcases Nat.eq_zero_or_pos n with h0 | h1
  · subst h0
    have hh : h = [] := List.eq_nil_of_length_eq_zero ho.1.1
    subst hh
    unfold stbs
    split <;> rfl
  · have hE : ∀ h', Ext n left right [] h' ↔ Pr n h' ∧ Stab n (pl left) (pl right) h' := fun h' => ⟨fun e => ⟨e.1, e.2.1⟩, fun e => ⟨e.1, e.2, List.nil_prefix⟩⟩
    rcases stbs_spec hL hR h1 n [] (by simp) List.nodup_nil (by simp) with ⟨_, hn⟩ | ⟨hlen, _, h3, h4⟩
    · exact absurd ((hE h).2 ⟨ho.1, ho.2.1⟩) (hn h)
    · refine List.ext_getElem (by rw [hlen, ho.1.1]) fun i hi1 hi2 => ?_
      have hi : i < n := by rw [← hlen]; exact hi1
      obtain ⟨h', hh', e⟩ := h3 i hi
      have hp' := (hE h').1 hh'
      have a1 := h4 h ((hE h).2 ⟨ho.1, ho.2.1⟩) i hi
      have a2 := ho.2.2 h' hp'.1 hp'.2 i hi
      rw [← e] at a2
      have hlt : (stbs n left right n []).getD i 0 < n := by rw [e]; exact hp'.1.at_lt hi
      have := hL.ord.inj i hi _ hlt _ (ho.1.at_lt hi) (Nat.le_antisymm a1 a2)
      simpa [List.getD, hi1, hi2] using this
end

end Go.Proofs.YtojkjdccjomaaaaDoor.St

set_option linter.unusedSimpArgs false
set_option linter.unusedVariables false
namespace Go.Proofs.YtojkjdccjomaaaaDoor.To
open Wa (wk wk_zero wk_succ wk_add wk_one)

/-- where lines go from a point -/
def frow (m : Nat) (ls : List Gr.Ln) (a : Nat) : List Nat := (List.range m).filter fun b : Nat => Gr.has ls (a : Int) (b : Int)
theorem mem_frow {m : Nat} {ls : List Gr.Ln} {a b : Nat} : b ∈ frow m ls a ↔ b < m ∧ Gr.has ls (a : Int) (b : Int) = true := by simp [frow, List.mem_filter]
theorem frow_ok (m : Nat) (ls : List Gr.Ln) : Wa.Ok m (frow m ls) := fun a _ b hb => (mem_frow.1 hb).1
/-- the ends of a line that is good -/
theorem ends {n : Nat} {ls : List Gr.Ln} (hg : ∀ p ∈ ls, Gr.Good (n : Int) p) {a b : Int} (h : Gr.has ls a b = true) : ∃ i j : Nat, a = (i : Int) ∧ b = (j : Int) ∧ i < n ∧ j < n ∧ i ≠ j := by
  have := hg _ (Gr.has_iff.1 h)
  unfold Gr.Good at this
  simp only at this
  exact ⟨a.toNat, b.toNat, by omega, by omega, by omega, by omega, by omega⟩

/-! ### who may come next -/
/-- it is not out, and all that its lines come from are -/
def freeAt (ls : List Gr.Ln) (o : List Int) (i : Int) : Bool := !o.contains i && ls.all fun p => decide (p.2 ≠ i) || o.contains p.1
theorem freeAt_iff {ls : List Gr.Ln} {o : List Int} {i : Int} : freeAt ls o i = true ↔ i ∉ o ∧ ∀ a, Gr.has ls a i = true → a ∈ o := by
  unfold freeAt
  simp only [Bool.and_eq_true, Bool.not_eq_true', List.all_eq_true, Bool.or_eq_true, decide_eq_true_eq, List.contains_iff_mem]
  constructor
  · rintro ⟨h1, h2⟩
    refine ⟨fun h => (by rw [← List.contains_iff_mem] at h; rw [h] at h1; cases h1), fun a ha => ?_⟩
    rcases h2 _ (Gr.has_iff.1 ha) with h | h
    · exact absurd rfl h
    · exact h
  · rintro ⟨h1, h2⟩
    have h3 : o.contains i = false := by
      cases h : o.contains i with
      | false => rfl
      | true => exact absurd (List.contains_iff_mem.1 h) h1
    refine ⟨h3, fun p hp => ?_⟩
    by_cases e : p.2 = i
    · exact .inr (h2 p.1 (Gr.has_iff.2 (by rw [← e]; exact hp)))
    · exact .inl e
/-- the least of them -/
def IsMin (n : Nat) (ls : List Gr.Ln) (o : List Int) (x : Int) : Prop := ∃ i : Nat, i < n ∧ x = (i : Int) ∧ freeAt ls o (i : Int) = true ∧ ∀ j : Nat, j < i → freeAt ls o (j : Int) = false
theorem IsMin.unique {n : Nat} {ls : List Gr.Ln} {o : List Int} {x y : Int} (h : IsMin n ls o x) (h' : IsMin n ls o y) : x = y := by
  obtain ⟨i, _, rfl, h1, h2⟩ := h
  obtain ⟨j, _, rfl, h3, h4⟩ := h'
  rcases Nat.lt_trichotomy i j with hlt | rfl | hlt
  · rw [h4 i hlt] at h1; cases h1
  · rfl
  · rw [h2 j hlt] at h3; cases h3
/-- each one is the least that may come next -/
def Step (n : Nat) (ls : List Gr.Ln) (o : List Int) : Prop := ∀ k, k < o.length → IsMin n ls (o.take k) (o.getD k 0)
/-- none may come next -/
def Stuck (n : Nat) (ls : List Gr.Ln) (o : List Int) : Prop := ∀ i : Nat, i < n → freeAt ls o (i : Int) = false
theorem Step.nil (n : Nat) (ls : List Gr.Ln) : Step n ls [] := fun k hk => absurd hk (Nat.not_lt_zero _)
theorem Step.snoc {n : Nat} {ls : List Gr.Ln} {o : List Int} {x : Int} (h : Step n ls o) (hx : IsMin n ls o x) : Step n ls (o ++ [x]) := by
  intro k hk
  rw [List.length_append, List.length_singleton] at hk
  by_cases e : k = o.length
  · subst e
    have e1 : (o ++ [x]).take o.length = o := by simp
    have e2 : (o ++ [x]).getD o.length 0 = x := by simp [List.getD]
    rw [e1, e2]
    exact hx
  · have hk' : k < o.length := by omega
    have e1 : (o ++ [x]).take k = o.take k := by rw [List.take_append_of_le_length (by omega)]
    have e2 : (o ++ [x]).getD k 0 = o.getD k 0 := by simp [List.getD, List.getElem?_append_left hk']
    rw [e1, e2]
    exact h k hk'
theorem Step.range {n : Nat} {ls : List Gr.Ln} {o : List Int} (h : Step n ls o) : ∀ x ∈ o, ∃ i : Nat, i < n ∧ x = (i : Int) := by
  intro x hx
  obtain ⟨k, hk, rfl⟩ := List.mem_iff_getElem.1 hx
  obtain ⟨i, hi, e, _⟩ := h k hk
  exact ⟨i, hi, by rw [← e]; simp [List.getD, hk]⟩
theorem Step.nodup {n : Nat} {ls : List Gr.Ln} {o : List Int} (h : Step n ls o) : o.Nodup := by
  show List.Pairwise (· ≠ ·) o
  rw [List.pairwise_iff_getElem]
  intro i j hi hj hij e
  obtain ⟨x, _, e1, hf, _⟩ := h j hj
  have e2 : o.getD j 0 = o[j] := by simp [List.getD, hj]
  rw [← e1, e2, ← e] at hf
  exact (freeAt_iff.1 hf).1 (List.mem_take_iff_getElem.2 ⟨i, by omega, rfl⟩)
theorem Step.le {n : Nat} {ls : List Gr.Ln} {o : List Int} (h : Step n ls o) : o.length ≤ n := by
  have hsub : (o.map Int.toNat).length ≤ (List.range n).length := by
    refine List.Nodup.length_le_of_subset ?_ fun x hx => ?_
    · show List.Pairwise (· ≠ ·) _
      rw [List.pairwise_map]
      refine List.Pairwise.imp_of_mem (fun {x y} hx hy hne e => ?_) h.nodup
      obtain ⟨i, _, rfl⟩ := h.range x hx
      obtain ⟨j, _, rfl⟩ := h.range y hy
      simp only [Int.toNat_natCast] at e
      exact hne (by rw [e])
    · obtain ⟨y, hy, rfl⟩ := List.mem_map.1 hx
      obtain ⟨i, hi, rfl⟩ := h.range y hy
      exact List.mem_range.2 (by simpa using hi)
  simpa using hsub
theorem Step.row {n : Nat} {ls : List Gr.Ln} {o : List Int} (h : Step n ls o) (hl : o.length = n) : St.Row n o := ⟨hl, fun x hx => by obtain ⟨i, hi, rfl⟩ := h.range x hx; omega, h.nodup⟩
theorem Step.same {n : Nat} {ls : List Gr.Ln} {o o' : List Int} (h : Step n ls o) (h' : Step n ls o') : ∀ k, k ≤ o.length → k ≤ o'.length → o.take k = o'.take k
  | 0, _, _ => by simp
  | k + 1, h1, h2 => by
    have ih := Step.same h h' k (by omega) (by omega)
    have a := h k (by omega)
    have b := h' k (by omega)
    rw [ih] at a
    have e := a.unique b
    rw [List.take_succ_eq_append_getElem (by omega), List.take_succ_eq_append_getElem (by omega), ih]
    have e1 : o.getD k 0 = o[k] := by simp [List.getD, show k < o.length by omega]
    have e2 : o'.getD k 0 = o'[k] := by simp [List.getD, show k < o'.length by omega]
    rw [e1, e2] at e
    rw [e]
/-- there is one such order -/
theorem Step.only {n : Nat} {ls : List Gr.Ln} {o o' : List Int} (h : Step n ls o) (h' : Step n ls o') (hl : o.length = n) (hl' : o'.length = n) : o = o' := by
  have := h.same h' n (by omega) (by omega)
  rwa [List.take_of_length_le (by omega), List.take_of_length_le (by omega)] at this
/-- if there is one, no other one gets stuck -/
theorem Step.free {n : Nat} {ls : List Gr.Ln} {o o' : List Int} (h : Step n ls o) (hl : o.length = n) (h' : Step n ls o') (hs : Stuck n ls o') : o'.length = n := by
  rcases Nat.lt_or_ge o'.length n with hlt | hge
  · exfalso
    have e := h.same h' o'.length (by omega) (Nat.le_refl _)
    rw [List.take_of_length_le (Nat.le_refl _)] at e
    obtain ⟨i, hi, _, hf, _⟩ := h o'.length (by omega)
    rw [e, hs i hi] at hf
    cases hf
  · exact Nat.le_antisymm h'.le hge
theorem min_or_stuck (n : Nat) (ls : List Gr.Ln) (o : List Int) : (∃ x, IsMin n ls o x) ∨ Stuck n ls o := by
  have key : ∀ m, m ≤ n → (∃ x, IsMin n ls o x) ∨ ∀ j : Nat, j < m → freeAt ls o (j : Int) = false := by
    intro m
    induction m with
    | zero => intro _; exact .inr fun j hj => absurd hj (Nat.not_lt_zero _)
    | succ m ih =>
      intro hm
      rcases ih (by omega) with h | h
      · exact .inl h
      · cases hf : freeAt ls o (m : Int) with
        | true => exact .inl ⟨m, m, by omega, rfl, hf, h⟩
        | false =>
          refine .inr fun j hj => ?_
          by_cases e : j = m
          · rw [e]; exact hf
          · exact h j (by omega)
  rcases key n (Nat.le_refl _) with h | h
  · exact .inl h
  · exact .inr h
/-- one goes on till all are out, or none may come next -/
theorem Step.ex (n : Nat) (ls : List Gr.Ln) : ∃ o, Step n ls o ∧ (o.length = n ∨ (o.length < n ∧ Stuck n ls o)) := by
  have key : ∀ f o, Step n ls o → n - o.length ≤ f → ∃ o, Step n ls o ∧ (o.length = n ∨ (o.length < n ∧ Stuck n ls o)) := by
    intro f
    induction f with
    | zero => intro o h hf; exact ⟨o, h, .inl (by have := h.le; omega)⟩
    | succ f ih =>
      intro o h hf
      rcases Nat.lt_or_ge o.length n with hlt | hge
      · rcases min_or_stuck n ls o with ⟨x, hx⟩ | hs
        · exact ih (o ++ [x]) (h.snoc hx) (by simp; omega)
        · exact ⟨o, h, .inr ⟨hlt, hs⟩⟩
      · exact ⟨o, h, .inl (by have := h.le; omega)⟩
  exact key n [] (Step.nil n ls) (by simp)

/-! ### lines go on -/
section
variable {n : Nat} {ls : List Gr.Ln} {o : List Int}
/-- where a point stands -/
theorem Step.place (h : Step n ls o) (hl : o.length = n) {i : Nat} (hi : i < n) : ∃ p, p < n ∧ St.plc o (i : Int) = (p : Int) ∧ o.getD p 0 = (i : Int) := (h.row hl).plc hi
theorem Step.line (h : Step n ls o) (hl : o.length = n) {a b : Nat} (hb : b < n) (hab : Gr.has ls (a : Int) (b : Int) = true) : St.plc o (a : Int) < St.plc o (b : Int) := by
  obtain ⟨p, hp, e1, e2⟩ := h.place hl hb
  obtain ⟨x, _, e3, hf, _⟩ := h p (by omega)
  rw [← e3, e2] at hf
  have hm := (freeAt_iff.1 hf).2 _ hab
  obtain ⟨q, hq, e4⟩ := List.mem_take_iff_getElem.1 hm
  have hq2 : q < o.length := by omega
  have e5 : o.getD q 0 = (a : Int) := by rw [← e4]; simp [List.getD, hq2]
  rw [e1, ← e5, St.plc_at h.nodup hq2]
  omega
theorem Step.way (h : Step n ls o) (hl : o.length = n) {a : Nat} (ha : a < n) : ∀ k b, wk n (frow n ls) k a b = true → St.plc o (a : Int) + (k : Int) ≤ St.plc o (b : Int)
  | 0, b, hw => by
    have := wk_zero.1 hw
    subst this
    omega
  | k + 1, b, hw => by
    obtain ⟨c, hc, h1, h2⟩ := wk_succ.1 hw
    have h3 := mem_frow.1 h2
    have := h.line hl h3.1 h3.2
    have := h.way hl ha k c h1
    omega
/-- a point that comes back to itself -/
def Ring (n : Nat) (ls : List Gr.Ln) : Prop := ∃ i k, i < n ∧ 1 ≤ k ∧ wk n (frow n ls) k i i = true
theorem Step.no_ring (h : Step n ls o) (hl : o.length = n) : ¬ Ring n ls := by
  rintro ⟨i, k, hi, hk, hw⟩
  have := h.way hl hi k i hw
  omega
/-- ways are short -/
theorem Step.short (h : Step n ls o) (hl : o.length = n) {a b k : Nat} (ha : a < n) (hw : wk n (frow n ls) k a b = true) : k < n := by
  have hb := Wa.wk_lt (frow_ok n ls) ha hw
  have := h.way hl ha k b hw
  obtain ⟨p, hp, e1, _⟩ := h.place hl hb
  obtain ⟨q, hq, e2, _⟩ := h.place hl ha
  omega
/-- where one gets stuck some point comes back to itself -/
theorem Step.ring (hg : ∀ p ∈ ls, Gr.Good (n : Int) p) (h : Step n ls o) (hlt : o.length < n) (hs : Stuck n ls o) : Ring n ls := by
  have hpred : ∀ u : Nat, u < n ∧ ((u : Int) ∉ o) → ∃ v : Nat, (v < n ∧ ((v : Int) ∉ o)) ∧ Gr.has ls (v : Int) (u : Int) = true := by
    rintro u ⟨hu, hu2⟩
    have hf : ¬ freeAt ls o (u : Int) = true := by rw [hs u hu]; simp
    rw [freeAt_iff] at hf
    have : ∃ a, Gr.has ls a (u : Int) = true ∧ a ∉ o := by
      refine Classical.byContradiction fun hn => hf ⟨hu2, fun a ha => Classical.byContradiction fun hn2 => hn ⟨a, ha, hn2⟩⟩
    obtain ⟨a, ha, hao⟩ := this
    obtain ⟨i, j, rfl, _, hi, _⟩ := ends hg ha
    exact ⟨i, ⟨hi, hao⟩, ha⟩
  obtain ⟨u0, hu0⟩ : ∃ u : Nat, u < n ∧ ((u : Int) ∉ o) := by
    refine Classical.byContradiction fun hn => ?_
    have hsub : (List.range n).length ≤ (o.map Int.toNat).length := by
      refine List.Nodup.length_le_of_subset List.nodup_range fun x hx => ?_
      have hx' := List.mem_range.1 hx
      have : (x : Int) ∈ o := Classical.byContradiction fun h2 => hn ⟨x, hx', h2⟩
      exact List.mem_map.2 ⟨(x : Int), this, by simp⟩
    simp at hsub
    omega
  -- a way back, as long as one likes
  have hway : ∀ k, ∃ p : Nat → Nat, p 0 = u0 ∧ (∀ i, i ≤ k → p i < n ∧ ((p i : Nat) : Int) ∉ o) ∧ ∀ i, i < k → Gr.has ls ((p (i + 1) : Nat) : Int) ((p i : Nat) : Int) = true := by
    intro k
    induction k with
    | zero => exact ⟨fun _ => u0, rfl, fun i _ => hu0, fun i hi => absurd hi (Nat.not_lt_zero _)⟩
    | succ k ih =>
      obtain ⟨p, h0, h1, h2⟩ := ih
      obtain ⟨v, hv, hl⟩ := hpred (p k) (h1 k (Nat.le_refl _))
      refine ⟨fun i => if i ≤ k then p i else v, by simp [h0], fun i hi => ?_, fun i hi => ?_⟩
      · by_cases e : i ≤ k
        · simp only [e, if_true]; exact h1 i e
        · simp only [e, if_false]; exact hv
      · by_cases e : i + 1 ≤ k
        · have e' : i ≤ k := by omega
          simp only [e, e', if_true]
          exact h2 i (by omega)
        · have e' : i = k := by omega
          subst e'
          simp only [e, Nat.le_refl, if_true, if_false]
          exact hl
  obtain ⟨p, _, h1, h2⟩ := hway n
  have hwk : ∀ d i, i + d ≤ n → wk n (frow n ls) d (p (i + d)) (p i) = true := by
    intro d
    induction d with
    | zero => intro i _; exact wk_zero.2 rfl
    | succ d ih =>
      intro i hi
      have hstep : wk n (frow n ls) d (p (i + 1 + d)) (p (i + 1)) = true := ih (i + 1) (by omega)
      have e : i + 1 + d = i + (d + 1) := by omega
      rw [e] at hstep
      exact wk_succ.2 ⟨p (i + 1), (h1 (i + 1) (by omega)).1, hstep, mem_frow.2 ⟨(h1 i (by omega)).1, h2 i (by omega)⟩⟩
  have hdup : ∃ i j, i < j ∧ j ≤ n ∧ p i = p j := by
    refine Classical.byContradiction fun hn => ?_
    have hnd : ((List.range (n + 1)).map p).Nodup := by
      show List.Pairwise (· ≠ ·) _
      rw [List.pairwise_map]
      refine List.Pairwise.imp_of_mem (fun {x y} hx hy hxy e => ?_) List.pairwise_lt_range
      exact hn ⟨x, y, hxy, by have := List.mem_range.1 hy; omega, e⟩
    have := List.Nodup.length_le_of_subset hnd (l₂ := List.range n) fun x hx => by
      obtain ⟨i, hi, rfl⟩ := List.mem_map.1 hx
      exact List.mem_range.2 (h1 i (by have := List.mem_range.1 hi; omega)).1
    simp at this
    omega
  obtain ⟨i, j, hij, hj, e⟩ := hdup
  have := hwk (j - i) i (by omega)
  rw [show i + (j - i) = j by omega, ← e] at this
  exact ⟨p i, j - i, (h1 i (by omega)).1, by omega, this⟩
end

/-! ### how deep -/
/-- the most lines on a way to a point -/
def Dp (n : Nat) (ls : List Gr.Ln) (i d : Nat) : Prop := (∃ a, a < n ∧ wk n (frow n ls) d a i = true) ∧ ∀ k a, a < n → wk n (frow n ls) k a i = true → k ≤ d
theorem Dp.unique {n : Nat} {ls : List Gr.Ln} {i d d' : Nat} (h : Dp n ls i d) (h' : Dp n ls i d') : d = d' := by
  obtain ⟨⟨a, ha, h1⟩, h2⟩ := h
  obtain ⟨⟨b, hb, h3⟩, h4⟩ := h'
  exact Nat.le_antisymm (h4 d a ha h1) (h2 d' b hb h3)
/-- the most of some lines, by how deep they begin -/
def mostF (D : Int → Nat) (i : Int) : List Gr.Ln → Nat → Nat
  | [], acc => acc
  | p :: ps, acc => mostF D i ps (if p.2 = i ∧ acc < 1 + D p.1 then 1 + D p.1 else acc)
/-- how deep, by fuel -/
def dpF (ls : List Gr.Ln) : Nat → Int → Nat
  | 0, _ => 0
  | f + 1, i => mostF (dpF ls f) i ls 0
theorem mostF_spec (D : Int → Nat) (i : Int) : ∀ (l : List Gr.Ln) (acc : Nat), acc ≤ mostF D i l acc ∧ (∀ p ∈ l, p.2 = i → 1 + D p.1 ≤ mostF D i l acc) ∧ (mostF D i l acc = acc ∨ ∃ p ∈ l, p.2 = i ∧ mostF D i l acc = 1 + D p.1)
  | [], acc => ⟨Nat.le_refl _, fun p hp => absurd hp (by simp), .inl rfl⟩
  | q :: l, acc => by
    obtain ⟨h1, h2, h3⟩ := mostF_spec D i l (if q.2 = i ∧ acc < 1 + D q.1 then 1 + D q.1 else acc)
    have e : mostF D i (q :: l) acc = mostF D i l (if q.2 = i ∧ acc < 1 + D q.1 then 1 + D q.1 else acc) := rfl
    rw [e]
    have hq : acc ≤ (if q.2 = i ∧ acc < 1 + D q.1 then 1 + D q.1 else acc) ∧ (q.2 = i → 1 + D q.1 ≤ if q.2 = i ∧ acc < 1 + D q.1 then 1 + D q.1 else acc) := by
      split
      · rename_i h; exact ⟨by omega, fun _ => Nat.le_refl _⟩
      · rename_i h; exact ⟨Nat.le_refl _, fun e => by
          rcases Nat.lt_or_ge acc (1 + D q.1) with h5 | h5
          · exact absurd ⟨e, h5⟩ h
          · exact h5⟩
    refine ⟨by omega, fun p hp hpi => ?_, ?_⟩
    · rcases List.mem_cons.1 hp with rfl | hp
      · have := hq.2 hpi; omega
      · exact h2 p hp hpi
    · rcases h3 with h3 | ⟨p, hp, hpi, h3⟩
      · rw [h3]
        split
        · rename_i h; exact .inr ⟨q, by simp, h.1, rfl⟩
        · exact .inl rfl
      · exact .inr ⟨p, List.mem_cons_of_mem _ hp, hpi, h3⟩
theorem mostF_step (D : Int → Nat) (i : Int) {l : List Gr.Ln} {k : Nat} (hk : k < l.length) (p : Gr.Ln) (hp : p = l.getD k (0, 0)) (acc : Nat) : mostF D i (l.drop k) acc = mostF D i (l.drop (k + 1)) (if p.2 = i ∧ acc < 1 + D p.1 then 1 + D p.1 else acc) := by
  rw [List.drop_eq_getElem_cons hk]
  have : l[k] = p := by rw [hp]; simp [List.getD, hk]
  rw [this]
  rfl
section
variable {n : Nat} {ls : List Gr.Ln}
/-- a way of one line more -/
theorem wk_line (hg : ∀ p ∈ ls, Gr.Good (n : Int) p) {a c i k : Nat} (h : Gr.has ls (c : Int) (i : Int) = true) (hw : wk n (frow n ls) k a c = true) : wk n (frow n ls) (k + 1) a i = true := by
  obtain ⟨x, y, e1, e2, hx, hy, _⟩ := ends hg h
  exact wk_succ.2 ⟨c, by omega, hw, mem_frow.2 ⟨by omega, h⟩⟩
theorem dpF_spec (hg : ∀ p ∈ ls, Gr.Good (n : Int) p) : ∀ (f i : Nat), i < n → (∀ k a, a < n → wk n (frow n ls) k a i = true → k < f) → Dp n ls i (dpF ls f (i : Int))
  | 0, i, hi, hf => absurd (hf 0 i hi (wk_zero.2 rfl)) (Nat.not_lt_zero _)
  | f + 1, i, hi, hf => by
    have hsub : ∀ c : Nat, Gr.has ls (c : Int) (i : Int) = true → Dp n ls c (dpF ls f (c : Int)) := fun c hc => by
      obtain ⟨x, y, e1, e2, hx, hy, _⟩ := ends hg hc
      refine dpF_spec hg f c (by omega) fun k a ha hw => ?_
      have := hf (k + 1) a ha (wk_line hg hc hw)
      omega
    obtain ⟨h1, h2, h3⟩ := mostF_spec (dpF ls f) (i : Int) ls 0
    have e : dpF ls (f + 1) (i : Int) = mostF (dpF ls f) (i : Int) ls 0 := rfl
    rw [e]
    constructor
    · rcases h3 with h3 | ⟨p, hp, hpi, h3⟩
      · rw [h3]; exact ⟨i, hi, wk_zero.2 rfl⟩
      · have hh : Gr.has ls p.1 (i : Int) = true := Gr.has_iff.2 (by rw [← hpi]; exact hp)
        obtain ⟨c, y, e1, e2, hx, hy, _⟩ := ends hg hh
        rw [e1] at hh
        obtain ⟨⟨a, ha, hw⟩, _⟩ := hsub c hh
        rw [h3, e1, Nat.add_comm]
        exact ⟨a, ha, wk_line hg hh hw⟩
    · intro k a ha hw
      cases k with
      | zero => exact Nat.zero_le _
      | succ k =>
        obtain ⟨c, hc, hw1, hw2⟩ := wk_succ.1 hw
        have hh := (mem_frow.1 hw2).2
        have := (hsub c hh).2 k a ha hw1
        have := h2 _ (Gr.has_iff.1 hh) rfl
        simp only at this
        omega
/-- how deep each point is, where there is an order -/
theorem dp_all (hg : ∀ p ∈ ls, Gr.Good (n : Int) p) {o : List Int} (h : Step n ls o) (hl : o.length = n) {i : Nat} (hi : i < n) : Dp n ls i (dpF ls n (i : Int)) := dpF_spec hg n i hi fun k a ha hw => h.short hl ha hw
/-- by the lines that come in -/
theorem Dp.of_lines (hg : ∀ p ∈ ls, Gr.Good (n : Int) p) {D : Nat → Nat} (hD : ∀ i, i < n → Dp n ls i (D i)) {i : Nat} (hi : i < n) :
    (∀ c : Nat, Gr.has ls (c : Int) (i : Int) = true → D c + 1 ≤ D i) ∧ (D i = 0 ∨ ∃ c : Nat, c < n ∧ Gr.has ls (c : Int) (i : Int) = true ∧ D i = D c + 1) := by
  constructor
  · intro c hc
    obtain ⟨x, y, e1, e2, hx, hy, _⟩ := ends hg hc
    obtain ⟨⟨a, ha, hw⟩, _⟩ := hD c (by omega)
    exact (hD i hi).2 _ a ha (wk_line hg hc hw)
  · cases hd : D i with
    | zero => exact .inl rfl
    | succ d =>
      obtain ⟨⟨a, ha, hw⟩, hm⟩ := hD i hi
      rw [hd] at hw hm
      obtain ⟨c, hc, hw1, hw2⟩ := wk_succ.1 hw
      have hh := (mem_frow.1 hw2).2
      refine .inr ⟨c, hc, hh, ?_⟩
      have h1 := (hD c hc).2 d a ha hw1
      obtain ⟨⟨b, hb, hw3⟩, _⟩ := hD c hc
      have h2 := hm _ b hb (wk_line hg hh hw3)
      omega
/-- the only numbers that fit the lines -/
theorem Dp.by_lines {o : List Int} (h : Step n ls o) (hl : o.length = n) (hg : ∀ p ∈ ls, Gr.Good (n : Int) p) {D E : Nat → Nat} (hD : ∀ i, i < n → Dp n ls i (D i))
    (hE : ∀ i, i < n → (∀ c : Nat, Gr.has ls (c : Int) (i : Int) = true → E c + 1 ≤ E i) ∧ (E i = 0 ∨ ∃ c : Nat, c < n ∧ Gr.has ls (c : Int) (i : Int) = true ∧ E i = E c + 1)) : ∀ i, i < n → E i = D i := by
  have key : ∀ p : Nat, ∀ i, i < n → St.plc o (i : Int) = (p : Int) → E i = D i := by
    intro p
    induction p using Nat.strongRecOn with
    | _ p ih =>
      intro i hi hp
      have hsub : ∀ c : Nat, Gr.has ls (c : Int) (i : Int) = true → E c = D c := fun c hc => by
        obtain ⟨x, y, e1, e2, hx, hy, _⟩ := ends hg hc
        have hcn : c < n := by omega
        obtain ⟨q, hq, e3, _⟩ := h.place hl hcn
        have := h.line hl hi hc
        exact ih q (by omega) c hcn e3
      have hd := Dp.of_lines hg hD hi
      have he := hE i hi
      refine Nat.le_antisymm ?_ ?_
      · rcases he.2 with h0 | ⟨c, hc, hh, e⟩
        · omega
        · have := hd.1 c hh; have := hsub c hh; omega
      · rcases hd.2 with h0 | ⟨c, hc, hh, e⟩
        · omega
        · have := he.1 c hh; have := hsub c hh; omega
  intro i hi
  obtain ⟨p, _, e, _⟩ := h.place hl hi
  exact key p i hi e
end

/-! ### turned lines -/
theorem has_back {ls : List Gr.Ln} {a b : Int} : Gr.has (Gr.back ls) a b = Gr.has ls b a := by
  rw [Bool.eq_iff_iff, Gr.has_iff, Gr.has_iff, Gr.mem_back]
theorem wk_turn {n : Nat} {ls : List Gr.Ln} {a : Nat} (ha : a < n) : ∀ {k b : Nat}, wk n (frow n ls) k a b = true → wk n (frow n (Gr.back ls)) k b a = true
  | 0, b, h => by rw [wk_zero] at *; exact h.symm
  | k + 1, b, h => by
    obtain ⟨c, hc, h1, h2⟩ := wk_succ.1 h
    have h3 := mem_frow.1 h2
    have := wk_add (wk_one h3.1 (mem_frow.2 ⟨hc, by rw [has_back]; exact h3.2⟩)) (wk_turn ha h1)
    rwa [Nat.add_comm] at this
theorem back_back (ls : List Gr.Ln) (a b : Int) : Gr.has (Gr.back (Gr.back ls)) a b = Gr.has ls a b := by rw [has_back, has_back]
theorem wk_back {n : Nat} {ls : List Gr.Ln} {a b k : Nat} (ha : a < n) (hb : b < n) : wk n (frow n (Gr.back ls)) k b a = true ↔ wk n (frow n ls) k a b = true := by
  constructor
  · intro h
    have := wk_turn hb h
    exact Wa.wk_mono (fun x _ y hy => mem_frow.2 ⟨(mem_frow.1 hy).1, by rw [← back_back]; exact (mem_frow.1 hy).2⟩) this
  · exact wk_turn ha
theorem good_back {n : Nat} {ls : List Gr.Ln} (hg : ∀ p ∈ ls, Gr.Good (n : Int) p) : ∀ p ∈ Gr.back ls, Gr.Good (n : Int) p := by
  rintro ⟨a, b⟩ hp
  have := hg _ (Gr.mem_back.1 hp)
  unfold Gr.Good at *
  simp only at *
  omega
theorem Ring.back {n : Nat} {ls : List Gr.Ln} (h : Ring n ls) : Ring n (Gr.back ls) := by
  obtain ⟨i, k, hi, hk, hw⟩ := h
  exact ⟨i, k, hi, hk, wk_turn hi hw⟩
theorem Ring.of_back {n : Nat} {ls : List Gr.Ln} (h : Ring n (Gr.back ls)) : Ring n ls := by
  obtain ⟨i, k, hi, hk, hw⟩ := h
  exact ⟨i, k, hi, hk, (wk_back hi hi).1 hw⟩
/-- an order, or a ring -/
theorem order_or_ring {n : Nat} {ls : List Gr.Ln} (hg : ∀ p ∈ ls, Gr.Good (n : Int) p) : (∃ o, Step n ls o ∧ o.length = n) ∨ Ring n ls := by
  obtain ⟨o, h, hl | ⟨hl, hs⟩⟩ := Step.ex n ls
  · exact .inl ⟨o, h, hl⟩
  · exact .inr (h.ring hg hl hs)
theorem order_turn {n : Nat} {ls : List Gr.Ln} (hg : ∀ p ∈ ls, Gr.Good (n : Int) p) {o : List Int} (h : Step n ls o) (hl : o.length = n) : ∃ o', Step n (Gr.back ls) o' ∧ o'.length = n := by
  rcases order_or_ring (good_back hg) with h2 | h2
  · exact h2
  · exact absurd h2.of_back (h.no_ring hl)
/-- the most lines on a way -/
def Top (n : Nat) (ls : List Gr.Ln) (d : Nat) : Prop := (∃ a b, a < n ∧ b < n ∧ wk n (frow n ls) d a b = true) ∧ ∀ k a b, a < n → b < n → wk n (frow n ls) k a b = true → k ≤ d
theorem Top.unique {n : Nat} {ls : List Gr.Ln} {d d' : Nat} (h : Top n ls d) (h' : Top n ls d') : d = d' := by
  obtain ⟨⟨a, b, ha, hb, h1⟩, h2⟩ := h
  obtain ⟨⟨x, y, hx, hy, h3⟩, h4⟩ := h'
  exact Nat.le_antisymm (h4 d a b ha hb h1) (h2 d' x y hx hy h3)
theorem Top.back {n : Nat} {ls : List Gr.Ln} {d : Nat} (h : Top n ls d) : Top n (Gr.back ls) d := by
  obtain ⟨⟨a, b, ha, hb, h1⟩, h2⟩ := h
  exact ⟨⟨b, a, hb, ha, wk_turn ha h1⟩, fun k x y hx hy hw => h2 k y x hy hx ((wk_back hy hx).1 hw)⟩
theorem Top.of {n : Nat} {ls : List Gr.Ln} {D : Nat → Nat} (hD : ∀ i, i < n → Dp n ls i (D i)) {d : Nat} (h1 : ∃ i, i < n ∧ D i = d) (h2 : ∀ i, i < n → D i ≤ d) : Top n ls d := by
  obtain ⟨i, hi, rfl⟩ := h1
  obtain ⟨⟨a, ha, hw⟩, _⟩ := hD i hi
  refine ⟨⟨a, i, ha, hi, hw⟩, fun k x y hx hy hw => ?_⟩
  have := (hD y hy).2 k x hx hw
  have := h2 y hy
  omega
end Go.Proofs.YtojkjdccjomaaaaDoor.To

set_option linter.unusedSimpArgs false
set_option linter.unusedVariables false
namespace Go.Proofs.YtojkjdccjomaaaaDoor.Ri

/-- those that are not used -/
def rest (zs : List Int) (u : List Bool) : List Int := ((List.range zs.length).filter fun i => !u.getD i false).map fun i => zs.getD i 0
theorem filter_but {p : Nat → Bool} {i : Nat} (hp : p i = true) : ∀ {l : List Nat}, l.Nodup → i ∈ l → (l.filter p).Perm (i :: l.filter fun x => p x && !decide (x = i))
  | [], _, h => absurd h (by simp)
  | x :: l, hn, h => by
    obtain ⟨hx, hn⟩ := List.nodup_cons.1 hn
    by_cases e : x = i
    · subst e
      have e1 : (l.filter fun y => p y && !decide (y = x)) = l.filter p := List.filter_congr fun y hy => by
        have : ¬ y = x := fun e => hx (e ▸ hy)
        simp [this]
      rw [List.filter_cons_of_pos hp, List.filter_cons_of_neg (by simp), e1]
    · have hm : i ∈ l := by
        rcases List.mem_cons.1 h with h | h
        · exact absurd h.symm e
        · exact h
      have ih := filter_but hp hn hm
      cases hpx : p x with
      | true =>
        rw [List.filter_cons_of_pos hpx, List.filter_cons_of_pos (by simp [hpx, e])]
        exact (ih.cons x).trans (List.Perm.swap _ _ _)
      | false =>
        rw [List.filter_cons_of_neg (by simp [hpx]), List.filter_cons_of_neg (by simp [hpx])]
        exact ih
theorem set_at (u : List Bool) (i j : Nat) (hi : i < u.length) : (u.set i true).getD j false = (u.getD j false || decide (j = i)) := by
  simp only [List.getD, List.getElem?_set]
  by_cases e : i = j
  · subst e; simp [hi]
  · have : ¬ j = i := fun h => e h.symm
    simp [e, this]
/-- what holds behind some choices -/
structure Inv (zs : List Int) (u : List Bool) (o : List Int) : Prop where
  len : u.length = zs.length
  srt : o.Pairwise (· ≤ ·)
  low : ∀ i, i < zs.length → u.getD i false = false → ∀ x ∈ o, x ≤ zs.getD i 0
  perm : (o ++ rest zs u).Perm zs
theorem all_at (zs : List Int) : ((List.range zs.length).map fun i => zs.getD i 0) = zs := by
  refine List.ext_getElem (by simp) fun i h1 h2 => ?_
  simp [List.getD, h2]
theorem Inv.start (zs : List Int) : Inv zs (List.replicate zs.length false) [] := by
  refine ⟨by simp, List.Pairwise.nil, fun i _ _ x hx => absurd hx (by simp), ?_⟩
  have e : (List.range zs.length).filter (fun i => !(List.replicate zs.length false).getD i false) = List.range zs.length := List.filter_eq_self.2 fun i hi => by
    have := List.mem_range.1 hi
    simp [List.getD, this]
  unfold rest
  rw [e, all_at]
  exact List.Perm.refl _
theorem Inv.take {zs : List Int} {u : List Bool} {o : List Int} (h : Inv zs u o) {i : Nat} (hi : i < zs.length) (hu : u.getD i false = false) (hm : ∀ j, j < zs.length → u.getD j false = false → zs.getD i 0 ≤ zs.getD j 0) : Inv zs (u.set i true) (o ++ [zs.getD i 0]) := by
  have hil : i < u.length := by rw [h.len]; exact hi
  refine ⟨by rw [List.length_set]; exact h.len, ?_, fun j hj hju x hx => ?_, ?_⟩
  · rw [List.pairwise_append]
    refine ⟨h.srt, by simp, fun a ha b hb => ?_⟩
    obtain rfl : b = zs.getD i 0 := by simpa using hb
    exact h.low i hi hu a ha
  · rw [set_at _ _ _ hil] at hju
    have hju' : u.getD j false = false := by
      cases e : u.getD j false
      · rfl
      · rw [e] at hju; simp at hju
    rcases List.mem_append.1 hx with hx | hx
    · exact h.low j hj hju' x hx
    · obtain rfl : x = zs.getD i 0 := by simpa using hx
      exact hm j hj hju'
  · have e : (List.range zs.length).filter (fun j => !(u.set i true).getD j false) = (List.range zs.length).filter fun j => (!u.getD j false) && !decide (j = i) := List.filter_congr fun j _ => by
      rw [set_at _ _ _ hil, Bool.not_or]
    have hp := (filter_but (p := fun j => !u.getD j false) (i := i) (by simpa using hu) (l := List.range zs.length) List.nodup_range (List.mem_range.2 hi)).map fun j => zs.getD j 0
    have h2 := h.perm
    unfold rest at h2 ⊢
    rw [e, List.append_assoc]
    refine List.Perm.trans ?_ h2
    exact (hp.symm.append_left o)
theorem Inv.count {zs : List Int} {u : List Bool} {o : List Int} (h : Inv zs u o) : o.length + (rest zs u).length = zs.length := by
  have := h.perm.length_eq
  rwa [List.length_append] at this
/-- one is left -/
theorem Inv.more {zs : List Int} {u : List Bool} {o : List Int} (h : Inv zs u o) (hl : o.length < zs.length) : ∃ i, i < zs.length ∧ u.getD i false = false := by
  have hc := h.count
  have : 0 < (rest zs u).length := by omega
  unfold rest at this
  rw [List.length_map] at this
  obtain ⟨i, hi⟩ := List.exists_mem_of_length_pos this
  obtain ⟨h1, h2⟩ := List.mem_filter.1 hi
  exact ⟨i, List.mem_range.1 h1, by simpa using h2⟩
theorem Inv.done {zs : List Int} {u : List Bool} {o : List Int} (h : Inv zs u o) (hl : o.length = zs.length) : o.Pairwise (· ≤ ·) ∧ o.Perm zs := by
  have hc := h.count
  have e : rest zs u = [] := List.eq_nil_of_length_eq_zero (by omega)
  have := h.perm
  rw [e, List.append_nil] at this
  exact ⟨h.srt, this⟩

/-- the least so far of those that are not used -/
def Best (zs : List Int) (u : List Bool) (i : Nat) (b : Int) : Prop :=
  (b = -1 ∧ ∀ j, j < i → u.getD j false = true) ∨ ∃ p : Nat, b = (p : Int) ∧ p < i ∧ u.getD p false = false ∧ ∀ j, j < i → u.getD j false = false → zs.getD p 0 ≤ zs.getD j 0
theorem Best.start (zs : List Int) (u : List Bool) : Best zs u 0 (-1) := .inl ⟨rfl, fun j hj => absurd hj (Nat.not_lt_zero _)⟩
theorem Best.skip {zs : List Int} {u : List Bool} {i : Nat} {b : Int} (h : Best zs u i b) (hi : u.getD i false = true) : Best zs u (i + 1) b := by
  rcases h with ⟨e, h⟩ | ⟨p, e, hp, h1, h2⟩
  · refine .inl ⟨e, fun j hj => ?_⟩
    by_cases ej : j = i
    · rw [ej]; exact hi
    · exact h j (by omega)
  · refine .inr ⟨p, e, by omega, h1, fun j hj hu => ?_⟩
    by_cases ej : j = i
    · rw [ej, hi] at hu; cases hu
    · exact h2 j (by omega) hu
theorem Best.first {zs : List Int} {u : List Bool} {i : Nat} (h : Best zs u i (-1)) (hi : u.getD i false = false) : Best zs u (i + 1) (i : Int) := by
  rcases h with ⟨_, h⟩ | ⟨p, e, _⟩
  · refine .inr ⟨i, rfl, by omega, hi, fun j hj hu => ?_⟩
    by_cases ej : j = i
    · rw [ej]; exact Int.le_refl _
    · rw [h j (by omega)] at hu; cases hu
  · omega
theorem Best.less {zs : List Int} {u : List Bool} {i p : Nat} (h : Best zs u i (p : Int)) (hi : u.getD i false = false) (hl : zs.getD i 0 < zs.getD p 0) : Best zs u (i + 1) (i : Int) := by
  rcases h with ⟨e, _⟩ | ⟨q, e, hq, h1, h2⟩
  · omega
  · obtain rfl : p = q := by omega
    refine .inr ⟨i, rfl, by omega, hi, fun j hj hu => ?_⟩
    by_cases ej : j = i
    · rw [ej]; exact Int.le_refl _
    · have := h2 j (by omega) hu; omega
theorem Best.keep {zs : List Int} {u : List Bool} {i p : Nat} (h : Best zs u i (p : Int)) (hl : ¬ zs.getD i 0 < zs.getD p 0) : Best zs u (i + 1) (p : Int) := by
  rcases h with ⟨e, _⟩ | ⟨q, e, hq, h1, h2⟩
  · omega
  · obtain rfl : p = q := by omega
    refine .inr ⟨p, rfl, by omega, h1, fun j hj hu => ?_⟩
    by_cases ej : j = i
    · rw [ej]; omega
    · exact h2 j (by omega) hu
theorem Best.end_ {zs : List Int} {u : List Bool} {o : List Int} {b : Int} (h : Best zs u zs.length b) (hI : Inv zs u o) (hl : o.length < zs.length) : ∃ p : Nat, b = (p : Int) ∧ p < zs.length ∧ u.getD p false = false ∧ ∀ j, j < zs.length → u.getD j false = false → zs.getD p 0 ≤ zs.getD j 0 := by
  rcases h with ⟨_, h⟩ | h
  · obtain ⟨i, hi, hu⟩ := hI.more hl
    rw [h i hi] at hu
    cases hu
  · exact h

/-- the last one is the greatest -/
theorem last_most {zs r : List Int} (hs : r.Pairwise (· ≤ ·)) (hp : r.Perm zs) (h0 : 0 < zs.length) : (∃ i, i < zs.length ∧ zs.getD i 0 = r.getD (zs.length - 1) 0) ∧ ∀ i, i < zs.length → zs.getD i 0 ≤ r.getD (zs.length - 1) 0 := by
  have hl := hp.length_eq
  have hk : zs.length - 1 < r.length := by omega
  have e1 : r.getD (zs.length - 1) 0 = r[zs.length - 1] := by simp [List.getD, hk]
  constructor
  · have hm : r[zs.length - 1] ∈ zs := hp.mem_iff.1 (List.getElem_mem hk)
    obtain ⟨i, hi, e⟩ := List.mem_iff_getElem.1 hm
    exact ⟨i, hi, by rw [e1, ← e]; simp [List.getD, hi]⟩
  · intro i hi
    have hm : zs[i] ∈ r := hp.mem_iff.2 (List.getElem_mem hi)
    obtain ⟨j, hj, e⟩ := List.mem_iff_getElem.1 hm
    have e2 : zs.getD i 0 = r[j] := by rw [e]; simp [List.getD, hi]
    rw [e1, e2]
    by_cases ej : j = zs.length - 1
    · subst ej; exact Int.le_refl _
    · exact List.pairwise_iff_getElem.1 hs j (zs.length - 1) hj hk (by omega)
end Go.Proofs.YtojkjdccjomaaaaDoor.Ri

set_option linter.unusedSimpArgs false
set_option linter.unusedVariables false
namespace Go.Proofs.YtojkjdccjomaaaaDoor.To
open Wa (wk wk_zero wk_succ wk_add wk_one)

theorem Step.full {n : Nat} {ls : List Gr.Ln} {o : List Int} (h : Step n ls o) (hl : o.length = n) : Stuck n ls o := fun i hi => by
  cases hf : freeAt ls o (i : Int) with
  | false => rfl
  | true => exact absurd ((h.row hl).mem hi) (freeAt_iff.1 hf).1
theorem Step.all (n : Nat) (ls : List Gr.Ln) : ∃ o, Step n ls o ∧ Stuck n ls o := by
  obtain ⟨o, h, hl | ⟨_, hs⟩⟩ := Step.ex n ls
  · exact ⟨o, h, h.full hl⟩
  · exact ⟨o, h, hs⟩

/-! ### marks of those that are out -/
def mk (n : Nat) (o : List Int) : List Bool := (List.range n).map fun i : Nat => o.contains (i : Int)
theorem mk_nil (n : Nat) : mk n [] = List.replicate n false := by
  unfold mk
  refine List.ext_getElem (by simp) fun i h1 h2 => ?_
  simp
theorem mk_len (n : Nat) (o : List Int) : (mk n o).length = n := by simp [mk]
theorem mk_at {n : Nat} {o : List Int} {i : Nat} (hi : i < n) : (mk n o).getD i false = o.contains (i : Int) := by simp [mk, List.getD, hi]
theorem mk_set {n : Nat} {o : List Int} {i : Nat} (hi : i < n) : (mk n o).set i true = mk n (o ++ [(i : Int)]) := by
  refine List.ext_getElem (by simp [mk]) fun j h1 h2 => ?_
  have hj : j < n := by simpa [mk] using h2
  rw [List.getElem_set]
  by_cases e : i = j
  · subst e; simp [mk]
  · have e2 : ¬ (j : Int) = (i : Int) := by omega
    simp [mk, e, e2]

/-- does a line come in from one that is not out? -/
def heldB (ls : List Gr.Ln) (o : List Int) (i : Int) : Bool := ls.any fun p => decide (p.2 = i) && !o.contains p.1
theorem free_held {ls : List Gr.Ln} {o : List Int} {i : Int} : freeAt ls o i = (!o.contains i && !heldB ls o i) := by
  unfold freeAt heldB
  congr 1
  rw [List.not_any_eq_all_not]
  refine List.all_congr rfl fun p => ?_
  by_cases h : p.2 = i <;> simp [h]

/-! ### where lines go -/
def tg (ls : List Gr.Ln) (a : Int) : List Int := (ls.filter fun p => decide (p.1 = a)).map Prod.snd
theorem mem_tg {ls : List Gr.Ln} {a b : Int} : b ∈ tg ls a ↔ Gr.has ls a b = true := by
  unfold tg Gr.has
  simp only [List.mem_map, List.mem_filter, decide_eq_true_eq, List.contains_iff_mem]
  constructor
  · rintro ⟨⟨x, y⟩, ⟨h1, h2⟩, h3⟩
    simp only at h2 h3
    subst h2 h3
    exact h1
  · intro h
    exact ⟨(a, b), ⟨h, rfl⟩, rfl⟩

/-! ### how deep, line by line -/
/-- the numbers behind the lines that are counted (Q); E is how deep each point is -/
structure Cnt (n : Nat) (E : Nat → Nat) (Q : Nat → Nat → Prop) (zs : List Int) : Prop where
  len : zs.length = n
  ge : ∀ i, i < n → ∀ c, Q c i → (E c : Int) + 1 ≤ zs.getD i 0
  eq : ∀ i, i < n → zs.getD i 0 = 0 ∨ ∃ c, Q c i ∧ zs.getD i 0 = (E c : Int) + 1
section
variable {n : Nat} {E : Nat → Nat} {Q Q' : Nat → Nat → Prop} {zs : List Int}
theorem Cnt.start (n : Nat) (E : Nat → Nat) (hQ : ∀ c i, i < n → ¬ Q c i) : Cnt n E Q (List.replicate n 0) :=
  ⟨by simp, fun i hi c h => absurd h (hQ c i hi), fun i hi => .inl (by simp [List.getD, hi])⟩
theorem Cnt.congr (h : Cnt n E Q zs) (e : ∀ c i, i < n → (Q c i ↔ Q' c i)) : Cnt n E Q' zs :=
  ⟨h.len, fun i hi c hq => h.ge i hi c ((e c i hi).2 hq), fun i hi => (h.eq i hi).imp id fun ⟨c, hq, hx⟩ => ⟨c, (e c i hi).1 hq, hx⟩⟩
theorem getD_set (zs : List Int) (i j : Nat) (x : Int) (hi : i < zs.length) : (zs.set i x).getD j 0 = if j = i then x else zs.getD j 0 := by
  simp only [List.getD, List.getElem?_set]
  by_cases e : i = j
  · subst e; simp [hi]
  · have : ¬ j = i := fun h => e h.symm
    simp [e, this]
theorem Cnt.nn (h : Cnt n E Q zs) {i : Nat} (hi : i < n) : 0 ≤ zs.getD i 0 := by
  rcases h.eq i hi with h | ⟨c, _, h⟩ <;> omega
theorem Cnt.put (h : Cnt n E Q zs) {v w : Nat} (hw : w < n) : Cnt n E (fun c i => Q c i ∨ (c = v ∧ i = w)) (zs.set w (max (zs.getD w 0) ((E v : Int) + 1))) := by
  have hwl : w < zs.length := by rw [h.len]; exact hw
  refine ⟨by rw [List.length_set]; exact h.len, fun i hi c hq => ?_, fun i hi => ?_⟩
  · rw [getD_set _ _ _ _ hwl]
    by_cases e : i = w
    · rw [if_pos e]
      subst e
      rcases hq with hq | ⟨rfl, _⟩
      · have := h.ge i hi c hq; omega
      · omega
    · rw [if_neg e]
      rcases hq with hq | ⟨_, h2⟩
      · exact h.ge i hi c hq
      · exact absurd h2 e
  · rw [getD_set _ _ _ _ hwl]
    by_cases e : i = w
    · rw [if_pos e]
      subst e
      by_cases hm : zs.getD i 0 ≤ (E v : Int) + 1
      · exact .inr ⟨v, .inr ⟨rfl, rfl⟩, by omega⟩
      · rcases h.eq i hi with h2 | ⟨c, hq, h2⟩
        · omega
        · exact .inr ⟨c, .inl hq, by omega⟩
    · rw [if_neg e]
      exact (h.eq i hi).imp id fun ⟨c, hq, hx⟩ => ⟨c, .inl hq, hx⟩
/-- where all lines that come in are counted -/
theorem Cnt.val {ls : List Gr.Ln} (h : Cnt n E Q zs) {v : Nat} (hv : v < n) (hQ : ∀ c, Q c v ↔ Gr.has ls (c : Int) (v : Int) = true)
    (hE : (∀ c : Nat, Gr.has ls (c : Int) (v : Int) = true → E c + 1 ≤ E v) ∧ (E v = 0 ∨ ∃ c : Nat, c < n ∧ Gr.has ls (c : Int) (v : Int) = true ∧ E v = E c + 1)) : zs.getD v 0 = (E v : Int) := by
  have h1 : zs.getD v 0 ≤ (E v : Int) := by
    rcases h.eq v hv with h2 | ⟨c, hq, h2⟩
    · omega
    · have := hE.1 c ((hQ c).1 hq); omega
  have h2 : (E v : Int) ≤ zs.getD v 0 := by
    rcases hE.2 with h2 | ⟨c, _, hq, h2⟩
    · have := h.nn hv; omega
    · have := h.ge v hv c ((hQ c).2 hq); omega
  omega
end
/-- counted: the lines out of the first k of the order -/
def qk (ls : List Gr.Ln) (o : List Int) (k : Nat) (c i : Nat) : Prop := Gr.has ls (c : Int) (i : Int) = true ∧ St.plc o (c : Int) < (k : Int)
/-- and some of the lines out of v -/
def qm (ls : List Gr.Ln) (o : List Int) (k v : Nat) (pre : List Int) (c i : Nat) : Prop := qk ls o k c i ∨ (c = v ∧ (i : Int) ∈ pre)
/-- how deep points are, as numbers in a list -/
def deps (n : Nat) (ls : List Gr.Ln) : List Int := (List.range n).map fun i : Nat => (dpF ls n (i : Int) : Int)
theorem deps_len (n : Nat) (ls : List Gr.Ln) : (deps n ls).length = n := by simp [deps]
theorem deps_at {n : Nat} (ls : List Gr.Ln) {i : Nat} (hi : i < n) : (deps n ls).getD i 0 = (dpF ls n (i : Int) : Int) := by simp [deps, List.getD, hi]
section
variable {n : Nat} {ls : List Gr.Ln} {o : List Int}
theorem dep_lines (hg : ∀ p ∈ ls, Gr.Good (n : Int) p) (h : Step n ls o) (hl : o.length = n) {i : Nat} (hi : i < n) :
    (∀ c : Nat, Gr.has ls (c : Int) (i : Int) = true → dpF ls n (c : Int) + 1 ≤ dpF ls n (i : Int)) ∧ (dpF ls n (i : Int) = 0 ∨ ∃ c : Nat, c < n ∧ Gr.has ls (c : Int) (i : Int) = true ∧ dpF ls n (i : Int) = dpF ls n (c : Int) + 1) :=
  Dp.of_lines hg (D := fun i => dpF ls n (i : Int)) (fun i hi => dp_all hg h hl hi) hi
theorem plc_nn (h : Step n ls o) (hl : o.length = n) {i : Nat} (hi : i < n) : 0 ≤ St.plc o (i : Int) ∧ St.plc o (i : Int) < (n : Int) := by
  obtain ⟨p, hp, e, _⟩ := h.place hl hi
  omega
/-- at the head of the round of v, and within it, v itself is known -/
theorem qm_val (hg : ∀ p ∈ ls, Gr.Good (n : Int) p) (h : Step n ls o) (hl : o.length = n) {k v : Nat} (hk : k < n) (hv : o.getD k 0 = (v : Int)) {pre : List Int} (hpre : ∀ x ∈ pre, Gr.has ls (v : Int) x = true) (c : Nat) :
    qm ls o k v pre c v ↔ Gr.has ls (c : Int) (v : Int) = true := by
  have hvn : v < n := by
    obtain ⟨i, hi, e, _⟩ := h k (by omega)
    omega
  have hpv : St.plc o (v : Int) = (k : Int) := by rw [← hv]; exact St.plc_at h.nodup (by omega)
  constructor
  · rintro (⟨h1, _⟩ | ⟨rfl, h2⟩)
    · exact h1
    · exact hpre _ h2
  · intro hh
    have := h.line hl hvn hh
    exact .inl ⟨hh, by omega⟩
theorem Cnt.first (h : Step n ls o) (hl : o.length = n) (hg : ∀ p ∈ ls, Gr.Good (n : Int) p) (E : Nat → Nat) : Cnt n E (qk ls o 0) (List.replicate n 0) := by
  refine Cnt.start n E fun c i hi hq => ?_
  obtain ⟨x, y, e1, e2, hx, hy, _⟩ := ends hg hq.1
  have := plc_nn h hl (i := c) (by omega)
  have := hq.2
  omega
theorem Cnt.begin {E : Nat → Nat} {k v : Nat} {zs : List Int} (h : Cnt n E (qk ls o k) zs) : Cnt n E (qm ls o k v []) zs :=
  h.congr fun c i _ => ⟨.inl, fun hq => hq.elim id fun h2 => absurd h2.2 (by simp)⟩
theorem Cnt.snoc {E : Nat → Nat} {k v w : Nat} {pre : List Int} {zs : List Int} (h : Cnt n E (qm ls o k v pre) zs) (hw : w < n) : Cnt n E (qm ls o k v (pre ++ [(w : Int)])) (zs.set w (max (zs.getD w 0) ((E v : Int) + 1))) := by
  refine (h.put (v := v) hw).congr fun c i _ => ?_
  unfold qm
  constructor
  · rintro ((h1 | ⟨h1, h2⟩) | ⟨h1, rfl⟩)
    · exact .inl h1
    · exact .inr ⟨h1, by simp [h2]⟩
    · exact .inr ⟨h1, by simp⟩
  · rintro (h1 | ⟨h1, h2⟩)
    · exact .inl (.inl h1)
    · rcases List.mem_append.1 h2 with h2 | h2
      · exact .inl (.inr ⟨h1, h2⟩)
      · have : (i : Int) = (w : Int) := by simpa using h2
        exact .inr ⟨h1, by omega⟩
theorem Cnt.next (hg : ∀ p ∈ ls, Gr.Good (n : Int) p) (hs : Step n ls o) (hl : o.length = n) {E : Nat → Nat} {k v : Nat} {zs : List Int} (hk : k < n) (hv : o.getD k 0 = (v : Int)) (h : Cnt n E (qm ls o k v (tg ls (v : Int))) zs) : Cnt n E (qk ls o (k + 1)) zs := by
  have hpv : St.plc o (v : Int) = (k : Int) := by rw [← hv]; exact St.plc_at hs.nodup (by omega)
  refine h.congr fun c i _ => ?_
  unfold qm qk
  constructor
  · rintro (⟨h1, h2⟩ | ⟨rfl, h2⟩)
    · exact ⟨h1, by omega⟩
    · exact ⟨mem_tg.1 h2, by omega⟩
  · rintro ⟨h1, h2⟩
    by_cases e : St.plc o (c : Int) = (k : Int)
    · obtain ⟨x, y, e1, e2, hx, hy, _⟩ := ends hg h1
      obtain ⟨p, hp, e3, e4⟩ := hs.place hl (i := c) (by omega)
      have : p = k := by omega
      subst this
      have : c = v := by omega
      subst this
      exact .inr ⟨rfl, mem_tg.2 h1⟩
    · exact .inl ⟨h1, by omega⟩
theorem Cnt.done (hg : ∀ p ∈ ls, Gr.Good (n : Int) p) (hs : Step n ls o) (hl : o.length = n) {zs : List Int} (h : Cnt n (fun i => dpF ls n (i : Int)) (qk ls o n) zs) : zs = deps n ls := by
  refine Wa.eq_of_getD (by rw [h.len, deps_len]) fun i hi => ?_
  rw [h.len] at hi
  rw [deps_at ls hi]
  refine h.val (ls := ls) hi (fun c => ?_) (dep_lines hg hs hl hi)
  constructor
  · exact fun h => h.1
  · intro hh
    obtain ⟨x, y, e1, e2, hx, hy, _⟩ := ends hg hh
    exact ⟨hh, (plc_nn hs hl (i := c) (by omega)).2⟩
/-- depths are small -/
theorem dep_small (hg : ∀ p ∈ ls, Gr.Good (n : Int) p) (hs : Step n ls o) (hl : o.length = n) {i : Nat} (hi : i < n) : dpF ls n (i : Int) < n := by
  obtain ⟨⟨a, ha, hw⟩, _⟩ := dp_all hg hs hl hi
  exact hs.short hl ha hw
end

/-! ### rings, as the reference asks for them -/
/-- does a way of one line or more go from a to b? -/
def comesTo (n : Nat) (ls : List Gr.Ln) (a b : Nat) (k : Nat) : Bool := (List.range k).any fun c : Nat => Gr.has ls (a : Int) (c : Int) && decide (0 ≤ Wa.dist n (frow n ls) c b)
def comes (n : Nat) (ls : List Gr.Ln) (a b : Nat) : Bool := comesTo n ls a b n
theorem comesTo_succ (n : Nat) (ls : List Gr.Ln) (a b k : Nat) : comesTo n ls a b (k + 1) = (comesTo n ls a b k || (Gr.has ls (a : Int) (k : Int) && decide (0 ≤ Wa.dist n (frow n ls) k b))) := by simp [comesTo, List.range_succ]
theorem comesTo_mono {n : Nat} {ls : List Gr.Ln} {a b k : Nat} (hk : k < n) (h1 : Gr.has ls (a : Int) (k : Int) = true) (h2 : 0 ≤ Wa.dist n (frow n ls) k b) : comes n ls a b = true :=
  List.any_eq_true.2 ⟨k, List.mem_range.2 hk, by simp [h1, h2]⟩
theorem comes_iff {n : Nat} {ls : List Gr.Ln} {a b : Nat} (hg : ∀ p ∈ ls, Gr.Good (n : Int) p) (ha : a < n) : comes n ls a b = true ↔ ∃ k, 1 ≤ k ∧ wk n (frow n ls) k a b = true := by
  unfold comes comesTo
  rw [List.any_eq_true]
  constructor
  · rintro ⟨c, hc, h⟩
    have hcn := List.mem_range.1 hc
    simp only [Bool.and_eq_true, decide_eq_true_eq] at h
    obtain ⟨d, hd⟩ := (Wa.dist_nn (frow_ok n ls) hcn).1 h.2
    exact ⟨1 + d, by omega, wk_add (wk_one ha (mem_frow.2 ⟨hcn, h.1⟩)) hd⟩
  · rintro ⟨k, hk, hw⟩
    obtain ⟨d, rfl⟩ : ∃ d, k = 1 + d := ⟨k - 1, by omega⟩
    obtain ⟨c, h1, h2⟩ := Wa.wk_split hw
    have h3 : ∃ x, x < n ∧ wk n (frow n ls) 0 a x = true ∧ c ∈ frow n ls x := wk_succ.1 h1
    obtain ⟨x, hx, h4, h5⟩ := h3
    have := wk_zero.1 h4
    subst this
    have h6 := mem_frow.1 h5
    exact ⟨c, List.mem_range.2 h6.1, by simp only [Bool.and_eq_true, decide_eq_true_eq]; exact ⟨h6.2, (Wa.dist_nn (frow_ok n ls) h6.1).2 ⟨d, h2⟩⟩⟩
/-- does one of the first points come back to itself? -/
def backTo (n : Nat) (ls : List Gr.Ln) (k : Nat) : Bool := (List.range k).any fun i : Nat => comes n ls i i
theorem backTo_succ (n : Nat) (ls : List Gr.Ln) (k : Nat) : backTo n ls (k + 1) = (backTo n ls k || comes n ls k k) := by simp [backTo, List.range_succ]
theorem back_ring {n : Nat} {ls : List Gr.Ln} (hg : ∀ p ∈ ls, Gr.Good (n : Int) p) : backTo n ls n = true ↔ Ring n ls := by
  unfold backTo Ring
  rw [List.any_eq_true]
  constructor
  · rintro ⟨i, hi, h⟩
    have hin := List.mem_range.1 hi
    obtain ⟨k, hk, hw⟩ := (comes_iff hg hin).1 h
    exact ⟨i, k, hin, hk, hw⟩
  · rintro ⟨i, k, hi, hk, hw⟩
    exact ⟨i, List.mem_range.2 hi, (comes_iff hg hi).2 ⟨k, hk, hw⟩⟩
theorem no_back {n : Nat} {ls : List Gr.Ln} {o : List Int} (hg : ∀ p ∈ ls, Gr.Good (n : Int) p) (h : Step n ls o) (hl : o.length = n) : backTo n ls n = false := by
  cases hb : backTo n ls n with
  | false => rfl
  | true => exact absurd ((back_ring hg).1 hb) (h.no_ring hl)
theorem has_back_ring {n : Nat} {ls : List Gr.Ln} {o : List Int} (hg : ∀ p ∈ ls, Gr.Good (n : Int) p) (h : Step n ls o) (hl : o.length < n) (hs : Stuck n ls o) : backTo n ls n = true :=
  (back_ring hg).2 (h.ring hg hl hs)

/-! ### the search for the least, from the greatest down -/
/-- best so far: those from i on have been asked -/
def Low (n : Nat) (ls : List Gr.Ln) (o : List Int) (i : Nat) (b : Int) : Prop :=
  (b = -1 ∧ ∀ j : Nat, i ≤ j → j < n → freeAt ls o (j : Int) = false) ∨ ∃ p : Nat, b = (p : Int) ∧ i ≤ p ∧ p < n ∧ freeAt ls o (p : Int) = true ∧ ∀ j : Nat, i ≤ j → j < p → freeAt ls o (j : Int) = false
section
variable {n : Nat} {ls : List Gr.Ln} {o : List Int}
theorem Low.start (n : Nat) (ls : List Gr.Ln) (o : List Int) : Low n ls o n (-1) := .inl ⟨rfl, fun j h1 h2 => by omega⟩
theorem Low.yes {i : Nat} {b : Int} (hi : i < n) (hf : freeAt ls o (i : Int) = true) : Low n ls o i (i : Int) := .inr ⟨i, rfl, Nat.le_refl _, hi, hf, fun j h1 h2 => by omega⟩
theorem Low.no {i : Nat} {b : Int} (h : Low n ls o (i + 1) b) (hf : freeAt ls o (i : Int) = false) : Low n ls o i b := by
  have key : ∀ j : Nat, i ≤ j → (i + 1 ≤ j → freeAt ls o (j : Int) = false) → freeAt ls o (j : Int) = false := fun j h1 h2 => by
    by_cases e : j = i
    · rw [e]; exact hf
    · exact h2 (by omega)
  rcases h with ⟨rfl, h⟩ | ⟨p, rfl, h1, h2, h3, h4⟩
  · exact .inl ⟨rfl, fun j h1 h2 => key j h1 fun h3 => h j h3 h2⟩
  · exact .inr ⟨p, rfl, by omega, h2, h3, fun j h5 h6 => key j h5 fun h7 => h4 j h7 h6⟩
theorem Low.end_ {b : Int} (h : Low n ls o 0 b) : (b = -1 ∧ Stuck n ls o) ∨ (0 ≤ b ∧ b < (n : Int) ∧ IsMin n ls o b) := by
  rcases h with ⟨rfl, h⟩ | ⟨p, rfl, _, h2, h3, h4⟩
  · exact .inl ⟨rfl, fun j hj => h j (Nat.zero_le _) hj⟩
  · exact .inr ⟨by omega, by omega, p, h2, rfl, h3, fun j hj => h4 j (Nat.zero_le _) hj⟩
end
/-- free, as far as the first k lines say -/
def freeTo (ls : List Gr.Ln) (o : List Int) (i : Int) (k : Nat) : Bool := !o.contains i && (ls.take k).all fun p => decide (p.2 ≠ i) || o.contains p.1
theorem freeTo_zero (ls : List Gr.Ln) (o : List Int) (i : Int) : freeTo ls o i 0 = !o.contains i := by simp [freeTo]
theorem freeTo_step {ls : List Gr.Ln} {k : Nat} (hk : k < ls.length) (p : Gr.Ln) (hp : p = ls.getD k (0, 0)) (o : List Int) (i : Int) : freeTo ls o i (k + 1) = (freeTo ls o i k && (decide (p.2 ≠ i) || o.contains p.1)) := by
  unfold freeTo
  rw [List.take_succ_eq_append_getElem hk, List.all_append]
  have : ls[k] = p := by rw [hp]; simp [List.getD, hk]
  rw [this, ← Bool.and_assoc]
  simp
theorem freeTo_all (ls : List Gr.Ln) (o : List Int) (i : Int) : freeTo ls o i ls.length = freeAt ls o i := by simp [freeTo, freeAt]

/-! ### the most of the lines that come in -/
def Mst (ls : List Gr.Ln) (E : Nat → Nat) (i : Nat) (k : Nat) (m : Int) : Prop :=
  -1 ≤ m ∧ (∀ c : Nat, (((c : Int), (i : Int)) : Gr.Ln) ∈ ls.take k → (E c : Int) ≤ m) ∧ (m = -1 ∨ ∃ c : Nat, (((c : Int), (i : Int)) : Gr.Ln) ∈ ls.take k ∧ m = (E c : Int))
section
variable {ls : List Gr.Ln} {E : Nat → Nat} {i : Nat}
theorem Mst.start (ls : List Gr.Ln) (E : Nat → Nat) (i : Nat) : Mst ls E i 0 (-1) := ⟨by omega, fun c hc => absurd hc (by simp), .inl rfl⟩
theorem mem_next {k : Nat} (hk : k < ls.length) (p : Gr.Ln) (hp : p = ls.getD k (0, 0)) {q : Gr.Ln} : q ∈ ls.take (k + 1) ↔ q ∈ ls.take k ∨ q = p := by
  rw [List.take_succ_eq_append_getElem hk, List.mem_append, List.mem_singleton]
  have : ls[k] = p := by rw [hp]; simp [List.getD, hk]
  rw [this]
theorem Mst.skip {k : Nat} {m : Int} (h : Mst ls E i k m) (hk : k < ls.length) {p q : Int} (hp : (p, q) = ls.getD k (0, 0)) (hn : q ≠ (i : Int)) : Mst ls E i (k + 1) m := by
  refine ⟨h.1, fun c hc => ?_, h.2.2.imp id fun ⟨c, hc, e⟩ => ⟨c, (mem_next hk _ hp).2 (.inl hc), e⟩⟩
  rcases (mem_next hk _ hp).1 hc with hc | hc
  · exact h.2.1 c hc
  · exact absurd (Prod.mk.inj hc).2.symm hn
theorem Mst.less {k : Nat} {m : Int} (h : Mst ls E i k m) (hk : k < ls.length) {c : Nat} (hp : (((c : Int), (i : Int)) : Gr.Ln) = ls.getD k (0, 0)) (hl : ¬ m < (E c : Int)) : Mst ls E i (k + 1) m := by
  refine ⟨h.1, fun d hd => ?_, h.2.2.imp id fun ⟨d, hd, e⟩ => ⟨d, (mem_next hk _ hp).2 (.inl hd), e⟩⟩
  rcases (mem_next hk _ hp).1 hd with hd | hd
  · exact h.2.1 d hd
  · have : d = c := by have := (Prod.mk.inj hd).1; omega
    subst this
    omega
theorem Mst.more {k : Nat} {m : Int} (h : Mst ls E i k m) (hk : k < ls.length) {c : Nat} (hp : (((c : Int), (i : Int)) : Gr.Ln) = ls.getD k (0, 0)) (hl : m < (E c : Int)) : Mst ls E i (k + 1) (E c : Int) := by
  refine ⟨by omega, fun d hd => ?_, .inr ⟨c, (mem_next hk _ hp).2 (.inr rfl), rfl⟩⟩
  rcases (mem_next hk _ hp).1 hd with hd | hd
  · have := h.2.1 d hd; omega
  · have : d = c := by have := (Prod.mk.inj hd).1; omega
    subst this
    omega
theorem Mst.end_ {n : Nat} {m : Int} (h : Mst ls E i ls.length m) (hE : (∀ c : Nat, Gr.has ls (c : Int) (i : Int) = true → E c + 1 ≤ E i) ∧ (E i = 0 ∨ ∃ c : Nat, c < n ∧ Gr.has ls (c : Int) (i : Int) = true ∧ E i = E c + 1)) : (E i : Int) = m + 1 := by
  obtain ⟨h1, h2, h3⟩ := h
  rw [List.take_length] at h2 h3
  have a1 : m + 1 ≤ (E i : Int) := by
    rcases h3 with rfl | ⟨c, hc, rfl⟩
    · omega
    · have := hE.1 c (Gr.has_iff.2 hc); omega
  have a2 : (E i : Int) ≤ m + 1 := by
    rcases hE.2 with h4 | ⟨c, _, hc, h4⟩
    · omega
    · have := h2 c (Gr.has_iff.1 hc); omega
  omega
end

/-! ### the longest way -/
theorem top_deps {n : Nat} {ls : List Gr.Ln} {o : List Int} (hg : ∀ p ∈ ls, Gr.Good (n : Int) p) (hs : Step n ls o) (hl : o.length = n) {r : List Int} (h1 : r.Pairwise (· ≤ ·)) (h2 : r.Perm (deps n ls)) (h0 : 0 < n) : ∃ d : Nat, r.getD (n - 1) 0 = (d : Int) ∧ d < n ∧ Top n ls d := by
  obtain ⟨⟨i, hi, e⟩, hall⟩ := Ri.last_most h1 h2 (by rw [deps_len]; exact h0)
  rw [deps_len] at hi e hall
  rw [deps_at ls hi] at e
  refine ⟨dpF ls n (i : Int), e.symm, dep_small hg hs hl hi, Top.of (D := fun i => dpF ls n (i : Int)) (fun i hi => dp_all hg hs hl hi) ⟨i, hi, rfl⟩ fun j hj => ?_⟩
  have := hall j hj
  rw [deps_at ls hj] at this
  rw [← e] at this
  omega
end Go.Proofs.YtojkjdccjomaaaaDoor.To
