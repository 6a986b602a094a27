/-
  Plain facts on ways in trees, with no program in them: the next one on, pieces of ways, and whom two hang on in common, as it is climbed to. No statement of the program is proved here; there is no condition.
-/
import Derived.Test.YtojkjdccjomaaaaDoorTreeU
set_option linter.unusedSimpArgs false
set_option linter.unusedVariables false
namespace Go.Proofs.YtojkjdccjomaaaaDoor.Co
open Tr (Met)
open Sg (first first_spec)

theorem take_snoc (l : List Nat) (t : Nat) (ht : t < l.length) : l.take (t + 1) = l.take t ++ [l.getD t 0] := by
  rw [List.take_add_one]
  simp [List.getD, ht]
theorem filter_one (p : Nat → Bool) (v : Nat) : ∀ (l : List Nat), l.Nodup → v ∈ l → (∀ x, x ∈ l → (p x = true ↔ x = v)) → l.filter p = [v]
  | [], _, hv, _ => absurd hv (by simp)
  | x :: l, hn, hv, hp => by
    rw [List.nodup_cons] at hn
    by_cases e : x = v
    · subst e
      have hx : p x = true := (hp x (by simp)).2 rfl
      rw [List.filter_cons_of_pos hx]
      have : l.filter p = [] := List.filter_eq_nil_iff.2 fun y hy hpy => by
        have := (hp y (by simp [hy])).1 hpy
        subst this
        exact hn.1 hy
      rw [this]
    · have hx : ¬ p x = true := fun hc => e ((hp x (by simp)).1 hc)
      rw [List.filter_cons_of_neg hx]
      have hvl : v ∈ l := by
        rcases List.mem_cons.1 hv with h | h
        · exact absurd h.symm e
        · exact h
      exact filter_one p v l hn.2 hvl fun y hy => hp y (by simp [hy])
theorem filter_take (p : Nat → Bool) (l : List Nat) (t : Nat) (ht : t < l.length) : (l.take (t + 1)).filter p = (l.take t).filter p ++ (if p (l.getD t 0) = true then [l.getD t 0] else []) := by
  rw [take_snoc l t ht, List.filter_append]
  congr 1
  by_cases h : p (l.getD t 0) = true
  · rw [List.filter_cons_of_pos h, if_pos h]; rfl
  · rw [List.filter_cons_of_neg h, if_neg h]; rfl

section
variable {n : Nat} {A : Nat → Nat → Bool} {D : Nat → Nat → Nat}
/-- beside and nearer: it is the next one -/
theorem nx_iff (h : Met n A D) {v b k : Nat} (hv : v < n) (hb : b < n) (hne : v ≠ b) (hk : k < n) : (A v k = true ∧ D k b < D v b) ↔ k = nx n A D b v := by
  obtain ⟨h1, h2, h3⟩ := nx_spec h hv hb hne
  constructor
  · rintro ⟨hA, hd⟩
    have s1 := h.sym k b hk hb
    have s2 := h.sym v b hv hb
    have := h.one b v k hb hv hk hA
    exact nx_only h hv hb hne hk hA (by omega)
  · rintro rfl
    have s1 := h.sym (nx n A D b v) b h1 hb
    have s2 := h.sym v b hv hb
    exact ⟨h2, by omega⟩
theorem wy_self (h : Met n A D) {a : Nat} (ha : a < n) : wy n A D a a = [a] := by
  unfold wy
  rw [(h.zero a a ha ha).2 rfl]
  rfl
theorem wy_cons (h : Met n A D) {a b : Nat} (ha : a < n) (hb : b < n) (hne : a ≠ b) : wy n A D a b = a :: wy n A D (nx n A D b a) b := by
  obtain ⟨h1, h2, h3⟩ := nx_spec h ha hb hne
  unfold wy
  rw [h3]
  rfl
theorem wy_zero (h : Met n A D) {a b : Nat} (ha : a < n) (hb : b < n) : (wy n A D a b).getD 0 0 = a := by
  by_cases e : a = b
  · subst e; rw [wy_self h ha]; rfl
  · rw [wy_cons h ha hb e]; rfl
theorem wy_last (h : Met n A D) {a b : Nat} (ha : a < n) (hb : b < n) : (wy n A D a b).getD (D a b) 0 = b := wy_of h ha hb hb (on_last h ha hb)
/-- not there yet -/
theorem wy_ne (h : Met n A D) {a b t : Nat} (ha : a < n) (hb : b < n) (ht : t < D a b) : (wy n A D a b).getD t 0 ≠ b := by
  intro e
  obtain ⟨h1, h2, h3⟩ := wy_at h ha hb (Nat.le_of_lt ht)
  rw [e] at h2
  omega
theorem wy_next (h : Met n A D) {a b t : Nat} (ha : a < n) (hb : b < n) (ht : t < D a b) : (wy n A D a b).getD (t + 1) 0 = nx n A D b ((wy n A D a b).getD t 0) := by
  obtain ⟨h1, h2, h3⟩ := wy_at h ha hb (Nat.le_of_lt ht)
  obtain ⟨k1, k2, k3⟩ := wy_at h ha hb (t := t + 1) (by omega)
  have hn := on_next h ha hb h1 h3 (wy_ne h ha hb ht)
  have hl := (nx_spec h h1 hb (wy_ne h ha hb ht)).1
  exact on_only h ha hb (t + 1) _ _ k1 hl k3 hn.1 k2 (by rw [hn.2, h2])
theorem wy_one (h : Met n A D) {a b : Nat} (ha : a < n) (hb : b < n) (hne : a ≠ b) : (wy n A D a b).getD 1 0 = nx n A D b a := by
  rw [wy_cons h ha hb hne]
  show (wy n A D (nx n A D b a) b).getD 0 0 = _
  exact wy_zero h (nx_spec h ha hb hne).1 hb
theorem wy_lt (h : Met n A D) {a b v : Nat} (ha : a < n) (hb : b < n) (hv : v ∈ wy n A D a b) : v < n := ((mem_wy h ha hb).1 hv).1
theorem wy_nodup (h : Met n A D) {a b : Nat} (ha : a < n) (hb : b < n) : (wy n A D a b).Nodup := by
  rw [List.Nodup, List.pairwise_iff_getElem]
  intro i j hi hj hij e
  have hl := wy_len h ha hb
  obtain ⟨_, i2, _⟩ := wy_at h ha hb (t := i) (by omega)
  obtain ⟨_, j2, _⟩ := wy_at h ha hb (t := j) (by omega)
  have ei : (wy n A D a b).getD i 0 = (wy n A D a b)[i] := by simp [List.getD, hi]
  have ej : (wy n A D a b).getD j 0 = (wy n A D a b)[j] := by simp [List.getD, hj]
  rw [ei, e] at i2
  rw [ej] at j2
  omega
theorem on_sub {a b v w : Nat} (hn : Met n A D) (ha : a < n) (hb : b < n) (hv : v < n) (hw : w < n) (h1 : On D a b v) (h2 : On D a v w) : On D a b w ∧ On D w b v := by
  have t1 := hn.tri a w b ha hw hb
  have t2 := hn.tri w v b hw hv hb
  unfold On at *
  omega
/-- ahead of a point of the way: a way's beginning -/
theorem wy_take (h : Met n A D) {a b v : Nat} (ha : a < n) (hb : b < n) (hv : v < n) (ho : On D a b v) : wy n A D a v = (wy n A D a b).take (D a v + 1) := by
  have l1 := wy_len h ha hv
  have l2 := wy_len h ha hb
  have hle := on_le ho
  refine List.ext_getElem (by rw [List.length_take]; omega) fun i h1 h2 => ?_
  have hi : i ≤ D a v := by omega
  obtain ⟨a1, a2, a3⟩ := wy_at h ha hv hi
  have e1 : (wy n A D a v)[i]'h1 = (wy n A D a v).getD i 0 := by simp [List.getD, h1]
  have e2 : ((wy n A D a b).take (D a v + 1))[i]'h2 = (wy n A D a b).getD i 0 := by
    rw [List.getElem_take]
    simp [List.getD, show i < (wy n A D a b).length by omega]
  rw [e1, e2]
  obtain ⟨b1, b2, b3⟩ := wy_at h ha hb (t := i) (by omega)
  exact on_only h ha hb i _ _ a1 b1 (on_sub h ha hb hv a1 ho a3).1 b3 a2 b2
/-- behind it: a way's end -/
theorem wy_drop (h : Met n A D) {a b v : Nat} (ha : a < n) (hb : b < n) (hv : v < n) (ho : On D a b v) : wy n A D v b = (wy n A D a b).drop (D a v) := by
  have l1 := wy_len h hv hb
  have l2 := wy_len h ha hb
  have hle := on_le ho
  have ho' : D a v + D v b = D a b := ho
  refine List.ext_getElem (by rw [List.length_drop]; omega) fun i h1 h2 => ?_
  have hi : i ≤ D v b := by omega
  obtain ⟨a1, a2, a3⟩ := wy_at h hv hb hi
  have e1 : (wy n A D v b)[i]'h1 = (wy n A D v b).getD i 0 := by simp [List.getD, h1]
  have e2 : ((wy n A D a b).drop (D a v))[i]'h2 = (wy n A D a b).getD (D a v + i) 0 := by
    rw [List.getElem_drop]
    simp [List.getD, show D a v + i < (wy n A D a b).length by omega]
  rw [e1, e2]
  obtain ⟨b1, b2, b3⟩ := wy_at h ha hb (t := D a v + i) (by omega)
  generalize (wy n A D v b).getD i 0 = x at *
  have t1 := h.tri a v x ha hv a1
  have t2 := h.tri a x b ha a1 hb
  exact on_only h ha hb (D a v + i) _ _ a1 b1 (by unfold On at *; omega) b3 (by unfold On at *; omega) b2
theorem wy_split (h : Met n A D) {a b v : Nat} (ha : a < n) (hb : b < n) (hv : v < n) (ho : On D a b v) : wy n A D a b = wy n A D a v ++ (wy n A D v b).drop 1 := by
  rw [wy_take h ha hb hv ho, wy_drop h ha hb hv ho, List.drop_drop]
  exact (List.take_append_drop _ _).symm
/-- up from one, and down to the other -/
theorem wy_up_down (h : Met n A D) {r a b v : Nat} (hr : r < n) (ha : a < n) (hb : b < n) (hv : Low n D r a b v) :
    wy n A D a b = (wy n A D a r).take (D a v + 1) ++ ((wy n A D b r).take (D b v)).reverse := by
  have hb' := hv.between h hr ha hb
  rw [wy_split h ha hb hv.1 hb', wy_take h ha hr hv.1 hv.2.1, ← wy_back h hb hv.1, wy_take h hb hr hv.1 hv.2.2.1]
  congr 1
  have hle := on_le hv.2.2.1
  have l2 := wy_len h hb hr
  rw [take_snoc (wy n A D b r) (D b v) (by omega), List.reverse_append]
  rfl
/-- the first one of the way from a to the root that lies on b's, too -/
theorem low_first (h : Met n A D) {r a b k : Nat} (hr : r < n) (ha : a < n) (hb : b < n) (hk : k ≤ D a r) (hin : (wy n A D a r).getD k 0 ∈ wy n A D b r)
    (hno : ∀ j, j < k → (wy n A D a r).getD j 0 ∉ wy n A D b r) : Low n D r a b ((wy n A D a r).getD k 0) := by
  obtain ⟨h1, h2, h3⟩ := wy_at h ha hr hk
  refine ⟨h1, h3, ((mem_wy h hb hr).1 hin).2, fun w hw hwa hwb => ?_⟩
  have e := wy_of h ha hr hw hwa
  have hge : k ≤ D a w := Nat.le_of_not_lt fun hc => hno _ hc (by rw [e]; exact (mem_wy h hb hr).2 ⟨hw, hwb⟩)
  have s1 := h.sym r w hr hw
  have s2 := h.sym r ((wy n A D a r).getD k 0) hr h1
  unfold On at *
  omega
/-- there is such a one: the root -/
theorem low_bound (h : Met n A D) {r a b : Nat} (hr : r < n) (ha : a < n) (hb : b < n) : (wy n A D a r).getD (D a r) 0 ∈ wy n A D b r := by
  rw [wy_last h ha hr]
  exact (mem_wy h hb hr).2 ⟨hr, on_last h hb hr⟩
/-- two that are one hang on themselves -/
theorem low_self (h : Met n A D) {r a v : Nat} (hr : r < n) (ha : a < n) (hv : Low n D r a a v) : v = a := by
  have := hv.2.2.2 a ha (on_first h ha hr) (on_first h ha hr)
  have h1 := hv.2.1
  have s1 := h.sym r a hr ha
  have s2 := h.sym r v hr hv.1
  have : D a v = 0 := by unfold On at h1; omega
  exact ((h.zero a v ha hv.1).1 this).symm
/-- the deeper one may climb -/
theorem low_up (h : Met n A D) {r a b v : Nat} (hr : r < n) (ha : a < n) (hb : b < n) (hne : a ≠ b) (hd : D r b ≤ D r a) (hv : Low n D r a b v) :
    a ≠ r ∧ nx n A D r a < n ∧ Low n D r (nx n A D r a) b v := by
  have har : a ≠ r := fun e => by
    subst e
    have h0 := (h.zero a a ha ha).2 rfl
    exact hne ((h.zero a b ha hb).1 (by omega))
  obtain ⟨n1, n2, n3⟩ := nx_spec h ha hr har
  have o1 := h.beside ha n1 n2
  have sa := h.sym r a hr ha
  have sx := h.sym r (nx n A D r a) hr n1
  have sb := h.sym r b hr hb
  refine ⟨har, n1, hv.1, ?_, hv.2.2.1, fun w hw hwa hwb => ?_⟩
  · -- v is not a: it lies behind the next one
    have hva : v ≠ a := fun e => by
      subst e
      have h1 := hv.2.2.1
      have s1 := h.sym b v hb ha
      have : D b v = 0 := by unfold On at h1; omega
      exact hne ((h.zero b v hb ha).1 this).symm
    have hav : On D a r v := hv.2.1
    -- the point of the way that is one line off a is the next one
    have hpos : 1 ≤ D a v := by
      rcases Nat.eq_zero_or_pos (D a v) with h0 | h0
      · exact absurd ((h.zero a v ha hv.1).1 h0).symm hva
      · exact h0
    have hx := wy_take h ha hr hv.1 hav
    have e1 : (wy n A D a v).getD 1 0 = (wy n A D a r).getD 1 0 := by
      rw [hx]
      simp [List.getD, List.getElem?_take, show 1 < D a v + 1 by omega]
    rw [wy_one h ha hr har, wy_one h ha hv.1 (Ne.symm hva)] at e1
    obtain ⟨m1, m2, m3⟩ := nx_spec h ha hv.1 (Ne.symm hva)
    rw [e1] at m3
    have t1 := h.sym v a hv.1 ha
    have t2 := h.sym v (nx n A D r a) hv.1 n1
    unfold On at *
    omega
  · refine hv.2.2.2 w hw ?_ hwb
    have t1 := h.tri a (nx n A D r a) w ha n1 hw
    have t2 := h.tri a w r ha hw hr
    unfold On at *
    omega
end
end Go.Proofs.YtojkjdccjomaaaaDoor.Co
