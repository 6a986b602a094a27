/-
  Plain facts on the library's insertion sort, with no program in them: over points in their order it yields the order of what they want, ties by number. There is no condition.
-/
import Derived.Test.YtnekbgeablhgiaaHavelN
import Derived.Sort.LotA
import Derived.Sort.WalkA
import Derived.Shelf.SlSortCmp.Insertion
namespace Go.Proofs.Ytnekbgeablhgiaa.De
open Go.Sort

/-- the test: what the second wants less what the first wants -/
def want (ns : List Nat) {n : Nat} (x y : Fin (n + 1)) : Int := (ns.getD y.val 0 : Int) - (ns.getD x.val 0 : Int)
theorem want_lt {ns : List Nat} {n : Nat} {x y : Fin (n + 1)} : Go.Proofs.ltOf (want ns) x y = true ↔ ns.getD y.val 0 < ns.getD x.val 0 := by
  unfold Go.Proofs.ltOf want
  rw [decide_eq_true_eq]
  omega
theorem want_ge {ns : List Nat} {n : Nat} {x y : Fin (n + 1)} : Go.Proofs.ltOf (want ns) x y = false ↔ ns.getD x.val 0 ≤ ns.getD y.val 0 := by
  unfold Go.Proofs.ltOf want
  rw [decide_eq_false_iff_not]
  omega
theorem want_swo (ns : List Nat) (n : Nat) : SWO (α := Fin (n + 1)) (Go.Proofs.ltOf (want ns)) where
  irrefl x := want_ge.2 (Nat.le_refl _)
  trans x y z h1 h2 := by
    have := want_lt.1 h1
    have := want_lt.1 h2
    exact want_lt.2 (by omega)
  ntrans x y z h1 h2 := by
    have := want_ge.1 h1
    have := want_ge.1 h2
    exact want_ge.2 (by omega)

section
variable {ns : List Nat} {n : Nat}
/-- the first i places are in order, and hold what is less than i; behind them each place holds itself -/
structure Upto (ns : List Nat) (i : Nat) (d : Array (Fin (n + 1))) : Prop where
  size : d.size = n + 1
  ord : ∀ p q, p < q → q < i → Ahead ns d[p]!.val d[q]!.val
  less : ∀ p, p < i → d[p]!.val < i
  tail : ∀ p, i ≤ p → p < n + 1 → d[p]!.val = p
/-- i is on its way, at place j -/
structure Mid (ns : List Nat) (i j : Nat) (d : Array (Fin (n + 1))) : Prop where
  size : d.size = n + 1
  at_ : d[j]!.val = i
  ord : ∀ p q, p < q → q ≤ i → p ≠ j → q ≠ j → Ahead ns d[p]!.val d[q]!.val
  right : ∀ q, j < q → q ≤ i → ns.getD d[q]!.val 0 < ns.getD i 0
  less : ∀ p, p ≤ i → p ≠ j → d[p]!.val < i
  tail : ∀ p, i < p → p < n + 1 → d[p]!.val = p

theorem Mid.stop {i j : Nat} {d : Array (Fin (n + 1))} (h : Mid ns i j d) (hj : j ≤ i) (hs : j ≤ 0 ∨ Go.Proofs.ltOf (want ns) d[j]! d[j - 1]! = false) : Upto ns (i + 1) d := by
  refine ⟨h.size, fun p q hpq hq => ?_, fun p hp => ?_, fun p hp hn => h.tail p (by omega) hn⟩
  · by_cases e1 : p = j
    · subst e1
      have := h.right q hpq (by omega)
      rw [h.at_]
      exact .inl this
    · by_cases e2 : q = j
      · subst e2
        have hle : ns.getD i 0 ≤ ns.getD d[q - 1]!.val 0 := by
          rcases hs with hs | hs
          · omega
          · have := want_ge.1 hs
            rwa [h.at_] at this
        have hl := h.less p (by omega) e1
        have hge : ns.getD d[q - 1]!.val 0 ≤ ns.getD d[p]!.val 0 := by
          by_cases e3 : p = q - 1
          · subst e3; exact Nat.le_refl _
          · exact (h.ord p (q - 1) (by omega) (by omega) e1 (by omega)).ge
        rw [h.at_]
        unfold Ahead
        omega
      · exact h.ord p q hpq (by omega) e1 e2
  · by_cases e : p = j
    · subst e; rw [h.at_]; omega
    · have := h.less p (by omega) e
      omega
theorem Mid.step {i j : Nat} {d : Array (Fin (n + 1))} (h : Mid ns i j d) (hj : j ≤ i) (hi : i < n + 1) (h0 : 0 < j) (hs : Go.Proofs.ltOf (want ns) d[j]! d[j - 1]! = true) : Mid ns i (j - 1) (swp d j (j - 1)) := by
  have hget := swp_get d (i := j) (j := j - 1) (by rw [h.size]; omega) (by rw [h.size]; omega)
  have hlt := want_lt.1 hs
  rw [h.at_] at hlt
  refine ⟨by rw [swp_size]; exact h.size, ?_, fun p q hpq hq hp1 hq1 => ?_, fun q hq hqi => ?_, fun p hp hp1 => ?_, fun p hp hn => ?_⟩
  · rw [hget, if_pos rfl]; exact h.at_
  · rw [hget p, hget q, if_neg hp1, if_neg hq1]
    by_cases e1 : p = j
    · subst e1
      rw [if_pos rfl, if_neg (by omega)]
      exact h.ord (p - 1) q (by omega) hq (by omega) (by omega)
    · rw [if_neg e1]
      by_cases e2 : q = j
      · subst e2
        rw [if_pos rfl]
        exact h.ord p (q - 1) (by omega) (by omega) e1 (by omega)
      · rw [if_neg e2]
        exact h.ord p q hpq hq e1 e2
  · rw [hget q, if_neg (by omega)]
    by_cases e : q = j
    · rw [if_pos e]; exact hlt
    · rw [if_neg e]; exact h.right q (by omega) hqi
  · rw [hget p, if_neg hp1]
    by_cases e : p = j
    · rw [if_pos e]; exact h.less (j - 1) (by omega) (by omega)
    · rw [if_neg e]; exact h.less p hp e
  · rw [hget p, if_neg (by omega), if_neg (by omega)]
    exact h.tail p hp hn
theorem inner_upto {i : Nat} (hi : i < n + 1) : ∀ (j : Nat) (d : Array (Fin (n + 1))), j ≤ i → Mid ns i j d → Upto ns (i + 1) (insInner (Go.Proofs.ltOf (want ns)) 0 j d) := by
  intro j
  induction j with
  | zero =>
    intro d hj h
    rw [insInner_stop _ _ _ _ (.inl (Nat.le_refl _))]
    exact h.stop hj (.inl (Nat.le_refl _))
  | succ j ih =>
    intro d hj h
    cases hl : Go.Proofs.ltOf (want ns) d[j + 1]! d[j + 1 - 1]! with
    | true =>
      rw [insInner_go _ _ _ _ (Nat.succ_pos j) hl]
      exact ih _ (by omega) (h.step hj hi (Nat.succ_pos j) hl)
    | false =>
      rw [insInner_stop _ _ _ _ (.inr hl)]
      exact h.stop hj (.inr hl)
theorem Upto.mid {i : Nat} {d : Array (Fin (n + 1))} (h : Upto ns i d) (hi : i < n + 1) : Mid ns i i d :=
  ⟨h.size, h.tail i (Nat.le_refl _) hi, fun p q hpq hq _ hq1 => h.ord p q hpq (by omega), fun q h1 h2 => by omega, fun p hp hp1 => h.less p (by omega), fun p hp hn => h.tail p (by omega) hn⟩
theorem outer_upto : ∀ (k i : Nat) (d : Array (Fin (n + 1))), n + 1 - i = k → i ≤ n + 1 → Upto ns i d → Upto ns (n + 1) (insOuter (Go.Proofs.ltOf (want ns)) 0 (n + 1) i d) := by
  intro k
  induction k with
  | zero =>
    intro i d hk hi h
    rw [insOuter_stop _ _ _ _ _ (by omega)]
    obtain rfl : i = n + 1 := by omega
    exact h
  | succ k ih =>
    intro i d hk hi h
    rw [insOuter_go _ _ _ _ _ (by omega)]
    exact ih (i + 1) _ (by omega) (by omega) (inner_upto (by omega) i d (Nat.le_refl _) (h.mid (by omega)))

theorem extract_all {α : Type} (d : Array α) {m : Nat} (h : d.size = m) : d.extract 0 m = d := by
  subst h
  exact Array.extract_size
/-- the points in their order -/
def points (n : Nat) : Array (Fin (n + 1)) := Array.ofFn fun i => i
theorem points_size (n : Nat) : (points n).size = n + 1 := by simp [points]
theorem points_get {p : Nat} (hp : p < n + 1) : (points n)[p]!.val = p := by
  rw [getElem!_pos _ p (by rw [points_size]; exact hp)]
  simp [points]
theorem points_upto (ns : List Nat) (n : Nat) : Upto ns 1 (points n) :=
  ⟨points_size n, fun p q h1 h2 => by omega, fun p hp => by obtain rfl : p = 0 := by omega
                                                            rw [points_get (by omega)]; omega, fun p _ hn => points_get hn⟩
/-- the points, sorted -/
def sorted (ns : List Nat) (n : Nat) : Array (Fin (n + 1)) := insertionSort (Go.Proofs.ltOf (want ns)) (points n) 0 (n + 1)
theorem sorted_upto (ns : List Nat) (n : Nat) : Upto ns (n + 1) (sorted ns n) := outer_upto n 1 _ (by omega) (by omega) (points_upto ns n)
/-- .. as numbers -/
def order (ns : List Nat) (n : Nat) : List Nat := (sorted ns n).toList.map fun x => x.val
theorem order_len (ns : List Nat) (n : Nat) : (order ns n).length = n + 1 := by simp [order, (sorted_upto ns n).size]
theorem order_at {ns : List Nat} {n p : Nat} (hp : p < n + 1) : (order ns n).getD p 0 = (sorted ns n)[p]!.val := by
  have hs := (sorted_upto ns n).size
  rw [getElem!_pos _ p (by rw [hs]; exact hp)]
  simp [order, List.getD, hs, hp]
theorem order_isOrd {ns : List Nat} {n : Nat} (hn : ns.length = n + 1) : IsOrd ns (order ns n) := by
  have hU := sorted_upto ns n
  refine ⟨?_, ?_⟩
  · have hP := (insertionSort_holds (want_swo ns n) (points n) 0 (n + 1) (Nat.zero_le _) (by rw [points_size]; exact Nat.le_refl _)).1.2.2
    have e1 : (insertionSort (Go.Proofs.ltOf (want ns)) (points n) 0 (n + 1)).extract 0 (n + 1) = sorted ns n := extract_all _ hU.size
    have e2 : (points n).extract 0 (n + 1) = points n := extract_all _ (points_size n)
    rw [e1, e2] at hP
    have := hP.map fun x : Fin (n + 1) => x.val
    have e3 : (points n).toList.map (fun x : Fin (n + 1) => x.val) = List.range (n + 1) := by
      refine List.ext_getElem (by simp [points]) fun i h1 h2 => ?_
      simp only [points, List.getElem_map, Array.getElem_toList, Array.getElem_ofFn, List.getElem_range]
    rw [e3] at this
    rw [hn]
    exact this
  · rw [List.pairwise_iff_getElem]
    intro p q hp hq hpq
    have h1 := hU.ord p q hpq (by rw [order_len] at hq; exact hq)
    rw [order_len] at hp hq
    rw [← order_at hp, ← order_at hq] at h1
    simpa [List.getD, order_len, hp, hq] using h1
end

end Go.Proofs.Ytnekbgeablhgiaa.De
