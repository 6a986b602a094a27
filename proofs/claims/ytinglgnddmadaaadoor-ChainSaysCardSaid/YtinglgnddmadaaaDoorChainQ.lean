/-
  Plain facts on points ahead of each other, with no program in them: as many of which none is ahead of another one as rows that hold all (both are all points less as many pairs as there can be: Dilworth), both by trying all; layers of equal depth (Mirsky). No statement of the program is proved here; there is no condition.
  Plain facts on points ahead of each other by ways, with no program in them: they are in a strict order where there is an order at all; depths rise along ways; an order as a list of points; one line more. No statement of the program is proved here; there is no condition.
  Plain facts on all ways as lines, row by row, with no program in them: how they are put down one by one, and how many there are at most where no point comes back to itself. No statement of the program is proved here; there is no condition.
-/
import Derived.Test.YtinglgnddmadaaaDoorMatchK
import Derived.Test.YtinglgnddmadaaaDoorCloseP
set_option linter.unusedSimpArgs false
set_option linter.unusedVariables false
namespace Go.Proofs.YtinglgnddmadaaaDoor.Cn
open Ma

/-- one ahead of another one -/
structure Str (G : Nat → Nat → Bool) (n : Nat) : Prop where
  tr : ∀ a b c, a < n → b < n → c < n → G a b = true → G b c = true → G a c = true
  ir : ∀ a, a < n → G a a = false
/-- none of them ahead of another one -/
def Anti (G : Nat → Nat → Bool) (n : Nat) (T : Nat → Bool) : Prop := ∀ a b, a < n → b < n → T a = true → T b = true → G a b = false
section
variable {G : Nat → Nat → Bool} {n : Nat}
theorem anti_le (h : Str G n) {T : Nat → Bool} (hT : Anti G n T) : cnt n T + nu G n n ≤ n := by
  have h1 := hall_le G n n fun x => T x || nbr G n T x
  have h2 : cnt n (nbr G n fun x => T x || nbr G n T x) ≤ cnt n (nbr G n T) := cnt_mono fun y hy hh => by
    obtain ⟨x, hx, hs, hg⟩ := nbr_iff.1 hh
    rcases Bool.or_eq_true_iff.1 hs with hs | hs
    · exact nbr_iff.2 ⟨x, hx, hs, hg⟩
    · obtain ⟨t, ht, hs2, hg2⟩ := nbr_iff.1 hs
      exact nbr_iff.2 ⟨t, ht, hs2, h.tr t x y ht hx hy hg2 hg⟩
  have h3 := countP_or_and T (nbr G n T) (List.range n)
  have h4 : (List.range n).countP (fun x => T x && nbr G n T x) = 0 := by
    rw [List.countP_eq_zero]
    intro x hx hh
    have hx' := List.mem_range.1 hx
    simp only [Bool.and_eq_true] at hh
    obtain ⟨t, ht, hs, hg⟩ := nbr_iff.1 hh.2
    rw [hT t x ht hx' hs hh.1] at hg
    cases hg
  unfold cnt at *
  omega
theorem anti_ex (h : Str G n) : ∃ T, Anti G n T ∧ n ≤ cnt n T + nu G n n := by
  obtain ⟨S, hS⟩ := hall_ex G n n
  refine ⟨fun x => S x && !nbr G n S x, fun a b ha hb h1 h2 => ?_, ?_⟩
  · cases hg : G a b with
    | false => rfl
    | true =>
      simp only [Bool.and_eq_true, Bool.not_eq_true'] at h1 h2
      have : nbr G n S b = true := nbr_iff.2 ⟨a, ha, h1.1, hg⟩
      rw [h2.2] at this
      cases this
  · unfold Just at hS
    have h1 : cnt n S ≤ (List.range n).countP fun x => (S x && !nbr G n S x) || nbr G n S x := cnt_mono fun x _ hx => by
      cases hn : nbr G n S x <;> simp [hx, hn]
    have h2 := countP_or_and (fun x => S x && !nbr G n S x) (nbr G n S) (List.range n)
    unfold cnt at *
    omega

/-! ### the most of which none is ahead of another one, by trying all -/
def wideF (A : Nat → Nat → Bool) : Nat → Nat → List Nat → Nat
  | 0, _, has => has.length
  | f + 1, i, has => if has.all (fun k => !A i k) = true then max (wideF A f (i + 1) has) (wideF A f (i + 1) (has ++ [i])) else wideF A f (i + 1) has
/-- some from i on fit to those that are chosen -/
def Fits (A : Nat → Nat → Bool) (f i : Nat) (has : List Nat) (T : Nat → Bool) : Prop :=
  (∀ j, i ≤ j → j < i + f → T j = true → ∀ k ∈ has, A j k = false) ∧ ∀ j k, i ≤ j → j < k → k < i + f → T j = true → T k = true → A k j = false
theorem wide_ge {A : Nat → Nat → Bool} : ∀ (f i : Nat) (has : List Nat) (T : Nat → Bool), Fits A f i has T → has.length + (List.range' i f).countP T ≤ wideF A f i has
  | 0, i, has, T, _ => by simp [wideF]
  | f + 1, i, has, T, h => by
    have h' : Fits A f (i + 1) has T := ⟨fun j h1 h2 => h.1 j (by omega) (by omega), fun j k h1 h2 h3 => h.2 j k (by omega) h2 (by omega)⟩
    have ih := wide_ge f (i + 1) has T h'
    have e : List.range' i (f + 1) = i :: List.range' (i + 1) f := rfl
    rw [e, List.countP_cons]
    unfold wideF
    cases hT : T i with
    | false =>
      rw [show (if false = true then 1 else 0) = 0 from rfl]
      split <;> omega
    | true =>
      have hall : has.all (fun k => !A i k) = true := List.all_eq_true.2 fun k hk => by rw [h.1 i (Nat.le_refl _) (by omega) hT k hk]; rfl
      have h2 : Fits A f (i + 1) (has ++ [i]) T := by
        refine ⟨fun j h1 h2 hj k hk => ?_, h'.2⟩
        rcases List.mem_append.1 hk with hk | hk
        · exact h'.1 j h1 h2 hj k hk
        · obtain rfl : k = i := by simpa using hk
          exact h.2 k j (Nat.le_refl _) (by omega) (by omega) hT hj
      have ih2 := wide_ge f (i + 1) (has ++ [i]) T h2
      rw [if_pos hall]
      rw [List.length_append, List.length_singleton] at ih2
      simp [hT]
      omega
theorem wide_ex {A : Nat → Nat → Bool} : ∀ (f i : Nat) (has : List Nat), (∀ k ∈ has, k < i) → ∃ T, Fits A f i has T ∧ wideF A f i has = has.length + (List.range' i f).countP T
  | 0, i, has, _ => ⟨fun _ => false, ⟨fun j h1 h2 => by omega, fun j k h1 h2 h3 => by omega⟩, by simp [wideF]⟩
  | f + 1, i, has, hh => by
    obtain ⟨T, hT, e⟩ := wide_ex f (i + 1) has (fun k hk => by have := hh k hk; omega)
    have e0 : List.range' i (f + 1) = i :: List.range' (i + 1) f := rfl
    -- without i
    have hno : ∃ T, Fits A (f + 1) i has T ∧ wideF A f (i + 1) has = has.length + (List.range' i (f + 1)).countP T := by
      refine ⟨fun j => T j && decide (i < j), ⟨fun j h1 h2 hj => ?_, fun j k h1 h2 h3 hj hk => ?_⟩, ?_⟩
      · simp only [Bool.and_eq_true, decide_eq_true_eq] at hj
        exact hT.1 j (by omega) (by omega) hj.1
      · simp only [Bool.and_eq_true, decide_eq_true_eq] at hj hk
        exact hT.2 j k (by omega) h2 (by omega) hj.1 hk.1
      · rw [e, e0, List.countP_cons]
        have : (List.range' (i + 1) f).countP (fun j => T j && decide (i < j)) = (List.range' (i + 1) f).countP T := countP_eq fun j hj => by
          have := (List.mem_range'_1.1 hj).1
          simp [show i < j by omega]
        rw [this]
        simp
    unfold wideF
    by_cases hall : has.all (fun k => !A i k) = true
    · rw [if_pos hall]
      rcases Nat.le_total (wideF A f (i + 1) (has ++ [i])) (wideF A f (i + 1) has) with hle | hle
      · rw [Nat.max_eq_left hle]; exact hno
      · rw [Nat.max_eq_right hle]
        obtain ⟨T2, hT2, e2⟩ := wide_ex f (i + 1) (has ++ [i]) (fun k hk => by
          rcases List.mem_append.1 hk with hk | hk
          · have := hh k hk; omega
          · have : k = i := by simpa using hk
            omega)
        refine ⟨fun j => decide (j = i) || (T2 j && decide (i < j)), ⟨fun j h1 h2 hj k hk => ?_, fun j k h1 h2 h3 hj hk => ?_⟩, ?_⟩
        · simp only [Bool.or_eq_true, Bool.and_eq_true, decide_eq_true_eq] at hj
          rcases hj with rfl | hj
          · have := List.all_eq_true.1 hall k hk
            simpa using this
          · exact hT2.1 j (by omega) (by omega) hj.1 k (by simp [hk])
        · simp only [Bool.or_eq_true, Bool.and_eq_true, decide_eq_true_eq] at hj hk
          have hk' : T2 k = true := hk.elim (fun e => by omega) fun h => h.1
          rcases hj with rfl | hj
          · exact hT2.1 k (by omega) (by omega) hk' j (by simp)
          · exact hT2.2 j k (by omega) h2 (by omega) hj.1 hk'
        · rw [e2, e0, List.countP_cons]
          have : (List.range' (i + 1) f).countP (fun j => decide (j = i) || (T2 j && decide (i < j))) = (List.range' (i + 1) f).countP T2 := countP_eq fun j hj => by
            have := (List.mem_range'_1.1 hj).1
            simp [show i < j by omega, show ¬ j = i by omega]
          rw [this]
          simp
          omega
    · rw [if_neg hall]; exact hno
/-- it is all points less the most pairs -/
theorem wide_nu (h : Str G n) {A : Nat → Nat → Bool} (hA : ∀ a b, a < n → b < n → A a b = (G a b || G b a)) : wideF A n 0 [] + nu G n n = n := by
  have e0 : ∀ T : Nat → Bool, (List.range' 0 n).countP T = cnt n T := fun T => by unfold cnt; rw [List.range_eq_range']
  obtain ⟨T, hT, hn⟩ := anti_ex h
  have h1 := wide_ge (A := A) n 0 [] T ⟨fun j _ _ _ k hk => absurd hk (by simp), fun j k _ hjk hk hj hk2 => by rw [hA k j (by omega) (by omega), hT k j (by omega) (by omega) hk2 hj, hT j k (by omega) (by omega) hj hk2]; rfl⟩
  obtain ⟨T2, hT2, e2⟩ := wide_ex (A := A) n 0 [] (fun k hk => absurd hk (by simp))
  have hA2 : Anti G n T2 := fun a b ha hb h1 h2 => by
    rcases Nat.lt_trichotomy a b with hlt | rfl | hlt
    · have := hT2.2 a b (Nat.zero_le _) hlt (by omega) h1 h2
      rw [hA b a hb ha] at this
      exact (Bool.or_eq_false_iff.1 this).2
    · exact h.ir a ha
    · have := hT2.2 b a (Nat.zero_le _) hlt (by omega) h2 h1
      rw [hA a b ha hb] at this
      exact (Bool.or_eq_false_iff.1 this).1
  have h3 := anti_le h hA2
  rw [e0] at h1 e2
  simp only [List.length_nil, Nat.zero_add] at h1 e2
  omega
end

/-! ### the fewest rows that hold all, by trying all -/
section
variable (G : Nat → Nat → Bool)
/-- the next one begins a row, or goes behind one of the first k ends -/
def rowsTo (f : List Nat → Nat) (x : Nat) (ends : List Nat) : Nat → Nat
  | 0 => f (ends ++ [x])
  | k + 1 => if G (ends.getD k 0) x = true then min (rowsTo f x ends k) (f (ends.set k x)) else rowsTo f x ends k
def rowsF : List Nat → List Nat → Nat
  | [], ends => ends.length
  | x :: xs, ends => rowsTo G (rowsF xs) x ends ends.length
end
section
variable {G : Nat → Nat → Bool} {n : Nat}
theorem rowsTo_spec (f : List Nat → Nat) (x : Nat) (ends : List Nat) : ∀ k, rowsTo G f x ends k ≤ f (ends ++ [x]) ∧ (∀ j, j < k → G (ends.getD j 0) x = true → rowsTo G f x ends k ≤ f (ends.set j x)) ∧
    (rowsTo G f x ends k = f (ends ++ [x]) ∨ ∃ j, j < k ∧ G (ends.getD j 0) x = true ∧ rowsTo G f x ends k = f (ends.set j x))
  | 0 => ⟨Nat.le_refl _, fun j h => by omega, .inl rfl⟩
  | k + 1 => by
    obtain ⟨h1, h2, h3⟩ := rowsTo_spec f x ends k
    have e : rowsTo G f x ends (k + 1) = if G (ends.getD k 0) x = true then min (rowsTo G f x ends k) (f (ends.set k x)) else rowsTo G f x ends k := rfl
    by_cases hk : G (ends.getD k 0) x = true
    · rw [if_pos hk] at e
      rw [e]
      refine ⟨by omega, fun j hj hg => ?_, ?_⟩
      · rcases Nat.lt_or_ge j k with hl | hl
        · have := h2 j hl hg; omega
        · obtain rfl : j = k := by omega
          omega
      · rcases Nat.le_total (rowsTo G f x ends k) (f (ends.set k x)) with hl | hl
        · rw [Nat.min_eq_left hl]
          rcases h3 with h3 | ⟨j, hj, hg, h3⟩
          · exact .inl h3
          · exact .inr ⟨j, by omega, hg, h3⟩
        · exact .inr ⟨k, by omega, hk, Nat.min_eq_right hl⟩
    · rw [if_neg hk] at e
      rw [e]
      refine ⟨h1, fun j hj hg => ?_, ?_⟩
      · rcases Nat.lt_or_ge j k with hl | hl
        · exact h2 j hl hg
        · obtain rfl : j = k := by omega
          exact absurd hg hk
      · rcases h3 with h3 | ⟨j, hj, hg, h3⟩
        · exact .inl h3
        · exact .inr ⟨j, by omega, hg, h3⟩
/-- what holds while rows are laid: U are not used as the one ahead -/
structure Lay (G : Nat → Nat → Bool) (n : Nat) (xs ends : List Nat) (U : Nat → Bool) : Prop where
  nd : ends.Nodup
  en : ∀ e ∈ ends, e < n ∧ U e = true ∧ e ∉ xs
  al : ∀ y, y < n → U y = true → y ∈ ends ∨ y ∈ xs
  xn : xs.Nodup
  xl : ∀ x ∈ xs, x < n ∧ U x = true
  no : xs.Pairwise fun x y => G y x = false
  ir : ∀ x ∈ xs, G x x = false
theorem Lay.more {x : Nat} {xs ends : List Nat} {U : Nat → Bool} (h : Lay G n (x :: xs) ends U) : Lay G n xs (ends ++ [x]) U := by
  obtain ⟨hx, hxs⟩ := List.nodup_cons.1 h.xn
  have hxl := h.xl x (by simp)
  refine ⟨?_, fun e he => ?_, fun y hy hU => ?_, hxs, fun y hy => h.xl y (List.mem_cons_of_mem _ hy), (List.pairwise_cons.1 h.no).2, fun y hy => h.ir y (List.mem_cons_of_mem _ hy)⟩
  · refine List.nodup_append.2 ⟨h.nd, by simp, fun a ha b hb e => ?_⟩
    obtain rfl : b = x := by simpa using hb
    subst e
    exact (h.en a ha).2.2 (by simp)
  · rcases List.mem_append.1 he with he | he
    · exact ⟨(h.en e he).1, (h.en e he).2.1, fun hh => (h.en e he).2.2 (List.mem_cons_of_mem _ hh)⟩
    · obtain rfl : e = x := by simpa using he
      exact ⟨hxl.1, hxl.2, hx⟩
  · rcases h.al y hy hU with hh | hh
    · exact .inl (List.mem_append_left _ hh)
    · rcases List.mem_cons.1 hh with rfl | hh
      · exact .inl (by simp)
      · exact .inr hh
theorem mem_set_iff {l : List Nat} (hn : l.Nodup) {k : Nat} (hk : k < l.length) (x y : Nat) : y ∈ l.set k x ↔ y = x ∨ (y ∈ l ∧ y ≠ l.getD k 0) := by
  have ek : l.getD k 0 = l[k] := by simp [List.getD, hk]
  rw [List.mem_iff_getElem]
  constructor
  · rintro ⟨i, hi, rfl⟩
    rw [List.length_set] at hi
    rw [List.getElem_set]
    by_cases e : k = i
    · exact .inl (by simp [e])
    · refine .inr ⟨by simp [e], ?_⟩
      rw [ek]
      simp only [e, if_false]
      intro e2
      exact List.pairwise_iff_getElem.1 (show List.Pairwise (· ≠ ·) l from hn) |> fun hp => by
        rcases Nat.lt_or_ge i k with hl | hl
        · exact hp i k hi hk hl e2
        · exact hp k i hk hi (by omega) e2.symm
  · rintro (rfl | ⟨hy, hne⟩)
    · exact ⟨k, by rw [List.length_set]; exact hk, by simp⟩
    · obtain ⟨i, hi, rfl⟩ := List.mem_iff_getElem.1 hy
      have e : ¬ k = i := fun e => hne (by subst e; exact ek.symm)
      exact ⟨i, by rw [List.length_set]; exact hi, by rw [List.getElem_set]; simp [e]⟩
theorem Lay.behind {x : Nat} {xs ends : List Nat} {U : Nat → Bool} (h : Lay G n (x :: xs) ends U) {k : Nat} (hk : k < ends.length) : Lay G n xs (ends.set k x) (fun y => U y && !decide (y = ends.getD k 0)) := by
  obtain ⟨hx, hxs⟩ := List.nodup_cons.1 h.xn
  have hxl := h.xl x (by simp)
  have hm : ends.getD k 0 ∈ ends := by simp [List.getD, hk]
  have hme := h.en _ hm
  have hxe : x ≠ ends.getD k 0 := fun e => hme.2.2 (by rw [← e]; simp)
  refine ⟨?_, fun e he => ?_, fun y hy hU => ?_, hxs, fun y hy => ?_, (List.pairwise_cons.1 h.no).2, fun y hy => h.ir y (List.mem_cons_of_mem _ hy)⟩
  · show List.Pairwise (· ≠ ·) _
    rw [List.pairwise_iff_getElem]
    intro i j hi hj hij
    rw [List.length_set] at hi hj
    have hp := List.pairwise_iff_getElem.1 (show List.Pairwise (· ≠ ·) ends from h.nd) i j hi hj hij
    rw [List.getElem_set, List.getElem_set]
    by_cases e1 : k = i
    · have e2 : ¬ k = j := by omega
      simp only [e1, if_true]
      rw [if_neg (by omega)]
      intro e
      exact (h.en ends[j] (List.getElem_mem hj)).2.2 (by rw [← e]; simp)
    · by_cases e2 : k = j
      · rw [if_neg e1, if_pos e2]
        intro e
        exact (h.en ends[i] (List.getElem_mem hi)).2.2 (by rw [e]; simp)
      · rw [if_neg e1, if_neg e2]
        exact hp
  · rcases (mem_set_iff h.nd hk x e).1 he with rfl | ⟨he, hne⟩
    · exact ⟨hxl.1, by simp [hxl.2]; exact hxe, hx⟩
    · exact ⟨(h.en e he).1, by simp [(h.en e he).2.1]; exact hne, fun hh => (h.en e he).2.2 (List.mem_cons_of_mem _ hh)⟩
  · simp only [Bool.and_eq_true, Bool.not_eq_true', decide_eq_false_iff_not] at hU
    rcases h.al y hy hU.1 with hh | hh
    · exact .inl ((mem_set_iff h.nd hk x y).2 (.inr ⟨hh, hU.2⟩))
    · rcases List.mem_cons.1 hh with rfl | hh
      · exact .inl ((mem_set_iff h.nd hk y y).2 (.inl rfl))
      · exact .inr hh
  · refine ⟨(h.xl y (List.mem_cons_of_mem _ hy)).1, ?_⟩
    have hne : y ≠ ends.getD k 0 := fun e => hme.2.2 (by rw [← e]; exact List.mem_cons_of_mem _ hy)
    simp [(h.xl y (List.mem_cons_of_mem _ hy)).2]
    exact hne
theorem rows_mo : ∀ (xs ends : List Nat) (U : Nat → Bool), Lay G n xs ends U → rowsF G xs ends + mo (fun x y => G y x) n xs U = ends.length + xs.length
  | [], ends, U, _ => by simp [rowsF, mo]
  | x :: xs, ends, U, h => by
    have ih1 := rows_mo xs (ends ++ [x]) U h.more
    rw [List.length_append, List.length_singleton] at ih1
    have ih2 : ∀ k, k < ends.length → rowsF G xs (ends.set k x) + mo (fun x y => G y x) n xs (fun y => U y && !decide (y = ends.getD k 0)) = ends.length + xs.length := fun k hk => by
      have := rows_mo xs _ _ (h.behind hk)
      rwa [List.length_set] at this
    obtain ⟨a1, a2, a3⟩ := rowsTo_spec (G := G) (rowsF G xs) x ends ends.length
    obtain ⟨b1, b2, b3⟩ := moTo_spec (G := fun x y => G y x) (mo (fun x y => G y x) n xs) x U n
    have er : rowsF G (x :: xs) ends = rowsTo G (rowsF G xs) x ends ends.length := rfl
    have em : mo (fun x y => G y x) n (x :: xs) U = moTo (fun x y => G y x) (mo (fun x y => G y x) n xs) x U n := rfl
    rw [er, em, List.length_cons]
    have hle : rowsTo G (rowsF G xs) x ends ends.length + moTo (fun x y => G y x) (mo (fun x y => G y x) n xs) x U n ≤ ends.length + (xs.length + 1) := by
      rcases b3 with b3 | ⟨j, hj, hU, b3⟩
      · omega
      · simp only [Bool.and_eq_true] at hU
        have hin : j ∈ ends := by
          rcases h.al j hj hU.1 with hh | hh
          · exact hh
          · exfalso
            rcases List.mem_cons.1 hh with rfl | hh
            · have := h.ir j (by simp); rw [hU.2] at this; cases this
            · have := (List.pairwise_cons.1 h.no).1 j hh; rw [hU.2] at this; cases this
        obtain ⟨k, hk, e⟩ := List.mem_iff_getElem.1 hin
        have ek : ends.getD k 0 = j := by rw [← e]; simp [List.getD, hk]
        have := ih2 k hk
        have := a2 k hk (by rw [ek]; exact hU.2)
        rw [ek] at *
        omega
    have hge : ends.length + (xs.length + 1) ≤ rowsTo G (rowsF G xs) x ends ends.length + moTo (fun x y => G y x) (mo (fun x y => G y x) n xs) x U n := by
      rcases a3 with a3 | ⟨k, hk, hg, a3⟩
      · omega
      · have hm : ends.getD k 0 ∈ ends := by simp [List.getD, hk]
        have := ih2 k hk
        have := b2 (ends.getD k 0) (h.en _ hm).1 (by rw [(h.en _ hm).2.1, hg]; rfl)
        omega
    omega
/-- how many pairs there are at most does not hang on the order -/
theorem mo_perm {r : Nat} {xs ys : List Nat} (hp : xs.Perm ys) (hn : xs.Nodup) (U : Nat → Bool) : mo G r xs U = mo G r ys U := by
  have key : ∀ xs ys : List Nat, xs.Perm ys → ys.Nodup → mo G r xs U ≤ mo G r ys U := fun xs ys hp hn => by
    obtain ⟨S, hS⟩ := strong (G := G) (r := r) ys hn U
    have h1 := weak (G := G) (r := r) xs U S
    have e1 : nn G r xs U S = nn G r ys U S := cnt_eq fun j _ => by
      have : nb G xs S j = nb G ys S j := by
        unfold nb
        rw [Bool.eq_iff_iff, List.any_eq_true, List.any_eq_true]
        exact ⟨fun ⟨i, hi, h⟩ => ⟨i, hp.mem_iff.1 hi, h⟩, fun ⟨i, hi, h⟩ => ⟨i, hp.mem_iff.2 hi, h⟩⟩
      rw [this]
    have e2 : xs.countP S = ys.countP S := hp.countP_eq S
    have e3 := hp.length_eq
    unfold Tight at hS
    omega
  exact Nat.le_antisymm (key xs ys hp (hp.nodup_iff.1 hn)) (key ys xs hp.symm hn)
/-- the fewest rows: all points less the most pairs -/
theorem rows_nu {xs : List Nat} (hp : xs.Perm (List.range n)) (hno : xs.Pairwise fun x y => G y x = false) (hir : ∀ x, x < n → G x x = false) : rowsF G xs [] + nu G n n = n := by
  have hn : xs.Nodup := hp.nodup_iff.2 List.nodup_range
  have hl : ∀ x ∈ xs, x < n := fun x hx => List.mem_range.1 (hp.mem_iff.1 hx)
  have h : Lay G n xs [] fun _ => true := ⟨by simp, fun e he => absurd he (by simp), fun y hy _ => .inr (hp.mem_iff.2 (List.mem_range.2 hy)), hn, fun x hx => ⟨hl x hx, rfl⟩, hno, fun x hx => hir x (hl x hx)⟩
  have h1 := rows_mo xs [] _ h
  rw [mo_perm hp hn] at h1
  have h2 : mo (fun x y => G y x) n (List.range n) (fun _ => true) = nu G n n := nu_turn G n n
  rw [h2, hp.length_eq, List.length_range] at h1
  simpa using h1
/-- Dilworth: as many rows as points of which none is ahead of another one -/
theorem dilworth (h : Str G n) {A : Nat → Nat → Bool} (hA : ∀ a b, a < n → b < n → A a b = (G a b || G b a)) {xs : List Nat} (hp : xs.Perm (List.range n)) (hno : xs.Pairwise fun x y => G y x = false) : rowsF G xs [] = wideF A n 0 [] := by
  have h1 := rows_nu hp hno h.ir
  have h2 := wide_nu h hA
  omega
theorem nu_less (h : Str G n) (h0 : 0 < n) : nu G n n < n := by
  have hT : Anti G n fun x => decide (x = 0) := fun a b ha hb h1 h2 => by
    simp only [decide_eq_true_eq] at h1 h2
    rw [h1, h2]
    exact h.ir 0 h0
  have h1 := anti_le h hT
  rw [cnt_one 0 n h0] at h1
  omega

/-! ### layers -/
/-- depths that rise along the order: as many layers, times the widest, are no fewer than all -/
theorem layers (h : Str G n) {D : Nat → Nat} (hD : ∀ a b, a < n → b < n → G a b = true → D a < D b) {L : Nat} (hL : ∀ x, x < n → D x < L) : n ≤ L * (n - nu G n n) := by
  have key : ∀ d, cnt n (fun x => decide (D x < d)) ≤ d * (n - nu G n n) := by
    intro d
    induction d with
    | zero => simp [cnt]
    | succ d ih =>
      have hT : Anti G n fun x => decide (D x = d) := fun a b ha hb h1 h2 => by
        simp only [decide_eq_true_eq] at h1 h2
        cases hg : G a b with
        | false => rfl
        | true => have := hD a b ha hb hg; omega
      have h1 := anti_le h hT
      have h2 : cnt n (fun x => decide (D x < d + 1)) ≤ (List.range n).countP fun x => decide (D x < d) || decide (D x = d) := cnt_mono fun x _ hx => by
        simp only [decide_eq_true_eq, Bool.or_eq_true] at hx ⊢
        omega
      have h3 := countP_or_and (fun x => decide (D x < d)) (fun x => decide (D x = d)) (List.range n)
      rw [Nat.succ_mul]
      unfold cnt at *
      omega
  have h1 := key L
  have h2 : cnt n (fun x => decide (D x < L)) = n := by
    unfold cnt
    have : (List.range n).countP (fun x => decide (D x < L)) = (List.range n).length := List.countP_eq_length.2 fun x hx => by simpa using hL x (List.mem_range.1 hx)
    rw [this, List.length_range]
  omega
/-- more lines, no more rows -/
theorem rows_more {G' : Nat → Nat → Bool} (hG : ∀ a b, a < n → b < n → G a b = true → G' a b = true) : n - nu G' n n ≤ n - nu G n n := by
  have := nu_mono (G := G) (G' := G') (l := n) (r := n) fun i hi j hj => hG i j hi hj
  omega
end
end Go.Proofs.YtinglgnddmadaaaDoor.Cn

set_option linter.unusedSimpArgs false
set_option linter.unusedVariables false
namespace Go.Proofs.YtinglgnddmadaaaDoor.Cn
open To (frow mem_frow frow_ok comes comes_iff Step Ring dpF)
open Cl (way_line way_lt way_trans way_up way_not_back way_along)

section
variable {n : Nat} {ls : List Gr.Ln} {o : List Int}
theorem str (hg : ∀ p ∈ ls, Gr.Good (n : Int) p) (hs : Step n ls o) (hl : o.length = n) : Str (comes n ls) n :=
  ⟨fun a b c ha hb hc h1 h2 => way_trans hg ha h1 h2, fun a ha => way_not_back hg hs hl ha⟩
/-- depths rise along ways -/
theorem deeper (hg : ∀ p ∈ ls, Gr.Good (n : Int) p) (hs : Step n ls o) (hl : o.length = n) {a b : Nat} (ha : a < n) (h : comes n ls a b = true) : dpF ls n (a : Int) < dpF ls n (b : Int) := by
  have hb := way_lt hg ha h
  obtain ⟨k, hk, hw⟩ := (comes_iff hg ha).1 h
  obtain ⟨⟨x, hx, hv⟩, _⟩ := To.dp_all hg hs hl ha
  have := (To.dp_all hg hs hl hb).2 _ x hx (Wa.wk_add hv hw)
  omega
/-- the order, as a list of points -/
def pts (o : List Int) : List Nat := o.map Int.toNat
theorem pts_perm (hs : Step n ls o) (hl : o.length = n) : (pts o).Perm (List.range n) := by
  have hr := hs.row hl
  refine (List.perm_ext_iff_of_nodup ?_ List.nodup_range).2 fun x => ?_
  · show List.Pairwise (· ≠ ·) _
    unfold pts
    rw [List.pairwise_map]
    refine List.Pairwise.imp_of_mem (fun {x y} hx hy hne e => ?_) hr.nodup
    have := hr.rng x hx
    have := hr.rng y hy
    exact hne (by omega)
  · unfold pts
    rw [List.mem_map, List.mem_range]
    constructor
    · rintro ⟨y, hy, rfl⟩
      have := hr.rng y hy
      omega
    · intro hx
      exact ⟨(x : Int), hr.mem hx, by simp⟩
theorem pts_no (hg : ∀ p ∈ ls, Gr.Good (n : Int) p) (hs : Step n ls o) (hl : o.length = n) : (pts o).Pairwise fun x y => comes n ls y x = false := by
  unfold pts
  rw [List.pairwise_map, List.pairwise_iff_getElem]
  intro i j hi hj hij
  have hr := hs.row hl
  have r1 := hr.rng o[i] (List.getElem_mem hi)
  have r2 := hr.rng o[j] (List.getElem_mem hj)
  cases h : comes n ls o[j].toNat o[i].toNat with
  | false => rfl
  | true =>
    exfalso
    have h1 := way_up hg hs hl (a := o[j].toNat) (by omega) h
    have e1 : o.getD i 0 = o[i] := by simp [List.getD, hi]
    have e2 : o.getD j 0 = o[j] := by simp [List.getD, hj]
    have p1 := St.plc_at hs.nodup hi
    have p2 := St.plc_at hs.nodup hj
    rw [e1] at p1
    rw [e2] at p2
    rw [show ((o[j].toNat : Nat) : Int) = o[j] by omega, show ((o[i].toNat : Nat) : Int) = o[i] by omega, p1, p2] at h1
    omega
/-- more lines, deeper -/
theorem deeper_more {ks : List Gr.Ln} {o' : List Int} (hg : ∀ p ∈ ls, Gr.Good (n : Int) p) (hs : Step n ls o) (hl : o.length = n) (hk : ∀ p ∈ ks, Gr.Good (n : Int) p) (hs' : Step n ks o') (hl' : o'.length = n) (hsub : ∀ p ∈ ls, p ∈ ks) {i : Nat} (hi : i < n) : dpF ls n (i : Int) ≤ dpF ks n (i : Int) := by
  obtain ⟨⟨a, ha, hw⟩, _⟩ := To.dp_all hg hs hl hi
  exact (To.dp_all hk hs' hl' hi).2 _ a ha (Wa.wk_mono (fun x _ y hy => mem_frow.2 ⟨(mem_frow.1 hy).1, Gr.has_iff.2 (hsub _ (Gr.has_iff.1 (mem_frow.1 hy).2))⟩) hw)
theorem comes_more {ks : List Gr.Ln} (hg : ∀ p ∈ ls, Gr.Good (n : Int) p) (hk : ∀ p ∈ ks, Gr.Good (n : Int) p) (hsub : ∀ p ∈ ls, p ∈ ks) {a b : Nat} (ha : a < n) (h : comes n ls a b = true) : comes n ks a b = true :=
  way_along hk hg (fun u v huv => way_line hk (Gr.has_iff.2 (hsub _ (Gr.has_iff.1 huv)))) ha h
end
end Go.Proofs.YtinglgnddmadaaaDoor.Cn

set_option linter.unusedSimpArgs false
set_option linter.unusedVariables false
namespace Go.Proofs.YtinglgnddmadaaaDoor.Cn
open To (comes Step dpF)

/-- the lines of the rows ahead of a, and the first k of row a -/
def cpt (n : Nat) (ls : List Gr.Ln) (a k : Nat) : List Gr.Ln := ((List.range a).flatMap fun x => (Cl.crow n ls x).map fun y => ((x : Int), y)) ++ ((Cl.crow n ls a).take k).map fun y => ((a : Int), y)
theorem cpt_zero (n : Nat) (ls : List Gr.Ln) : cpt n ls 0 0 = [] := by simp [cpt]
theorem cpt_step {n : Nat} {ls : List Gr.Ln} {a k : Nat} (hk : k < (Cl.crow n ls a).length) {x : Int} (hx : (Cl.crow n ls a).getD k 0 = x) : cpt n ls a (k + 1) = cpt n ls a k ++ [((a : Int), x)] := by
  have e : (Cl.crow n ls a)[k] = x := by rw [← hx]; simp [List.getD, hk]
  unfold cpt
  rw [List.take_succ_eq_append_getElem hk, List.map_append, e, List.append_assoc]
  rfl
theorem cpt_row (n : Nat) (ls : List Gr.Ln) (a : Nat) : cpt n ls a (Cl.crow n ls a).length = cpt n ls (a + 1) 0 := by
  unfold cpt
  rw [List.take_length, List.range_succ, List.flatMap_append]
  simp
theorem cpt_end (n : Nat) (ls : List Gr.Ln) : cpt n ls n 0 = Cl.clos n ls := by
  unfold cpt Cl.clos Cl.lst Gr.full
  rw [List.take_zero, List.map_nil, List.append_nil, List.map_flatMap]
  congr 1
  funext a
  unfold Cl.crow
  rw [List.map_map, List.map_map]
  rfl
theorem cpt_len {n : Nat} (ls : List Gr.Ln) {a k : Nat} : (cpt n ls a k).length ≤ a * n + k := by
  have h1 : ∀ a, ((List.range a).flatMap fun x => (Cl.crow n ls x).map fun y => ((x : Int), y)).length ≤ a * n := by
    intro a
    induction a with
    | zero => simp
    | succ a ih =>
      have h := Cl.crow_len n ls a
      rw [List.range_succ, List.flatMap_append, List.length_append, Nat.succ_mul]
      simp only [List.flatMap_cons, List.flatMap_nil, List.append_nil, List.length_map]
      omega
  have h2 := h1 a
  have h3 : ((Cl.crow n ls a).take k).length ≤ k := by rw [List.length_take]; omega
  unfold cpt
  rw [List.length_append, List.length_map]
  omega
/-- of two points at most one is ahead of the other one -/
theorem clos_len {n : Nat} {ls : List Gr.Ln} {o : List Int} (hg : ∀ p ∈ ls, Gr.Good (n : Int) p) (hs : Step n ls o) (hl : o.length = n) : 2 * (Cl.clos n ls).length + n ≤ n * n := by
  have hS := str hg hs hl
  obtain ⟨L, hL⟩ : ∃ L, L = Cl.clos n ls := ⟨_, rfl⟩
  have hm : ∀ p ∈ L, ∃ a b : Nat, p = ((a : Int), (b : Int)) ∧ a < n ∧ b < n ∧ comes n ls a b = true := fun p hp => Cl.lst_ends (by rw [hL] at hp; exact hp)
  have hn1 : L.Nodup := by rw [hL]; exact Cl.lst_nodup n _
  have hn2 : (L.map fun p : Gr.Ln => (p.2, p.1)).Nodup := List.Pairwise.map _ (fun p q hpq e => hpq (Prod.ext (Prod.mk.inj e).2 (Prod.mk.inj e).1)) hn1
  have hn3 : ((List.range n).map fun i : Nat => (((i : Int), (i : Int)) : Gr.Ln)).Nodup := List.Pairwise.map _ (fun p q hpq e => hpq (by have := (Prod.mk.inj e).1; omega)) (show List.Pairwise (· ≠ ·) (List.range n) from List.nodup_range)
  have hno : ∀ a b : Nat, a < n → b < n → comes n ls a b = true → comes n ls b a = true → False := fun a b ha hb h1 h2 => by
    have := hS.tr a b a ha hb ha h1 h2
    rw [hS.ir a ha] at this
    cases this
  have hd12 : ∀ p ∈ L, ∀ q ∈ L.map (fun p : Gr.Ln => (p.2, p.1)), p ≠ q := by
    intro p hp q hq e
    obtain ⟨r, hr, rfl⟩ := List.mem_map.1 hq
    obtain ⟨a, b, rfl, ha, hb, h1⟩ := hm _ hp
    obtain ⟨c, d, rfl, hc, hd, h2⟩ := hm _ hr
    have e1 := (Prod.mk.inj e).1
    have e2 := (Prod.mk.inj e).2
    simp only at e1 e2
    obtain rfl : a = d := by omega
    obtain rfl : b = c := by omega
    exact hno _ _ ha hb h1 h2
  have hd3 : ∀ p ∈ L ++ L.map (fun p : Gr.Ln => (p.2, p.1)), ∀ q ∈ (List.range n).map (fun i : Nat => (((i : Int), (i : Int)) : Gr.Ln)), p ≠ q := by
    intro p hp q hq e
    obtain ⟨i, hi, rfl⟩ := List.mem_map.1 hq
    rcases List.mem_append.1 hp with hp | hp
    · obtain ⟨a, b, rfl, ha, hb, h1⟩ := hm _ hp
      have e1 := (Prod.mk.inj e).1
      have e2 := (Prod.mk.inj e).2
      obtain rfl : a = b := by omega
      exact hno _ _ ha ha h1 h1
    · obtain ⟨r, hr, rfl⟩ := List.mem_map.1 hp
      obtain ⟨c, d, rfl, hc, hd, h2⟩ := hm _ hr
      have e1 := (Prod.mk.inj e).1
      have e2 := (Prod.mk.inj e).2
      simp only at e1 e2
      obtain rfl : c = d := by omega
      exact hno _ _ hc hc h2 h2
  have hnd : (L ++ L.map (fun p : Gr.Ln => (p.2, p.1)) ++ (List.range n).map fun i : Nat => (((i : Int), (i : Int)) : Gr.Ln)).Nodup := List.nodup_append.2 ⟨List.nodup_append.2 ⟨hn1, hn2, hd12⟩, hn3, hd3⟩
  have hsub : (L ++ L.map (fun p : Gr.Ln => (p.2, p.1)) ++ (List.range n).map fun i : Nat => (((i : Int), (i : Int)) : Gr.Ln)) ⊆ Cl.lst n fun _ _ => true := by
    intro p hp
    rcases List.mem_append.1 hp with hp | hp
    · rcases List.mem_append.1 hp with hp | hp
      · obtain ⟨a, b, rfl, ha, hb, h1⟩ := hm _ hp
        exact Cl.mem_lst.2 ⟨ha, hb, rfl⟩
      · obtain ⟨r, hr, rfl⟩ := List.mem_map.1 hp
        obtain ⟨a, b, rfl, ha, hb, h1⟩ := hm _ hr
        exact Cl.mem_lst.2 ⟨hb, ha, rfl⟩
    · obtain ⟨i, hi, rfl⟩ := List.mem_map.1 hp
      have := List.mem_range.1 hi
      exact Cl.mem_lst.2 ⟨this, this, rfl⟩
  have hlen := List.Nodup.length_le_of_subset hnd hsub
  have hfl : (Cl.lst n fun _ _ => true).length ≤ n * n := by
    unfold Cl.lst
    rw [List.length_map]
    exact Gr.full_len n _
  rw [List.length_append, List.length_append, List.length_map, List.length_map, List.length_range] at hlen
  rw [← hL]
  omega
/-- all ways are lines that can be matched -/
theorem clos_code {n : Nat} {ls : List Gr.Ln} {o : List Int} (h6 : n ≤ 6) (hg : ∀ p ∈ ls, Gr.Good (n : Int) p) (hs : Step n ls o) (hl : o.length = n) : Ma.code (n : Int) (n : Int) (Cl.clos n ls) = 0 := by
  refine Ma.code_zero.2 ⟨by omega, by omega, by omega, by omega, ?_, fun p hp => ?_⟩
  · have h1 := clos_len hg hs hl
    have h2 : n * n ≤ 6 * 6 := Nat.mul_le_mul h6 h6
    omega
  · obtain ⟨a, b, rfl, ha, hb, _⟩ := Cl.lst_ends hp
    exact ⟨by simp only; omega, by simp only; omega, by simp only; omega, by simp only; omega⟩
theorem clos_nu (n : Nat) (ls : List Gr.Ln) : Ma.nu (Ma.gl (Cl.clos n ls)) n n = Ma.nu (comes n ls) n n := Ma.nu_congr fun i hi j hj => Cl.has_lst hi hj

/-! ### what is wrong, or that nothing is -/
/-- something is wrong with the lines, or there is no order: its number -/
def Wrong (n : Int) (ls : List Gr.Ln) (k : Int) : Prop := (Gr.code n ls ≠ 0 ∧ k = Gr.code n ls) ∨ (k = 5 ∧ ∃ (m : Nat) (o : List Int), n = (m : Int) ∧ Gr.code (m : Int) ls = 0 ∧ Step m ls o ∧ To.Stuck m ls o ∧ o.length < m)
/-- there is an order -/
structure Fine (m : Nat) (ls : List Gr.Ln) (o : List Int) : Prop where
  code : Gr.code (m : Int) ls = 0
  step : Step m ls o
  len : o.length = m
theorem wrong_or_fine (n : Int) (ls : List Gr.Ln) : (∃ k, Wrong n ls k) ∨ ∃ (m : Nat) (o : List Int), n = (m : Int) ∧ Fine m ls o := by
  by_cases h : Gr.code n ls = 0
  · obtain ⟨m, rfl⟩ : ∃ m : Nat, n = (m : Int) := ⟨n.toNat, by have := (Gr.code_zero.1 h).1; omega⟩
    obtain ⟨o, hs, hk⟩ := To.Step.all m ls
    rcases Nat.lt_or_ge o.length m with hl | hl
    · exact .inl ⟨5, .inr ⟨rfl, m, o, rfl, h, hs, hk, hl⟩⟩
    · exact .inr ⟨m, o, rfl, h, hs, by have := hs.le; omega⟩
  · exact .inl ⟨_, .inl ⟨h, rfl⟩⟩
section
variable {m : Nat} {ls : List Gr.Ln} {o : List Int}
theorem Fine.good (h : Fine m ls o) : ∀ p ∈ ls, Gr.Good (m : Int) p := (Gr.code_zero.1 h.code).2.2.2
theorem Fine.le8 (h : Fine m ls o) : m ≤ 8 := by have := (Gr.code_zero.1 h.code).2.1; omega
theorem Fine.pos (h : Fine m ls o) : 1 ≤ m := by have := (Gr.code_zero.1 h.code).1; omega
theorem Fine.str (h : Fine m ls o) : Str (comes m ls) m := Cn.str h.good h.step h.len
theorem Fine.nu_lt (h : Fine m ls o) : Ma.nu (comes m ls) m m < m := nu_less h.str (by have := h.pos; omega)
theorem most_ex (D : Nat → Nat) : ∀ n, 0 < n → ∃ i, i < n ∧ ∀ j, j < n → D j ≤ D i
  | 1, _ => by
    refine ⟨0, by omega, fun j hj => ?_⟩
    obtain rfl : j = 0 := by omega
    exact Nat.le_refl _
  | n + 2, _ => by
    obtain ⟨i, hi, h⟩ := most_ex D (n + 1) (by omega)
    rcases Nat.le_total (D i) (D (n + 1)) with hl | hl
    · refine ⟨n + 1, by omega, fun j hj => ?_⟩
      rcases Nat.lt_or_ge j (n + 1) with hj' | hj'
      · have := h j hj'; omega
      · obtain rfl : j = n + 1 := by omega
        exact Nat.le_refl _
    · refine ⟨i, by omega, fun j hj => ?_⟩
      rcases Nat.lt_or_ge j (n + 1) with hj' | hj'
      · exact h j hj'
      · obtain rfl : j = n + 1 := by omega
        exact hl
/-- the most lines on a way: the greatest depth -/
theorem Fine.top (h : Fine m ls o) : ∃ d, d < m ∧ To.Top m ls d ∧ (∃ i : Nat, i < m ∧ dpF ls m (i : Int) = d) ∧ ∀ i : Nat, i < m → dpF ls m (i : Int) ≤ d := by
  obtain ⟨i, hi, hm⟩ := most_ex (fun i => dpF ls m (i : Int)) m (by have := h.pos; omega)
  exact ⟨dpF ls m (i : Int), To.dep_small h.good h.step h.len hi, To.Top.of (D := fun i => dpF ls m (i : Int)) (fun i hi => To.dp_all h.good h.step h.len hi) ⟨i, hi, rfl⟩ hm, ⟨i, hi, rfl⟩, hm⟩
theorem Fine.only (h : Fine m ls o) {d : Nat} (ht : To.Top m ls d) : d < m ∧ (∃ i : Nat, i < m ∧ dpF ls m (i : Int) = d) ∧ ∀ i : Nat, i < m → dpF ls m (i : Int) ≤ d := by
  obtain ⟨d', h1, h2, h3, h4⟩ := h.top
  obtain rfl := h2.unique ht
  exact ⟨h1, h3, h4⟩
theorem Fine.max (h : Fine m ls o) {d : Nat} (ht : To.Top m ls d) {z : Int} (h1 : ∃ i : Nat, i < m ∧ (To.deps m ls).getD i 0 = z) (h2 : ∀ i : Nat, i < m → (To.deps m ls).getD i 0 ≤ z) : z = (d : Int) := by
  obtain ⟨_, ⟨j, hj, e⟩, hle⟩ := h.only ht
  obtain ⟨i, hi, ei⟩ := h1
  rw [To.deps_at ls hi] at ei
  have h3 := h2 j hj
  rw [To.deps_at ls hj] at h3
  have := hle i hi
  omega
/-- the most of the first i depths, and one more -/
def lgTo (ls : List Gr.Ln) (m : Nat) : Nat → Nat
  | 0 => 0
  | i + 1 => if lgTo ls m i < dpF ls m (i : Int) + 1 then dpF ls m (i : Int) + 1 else lgTo ls m i
theorem lgTo_spec (ls : List Gr.Ln) (m : Nat) : ∀ i : Nat, (∀ j : Nat, j < i → dpF ls m (j : Int) + 1 ≤ lgTo ls m i) ∧ ((i = 0 ∧ lgTo ls m i = 0) ∨ ∃ j : Nat, j < i ∧ lgTo ls m i = dpF ls m (j : Int) + 1)
  | 0 => ⟨fun j h => by omega, .inl ⟨rfl, rfl⟩⟩
  | i + 1 => by
    obtain ⟨h1, h2⟩ := lgTo_spec ls m i
    have e : lgTo ls m (i + 1) = if lgTo ls m i < dpF ls m (i : Int) + 1 then dpF ls m (i : Int) + 1 else lgTo ls m i := rfl
    by_cases h : lgTo ls m i < dpF ls m (i : Int) + 1
    · rw [if_pos h] at e
      rw [e]
      refine ⟨fun j hj => ?_, .inr ⟨i, by omega, rfl⟩⟩
      rcases Nat.lt_or_ge j i with hl | hl
      · have := h1 j hl; omega
      · obtain rfl : j = i := by omega
        exact Nat.le_refl _
    · rw [if_neg h] at e
      rw [e]
      refine ⟨fun j hj => ?_, ?_⟩
      · rcases Nat.lt_or_ge j i with hl | hl
        · exact h1 j hl
        · obtain rfl : j = i := by omega
          omega
      · rcases h2 with ⟨rfl, h2⟩ | ⟨j, hj, h2⟩
        · omega
        · exact .inr ⟨j, by omega, h2⟩
theorem Fine.lg (h : Fine m ls o) {d : Nat} (ht : To.Top m ls d) : lgTo ls m m = d + 1 := by
  obtain ⟨_, ⟨j, hj, e⟩, hle⟩ := h.only ht
  obtain ⟨h1, h2⟩ := lgTo_spec ls m m
  have h3 := h1 j hj
  have := h.pos
  rcases h2 with ⟨h0, _⟩ | ⟨i, hi, h2⟩
  · omega
  · have := hle i hi
    omega
end
end Go.Proofs.YtinglgnddmadaaaDoor.Cn
