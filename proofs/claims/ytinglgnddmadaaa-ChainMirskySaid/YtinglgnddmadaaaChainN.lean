/-
  Plain facts on points ahead of each other, with no program in them: as many of which none is ahead of another one as rows that hold all (both are all points less as many pairs as there can be: Dilworth), both by trying all; layers of equal depth (Mirsky). No statement of the program is proved here; there is no condition.
-/
import Derived.Test.YtinglgnddmadaaaMatchN
set_option linter.unusedSimpArgs false
set_option linter.unusedVariables false
namespace Go.Proofs.Ytinglgnddmadaaa.Cn
open Ma

/-- one ahead of another one -/
structure Str (G : Nat → Nat → Bool) (n : Nat) : Prop where
  tr : ∀ a b c, a < n → b < n → c < n → G a b = true → G b c = true → G a c = true
  ir : ∀ a, a < n → G a a = false
/-- none of them ahead of another one -/
def Anti (G : Nat → Nat → Bool) (n : Nat) (T : Nat → Bool) : Prop := ∀ a b, a < n → b < n → T a = true → T b = true → G a b = false
section
variable {G : Nat → Nat → Bool} {n : Nat}
theorem anti_le (h : Str G n) {T : Nat → Bool} (hT : Anti G n T) : cnt n T + nu G n n ≤ n := by
  have h1 := hall_le G n n fun x => T x || nbr G n T x
  have h2 : cnt n (nbr G n fun x => T x || nbr G n T x) ≤ cnt n (nbr G n T) := cnt_mono fun y hy hh => by
    obtain ⟨x, hx, hs, hg⟩ := nbr_iff.1 hh
    rcases Bool.or_eq_true_iff.1 hs with hs | hs
    · exact nbr_iff.2 ⟨x, hx, hs, hg⟩
    · obtain ⟨t, ht, hs2, hg2⟩ := nbr_iff.1 hs
      exact nbr_iff.2 ⟨t, ht, hs2, h.tr t x y ht hx hy hg2 hg⟩
  have h3 := countP_or_and T (nbr G n T) (List.range n)
  have h4 : (List.range n).countP (fun x => T x && nbr G n T x) = 0 := by
    rw [List.countP_eq_zero]
    intro x hx hh
    have hx' := List.mem_range.1 hx
    simp only [Bool.and_eq_true] at hh
    obtain ⟨t, ht, hs, hg⟩ := nbr_iff.1 hh.2
    rw [hT t x ht hx' hs hh.1] at hg
    cases hg
  unfold cnt at *
  omega
theorem anti_ex (h : Str G n) : ∃ T, Anti G n T ∧ n ≤ cnt n T + nu G n n := by
  obtain ⟨S, hS⟩ := hall_ex G n n
  refine ⟨fun x => S x && !nbr G n S x, fun a b ha hb h1 h2 => ?_, ?_⟩
  · cases hg : G a b with
    | false => rfl
    | true =>
      simp only [Bool.and_eq_true, Bool.not_eq_true'] at h1 h2
      have : nbr G n S b = true := nbr_iff.2 ⟨a, ha, h1.1, hg⟩
      rw [h2.2] at this
      cases this
  · unfold Just at hS
    have h1 : cnt n S ≤ (List.range n).countP fun x => (S x && !nbr G n S x) || nbr G n S x := cnt_mono fun x _ hx => by
      cases hn : nbr G n S x <;> simp [hx, hn]
    have h2 := countP_or_and (fun x => S x && !nbr G n S x) (nbr G n S) (List.range n)
    unfold cnt at *
    omega

/-! ### the most of which none is ahead of another one, by trying all -/
def wideF (A : Nat → Nat → Bool) : Nat → Nat → List Nat → Nat
  | 0, _, has => has.length
  | f + 1, i, has => if has.all (fun k => !A i k) = true then max (wideF A f (i + 1) has) (wideF A f (i + 1) (has ++ [i])) else wideF A f (i + 1) has
/-- some from i on fit to those that are chosen -/
def Fits (A : Nat → Nat → Bool) (f i : Nat) (has : List Nat) (T : Nat → Bool) : Prop :=
  (∀ j, i ≤ j → j < i + f → T j = true → ∀ k ∈ has, A j k = false) ∧ ∀ j k, i ≤ j → j < k → k < i + f → T j = true → T k = true → A k j = false
theorem wide_ge {A : Nat → Nat → Bool} : ∀ (f i : Nat) (has : List Nat) (T : Nat → Bool), Fits A f i has T → has.length + (List.range' i f).countP T ≤ wideF A f i has
  | 0, i, has, T, _ => by simp [wideF]
  | f + 1, i, has, T, h => by
    have h' : Fits A f (i + 1) has T := ⟨fun j h1 h2 => h.1 j (by omega) (by omega), fun j k h1 h2 h3 => h.2 j k (by omega) h2 (by omega)⟩
    have ih := wide_ge f (i + 1) has T h'
    have e : List.range' i (f + 1) = i :: List.range' (i + 1) f := rfl
    rw [e, List.countP_cons]
    unfold wideF
    cases hT : T i with
    | false =>
      rw [show (if false = true then 1 else 0) = 0 from rfl]
      split <;> omega
    | true =>
      have hall : has.all (fun k => !A i k) = true := List.all_eq_true.2 fun k hk => by rw [h.1 i (Nat.le_refl _) (by omega) hT k hk]; rfl
      have h2 : Fits A f (i + 1) (has ++ [i]) T := by
        refine ⟨fun j h1 h2 hj k hk => ?_, h'.2⟩
        rcases List.mem_append.1 hk with hk | hk
        · exact h'.1 j h1 h2 hj k hk
        · obtain rfl : k = i := by simpa using hk
          exact h.2 k j (Nat.le_refl _) (by omega) (by omega) hT hj
      have ih2 := wide_ge f (i + 1) (has ++ [i]) T h2
      rw [if_pos hall]
      rw [List.length_append, List.length_singleton] at ih2
      simp [hT]
      omega
theorem wide_ex {A : Nat → Nat → Bool} : ∀ (f i : Nat) (has : List Nat), (∀ k ∈ has, k < i) → ∃ T, Fits A f i has T ∧ wideF A f i has = has.length + (List.range' i f).countP T
  | 0, i, has, _ => ⟨fun _ => false, ⟨fun j h1 h2 => by omega, fun j k h1 h2 h3 => by omega⟩, by simp [wideF]⟩
  | f + 1, i, has, hh => by
    obtain ⟨T, hT, e⟩ := wide_ex f (i + 1) has (fun k hk => by have := hh k hk; omega)
    have e0 : List.range' i (f + 1) = i :: List.range' (i + 1) f := rfl
    -- without i
    have hno : ∃ T, Fits A (f + 1) i has T ∧ wideF A f (i + 1) has = has.length + (List.range' i (f + 1)).countP T := by
      refine ⟨fun j => T j && decide (i < j), ⟨fun j h1 h2 hj => ?_, fun j k h1 h2 h3 hj hk => ?_⟩, ?_⟩
      · simp only [Bool.and_eq_true, decide_eq_true_eq] at hj
        exact hT.1 j (by omega) (by omega) hj.1
      · simp only [Bool.and_eq_true, decide_eq_true_eq] at hj hk
        exact hT.2 j k (by omega) h2 (by omega) hj.1 hk.1
      · rw [e, e0, List.countP_cons]
        have : (List.range' (i + 1) f).countP (fun j => T j && decide (i < j)) = (List.range' (i + 1) f).countP T := countP_eq fun j hj => by
          have := (List.mem_range'_1.1 hj).1
          simp [show i < j by omega]
        rw [this]
        simp
    unfold wideF
    by_cases hall : has.all (fun k => !A i k) = true
    · rw [if_pos hall]
      rcases Nat.le_total (wideF A f (i + 1) (has ++ [i])) (wideF A f (i + 1) has) with hle | hle
      · rw [Nat.max_eq_left hle]; exact hno
      · rw [Nat.max_eq_right hle]
        obtain ⟨T2, hT2, e2⟩ := wide_ex f (i + 1) (has ++ [i]) (fun k hk => by
          rcases List.mem_append.1 hk with hk | hk
          · have := hh k hk; omega
          · have : k = i := by simpa using hk
            omega)
        refine ⟨fun j => decide (j = i) || (T2 j && decide (i < j)), ⟨fun j h1 h2 hj k hk => ?_, fun j k h1 h2 h3 hj hk => ?_⟩, ?_⟩
        · simp only [Bool.or_eq_true, Bool.and_eq_true, decide_eq_true_eq] at hj
          rcases hj with rfl | hj
          · have := List.all_eq_true.1 hall k hk
            simpa using this
          · exact hT2.1 j (by omega) (by omega) hj.1 k (by simp [hk])
        · simp only [Bool.or_eq_true, Bool.and_eq_true, decide_eq_true_eq] at hj hk
          have hk' : T2 k = true := hk.elim (fun e => by omega) fun h => h.1
          rcases hj with rfl | hj
          · exact hT2.1 k (by omega) (by omega) hk' j (by simp)
          · exact hT2.2 j k (by omega) h2 (by omega) hj.1 hk'
        · rw [e2, e0, List.countP_cons]
          have : (List.range' (i + 1) f).countP (fun j => decide (j = i) || (T2 j && decide (i < j))) = (List.range' (i + 1) f).countP T2 := countP_eq fun j hj => by
            have := (List.mem_range'_1.1 hj).1
            simp [show i < j by omega, show ¬ j = i by omega]
          rw [this]
          simp
          omega
    · rw [if_neg hall]; exact hno
/-- it is all points less the most pairs -/
theorem wide_nu (h : Str G n) {A : Nat → Nat → Bool} (hA : ∀ a b, a < n → b < n → A a b = (G a b || G b a)) : wideF A n 0 [] + nu G n n = n := by
  have e0 : ∀ T : Nat → Bool, (List.range' 0 n).countP T = cnt n T := fun T => by unfold cnt; rw [List.range_eq_range']
  obtain ⟨T, hT, hn⟩ := anti_ex h
  have h1 := wide_ge (A := A) n 0 [] T ⟨fun j _ _ _ k hk => absurd hk (by simp), fun j k _ hjk hk hj hk2 => by rw [hA k j (by omega) (by omega), hT k j (by omega) (by omega) hk2 hj, hT j k (by omega) (by omega) hj hk2]; rfl⟩
  obtain ⟨T2, hT2, e2⟩ := wide_ex (A := A) n 0 [] (fun k hk => absurd hk (by simp))
  have hA2 : Anti G n T2 := fun a b ha hb h1 h2 => by
    rcases Nat.lt_trichotomy a b with hlt | rfl | hlt
    · have := hT2.2 a b (Nat.zero_le _) hlt (by omega) h1 h2
      rw [hA b a hb ha] at this
      exact (Bool.or_eq_false_iff.1 this).2
    · exact h.ir a ha
    · have := hT2.2 b a (Nat.zero_le _) hlt (by omega) h2 h1
      rw [hA a b ha hb] at this
      exact (Bool.or_eq_false_iff.1 this).1
  have h3 := anti_le h hA2
  rw [e0] at h1 e2
  simp only [List.length_nil, Nat.zero_add] at h1 e2
  omega
end

/-! ### the fewest rows that hold all, by trying all -/
section
variable (G : Nat → Nat → Bool)
/-- the next one begins a row, or goes behind one of the first k ends -/
def rowsTo (f : List Nat → Nat) (x : Nat) (ends : List Nat) : Nat → Nat
  | 0 => f (ends ++ [x])
  | k + 1 => if G (ends.getD k 0) x = true then min (rowsTo f x ends k) (f (ends.set k x)) else rowsTo f x ends k
def rowsF : List Nat → List Nat → Nat
  | [], ends => ends.length
  | x :: xs, ends => rowsTo G (rowsF xs) x ends ends.length
end
section
variable {G : Nat → Nat → Bool} {n : Nat}
theorem rowsTo_spec (f : List Nat → Nat) (x : Nat) (ends : List Nat) : ∀ k, rowsTo G f x ends k ≤ f (ends ++ [x]) ∧ (∀ j, j < k → G (ends.getD j 0) x = true → rowsTo G f x ends k ≤ f (ends.set j x)) ∧
    (rowsTo G f x ends k = f (ends ++ [x]) ∨ ∃ j, j < k ∧ G (ends.getD j 0) x = true ∧ rowsTo G f x ends k = f (ends.set j x))
  | 0 => ⟨Nat.le_refl _, fun j h => by omega, .inl rfl⟩
  | k + 1 => by
    obtain ⟨h1, h2, h3⟩ := rowsTo_spec f x ends k
    have e : rowsTo G f x ends (k + 1) = if G (ends.getD k 0) x = true then min (rowsTo G f x ends k) (f (ends.set k x)) else rowsTo G f x ends k := rfl
    by_cases hk : G (ends.getD k 0) x = true
    · rw [if_pos hk] at e
      rw [e]
      refine ⟨by omega, fun j hj hg => ?_, ?_⟩
      · rcases Nat.lt_or_ge j k with hl | hl
        · have := h2 j hl hg; omega
        · obtain rfl : j = k := by omega
          omega
      · rcases Nat.le_total (rowsTo G f x ends k) (f (ends.set k x)) with hl | hl
        · rw [Nat.min_eq_left hl]
          rcases h3 with h3 | ⟨j, hj, hg, h3⟩
          · exact .inl h3
          · exact .inr ⟨j, by omega, hg, h3⟩
        · exact .inr ⟨k, by omega, hk, Nat.min_eq_right hl⟩
    · rw [if_neg hk] at e
      rw [e]
      refine ⟨h1, fun j hj hg => ?_, ?_⟩
      · rcases Nat.lt_or_ge j k with hl | hl
        · exact h2 j hl hg
        · obtain rfl : j = k := by omega
          exact absurd hg hk
      · rcases h3 with h3 | ⟨j, hj, hg, h3⟩
        · exact .inl h3
        · exact .inr ⟨j, by omega, hg, h3⟩
/-- what holds while rows are laid: U are not used as the one ahead -/
structure Lay (G : Nat → Nat → Bool) (n : Nat) (xs ends : List Nat) (U : Nat → Bool) : Prop where
  nd : ends.Nodup
  en : ∀ e ∈ ends, e < n ∧ U e = true ∧ e ∉ xs
  al : ∀ y, y < n → U y = true → y ∈ ends ∨ y ∈ xs
  xn : xs.Nodup
  xl : ∀ x ∈ xs, x < n ∧ U x = true
  no : xs.Pairwise fun x y => G y x = false
  ir : ∀ x ∈ xs, G x x = false
theorem Lay.more {x : Nat} {xs ends : List Nat} {U : Nat → Bool} (h : Lay G n (x :: xs) ends U) : Lay G n xs (ends ++ [x]) U := by
  obtain ⟨hx, hxs⟩ := List.nodup_cons.1 h.xn
  have hxl := h.xl x (by simp)
  refine ⟨?_, fun e he => ?_, fun y hy hU => ?_, hxs, fun y hy => h.xl y (List.mem_cons_of_mem _ hy), (List.pairwise_cons.1 h.no).2, fun y hy => h.ir y (List.mem_cons_of_mem _ hy)⟩
  · refine List.nodup_append.2 ⟨h.nd, by simp, fun a ha b hb e => ?_⟩
    obtain rfl : b = x := by simpa using hb
    subst e
    exact (h.en a ha).2.2 (by simp)
  · rcases List.mem_append.1 he with he | he
    · exact ⟨(h.en e he).1, (h.en e he).2.1, fun hh => (h.en e he).2.2 (List.mem_cons_of_mem _ hh)⟩
    · obtain rfl : e = x := by simpa using he
      exact ⟨hxl.1, hxl.2, hx⟩
  · rcases h.al y hy hU with hh | hh
    · exact .inl (List.mem_append_left _ hh)
    · rcases List.mem_cons.1 hh with rfl | hh
      · exact .inl (by simp)
      · exact .inr hh
theorem mem_set_iff {l : List Nat} (hn : l.Nodup) {k : Nat} (hk : k < l.length) (x y : Nat) : y ∈ l.set k x ↔ y = x ∨ (y ∈ l ∧ y ≠ l.getD k 0) := by
  have ek : l.getD k 0 = l[k] := by simp [List.getD, hk]
  rw [List.mem_iff_getElem]
  constructor
  · rintro ⟨i, hi, rfl⟩
    rw [List.length_set] at hi
    rw [List.getElem_set]
    by_cases e : k = i
    · exact .inl (by simp [e])
    · refine .inr ⟨by simp [e], ?_⟩
      rw [ek]
      simp only [e, if_false]
      intro e2
      exact List.pairwise_iff_getElem.1 (show List.Pairwise (· ≠ ·) l from hn) |> fun hp => by
        rcases Nat.lt_or_ge i k with hl | hl
        · exact hp i k hi hk hl e2
        · exact hp k i hk hi (by omega) e2.symm
  · rintro (rfl | ⟨hy, hne⟩)
    · exact ⟨k, by rw [List.length_set]; exact hk, by simp⟩
    · obtain ⟨i, hi, rfl⟩ := List.mem_iff_getElem.1 hy
      have e : ¬ k = i := fun e => hne (by subst e; exact ek.symm)
      exact ⟨i, by rw [List.length_set]; exact hi, by rw [List.getElem_set]; simp [e]⟩
theorem Lay.behind {x : Nat} {xs ends : List Nat} {U : Nat → Bool} (h : Lay G n (x :: xs) ends U) {k : Nat} (hk : k < ends.length) : Lay G n xs (ends.set k x) (fun y => U y && !decide (y = ends.getD k 0)) := by
  obtain ⟨hx, hxs⟩ := List.nodup_cons.1 h.xn
  have hxl := h.xl x (by simp)
  have hm : ends.getD k 0 ∈ ends := by simp [List.getD, hk]
  have hme := h.en _ hm
  have hxe : x ≠ ends.getD k 0 := fun e => hme.2.2 (by rw [← e]; simp)
  refine ⟨?_, fun e he => ?_, fun y hy hU => ?_, hxs, fun y hy => ?_, (List.pairwise_cons.1 h.no).2, fun y hy => h.ir y (List.mem_cons_of_mem _ hy)⟩
  · show List.Pairwise (· ≠ ·) _
    rw [List.pairwise_iff_getElem]
    intro i j hi hj hij
    rw [List.length_set] at hi hj
    have hp := List.pairwise_iff_getElem.1 (show List.Pairwise (· ≠ ·) ends from h.nd) i j hi hj hij
    rw [List.getElem_set, List.getElem_set]
    by_cases e1 : k = i
    · have e2 : ¬ k = j := by omega
      simp only [e1, if_true]
      rw [if_neg (by omega)]
      intro e
      exact (h.en ends[j] (List.getElem_mem hj)).2.2 (by rw [← e]; simp)
    · by_cases e2 : k = j
      · rw [if_neg e1, if_pos e2]
        intro e
        exact (h.en ends[i] (List.getElem_mem hi)).2.2 (by rw [e]; simp)
      · rw [if_neg e1, if_neg e2]
        exact hp
  · rcases (mem_set_iff h.nd hk x e).1 he with rfl | ⟨he, hne⟩
    · exact ⟨hxl.1, by simp [hxl.2]; exact hxe, hx⟩
    · exact ⟨(h.en e he).1, by simp [(h.en e he).2.1]; exact hne, fun hh => (h.en e he).2.2 (List.mem_cons_of_mem _ hh)⟩
  · simp only [Bool.and_eq_true, Bool.not_eq_true', decide_eq_false_iff_not] at hU
    rcases h.al y hy hU.1 with hh | hh
    · exact .inl ((mem_set_iff h.nd hk x y).2 (.inr ⟨hh, hU.2⟩))
    · rcases List.mem_cons.1 hh with rfl | hh
      · exact .inl ((mem_set_iff h.nd hk y y).2 (.inl rfl))
      · exact .inr hh
  · refine ⟨(h.xl y (List.mem_cons_of_mem _ hy)).1, ?_⟩
    have hne : y ≠ ends.getD k 0 := fun e => hme.2.2 (by rw [← e]; exact List.mem_cons_of_mem _ hy)
    simp [(h.xl y (List.mem_cons_of_mem _ hy)).2]
    exact hne
theorem rows_mo : ∀ (xs ends : List Nat) (U : Nat → Bool), Lay G n xs ends U → rowsF G xs ends + mo (fun x y => G y x) n xs U = ends.length + xs.length
  | [], ends, U, _ => by simp [rowsF, mo]
  | x :: xs, ends, U, h => by
    have ih1 := rows_mo xs (ends ++ [x]) U h.more
    rw [List.length_append, List.length_singleton] at ih1
    have ih2 : ∀ k, k < ends.length → rowsF G xs (ends.set k x) + mo (fun x y => G y x) n xs (fun y => U y && !decide (y = ends.getD k 0)) = ends.length + xs.length := fun k hk => by
      have := rows_mo xs _ _ (h.behind hk)
      rwa [List.length_set] at this
    obtain ⟨a1, a2, a3⟩ := rowsTo_spec (G := G) (rowsF G xs) x ends ends.length
    obtain ⟨b1, b2, b3⟩ := moTo_spec (G := fun x y => G y x) (mo (fun x y => G y x) n xs) x U n
    have er : rowsF G (x :: xs) ends = rowsTo G (rowsF G xs) x ends ends.length := rfl
    have em : mo (fun x y => G y x) n (x :: xs) U = moTo (fun x y => G y x) (mo (fun x y => G y x) n xs) x U n := rfl
    rw [er, em, List.length_cons]
    have hle : rowsTo G (rowsF G xs) x ends ends.length + moTo (fun x y => G y x) (mo (fun x y => G y x) n xs) x U n ≤ ends.length + (xs.length + 1) := by
      rcases b3 with b3 | ⟨j, hj, hU, b3⟩
      · omega
      · simp only [Bool.and_eq_true] at hU
        have hin : j ∈ ends := by
          rcases h.al j hj hU.1 with hh | hh
          · exact hh
          · exfalso
            rcases List.mem_cons.1 hh with rfl | hh
            · have := h.ir j (by simp); rw [hU.2] at this; cases this
            · have := (List.pairwise_cons.1 h.no).1 j hh; rw [hU.2] at this; cases this
        obtain ⟨k, hk, e⟩ := List.mem_iff_getElem.1 hin
        have ek : ends.getD k 0 = j := by rw [← e]; simp [List.getD, hk]
        have := ih2 k hk
        have := a2 k hk (by rw [ek]; exact hU.2)
        rw [ek] at *
        omega
    have hge : ends.length + (xs.length + 1) ≤ rowsTo G (rowsF G xs) x ends ends.length + moTo (fun x y => G y x) (mo (fun x y => G y x) n xs) x U n := by
      rcases a3 with a3 | ⟨k, hk, hg, a3⟩
      · omega
      · have hm : ends.getD k 0 ∈ ends := by simp [List.getD, hk]
        have := ih2 k hk
        have := b2 (ends.getD k 0) (h.en _ hm).1 (by rw [(h.en _ hm).2.1, hg]; rfl)
        omega
    omega
/-- how many pairs there are at most does not hang on the order -/
theorem mo_perm {r : Nat} {xs ys : List Nat} (hp : xs.Perm ys) (hn : xs.Nodup) (U : Nat → Bool) : mo G r xs U = mo G r ys U := by
  have key : ∀ xs ys : List Nat, xs.Perm ys → ys.Nodup → mo G r xs U ≤ mo G r ys U := fun xs ys hp hn => by
    obtain ⟨S, hS⟩ := strong (G := G) (r := r) ys hn U
    have h1 := weak (G := G) (r := r) xs U S
    have e1 : nn G r xs U S = nn G r ys U S := cnt_eq fun j _ => by
      have : nb G xs S j = nb G ys S j := by
        unfold nb
        rw [Bool.eq_iff_iff, List.any_eq_true, List.any_eq_true]
        exact ⟨fun ⟨i, hi, h⟩ => ⟨i, hp.mem_iff.1 hi, h⟩, fun ⟨i, hi, h⟩ => ⟨i, hp.mem_iff.2 hi, h⟩⟩
      rw [this]
    have e2 : xs.countP S = ys.countP S := hp.countP_eq S
    have e3 := hp.length_eq
    unfold Tight at hS
    omega
  exact Nat.le_antisymm (key xs ys hp (hp.nodup_iff.1 hn)) (key ys xs hp.symm hn)
/-- the fewest rows: all points less the most pairs -/
theorem rows_nu {xs : List Nat} (hp : xs.Perm (List.range n)) (hno : xs.Pairwise fun x y => G y x = false) (hir : ∀ x, x < n → G x x = false) : rowsF G xs [] + nu G n n = n := by
  have hn : xs.Nodup := hp.nodup_iff.2 List.nodup_range
  have hl : ∀ x ∈ xs, x < n := fun x hx => List.mem_range.1 (hp.mem_iff.1 hx)
  have h : Lay G n xs [] fun _ => true := ⟨by simp, fun e he => absurd he (by simp), fun y hy _ => .inr (hp.mem_iff.2 (List.mem_range.2 hy)), hn, fun x hx => ⟨hl x hx, rfl⟩, hno, fun x hx => hir x (hl x hx)⟩
  have h1 := rows_mo xs [] _ h
  rw [mo_perm hp hn] at h1
  have h2 : mo (fun x y => G y x) n (List.range n) (fun _ => true) = nu G n n := nu_turn G n n
  rw [h2, hp.length_eq, List.length_range] at h1
  simpa using h1
/-- Dilworth: as many rows as points of which none is ahead of another one -/
theorem dilworth (h : Str G n) {A : Nat → Nat → Bool} (hA : ∀ a b, a < n → b < n → A a b = (G a b || G b a)) {xs : List Nat} (hp : xs.Perm (List.range n)) (hno : xs.Pairwise fun x y => G y x = false) : rowsF G xs [] = wideF A n 0 [] := by
  have h1 := rows_nu hp hno h.ir
  have h2 := wide_nu h hA
  omega
theorem nu_less (h : Str G n) (h0 : 0 < n) : nu G n n < n := by
  have hT : Anti G n fun x => decide (x = 0) := fun a b ha hb h1 h2 => by
    simp only [decide_eq_true_eq] at h1 h2
    rw [h1, h2]
    exact h.ir 0 h0
  have h1 := anti_le h hT
  rw [cnt_one 0 n h0] at h1
  omega

/-! ### layers -/
/-- depths that rise along the order: as many layers, times the widest, are no fewer than all -/
theorem layers (h : Str G n) {D : Nat → Nat} (hD : ∀ a b, a < n → b < n → G a b = true → D a < D b) {L : Nat} (hL : ∀ x, x < n → D x < L) : n ≤ L * (n - nu G n n) := by
  have key : ∀ d, cnt n (fun x => decide (D x < d)) ≤ d * (n - nu G n n) := by
    intro d
    induction d with
    | zero => simp [cnt]
    | succ d ih =>
      have hT : Anti G n fun x => decide (D x = d) := fun a b ha hb h1 h2 => by
        simp only [decide_eq_true_eq] at h1 h2
        cases hg : G a b with
        | false => rfl
        | true => have := hD a b ha hb hg; omega
      have h1 := anti_le h hT
      have h2 : cnt n (fun x => decide (D x < d + 1)) ≤ (List.range n).countP fun x => decide (D x < d) || decide (D x = d) := cnt_mono fun x _ hx => by
        simp only [decide_eq_true_eq, Bool.or_eq_true] at hx ⊢
        omega
      have h3 := countP_or_and (fun x => decide (D x < d)) (fun x => decide (D x = d)) (List.range n)
      rw [Nat.succ_mul]
      unfold cnt at *
      omega
  have h1 := key L
  have h2 : cnt n (fun x => decide (D x < L)) = n := by
    unfold cnt
    have : (List.range n).countP (fun x => decide (D x < L)) = (List.range n).length := List.countP_eq_length.2 fun x hx => by simpa using hL x (List.mem_range.1 hx)
    rw [this, List.length_range]
  omega
/-- more lines, no more rows -/
theorem rows_more {G' : Nat → Nat → Bool} (hG : ∀ a b, a < n → b < n → G a b = true → G' a b = true) : n - nu G' n n ≤ n - nu G n n := by
  have := nu_mono (G := G) (G' := G') (l := n) (r := n) fun i hi j hj => hG i j hi hj
  omega
end
end Go.Proofs.Ytinglgnddmadaaa.Cn
