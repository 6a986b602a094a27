/-
  Plain facts on the degrees of graphs, with no program in them: their sum is twice the number of pairs (Euler), they pass the test by sums (Erdos and Gallai), two of them are the same. There is no condition.
-/
import Derived.Test.YtnekbgeablhgiaaGraphL
import Derived.Test.YtnekbgeablhgiaaDegreeN
namespace Go.Proofs.Ytnekbgeablhgiaa.De

/-- what is wrong with a list of degrees -/
def code (l : List Int) : Int := if l.length = 0 then 5 else if 8 < l.length then 4 else if ∀ d ∈ l, 0 ≤ d ∧ d ≤ 7 then 0 else 1
theorem code_zero {l : List Int} : code l = 0 ↔ 1 ≤ l.length ∧ l.length ≤ 8 ∧ ∀ d ∈ l, 0 ≤ d ∧ d ≤ 7 := by
  unfold code
  by_cases h1 : l.length = 0
  · rw [if_pos h1]
    constructor
    · intro h; cases h
    · intro h; omega
  · rw [if_neg h1]
    by_cases h2 : 8 < l.length
    · rw [if_pos h2]
      constructor
      · intro h; cases h
      · intro h; omega
    · rw [if_neg h2]
      by_cases h3 : ∀ d ∈ l, 0 ≤ d ∧ d ≤ 7
      · rw [if_pos h3]
        exact ⟨fun _ => ⟨by omega, by omega, h3⟩, fun _ => rfl⟩
      · rw [if_neg h3]
        constructor
        · intro h; cases h
        · intro h; exact absurd h.2.2 h3
theorem code_none {l : List Int} (h : l.length = 0) : code l = 5 := by unfold code; rw [if_pos h]
theorem code_full {l : List Int} (h : 8 < l.length) : code l = 4 := by unfold code; rw [if_neg (by omega), if_pos h]
theorem code_bad {l : List Int} (h0 : l.length ≠ 0) (h8 : l.length ≤ 8) {k : Nat} (hk : k < l.length) (h : l.getD k 0 < 0 ∨ 7 < l.getD k 0) : code l = 1 := by
  unfold code
  rw [if_neg h0, if_neg (by omega), if_neg]
  intro g
  have := g (l.getD k 0) (by simp [List.getD, hk])
  omega
theorem code_good {l : List Int} (h0 : l.length ≠ 0) (h8 : l.length ≤ 8) (h : ∀ d ∈ l, 0 ≤ d ∧ d ≤ 7) : code l = 0 := code_zero.2 ⟨by omega, h8, h⟩
/-- the first k are as they should be -/
def okTo (l : List Int) (k : Nat) : Prop := ∀ d ∈ l.take k, 0 ≤ d ∧ d ≤ 7
theorem okTo_zero (l : List Int) : okTo l 0 := by intro d hd; simp at hd
theorem okTo_succ {l : List Int} {k : Nat} (h : okTo l k) (hk : k < l.length) (h0 : 0 ≤ l.getD k 0) (h7 : l.getD k 0 ≤ 7) : okTo l (k + 1) := by
  intro d hd
  rw [List.take_succ_eq_append_getElem hk] at hd
  rcases List.mem_append.1 hd with hd | hd
  · exact h d hd
  · obtain rfl : d = l[k] := by simpa using hd
    simp [List.getD, hk] at h0 h7
    exact ⟨h0, h7⟩
theorem okTo_all {l : List Int} {k : Nat} (h : okTo l k) (hk : l.length ≤ k) : ∀ d ∈ l, 0 ≤ d ∧ d ≤ 7 := by
  unfold okTo at h
  rwa [List.take_of_length_le hk] at h
theorem code_perm {l l' : List Int} (h : l.Perm l') : code l = code l' := by
  have h3 : (∀ d ∈ l, 0 ≤ d ∧ d ≤ 7) ↔ (∀ d ∈ l', 0 ≤ d ∧ d ≤ 7) := ⟨fun g d hd => g d (h.symm.subset hd), fun g d hd => g d (h.subset hd)⟩
  unfold code
  rw [h.length_eq]
  simp only [h3]

/-- the numbers, falling, as natural ones -/
def fl (l : List Int) : List Nat := fall (l.map Int.toNat)
/-- can they be degrees? -/
def can (l : List Int) : Bool := egFrom (fl l) 0 0
theorem can_perm {l l' : List Int} (h : l.Perm l') : can l = can l' := by
  unfold can fl
  rw [fall_congr (h.map _)]
theorem fl_len (l : List Int) : (fl l).length = l.length := by unfold fl; rw [fall_len, List.length_map]
def up (l : List Nat) : List Int := l.map fun x : Nat => ((x : Nat) : Int)
theorem up_len (l : List Nat) : (up l).length = l.length := by simp [up]
theorem up_getD (l : List Nat) (k : Nat) : (up l).getD k 0 = ((l.getD k 0 : Nat) : Int) := by
  simp only [up, List.getD, List.getElem?_map]
  cases l[k]? <;> rfl
theorem up_take (l : List Nat) (k : Nat) : (up l).take k = up (l.take k) := by simp [up]
theorem up_drop (l : List Nat) (k : Nat) : (up l).drop k = up (l.drop k) := by simp [up]
theorem up_toNat {l : List Int} (h : ∀ d ∈ l, 0 ≤ d) : up (l.map Int.toNat) = l := by
  unfold up
  rw [List.map_map]
  conv => rhs; rw [← List.map_id l]
  refine List.map_congr_left fun d hd => ?_
  have := h d hd
  simp only [Function.comp, id]
  omega
/-- the sorted list, turned round -/
theorem sorted_fl {l : List Int} (h : ∀ d ∈ l, 0 ≤ d) : (l.mergeSort fun x y => decide (x ≤ y)).reverse = up (fl l) := by
  have hs : (l.mergeSort fun x y => decide (x ≤ y)).Pairwise fun x y => x ≤ y := by
    have := List.pairwise_mergeSort (le := fun x y : Int => decide (x ≤ y)) (fun a b c h1 h2 => by simp at h1 h2 ⊢; omega) (fun a b => by simp; omega) l
    simpa using this
  have hp : (l.mergeSort fun x y => decide (x ≤ y)).Perm l := List.mergeSort_perm l _
  refine List.Perm.eq_of_pairwise (le := fun x y : Int => y ≤ x) (fun a b _ _ h1 h2 => by omega) (List.pairwise_reverse.2 hs) ?_ ?_
  · unfold up
    refine List.pairwise_map.2 ((fall_fl _).imp ?_)
    intro a b hab
    omega
  · refine (List.reverse_perm _).trans (hp.trans ?_)
    have h1 : (up (fl l)).Perm (up (l.map Int.toNat)) := (fall_perm _).map _
    rw [up_toNat h] at h1
    exact h1.symm

/-! ### sums of whole numbers -/
def tot : List Int → Int
  | [] => 0
  | x :: xs => x + tot xs
theorem tot_app (l l' : List Int) : tot (l ++ l') = tot l + tot l' := by
  induction l with
  | nil => simp [tot]
  | cons x xs ih => simp only [List.cons_append, tot, ih]; omega
theorem tot_take {l : List Int} {k : Nat} (hk : k < l.length) : tot (l.take (k + 1)) = tot (l.take k) + l.getD k 0 := by
  rw [List.take_succ_eq_append_getElem hk, tot_app]
  simp [tot, List.getD, hk]
theorem tot_up (l : List Nat) : tot (up l) = ((sm l : Nat) : Int) := by
  induction l with
  | nil => rfl
  | cons x xs ih =>
    simp only [up, List.map_cons, tot, sm] at ih ⊢
    rw [ih]
    omega
theorem tot_bound {l : List Int} (h : ∀ d ∈ l, 0 ≤ d ∧ d ≤ 7) : 0 ≤ tot l ∧ tot l ≤ 7 * l.length := by
  induction l with
  | nil => simp [tot]
  | cons x xs ih =>
    have h1 := h x (by simp)
    have h2 := ih fun d hd => h d (List.mem_cons_of_mem _ hd)
    simp only [tot, List.length_cons]
    omega
def ends (k : Int) : List Int → Int
  | [] => 0
  | x :: xs => min x k + ends k xs
theorem ends_app (k : Int) (l l' : List Int) : ends k (l ++ l') = ends k l + ends k l' := by
  induction l with
  | nil => simp [ends]
  | cons x xs ih => simp only [List.cons_append, ends, ih]; omega
theorem ends_take {k : Int} {l : List Int} {i : Nat} (hi : i < l.length) : ends k (l.take (i + 1)) = ends k (l.take i) + min (l.getD i 0) k := by
  rw [List.take_succ_eq_append_getElem hi, ends_app]
  simp [ends, List.getD, hi]
theorem ends_up (k : Nat) (l : List Nat) : ends (k : Int) (up l) = ((mins k l : Nat) : Int) := by
  induction l with
  | nil => rfl
  | cons x xs ih =>
    simp only [up, List.map_cons, ends] at ih ⊢
    rw [ih, mins_cons]
    omega
theorem ends_bound {k : Int} (hk : 0 ≤ k) {l : List Int} (h : ∀ d ∈ l, 0 ≤ d ∧ d ≤ 7) : 0 ≤ ends k l ∧ ends k l ≤ 7 * l.length := by
  induction l with
  | nil => simp [ends]
  | cons x xs ih =>
    have h1 := h x (by simp)
    have h2 := ih fun d hd => h d (List.mem_cons_of_mem _ hd)
    simp only [ends, List.length_cons]
    omega

/-! ### degrees -/
section
variable (m : Nat) (r : Nat → Nat → Bool)
/-- how many are beside a -/
def dg (a : Nat) : Nat := (List.range m).countP (r a)
/-- all of them -/
def dgs : List Nat := (List.range m).map (dg m r)
/-- pairs, the greater one first -/
def prs (n : Nat) : Nat := sm ((List.range n).map fun a => (List.range a).countP (r a))
end
section
variable {m : Nat} {r : Nat → Nat → Bool}
theorem dgs_len : (dgs m r).length = m := by simp [dgs]
theorem countP_irr {l : List Nat} (hir : ∀ a, r a a = false) {x : Nat} (hx : x ∈ l) : l.countP (r x) < l.length := by
  rcases Nat.lt_or_ge (l.countP (r x)) l.length with h | h
  · exact h
  · have he : l.countP (r x) = l.length := Nat.le_antisymm List.countP_le_length h
    have := List.countP_eq_length.1 he x hx
    rw [hir x] at this
    cases this
theorem dg_lt (hir : ∀ a, r a a = false) {a : Nat} (ha : a < m) : dg m r a < m := by
  have := countP_irr (l := List.range m) hir (List.mem_range.2 ha)
  simpa [dg] using this
/-- both ways of counting -/
theorem count_swap (hsy : ∀ a b, r a b = r b a) (xs : List Nat) : ∀ ys : List Nat, sm (xs.map fun x => ys.countP (r x)) = sm (ys.map fun y => xs.countP (r y)) := by
  intro ys
  induction ys with
  | nil =>
    simp only [List.countP_nil, List.map_nil, sm]
    induction xs with
    | nil => rfl
    | cons x xs ih => simp only [List.map_cons, sm, ih]
  | cons y ys ih =>
    simp only [List.map_cons, sm]
    rw [← ih]
    clear ih
    induction xs with
    | nil => rfl
    | cons x xs ih =>
      simp only [List.map_cons, sm]
      rw [ih, List.countP_cons, List.countP_cons, hsy x y]
      omega
theorem sm_add (l : List Nat) (f g : Nat → Nat) : sm (l.map fun x => f x + g x) = sm (l.map f) + sm (l.map g) := by
  induction l with
  | nil => rfl
  | cons x xs ih => simp only [List.map_cons, sm, ih]; omega
theorem sm_le (l : List Nat) (f : Nat → Nat) (c : Nat) (h : ∀ x ∈ l, f x ≤ c) : sm (l.map f) ≤ l.length * c := by
  induction l with
  | nil => simp [sm]
  | cons x xs ih =>
    have h1 := h x (by simp)
    have h2 := ih fun d hd => h d (List.mem_cons_of_mem _ hd)
    simp only [List.map_cons, sm, List.length_cons, Nat.succ_mul]
    omega
/-- Erdos, Gallai: of some points the degrees are not more than there can be -/
theorem gallai (hsy : ∀ a b, r a b = r b a) (hir : ∀ a, r a a = false) {xs ys : List Nat} (hp : (List.range m).Perm (xs ++ ys)) :
    sm (xs.map (dg m r)) ≤ xs.length * (xs.length - 1) + mins xs.length (ys.map (dg m r)) := by
  have hd : ∀ a, dg m r a = xs.countP (r a) + ys.countP (r a) := fun a => by
    unfold dg
    rw [hp.countP_eq, List.countP_append]
  have h1 : sm (xs.map (dg m r)) = sm (xs.map fun x => xs.countP (r x)) + sm (xs.map fun x => ys.countP (r x)) := by
    rw [← sm_add]
    congr 1
    exact List.map_congr_left fun a _ => hd a
  have h2 : sm (xs.map fun x => xs.countP (r x)) ≤ xs.length * (xs.length - 1) := sm_le _ _ _ fun x hx => by
    have := countP_irr (l := xs) hir hx
    omega
  have h3 : sm (ys.map fun y => xs.countP (r y)) ≤ mins xs.length (ys.map (dg m r)) := by
    have : ∀ zs : List Nat, sm (zs.map fun y => xs.countP (r y)) ≤ mins xs.length (zs.map (dg m r)) := by
      intro zs
      induction zs with
      | nil => exact Nat.le_refl _
      | cons z zs ih =>
        simp only [List.map_cons, sm, mins_cons]
        have a1 := hd z
        have a2 : xs.countP (r z) ≤ xs.length := List.countP_le_length
        omega
    exact this ys
  rw [h1, count_swap hsy xs ys]
  omega
/-- Euler -/
theorem euler (hsy : ∀ a b, r a b = r b a) (hir : ∀ a, r a a = false) : ∀ m, sm (dgs m r) = 2 * prs r m := by
  intro m
  induction m with
  | zero => rfl
  | succ m ih =>
    have h1 : sm (dgs (m + 1) r) = sm ((List.range m).map (dg (m + 1) r)) + dg (m + 1) r m := by
      unfold dgs
      rw [List.range_succ, List.map_append, sm_app]
      simp [sm]
    have h2 : prs r (m + 1) = prs r m + (List.range m).countP (r m) := by
      unfold prs
      rw [List.range_succ, List.map_append, sm_app]
      simp [sm]
    have h3 : ∀ a, dg (m + 1) r a = dg m r a + [m].countP (r a) := fun a => by
      unfold dg
      rw [List.range_succ, List.countP_append]
    have h4 : sm ((List.range m).map (dg (m + 1) r)) = sm (dgs m r) + (List.range m).countP (r m) := by
      have : (List.range m).map (dg (m + 1) r) = (List.range m).map fun a => dg m r a + [m].countP (r a) := List.map_congr_left fun a _ => h3 a
      rw [this, sm_add, count_swap hsy]
      simp [sm, dgs]
    have h5 : dg (m + 1) r m = (List.range m).countP (r m) := by
      rw [h3]
      simp [dg, hir m]
    rw [h1, h2, h4, h5, ih]
    omega
/-- a permutation of a list's image is an image of a permutation -/
theorem perm_map {l : List Nat} {f : Nat → Nat} {k : List Nat} (h : (l.map f).Perm k) : ∃ l', l.Perm l' ∧ l'.map f = k := by
  generalize hm : l.map f = q at h
  induction h generalizing l with
  | nil =>
    have : l = [] := by simpa using hm
    subst this
    exact ⟨[], List.Perm.refl _, rfl⟩
  | cons x _ ih =>
    cases l with
    | nil => cases hm
    | cons y ys =>
      simp only [List.map_cons, List.cons.injEq] at hm
      obtain ⟨l', h1, h2⟩ := ih hm.2
      exact ⟨y :: l', h1.cons y, by simp [hm.1, h2]⟩
  | swap x y l0 =>
    match l, hm with
    | a :: b :: ys, hm =>
      simp only [List.map_cons, List.cons.injEq] at hm
      exact ⟨b :: a :: ys, List.Perm.swap _ _ _, by simp [hm.1, hm.2.1, hm.2.2]⟩
  | trans _ _ ih1 ih2 =>
    obtain ⟨l1, p1, e1⟩ := ih1 hm
    obtain ⟨l2, p2, e2⟩ := ih2 e1
    exact ⟨l2, p1.trans p2, e2⟩
/-- what is can be -/
theorem eg_graph (hsy : ∀ a b, r a b = r b a) (hir : ∀ a, r a a = false) : egFrom (fall (dgs m r)) 0 0 = true := by
  obtain ⟨vs, hp, he⟩ := perm_map (l := List.range m) (f := dg m r) (fall_perm (dgs m r)).symm
  refine egFrom_true (fun j hj => ?_) ?_
  · rw [← he]
    have hvl : vs.length = m := by simpa using hp.symm.length_eq
    rw [fall_len, dgs_len] at hj
    have := gallai (xs := vs.take j) (ys := vs.drop j) hsy hir (by rw [List.take_append_drop]; exact hp)
    rw [List.length_take, Nat.min_eq_left (by omega)] at this
    rw [← List.map_take, ← List.map_drop, Nat.zero_add, Nat.zero_add]
    exact this
  · rw [sm_perm (fall_perm _), euler hsy hir]
    omega
/-- two are the same -/
theorem twice_graph (hsy : ∀ a b, r a b = r b a) (hir : ∀ a, r a a = false) (hm : 2 ≤ m) : ¬ (dgs m r).Nodup := by
  intro hn
  have hval : ∀ x ∈ dgs m r, x < m := fun x hx => by
    obtain ⟨a, ha, rfl⟩ := List.mem_map.1 hx
    exact dg_lt hir (List.mem_range.1 ha)
  have h0 : 0 ∈ dgs m r := by
    refine Decidable.byContradiction fun h => ?_
    have := List.Nodup.length_le_of_subset hn (l₂ := (List.range (m - 1)).map (· + 1)) fun x hx => by
      have h1 := hval x hx
      have h2 : x ≠ 0 := fun e => h (e ▸ hx)
      exact List.mem_map.2 ⟨x - 1, List.mem_range.2 (by omega), by omega⟩
    rw [dgs_len] at this
    simp at this
    omega
  have h1 : m - 1 ∈ dgs m r := by
    refine Decidable.byContradiction fun h => ?_
    have := List.Nodup.length_le_of_subset hn (l₂ := List.range (m - 1)) fun x hx => by
      have h1 := hval x hx
      have h2 : x ≠ m - 1 := fun e => h (e ▸ hx)
      exact List.mem_range.2 (by omega)
    rw [dgs_len] at this
    simp at this
    omega
  obtain ⟨a, ha, ea⟩ := List.mem_map.1 h0
  obtain ⟨b, hb, eb⟩ := List.mem_map.1 h1
  rw [List.mem_range] at ha hb
  have hab : r a b = false := by
    have := List.countP_eq_zero.1 ea b (List.mem_range.2 hb)
    simpa using this
  have hne : a ≠ b := fun e => by rw [e, eb] at ea; omega
  -- b has everyone beside it but itself and a
  have hp : (List.range m).countP (r b) + (List.range m).countP (fun x => x == a || x == b) ≤ m := by
    have h1 : ∀ l : List Nat, l.countP (r b) + l.countP (fun x => x == a || x == b) ≤ l.length := by
      intro l
      induction l with
      | nil => simp
      | cons x xs ih =>
        rw [List.countP_cons, List.countP_cons, List.length_cons]
        by_cases e1 : x = a
        · subst e1
          have : r b x = false := by rw [hsy]; exact hab
          simp [this]
          omega
        · by_cases e2 : x = b
          · subst e2
            simp [hir]
            omega
          · have e3 : (x == a || x == b) = false := by simp [e1, e2]
            rw [e3]
            split <;> simp <;> omega
    have := h1 (List.range m)
    simpa using this
  have h2 : 2 ≤ (List.range m).countP (fun x => x == a || x == b) := by
    rw [List.countP_eq_length_filter]
    have := List.Nodup.length_le_of_subset (l₁ := [a, b]) (l₂ := (List.range m).filter fun x => x == a || x == b) (by simp [hne]) fun x hx => by
      rw [List.mem_filter, List.mem_range]
      rcases List.mem_cons.1 hx with rfl | hx
      · exact ⟨ha, by simp⟩
      · obtain rfl : x = b := by simpa using hx
        exact ⟨hb, by simp⟩
    simpa using this
  unfold dg at eb
  omega
end

/-! ### the degrees of lines -/
def rel (ls : List Gr.Ln) (a b : Nat) : Bool := Gr.adj ls (a : Int) (b : Int)
/-- all others -/
def orel (ls : List Gr.Ln) (a b : Nat) : Bool := !decide (a = b) && !Gr.adj ls (a : Int) (b : Int)
theorem rel_comm (ls : List Gr.Ln) (a b : Nat) : rel ls a b = rel ls b a := Gr.adj_comm ls _ _
theorem rel_irr {n : Int} {ls : List Gr.Ln} (h : Gr.code n ls = 0) (a : Nat) : rel ls a a = false := by
  cases hx : rel ls a a with
  | false => rfl
  | true => exact absurd rfl (Gr.adj_ne h hx)
theorem orel_comm (ls : List Gr.Ln) (a b : Nat) : orel ls a b = orel ls b a := by
  unfold orel
  rw [Gr.adj_comm ls]
  congr 2
  by_cases h : a = b
  · subst h; rfl
  · rw [decide_eq_false h, decide_eq_false (fun e => h e.symm)]
theorem orel_irr (ls : List Gr.Ln) (a : Nat) : orel ls a a = false := by simp [orel]
theorem row_dg (m : Nat) (ls : List Gr.Ln) (a : Nat) : (Gr.row m ls a).length = dg m (rel ls) a := by
  simp only [Gr.row, List.length_map, dg, List.countP_eq_length_filter]
  rfl
/-- the degrees -/
def degs (m : Nat) (ls : List Gr.Ln) : List Int := (Gr.rows m ls).map fun r => ((r.length : Nat) : Int)
theorem degs_up (m : Nat) (ls : List Gr.Ln) : degs m ls = up (dgs m (rel ls)) := by
  unfold degs Gr.rows up dgs
  rw [List.map_map, List.map_map]
  refine List.map_congr_left fun a _ => ?_
  simp only [Function.comp, row_dg]
theorem degs_len (m : Nat) (ls : List Gr.Ln) : (degs m ls).length = m := by rw [degs_up, up_len, dgs_len]
theorem dgs_getD {m : Nat} {r : Nat → Nat → Bool} {a : Nat} (ha : a < m) : (dgs m r).getD a 0 = dg m r a := by simp [dgs, List.getD, ha]
theorem degs_getD {m : Nat} {ls : List Gr.Ln} {a : Nat} (ha : a < m) : (degs m ls).getD a 0 = ((dg m (rel ls) a : Nat) : Int) := by rw [degs_up, up_getD, dgs_getD ha]
theorem degs_at {m : Nat} {ls : List Gr.Ln} (h : Gr.code (m : Int) ls = 0) {a : Nat} (ha : a < m) : 0 ≤ (degs m ls).getD a 0 ∧ (degs m ls).getD a 0 ≤ (m : Int) - 1 := by
  rw [degs_getD ha]
  have := dg_lt (m := m) (fun a => rel_irr h a) ha
  omega
theorem up_mem {l : List Nat} {d : Int} : d ∈ up l ↔ ∃ x ∈ l, (x : Int) = d := by simp [up]
theorem up_map_toNat (l : List Nat) : (up l).map Int.toNat = l := by simp [up, List.map_map, Function.comp_def]
theorem code_up {m : Nat} {r : Nat → Nat → Bool} (hir : ∀ a, r a a = false) (h1 : 1 ≤ m) (h8 : m ≤ 8) : code (up (dgs m r)) = 0 := by
  refine code_zero.2 ⟨by rw [up_len, dgs_len]; exact h1, by rw [up_len, dgs_len]; exact h8, fun d hd => ?_⟩
  obtain ⟨x, hx, rfl⟩ := up_mem.1 hd
  obtain ⟨a, ha, rfl⟩ := List.mem_map.1 hx
  have := dg_lt (m := m) hir (List.mem_range.1 ha)
  omega
theorem can_up {m : Nat} {r : Nat → Nat → Bool} (hsy : ∀ a b, r a b = r b a) (hir : ∀ a, r a a = false) : can (up (dgs m r)) = true := by
  unfold can fl
  rw [up_map_toNat]
  exact eg_graph hsy hir
/-- how many are not beside it -/
theorem dg_other {n : Int} {m : Nat} {ls : List Gr.Ln} (h : Gr.code n ls = 0) {a : Nat} (ha : a < m) : dg m (orel ls) a + dg m (rel ls) a + 1 = m := by
  have key : ∀ l : List Nat, l.Nodup → l.countP (orel ls a) + l.countP (rel ls a) + (if a ∈ l then 1 else 0) = l.length := by
    intro l
    induction l with
    | nil => intro _; simp
    | cons x xs ih =>
      intro hn
      have hn' := List.nodup_cons.1 hn
      have := ih hn'.2
      rw [List.countP_cons, List.countP_cons, List.length_cons]
      by_cases e : a = x
      · subst e
        rw [if_neg hn'.1] at this
        have hm : a ∈ a :: xs := by simp
        rw [if_pos hm, orel_irr, rel_irr h]
        simp only [Bool.false_eq_true, if_false]
        omega
      · have hm : (a ∈ x :: xs) ↔ a ∈ xs := by simp [e]
        simp only [hm]
        have : orel ls a x = !rel ls a x := by simp [orel, rel, e]
        rw [this]
        cases rel ls a x <;> simp <;> omega
  have := key (List.range m) List.nodup_range
  rw [if_pos (List.mem_range.2 ha), List.length_range] at this
  exact this

theorem up_nodup {l : List Nat} (h : (up l).Nodup) : l.Nodup := by
  unfold up at h
  exact (List.pairwise_map.1 h).imp fun hab e => hab (by rw [e])
/-- pairs, up to a place -/
def prsTo (r : Nat → Nat → Bool) (a b : Nat) : Nat := prs r a + (List.range b).countP (r a)
theorem prsTo_zero (r : Nat → Nat → Bool) (a : Nat) : prsTo r a 0 = prs r a := rfl
theorem prsTo_row (r : Nat → Nat → Bool) (a : Nat) : prsTo r a a = prs r (a + 1) := by
  unfold prsTo prs
  rw [List.range_succ, List.map_append, sm_app]
  simp [sm]
theorem prsTo_hit {r : Nat → Nat → Bool} {a b : Nat} (h : r a b = true) : prsTo r a (b + 1) = prsTo r a b + 1 := by
  unfold prsTo
  rw [List.range_succ, List.countP_append]
  simp [h]
  omega
theorem prsTo_miss {r : Nat → Nat → Bool} {a b : Nat} (h : r a b = false) : prsTo r a (b + 1) = prsTo r a b := by
  unfold prsTo
  rw [List.range_succ, List.countP_append]
  simp [h]
theorem degs_code {m : Nat} {ls : List Gr.Ln} (h : Gr.code (m : Int) ls = 0) : code (degs m ls) = 0 := by
  obtain ⟨h1, h8, _, _⟩ := Gr.code_zero.1 h
  rw [degs_up]
  exact code_up (fun a => rel_irr h a) (by omega) (by omega)
theorem degs_can {m : Nat} {ls : List Gr.Ln} (h : Gr.code (m : Int) ls = 0) : can (degs m ls) = true := by
  rw [degs_up]
  exact can_up (rel_comm ls) (fun a => rel_irr h a)
theorem degs_tot {m : Nat} {ls : List Gr.Ln} (h : Gr.code (m : Int) ls = 0) : tot (degs m ls) = 2 * ((prs (rel ls) m : Nat) : Int) := by
  rw [degs_up, tot_up, euler (rel_comm ls) (fun a => rel_irr h a)]
  omega
theorem degs_twice {m : Nat} {ls : List Gr.Ln} (h : Gr.code (m : Int) ls = 0) (hm : 2 ≤ m) : ¬ (degs m ls).Nodup := by
  rw [degs_up]
  exact fun hn => twice_graph (rel_comm ls) (fun a => rel_irr h a) hm (up_nodup hn)
/-- how many are not beside each one -/
def odegs (m : Nat) (ls : List Gr.Ln) : List Int := (degs m ls).map fun d => (m : Int) - 1 - d
theorem odegs_up {m : Nat} {ls : List Gr.Ln} (h : Gr.code (m : Int) ls = 0) : odegs m ls = up (dgs m (orel ls)) := by
  unfold odegs
  rw [degs_up]
  unfold up dgs
  rw [List.map_map, List.map_map, List.map_map]
  refine List.map_congr_left fun a ha => ?_
  have := dg_other (m := m) h (List.mem_range.1 ha)
  simp only [Function.comp]
  omega
theorem odegs_len (m : Nat) (ls : List Gr.Ln) : (odegs m ls).length = m := by simp [odegs, degs_len]
theorem odegs_code {m : Nat} {ls : List Gr.Ln} (h : Gr.code (m : Int) ls = 0) : code (odegs m ls) = 0 := by
  obtain ⟨h1, h8, _, _⟩ := Gr.code_zero.1 h
  rw [odegs_up h]
  exact code_up (orel_irr ls) (by omega) (by omega)
theorem odegs_can {m : Nat} {ls : List Gr.Ln} (h : Gr.code (m : Int) ls = 0) : can (odegs m ls) = true := by
  rw [odegs_up h]
  exact can_up (orel_comm ls) (orel_irr ls)
theorem odegs_take {m : Nat} {ls : List Gr.Ln} {k : Nat} (hk : k < m) : (odegs m ls).take (k + 1) = (odegs m ls).take k ++ [(m : Int) - 1 - (degs m ls).getD k 0] := by
  have h1 : k < (odegs m ls).length := by rw [odegs_len]; exact hk
  have h2 : k < (degs m ls).length := by rw [degs_len]; exact hk
  rw [List.take_succ_eq_append_getElem h1]
  simp [odegs, List.getD, h2]
theorem odd_take {l : List Int} {k : Nat} (hk : k < l.length) {o : Int} (h : o % 2 = tot (l.take k) % 2) : (o + l.getD k 0 % 2) % 2 = tot (l.take (k + 1)) % 2 := by
  rw [tot_take hk]
  omega

end Go.Proofs.Ytnekbgeablhgiaa.De
