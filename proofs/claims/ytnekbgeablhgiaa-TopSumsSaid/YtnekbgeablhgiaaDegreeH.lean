/-
  Plain facts on the reference's way to lines with given degrees, with no program in it: it takes the greatest number and joins it to the greatest others; it comes to an end just where the falling numbers pass the test of taking off the greatest one. There is no condition.
-/
import Derived.Test.YtnekbgeablhgiaaGraphL
import Derived.Test.YtnekbgeablhgiaaDegreeN
namespace Go.Proofs.Ytnekbgeablhgiaa.De

/-- the first greatest number below place i that is not among those done -/
def bestTo (ns done : List Nat) : Nat → Option Nat
  | 0 => none
  | i + 1 => if done.contains i then bestTo ns done i else match bestTo ns done i with
    | none => some i
    | some b => if ns.getD b 0 < ns.getD i 0 then some i else some b
/-- those that are done behind k rounds -/
def picks (ns : List Nat) (at_ : Nat) : Nat → Option (List Nat)
  | 0 => some [at_]
  | k + 1 => match picks ns at_ k with
    | none => none
    | some done => match bestTo ns done ns.length with
      | none => none
      | some b => if ns.getD b 0 = 0 then none else some (done ++ [b])
/-- the numbers that are left -/
def nextOf (ns : List Nat) (at_ : Nat) (bs : List Nat) : List Nat := bs.foldl (fun nx b => nx.set b (nx.getD b 0 - 1)) (ns.set at_ 0)
/-- a line, the lesser point first -/
def lineOf (a b : Nat) : Gr.Ln := if a < b then ((a : Int), (b : Int)) else ((b : Int), (a : Int))
def first (ns : List Nat) : Nat := (bestTo ns [] ns.length).getD 0
/-- the lines -/
def havel : Nat → List Nat → Option (List Gr.Ln)
  | 0, _ => none
  | f + 1, ns => if ns.getD (first ns) 0 = 0 then some [] else match picks ns (first ns) (ns.getD (first ns) 0) with
    | none => none
    | some done => match havel f (nextOf ns (first ns) done.tail) with
      | none => none
      | some r => some (done.tail.map (lineOf (first ns)) ++ r)

/-! ### the greatest one -/
theorem bestTo_none {ns done : List Nat} : ∀ {i : Nat}, bestTo ns done i = none ↔ ∀ j, j < i → j ∈ done := by
  intro i
  induction i with
  | zero => simp [bestTo]
  | succ i ih =>
    unfold bestTo
    by_cases h : done.contains i = true
    · rw [if_pos h, ih]
      have hi : i ∈ done := by simpa using h
      constructor
      · intro g j hj
        by_cases e : j = i
        · subst e; exact hi
        · exact g j (by omega)
      · intro g j hj; exact g j (by omega)
    · rw [if_neg h]
      have hi : i ∉ done := by simpa using h
      constructor
      · intro g
        split at g
        · cases g
        · split at g <;> cases g
      · intro g; exact absurd (g i (by omega)) hi
theorem bestTo_some {ns done : List Nat} : ∀ {i b : Nat}, bestTo ns done i = some b → b < i ∧ b ∉ done ∧ ∀ j, j < i → j ∉ done → ns.getD j 0 ≤ ns.getD b 0 := by
  intro i
  induction i with
  | zero => intro b h; cases h
  | succ i ih =>
    intro b h
    unfold bestTo at h
    by_cases hc : done.contains i = true
    · rw [if_pos hc] at h
      have hi : i ∈ done := by simpa using hc
      obtain ⟨h1, h2, h3⟩ := ih h
      refine ⟨by omega, h2, fun j hj hd => h3 j ?_ hd⟩
      have : j ≠ i := fun e => hd (e ▸ hi)
      omega
    · rw [if_neg hc] at h
      have hi : i ∉ done := by simpa using hc
      split at h
      · rename_i hn
        cases h
        refine ⟨by omega, hi, fun j hj hd => ?_⟩
        by_cases e : j = i
        · subst e; exact Nat.le_refl _
        · exact absurd (bestTo_none.1 hn j (by omega)) hd
      · rename_i b' hb'
        obtain ⟨h1, h2, h3⟩ := ih hb'
        split at h
        · rename_i hlt
          cases h
          refine ⟨by omega, hi, fun j hj hd => ?_⟩
          by_cases e : j = i
          · subst e; exact Nat.le_refl _
          · have := h3 j (by omega) hd
            omega
        · rename_i hlt
          cases h
          refine ⟨by omega, h2, fun j hj hd => ?_⟩
          by_cases e : j = i
          · subst e; omega
          · exact h3 j (by omega) hd
theorem first_spec {ns : List Nat} (h : ns ≠ []) : first ns < ns.length ∧ bestTo ns [] ns.length = some (first ns) ∧ ∀ j, j < ns.length → ns.getD j 0 ≤ ns.getD (first ns) 0 := by
  unfold first
  cases hb : bestTo ns [] ns.length with
  | none =>
    have := bestTo_none.1 hb 0 (by cases ns with | nil => exact absurd rfl h | cons => simp)
    cases this
  | some b =>
    obtain ⟨h1, _, h3⟩ := bestTo_some hb
    exact ⟨h1, rfl, fun j hj => h3 j hj (by simp)⟩

/-! ### the places -/
/-- the numbers at some places -/
def vals (ns us : List Nat) : List Nat := us.map fun i => ns.getD i 0
/-- the places that are not done -/
def rest (n : Nat) (done : List Nat) : List Nat := (List.range n).filter fun i => !done.contains i
theorem vals_range (ns : List Nat) : vals ns (List.range ns.length) = ns := by
  refine List.ext_getElem (by simp [vals]) fun i h1 h2 => ?_
  simp [vals, List.getD, h2]
theorem mem_rest {n : Nat} {done : List Nat} {i : Nat} : i ∈ rest n done ↔ i < n ∧ i ∉ done := by simp [rest]
theorem rest_nodup (n : Nat) (done : List Nat) : (rest n done).Nodup := List.Pairwise.filter _ List.nodup_range
theorem rest_pick {n : Nat} {done : List Nat} {b : Nat} (h1 : b < n) (h2 : b ∉ done) : (rest n done).Perm (b :: rest n (done ++ [b])) := by
  refine (List.perm_ext_iff_of_nodup (rest_nodup _ _) (List.nodup_cons.2 ⟨?_, rest_nodup _ _⟩)).2 fun i => ?_
  · rw [mem_rest]; simp
  · rw [List.mem_cons, mem_rest, mem_rest, List.mem_append, List.mem_singleton]
    constructor
    · rintro ⟨g1, g2⟩
      by_cases e : i = b
      · exact .inl e
      · exact .inr ⟨g1, fun h => h.elim g2 e⟩
    · rintro (rfl | ⟨g1, g2⟩)
      · exact ⟨h1, h2⟩
      · exact ⟨g1, fun h => g2 (.inl h)⟩
theorem vals_perm {ns us vs : List Nat} (h : us.Perm vs) : (vals ns us).Perm (vals ns vs) := h.map _

/-- k rounds: what is picked are the k greatest ones behind the first -/
structure Picked (ns : List Nat) (at_ k : Nat) (rs bs : List Nat) : Prop where
  nodup : (at_ :: bs).Nodup
  below : ∀ b ∈ at_ :: bs, b < ns.length
  tops : vals ns bs = rs.take k
  left : (vals ns (rest ns.length (at_ :: bs))).Perm (rs.drop k)
  len : bs.length = k

theorem fl_head {x y : Nat} {l : List Nat} (h : Fl (x :: l)) (hy : y ∈ x :: l) : y ≤ x := by
  rcases List.mem_cons.1 hy with rfl | hy
  · exact Nat.le_refl _
  · exact (List.pairwise_cons.1 h).1 y hy
/-- the greatest of what is left -/
theorem best_left {ns done l : List Nat} (hl : (vals ns (rest ns.length done)).Perm l) (hf : Fl l) :
    (l = [] ∧ bestTo ns done ns.length = none) ∨ ∃ x t b, l = x :: t ∧ bestTo ns done ns.length = some b ∧ ns.getD b 0 = x ∧ b < ns.length ∧ b ∉ done ∧ (vals ns (rest ns.length (done ++ [b]))).Perm t := by
  cases hb : bestTo ns done ns.length with
  | none =>
    refine .inl ⟨?_, rfl⟩
    have : rest ns.length done = [] := List.eq_nil_iff_forall_not_mem.2 fun i hi => by
      obtain ⟨h1, h2⟩ := mem_rest.1 hi
      exact h2 (bestTo_none.1 hb i h1)
    rw [this] at hl
    exact List.nil_perm.1 hl
  | some b =>
    obtain ⟨h1, h2, h3⟩ := bestTo_some hb
    have hp := (vals_perm (ns := ns) (rest_pick h1 h2)).symm.trans hl
    refine .inr ?_
    cases l with
    | nil => exact absurd hp.length_eq (by simp [vals])
    | cons x t =>
      have hbx : ns.getD b 0 = x := by
        have m1 : ns.getD b 0 ∈ x :: t := hp.subset (by simp [vals])
        have m2 : x ∈ vals ns (rest ns.length done) := hl.symm.subset (by simp)
        obtain ⟨j, hj, e⟩ := List.mem_map.1 m2
        have hj' := mem_rest.1 hj
        have := h3 j hj'.1 hj'.2
        have := fl_head hf m1
        omega
      refine ⟨x, t, b, rfl, rfl, hbx, h1, h2, ?_⟩
      have : (ns.getD b 0 :: vals ns (rest ns.length (done ++ [b]))).Perm (x :: t) := hp
      rw [hbx] at this
      exact (List.perm_cons x).1 this
theorem picks_spec {ns rs : List Nat} {at_ : Nat} (hat : at_ < ns.length) (hl : (vals ns (rest ns.length [at_])).Perm rs) (hf : Fl rs) :
    ∀ k, (enough k rs = true → ∃ bs, picks ns at_ k = some (at_ :: bs) ∧ Picked ns at_ k rs bs) ∧ (enough k rs = false → picks ns at_ k = none) := by
  intro k
  induction k with
  | zero =>
    refine ⟨fun _ => ⟨[], rfl, by simp, by simpa using hat, by simp [vals], by simpa using hl, rfl⟩, fun h => ?_⟩
    unfold enough at h
    cases h
  | succ k ih =>
    rw [enough_succ]
    cases he : enough k rs with
    | false =>
      refine ⟨fun h => by simp at h, fun _ => ?_⟩
      unfold picks
      rw [ih.2 he]
    | true =>
      obtain ⟨bs, hp, hP⟩ := ih.1 he
      have hfd : Fl (rs.drop k) := hf.sublist (List.drop_sublist k rs)
      rcases best_left hP.left hfd with ⟨h1, h2⟩ | ⟨x, t, b, h1, h2, h3, h4, h5, h6⟩
      · rw [h1]
        refine ⟨fun h => by simp at h, fun _ => ?_⟩
        unfold picks
        rw [hp]
        simp only [h2]
      · rw [h1]
        have hstep : picks ns at_ (k + 1) = if ns.getD b 0 = 0 then none else some (at_ :: bs ++ [b]) := by
          conv => lhs; unfold picks
          rw [hp]
          simp only [h2]
        by_cases hx : 1 ≤ x
        · refine ⟨fun _ => ⟨bs ++ [b], by rw [hstep, if_neg (by omega)]; rfl, ?_⟩, fun h => by simp [hx] at h⟩
          have hk : k < rs.length := by
            rcases Nat.lt_or_ge k rs.length with h | h
            · exact h
            · rw [List.drop_eq_nil_of_le h] at h1; cases h1
          have hkx : rs[k] = x ∧ rs.drop (k + 1) = t := by
            rw [List.drop_eq_getElem_cons hk] at h1
            injection h1 with a b
            exact ⟨a, b⟩
          refine ⟨?_, ?_, ?_, ?_, by simp [hP.len]⟩
          · rw [← List.cons_append]
            refine List.nodup_append.2 ⟨hP.nodup, by simp, fun a ha c hc => ?_⟩
            obtain rfl : c = b := by simpa using hc
            exact fun e => h5 (e ▸ ha)
          · intro c hc
            rw [← List.cons_append] at hc
            rcases List.mem_append.1 hc with hc | hc
            · exact hP.below c hc
            · obtain rfl : c = b := by simpa using hc
              exact h4
          · have := hP.tops
            rw [List.take_succ_eq_append_getElem hk, hkx.1, ← h3, ← this]
            simp [vals]
          · rw [hkx.2]
            exact h6
        · refine ⟨fun h => by simp [hx] at h, fun _ => ?_⟩
          rw [hstep, if_pos (by omega)]

/-! ### what is left behind a round -/
theorem foldl_len : ∀ (bs nx : List Nat), (bs.foldl (fun nx b => nx.set b (nx.getD b 0 - 1)) nx).length = nx.length := by
  intro bs
  induction bs with
  | nil => intro nx; rfl
  | cons b bs ih => intro nx; rw [List.foldl_cons, ih]; simp
theorem nextOf_len (ns : List Nat) (a : Nat) (bs : List Nat) : (nextOf ns a bs).length = ns.length := by
  unfold nextOf
  rw [foldl_len, List.length_set]
theorem nextOf_snoc (ns : List Nat) (a : Nat) (bs : List Nat) (b : Nat) : nextOf ns a (bs ++ [b]) = (nextOf ns a bs).set b ((nextOf ns a bs).getD b 0 - 1) := by
  unfold nextOf
  rw [List.foldl_append]
  rfl
theorem getD_set (l : List Nat) (b x i : Nat) (hb : b < l.length) : (l.set b x).getD i 0 = if i = b then x else l.getD i 0 := by
  simp only [List.getD, List.getElem?_set]
  by_cases h : b = i
  · subst h; simp [hb]
  · rw [if_neg h, if_neg (fun e => h e.symm)]
theorem foldl_getD : ∀ (bs nx : List Nat), bs.Nodup → (∀ b ∈ bs, b < nx.length) → ∀ i, (bs.foldl (fun nx b => nx.set b (nx.getD b 0 - 1)) nx).getD i 0 = if i ∈ bs then nx.getD i 0 - 1 else nx.getD i 0 := by
  intro bs
  induction bs with
  | nil => intro nx _ _ i; simp
  | cons b bs ih =>
    intro nx hn hl i
    have hn' := List.nodup_cons.1 hn
    rw [List.foldl_cons, ih _ hn'.2 (fun c hc => by rw [List.length_set]; exact hl c (List.mem_cons_of_mem _ hc)) i, getD_set _ _ _ _ (hl b (by simp))]
    by_cases e : i = b
    · subst e
      rw [if_neg hn'.1, if_pos rfl, if_pos (by simp)]
    · by_cases m : i ∈ bs
      · rw [if_pos m, if_neg e, if_pos (List.mem_cons_of_mem _ m)]
      · rw [if_neg m, if_neg e, if_neg (by simp [e, m])]
theorem nextOf_getD {ns : List Nat} {a : Nat} {bs : List Nat} (hn : (a :: bs).Nodup) (hl : ∀ b ∈ a :: bs, b < ns.length) (i : Nat) :
    (nextOf ns a bs).getD i 0 = if i = a then 0 else if i ∈ bs then ns.getD i 0 - 1 else ns.getD i 0 := by
  have hn' := List.nodup_cons.1 hn
  unfold nextOf
  rw [foldl_getD bs _ hn'.2 (fun c hc => by rw [List.length_set]; exact hl c (List.mem_cons_of_mem _ hc)) i, getD_set _ _ _ _ (hl a (by simp))]
  by_cases e : i = a
  · subst e
    rw [if_neg hn'.1, if_pos rfl, if_pos rfl]
  · rw [if_neg e, if_neg e]
theorem nextOf_perm {ns rs bs : List Nat} {a k : Nat} (hP : Picked ns a k rs bs) : (nextOf ns a bs).Perm (0 :: dec k rs) := by
  have hall : (List.range ns.length).Perm (a :: bs ++ rest ns.length (a :: bs)) := by
    refine (List.perm_ext_iff_of_nodup List.nodup_range (List.nodup_append.2 ⟨hP.nodup, rest_nodup _ _, fun x hx y hy => ?_⟩)).2 fun i => ?_
    · exact fun e => (mem_rest.1 hy).2 (e ▸ hx)
    · rw [List.mem_range, List.mem_append, mem_rest]
      by_cases m : i ∈ a :: bs
      · exact ⟨fun _ => .inl m, fun _ => hP.below i m⟩
      · exact ⟨fun h => .inr ⟨h, m⟩, fun h => h.elim (fun g => absurd g m) (fun g => g.1)⟩
  have h1 : nextOf ns a bs = vals (nextOf ns a bs) (List.range ns.length) := by
    conv => lhs; rw [← vals_range (nextOf ns a bs)]
    rw [nextOf_len]
  rw [h1]
  refine (vals_perm hall).trans ?_
  have h2 : vals (nextOf ns a bs) (a :: bs ++ rest ns.length (a :: bs)) = 0 :: ((vals ns bs).map (· - 1) ++ vals ns (rest ns.length (a :: bs))) := by
    unfold vals
    rw [List.map_append, List.map_cons, List.map_map, List.cons_append]
    congr 1
    · rw [nextOf_getD hP.nodup hP.below, if_pos rfl]
    · congr 1
      · refine List.map_congr_left fun i hi => ?_
        rw [nextOf_getD hP.nodup hP.below, if_neg (fun e : i = a => (List.nodup_cons.1 hP.nodup).1 (e ▸ hi)), if_pos hi]
        rfl
      · refine List.map_congr_left fun i hi => ?_
        have := (mem_rest.1 hi).2
        rw [nextOf_getD hP.nodup hP.below, if_neg (fun e : i = a => this (by simp [e])), if_neg (fun e : i ∈ bs => this (List.mem_cons_of_mem _ e))]
  rw [h2, dec_eq, hP.tops]
  exact (List.Perm.append_left _ hP.left).cons 0

/-- the first round -/
theorem fall_first {ns : List Nat} (h : ns ≠ []) : ∃ rs, fall ns = ns.getD (first ns) 0 :: rs ∧ (vals ns (rest ns.length [first ns])).Perm rs ∧ Fl rs := by
  obtain ⟨h1, h2, h3⟩ := first_spec h
  have hl : (vals ns (rest ns.length [])).Perm (fall ns) := by
    have : rest ns.length [] = List.range ns.length := by simp [rest]
    rw [this, vals_range]
    exact (fall_perm ns).symm
  rcases best_left hl (fall_fl ns) with ⟨g1, g2⟩ | ⟨x, t, b, g1, g2, g3, g4, g5, g6⟩
  · rw [h2] at g2; cases g2
  · rw [h2] at g2
    cases g2
    refine ⟨t, by rw [g1, g3], g6, ?_⟩
    have := fall_fl ns
    rw [g1] at this
    exact (List.pairwise_cons.1 this).2
theorem nextOf_ne {ns : List Nat} (h : ns ≠ []) (a : Nat) (bs : List Nat) : nextOf ns a bs ≠ [] := by
  intro e
  have := nextOf_len ns a bs
  rw [e] at this
  exact h (List.eq_nil_of_length_eq_zero this.symm)
/-- the reference comes to an end just where the falling numbers pass the test -/
theorem havel_hh : ∀ (f : Nat) (ns : List Nat), ns ≠ [] → (havel f ns).isSome = hh f (fall ns) := by
  intro f
  induction f with
  | zero => intro ns _; rfl
  | succ f ih =>
    intro ns hne
    obtain ⟨rs, e1, e2, e3⟩ := fall_first hne
    have hlt := (first_spec hne).1
    rw [e1]
    unfold havel hh
    by_cases h0 : ns.getD (first ns) 0 = 0
    · rw [if_pos h0, h0]; rfl
    · rw [if_neg h0]
      have hb : Nat.beq (ns.getD (first ns) 0) 0 = false := by
        cases hx : Nat.beq (ns.getD (first ns) 0) 0 with
        | true => exact absurd (Nat.eq_of_beq_eq_true hx) h0
        | false => rfl
      rw [hb, cond_false]
      cases he : enough (ns.getD (first ns) 0) rs with
      | false => rw [(picks_spec hlt e2 e3 _).2 he]; rfl
      | true =>
        obtain ⟨bs, p1, p2⟩ := (picks_spec hlt e2 e3 _).1 he
        rw [p1, cond_true, ← fall_congr (nextOf_perm p2), ← ih _ (nextOf_ne hne _ _)]
        simp only [List.tail_cons]
        cases havel f (nextOf ns (first ns) bs) <;> rfl

/-! ### rounds come to an end -/
def nz (l : List Nat) : Nat := l.countP fun x => decide (0 < x)
theorem nz_dec : ∀ (k : Nat) (l : List Nat), nz (dec k l) ≤ nz l := by
  intro k
  induction k with
  | zero => intro l; simp [dec]
  | succ k ih =>
    intro l
    cases l with
    | nil => simp [dec]
    | cons x xs =>
      have := ih xs
      unfold nz at this ⊢
      unfold dec
      rw [List.countP_cons, List.countP_cons]
      by_cases h : 0 < x - 1
      · have h' : 0 < x := by omega
        simp [h, h']; omega
      · simp [h]; omega
theorem nz_next {ns bs rs : List Nat} (e1 : fall ns = ns.getD (first ns) 0 :: rs) (h0 : ns.getD (first ns) 0 ≠ 0) {k : Nat} (hP : Picked ns (first ns) k rs bs) : nz (nextOf ns (first ns) bs) < nz ns := by
  have h1 : nz (nextOf ns (first ns) bs) = nz (0 :: dec k rs) := (nextOf_perm hP).countP_eq _
  have h2 : nz ns = nz (fall ns) := (fall_perm ns).symm.countP_eq _
  rw [h1, h2, e1]
  have := nz_dec k rs
  unfold nz at this ⊢
  rw [List.countP_cons, List.countP_cons]
  have h3 : decide (0 < ns.getD (first ns) 0) = true := by rw [decide_eq_true_eq]; omega
  rw [h3]
  simp only [Nat.lt_irrefl, decide_false, Bool.false_eq_true, if_false, if_true]
  omega

end Go.Proofs.Ytnekbgeablhgiaa.De
