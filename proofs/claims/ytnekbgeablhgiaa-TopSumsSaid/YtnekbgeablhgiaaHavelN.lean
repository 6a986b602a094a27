/-
  Plain facts on points in the order of what they want, and on the lines that are made of it, with no program in them. There is no condition.
-/
import Derived.Test.YtnekbgeablhgiaaDegreeI
namespace Go.Proofs.Ytnekbgeablhgiaa.De

/-- a comes ahead of b: it wants more, or just as much and is the lesser -/
def Ahead (ns : List Nat) (a b : Nat) : Prop := ns.getD b 0 < ns.getD a 0 ∨ (ns.getD a 0 = ns.getD b 0 ∧ a < b)
theorem Ahead.not {ns : List Nat} {a b : Nat} (h : Ahead ns a b) : ¬ Ahead ns b a := by unfold Ahead at *; omega
theorem Ahead.ge {ns : List Nat} {a b : Nat} (h : Ahead ns a b) : ns.getD b 0 ≤ ns.getD a 0 := by unfold Ahead at h; omega
/-- all points, each ahead of those behind it -/
structure IsOrd (ns L : List Nat) : Prop where
  perm : L.Perm (List.range ns.length)
  falls : L.Pairwise (Ahead ns)

theorem bestTo_ahead {ns done : List Nat} : ∀ {i b : Nat}, bestTo ns done i = some b → ∀ j, j < i → j ∉ done → j ≠ b → Ahead ns b j := by
  intro i
  induction i with
  | zero => intro b h; cases h
  | succ i ih =>
    intro b h j hj hd hne
    unfold bestTo at h
    by_cases hc : done.contains i = true
    · rw [if_pos hc] at h
      have hi : i ∈ done := by simpa using hc
      have : j ≠ i := fun e => hd (e ▸ hi)
      exact ih h j (by omega) hd hne
    · rw [if_neg hc] at h
      split at h
      · rename_i hn
        cases h
        exact absurd (bestTo_none.1 hn j (by omega)) hd
      · rename_i b' hb'
        have hlt := (bestTo_some hb').1
        split at h
        · rename_i hg
          cases h
          by_cases e : j = b'
          · subst e; exact .inl hg
          · have := (ih hb' j (by omega) hd e).ge
            exact .inl (by omega)
        · rename_i hg
          cases h
          by_cases e : j = i
          · subst e
            unfold Ahead
            omega
          · exact ih hb' j (by omega) hd hne
theorem bestTo_of {ns done : List Nat} {n b : Nat} (hb : b < n) (hd : b ∉ done) (h : ∀ j, j < n → j ∉ done → j ≠ b → Ahead ns b j) : bestTo ns done n = some b := by
  cases hx : bestTo ns done n with
  | none => exact absurd (bestTo_none.1 hx b hb) hd
  | some c =>
    by_cases e : c = b
    · rw [e]
    · obtain ⟨h1, h2, _⟩ := bestTo_some hx
      exact absurd (bestTo_ahead hx b hb hd (fun e' => e e'.symm)) (h c h1 h2 e).not

section
variable {ns : List Nat} {v : Nat} {t : List Nat}
theorem IsOrd.lt (h : IsOrd ns (v :: t)) : ∀ x ∈ v :: t, x < ns.length := fun _ hx => List.mem_range.1 (h.perm.subset hx)
theorem IsOrd.mem (h : IsOrd ns (v :: t)) {x : Nat} (hx : x < ns.length) : x ∈ v :: t := h.perm.symm.subset (List.mem_range.2 hx)
theorem IsOrd.nodup (h : IsOrd ns (v :: t)) : (v :: t).Nodup := h.perm.symm.nodup List.nodup_range
theorem IsOrd.len (h : IsOrd ns (v :: t)) : t.length + 1 = ns.length := by simpa using h.perm.length_eq
theorem IsOrd.first (h : IsOrd ns (v :: t)) : De.first ns = v := by
  have : bestTo ns [] ns.length = some v := by
    refine bestTo_of (h.lt v (by simp)) (by simp) fun j hj _ hne => ?_
    rcases List.mem_cons.1 (h.mem hj) with e | hm
    · exact absurd e hne
    · exact (List.pairwise_cons.1 h.falls).1 j hm
  unfold De.first
  rw [this]
  rfl
theorem IsOrd.split (h : IsOrd ns (v :: t)) (k : Nat) : (v :: t.take k ++ t.drop k).Nodup := by
  have := h.nodup
  rwa [List.cons_append, List.take_append_drop]
/-- the next one -/
theorem IsOrd.best (h : IsOrd ns (v :: t)) {k : Nat} (hk : k < t.length) : bestTo ns (v :: t.take k) ns.length = some t[k] := by
  have hn := h.split k
  rw [List.drop_eq_getElem_cons hk] at hn
  have hnm : t[k] ∉ v :: t.take k := fun hm => (List.nodup_append.1 hn).2.2 _ hm t[k] List.mem_cons_self rfl
  refine bestTo_of (h.lt _ (List.mem_cons_of_mem _ (List.getElem_mem hk))) hnm fun j hj hd hne => ?_
  have hm := h.mem hj
  have e : v :: t = v :: t.take k ++ t[k] :: t.drop (k + 1) := by rw [← List.drop_eq_getElem_cons hk, List.cons_append, List.take_append_drop]
  rw [e] at hm
  rcases List.mem_append.1 hm with hm | hm
  · exact absurd hm hd
  · rcases List.mem_cons.1 hm with e | hm
    · exact absurd e hne
    · have hf := h.falls
      rw [e] at hf
      exact (List.pairwise_cons.1 (List.pairwise_append.1 hf).2.1).1 j hm
theorem IsOrd.best_end (h : IsOrd ns (v :: t)) : bestTo ns (v :: t) ns.length = none := bestTo_none.2 fun _ hj => h.mem hj
theorem IsOrd.picks_inv (h : IsOrd ns (v :: t)) : ∀ {k : Nat} {done : List Nat}, picks ns v k = some done → done = v :: t.take k ∧ k ≤ t.length ∧ ∀ x ∈ t.take k, ns.getD x 0 ≠ 0 := by
  intro k
  induction k with
  | zero =>
    intro done hp
    simp only [picks, Option.some.injEq] at hp
    subst hp
    exact ⟨by simp, Nat.zero_le _, by simp⟩
  | succ k ih =>
    intro done hp
    unfold picks at hp
    split at hp
    · cases hp
    · rename_i d hd
      obtain ⟨h1, h2, h3⟩ := ih hd
      subst h1
      split at hp
      · cases hp
      · rename_i b hb
        split at hp
        · cases hp
        · rename_i hz
          simp only [Option.some.injEq] at hp
          have hk : k < t.length := by
            rcases Nat.lt_or_ge k t.length with g | g
            · exact g
            · rw [List.take_of_length_le g, h.best_end] at hb
              cases hb
          rw [h.best hk] at hb
          cases hb
          refine ⟨?_, hk, fun x hx => ?_⟩
          · rw [← hp, List.take_succ_eq_append_getElem hk, List.cons_append]
          · rw [List.take_succ_eq_append_getElem hk] at hx
            rcases List.mem_append.1 hx with hx | hx
            · exact h3 x hx
            · obtain rfl : x = t[k] := by simpa using hx
              exact hz
theorem IsOrd.picks_go (h : IsOrd ns (v :: t)) : ∀ {k : Nat}, k ≤ t.length → (∀ x ∈ t.take k, ns.getD x 0 ≠ 0) → picks ns v k = some (v :: t.take k) := by
  intro k
  induction k with
  | zero => intro _ _; simp [picks]
  | succ k ih =>
    intro hk hx
    have hk' : k < t.length := hk
    have h1 : picks ns v k = some (v :: t.take k) := ih (by omega) fun x hm => hx x (by rw [List.take_succ_eq_append_getElem hk']; exact List.mem_append.2 (.inl hm))
    rw [picks_on h1 (h.best hk') (hx _ (by rw [List.take_succ_eq_append_getElem hk']; exact List.mem_append.2 (.inr List.mem_cons_self))), List.take_succ_eq_append_getElem hk', List.cons_append]
/-- the last of those that are wanted wants one: so do all -/
theorem IsOrd.all_want (h : IsOrd ns (v :: t)) {k : Nat} (hk : k < t.length) (h0 : ns.getD t[k] 0 ≠ 0) : ∀ x ∈ t.take (k + 1), ns.getD x 0 ≠ 0 := by
  intro x hx
  rw [List.take_succ_eq_append_getElem hk] at hx
  rcases List.mem_append.1 hx with hx | hx
  · have hf := (List.pairwise_cons.1 h.falls).2
    rw [← List.take_append_drop k t, List.drop_eq_getElem_cons hk] at hf
    have := ((List.pairwise_append.1 hf).2.2 x hx t[k] List.mem_cons_self).ge
    omega
  · obtain rfl : x = t[k] := by simpa using hx
    exact h0
theorem IsOrd.picks_yes (h : IsOrd ns (v :: t)) {M : Nat} (hM : 0 < M) (hl : M ≤ t.length) (h0 : ns.getD (t.getD (M - 1) 0) 0 ≠ 0) : picks ns v M = some (v :: t.take M) ∧ ∀ x ∈ t.take M, ns.getD x 0 ≠ 0 := by
  obtain ⟨k, rfl⟩ : ∃ k, M = k + 1 := ⟨M - 1, by omega⟩
  have hk : k < t.length := hl
  have e : t.getD (k + 1 - 1) 0 = t[k] := by simp [List.getD, hk]
  rw [e] at h0
  have := h.all_want hk h0
  exact ⟨h.picks_go hl this, this⟩
theorem IsOrd.picks_short (h : IsOrd ns (v :: t)) {M : Nat} (hl : t.length < M) : picks ns v M = none := by
  cases hp : picks ns v M with
  | none => rfl
  | some d => have := (h.picks_inv hp).2.1; omega
theorem IsOrd.picks_no (h : IsOrd ns (v :: t)) {M : Nat} (hM : 0 < M) (hl : M ≤ t.length) (h0 : ns.getD (t.getD (M - 1) 0) 0 = 0) : picks ns v M = none := by
  cases hp : picks ns v M with
  | none => rfl
  | some d =>
    have := (h.picks_inv hp).2.2 (t.getD (M - 1) 0) (by
      have hk : M - 1 < t.length := by omega
      have e : t.getD (M - 1) 0 = t[M - 1] := by simp [List.getD, hk]
      rw [e, List.mem_take_iff_getElem]
      exact ⟨M - 1, by omega, rfl⟩)
    exact absurd h0 this
/-- what is still wanted of one that is not joined yet -/
theorem IsOrd.next_at (h : IsOrd ns (v :: t)) {M k : Nat} (hk : k < M) (hM : M ≤ t.length) (hall : ∀ x ∈ t.take M, ns.getD x 0 ≠ 0) :
    (nextOf ns v (t.take k)).getD (t.getD k 0) 0 = ns.getD (t.getD k 0) 0 ∧ ns.getD (t.getD k 0) 0 ≠ 0 ∧ t.getD k 0 < ns.length ∧ t.getD k 0 ≠ v ∧ t.take (k + 1) = t.take k ++ [t.getD k 0] := by
  have hkl : k < t.length := by omega
  have e : t.getD k 0 = t[k] := by simp [List.getD, hkl]
  rw [e]
  have hn := h.split k
  rw [List.drop_eq_getElem_cons hkl] at hn
  have hna := List.nodup_append.1 hn
  have hnm : t[k] ∉ v :: t.take k := fun hm => hna.2.2 _ hm t[k] List.mem_cons_self rfl
  refine ⟨?_, hall _ (by rw [List.mem_take_iff_getElem]; exact ⟨k, by omega, rfl⟩), h.lt _ (List.mem_cons_of_mem _ (List.getElem_mem hkl)), fun e' => hnm (by rw [e']; exact List.mem_cons_self), List.take_succ_eq_append_getElem hkl⟩
  rw [nextOf_getD hna.1 (fun x hx => h.lt x (by
    rcases List.mem_cons.1 hx with rfl | hx
    · exact List.mem_cons_self
    · exact List.mem_cons_of_mem _ (List.mem_of_mem_take hx))), if_neg (fun e' => hnm (by rw [e']; exact List.mem_cons_self)), if_neg (fun hm => hnm (List.mem_cons_of_mem _ hm))]
end

/-! ### the lines that are made -/
/-- does a line end at i? -/
def endsAt (i : Nat) (q : Gr.Ln) : Bool := decide (q.1 = (i : Int)) || decide (q.2 = (i : Int))
/-- lines from a lesser point to a greater one, none twice, as many at each point as it wants -/
structure Made (ns : List Nat) (os : List Gr.Ln) : Prop where
  good : ∀ q ∈ os, ∃ a b : Nat, q = ((a : Int), (b : Int)) ∧ a < b ∧ b < ns.length
  nodup : os.Nodup
  cnt : ∀ i, os.countP (endsAt i) = ns.getD i 0

theorem endsAt_line (i a b : Nat) : endsAt i (lineOf a b) = (decide (i = a) || decide (i = b)) := by
  unfold endsAt lineOf
  rw [Bool.eq_iff_iff]
  split <;> simp only [Bool.or_eq_true, decide_eq_true_eq] <;> omega
theorem lineOf_min (a b : Nat) : lineOf a b = (min (a : Int) (b : Int), max (a : Int) (b : Int)) := by
  unfold lineOf
  split
  · rw [Int.min_eq_left (by omega), Int.max_eq_right (by omega)]
  · rw [Int.min_eq_right (by omega), Int.max_eq_left (by omega)]
theorem lineOf_good {n a b : Nat} (ha : a < n) (hb : b < n) (hne : a ≠ b) : ∃ x y : Nat, lineOf a b = ((x : Int), (y : Int)) ∧ x < y ∧ y < n := by
  unfold lineOf
  by_cases h : a < b
  · rw [if_pos h]; exact ⟨a, b, rfl, h, hb⟩
  · rw [if_neg h]; exact ⟨b, a, rfl, by omega, ha⟩
theorem lineOf_inj {a b c : Nat} (h : lineOf a b = lineOf a c) : b = c := by
  unfold lineOf at h
  split at h <;> split at h <;> simp only [Prod.mk.injEq] at h <;> omega
theorem countP_eq_mem {i : Nat} : ∀ {bs : List Nat}, bs.Nodup → bs.countP (fun b => decide (i = b)) = if i ∈ bs then 1 else 0 := by
  intro bs
  induction bs with
  | nil => intro _; simp
  | cons b bs ih =>
    intro h
    have h' := List.nodup_cons.1 h
    rw [List.countP_cons, ih h'.2]
    by_cases e : i = b
    · subst e
      rw [if_neg h'.1]
      simp
    · by_cases m : i ∈ bs
      · simp [e, m]
      · simp [e, m]
theorem enough_pos : ∀ {k : Nat} {rs : List Nat}, enough k rs = true → ∀ x ∈ rs.take k, 1 ≤ x := by
  intro k
  induction k with
  | zero => intro rs _ x hx; simp at hx
  | succ k ih =>
    intro rs h x hx
    cases rs with
    | nil => simp at hx
    | cons y ys =>
      unfold enough at h
      cases hb : Nat.ble 1 y with
      | false => rw [hb] at h; cases h
      | true =>
        rw [hb, cond_true] at h
        rw [List.take_succ_cons] at hx
        rcases List.mem_cons.1 hx with rfl | hx
        · exact Nat.le_of_ble_eq_true hb
        · exact ih h x hx

theorem havel_made : ∀ (f : Nat) (ns : List Nat) (r : List Gr.Ln), ns ≠ [] → havel f ns = some r → Made ns r := by
  intro f
  induction f with
  | zero => intro ns r _ h; cases h
  | succ f ih =>
    intro ns r hne h
    obtain ⟨hlt, _, hge⟩ := first_spec hne
    by_cases h0 : ns.getD (first ns) 0 = 0
    · rw [havel_end (Nat.succ_pos f) h0] at h
      cases h
      refine ⟨fun q hq => by simp at hq, List.nodup_nil, fun i => ?_⟩
      rcases Nat.lt_or_ge i ns.length with hi | hi
      · have := hge i hi
        simp only [List.countP_nil]
        omega
      · simp [List.getD, hi]
    · obtain ⟨rs, e1, e2, e3⟩ := fall_first hne
      cases he : enough (ns.getD (first ns) 0) rs with
      | false =>
        rw [havel_fail h0 ((picks_spec hlt e2 e3 _).2 he)] at h
        cases h
      | true =>
        obtain ⟨bs, hp, hP⟩ := (picks_spec hlt e2 e3 _).1 he
        rw [havel_go h0 hp] at h
        obtain ⟨r', hr', rfl⟩ : ∃ r', havel f (nextOf ns (first ns) bs) = some r' ∧ bs.map (lineOf (first ns)) ++ r' = r := by
          cases hx : havel f (nextOf ns (first ns) bs) with
          | none => rw [hx] at h; cases h
          | some r' => rw [hx] at h; exact ⟨r', rfl, by simpa using h⟩
        have hM := ih _ r' (nextOf_ne hne _ _) hr'
        have hn' := List.nodup_cons.1 hP.nodup
        have hnb : ∀ b ∈ bs, b ≠ first ns := fun b hb e => hn'.1 (e ▸ hb)
        have hpos : ∀ b ∈ bs, 1 ≤ ns.getD b 0 := fun b hb => by
          refine enough_pos he _ ?_
          rw [← hP.tops]
          exact List.mem_map.2 ⟨b, hb, rfl⟩
        have hz : ∀ q ∈ r', endsAt (first ns) q = false := by
          have h1 := hM.cnt (first ns)
          rw [nextOf_getD hP.nodup hP.below, if_pos rfl] at h1
          intro q hq
          have := List.countP_eq_zero.1 h1 q hq
          simpa using this
        refine ⟨fun q hq => ?_, List.nodup_append.2 ⟨?_, hM.nodup, fun q hq q' hq' e => ?_⟩, fun i => ?_⟩
        · rcases List.mem_append.1 hq with hq | hq
          · obtain ⟨b, hb, rfl⟩ := List.mem_map.1 hq
            exact lineOf_good hlt (hP.below b (List.mem_cons_of_mem _ hb)) fun e => hnb b hb e.symm
          · obtain ⟨a, b, h1, h2, h3⟩ := hM.good q hq
            rw [nextOf_len] at h3
            exact ⟨a, b, h1, h2, h3⟩
        · refine List.pairwise_map.2 (hn'.2.imp fun {a b} hab e => ?_)
          exact hab (lineOf_inj e)
        · subst e
          obtain ⟨b, hb, rfl⟩ := List.mem_map.1 hq
          have := hz _ hq'
          rw [endsAt_line] at this
          simp at this
        · rw [List.countP_append, hM.cnt, List.countP_map, nextOf_getD hP.nodup hP.below]
          have hfun : (endsAt i ∘ lineOf (first ns)) = fun b => decide (i = first ns) || decide (i = b) := by
            funext b
            exact endsAt_line i _ b
          rw [hfun]
          by_cases e : i = first ns
          · subst e
            simp [hP.len]
          · simp only [e, decide_false, Bool.false_or, if_false]
            rw [countP_eq_mem hn'.2]
            by_cases m : i ∈ bs
            · have := hpos i m
              rw [if_pos m, if_pos m]
              omega
            · rw [if_neg m, if_neg m]
              omega

/-! ### the degrees of what is made -/
theorem dg_cons {m : Nat} {q : Gr.Ln} {os : List Gr.Ln} {a b : Nat} (hq : q = ((a : Int), (b : Int))) (hab : a < b) (hbm : b < m) (hnm : q ∉ os) (hgood : ∀ p ∈ os, p.1 < p.2) (i : Nat) :
    dg m (rel (q :: os)) i = (if endsAt i q = true then 1 else 0) + dg m (rel os) i := by
  subst hq
  have hfun : ∀ j, rel (((a : Int), (b : Int)) :: os) i j = ((decide (i = a) && decide (b = j)) || (decide (i = b) && decide (a = j)) || rel os i j) := by
    intro j
    rw [Bool.eq_iff_iff]
    unfold rel
    rw [Gr.adj_iff]
    simp only [List.mem_cons, Prod.mk.injEq, Bool.or_eq_true, Bool.and_eq_true, decide_eq_true_eq, Gr.adj_iff]
    constructor
    · rintro ((⟨h1, h2⟩ | h) | (⟨h1, h2⟩ | h))
      · exact .inl (.inl ⟨by omega, by omega⟩)
      · exact .inr (.inl h)
      · exact .inl (.inr ⟨by omega, by omega⟩)
      · exact .inr (.inr h)
    · rintro ((⟨h1, h2⟩ | ⟨h1, h2⟩) | (h | h))
      · exact .inl (.inl ⟨by omega, by omega⟩)
      · exact .inr (.inl ⟨by omega, by omega⟩)
      · exact .inl (.inr h)
      · exact .inr (.inr h)
  have hno1 : rel os a b = false := by
    cases hx : rel os a b with
    | false => rfl
    | true =>
      unfold rel at hx
      rcases Gr.adj_iff.1 hx with h | h
      · exact absurd h hnm
      · have := hgood _ h
        simp at this
        omega
  have hno2 : rel os b a = false := by rw [rel_comm]; exact hno1
  have hends : endsAt i ((a : Int), (b : Int)) = (decide (i = a) || decide (i = b)) := by
    unfold endsAt
    rw [Bool.eq_iff_iff]
    simp only [Bool.or_eq_true, decide_eq_true_eq]
    omega
  rw [hends]
  unfold dg
  have hc : ∀ x, x < m → rel os i x = false → (List.range m).countP (fun j => decide (x = j) || rel os i j) = 1 + (List.range m).countP (rel os i) := by
    intro x hx hr
    have h1 := countP_eq_mem (i := x) (bs := List.range m) List.nodup_range
    rw [if_pos (List.mem_range.2 hx)] at h1
    have hgen : ∀ l : List Nat, l.countP (fun j => decide (x = j) || rel os i j) = l.countP (fun j => decide (x = j)) + l.countP (rel os i) := by
      intro l
      induction l with
      | nil => rfl
      | cons y ys ih =>
        rw [List.countP_cons, List.countP_cons, List.countP_cons, ih]
        by_cases e : x = y
        · subst e
          simp [hr]
          omega
        · simp [e]
          omega
    rw [hgen, h1]
  have hcongr : ∀ p q : Nat → Bool, (∀ j, p j = q j) → (List.range m).countP p = (List.range m).countP q := fun p q h => by rw [show p = q from funext h]
  by_cases e1 : i = a
  · subst e1
    have hne : ¬ i = b := by omega
    rw [hcongr _ (fun j => decide (b = j) || rel os i j) (fun j => by rw [hfun j]; simp [hne]), hc b hbm hno1]
    simp
  · by_cases e2 : i = b
    · subst e2
      rw [hcongr _ (fun j => decide (a = j) || rel os i j) (fun j => by rw [hfun j]; simp [e1]), hc a (by omega) hno2]
      simp
    · rw [hcongr _ (rel os i) (fun j => by rw [hfun j]; simp [e1, e2])]
      simp [e1, e2]
theorem dg_made {m : Nat} : ∀ {os : List Gr.Ln}, (∀ q ∈ os, ∃ a b : Nat, q = ((a : Int), (b : Int)) ∧ a < b ∧ b < m) → os.Nodup → ∀ i, dg m (rel os) i = os.countP (endsAt i) := by
  intro os
  induction os with
  | nil => intro _ _ i; simp [dg, rel, Gr.adj, Gr.has]
  | cons q os ih =>
    intro hg hn i
    obtain ⟨a, b, hq, hab, hb⟩ := hg q (by simp)
    have hn' := List.nodup_cons.1 hn
    rw [dg_cons hq hab hb hn'.1 (fun p hp => by
      obtain ⟨x, y, h1, h2, _⟩ := hg p (List.mem_cons_of_mem _ hp)
      rw [h1]
      show (x : Int) < (y : Int)
      omega) i, ih (fun p hp => hg p (List.mem_cons_of_mem _ hp)) hn'.2 i, List.countP_cons]
    omega
theorem Made.dg {ns : List Nat} {os : List Gr.Ln} (h : Made ns os) (i : Nat) : De.dg ns.length (rel os) i = ns.getD i 0 := by rw [dg_made h.good h.nodup, h.cnt]
theorem Made.dgs {ns : List Nat} {os : List Gr.Ln} (h : Made ns os) : De.dgs ns.length (rel os) = ns := by
  refine List.ext_getElem (by simp [De.dgs]) fun i h1 h2 => ?_
  have := h.dg i
  simp [De.dgs, this, List.getD, h2]
theorem Made.degs {ns : List Nat} {os : List Gr.Ln} (h : Made ns os) : De.degs ns.length os = up ns := by rw [degs_up, h.dgs]
theorem Made.near {ns : List Nat} {os : List Gr.Ln} (h : Made ns os) (i : Nat) : (Gr.row ns.length os i).length = ns.getD i 0 := by rw [row_dg, h.dg]
/-- twice as many ends as lines -/
theorem sum_ends {m : Nat} : ∀ {os : List Gr.Ln}, (∀ q ∈ os, ∃ a b : Nat, q = ((a : Int), (b : Int)) ∧ a < b ∧ b < m) → sm ((List.range m).map fun i => os.countP (endsAt i)) = 2 * os.length := by
  intro os
  induction os with
  | nil =>
    intro _
    have : ∀ l : List Nat, sm (l.map fun _ => 0) = 0 := by
      intro l
      induction l with
      | nil => rfl
      | cons x xs ih => simpa [sm] using ih
    simpa using this (List.range m)
  | cons q os ih =>
    intro hg
    obtain ⟨a, b, rfl, hab, hb⟩ := hg q (by simp)
    have hsplit : ((List.range m).map fun i => (((a : Int), (b : Int)) :: os).countP (endsAt i)) = (List.range m).map fun i => os.countP (endsAt i) + ((if decide (a = i) = true then 1 else 0) + (if decide (b = i) = true then 1 else 0)) := by
      refine List.map_congr_left fun i _ => ?_
      rw [List.countP_cons]
      congr 1
      unfold endsAt
      by_cases e1 : a = i
      · have : ¬ b = i := by omega
        subst e1
        simp [this]
      · by_cases e2 : b = i
        · subst e2
          simp [e1]
        · have h1 : ¬ (a : Int) = (i : Int) := by omega
          have h2 : ¬ (b : Int) = (i : Int) := by omega
          simp [e1, e2, h1, h2]
    have hone : ∀ x, x < m → sm ((List.range m).map fun i => if decide (x = i) = true then 1 else 0) = 1 := by
      intro x hx
      have h1 := countP_eq_mem (i := x) (bs := List.range m) List.nodup_range
      rw [if_pos (List.mem_range.2 hx)] at h1
      have : ∀ l : List Nat, sm (l.map fun i => if decide (x = i) = true then 1 else 0) = l.countP fun b => decide (x = b) := by
        intro l
        induction l with
        | nil => rfl
        | cons y ys ih => rw [List.map_cons, List.countP_cons, sm, ih]; omega
      exact (this _).trans h1
    rw [hsplit, sm_add, sm_add, ih (fun p hp => hg p (List.mem_cons_of_mem _ hp)), hone a (by omega), hone b hb, List.length_cons]
    omega
theorem Made.sum {ns : List Nat} {os : List Gr.Ln} (h : Made ns os) : sm ns = 2 * os.length := by
  rw [← sum_ends h.good]
  congr 1
  refine List.ext_getElem (by simp) fun i h1 h2 => ?_
  simp [h.cnt, List.getD, h1]
/-- lines between two points -/
def joins (a b : Int) (q : Gr.Ln) : Bool := (decide (q.1 = a) && decide (q.2 = b)) || (decide (q.1 = b) && decide (q.2 = a))
theorem Made.once {ns : List Nat} {os : List Gr.Ln} (h : Made ns os) {q : Gr.Ln} (hq : q ∈ os) : os.countP (joins q.1 q.2) = 1 := by
  have hlt : ∀ p ∈ os, p.1 < p.2 := fun p hp => by
    obtain ⟨x, y, e, h2, _⟩ := h.good p hp
    rw [e]
    show (x : Int) < (y : Int)
    omega
  have hgen : ∀ l : List Gr.Ln, l.Nodup → (∀ p ∈ l, p.1 < p.2) → q.1 < q.2 → l.countP (joins q.1 q.2) = if q ∈ l then 1 else 0 := by
    intro l
    induction l with
    | nil => intro _ _ _; simp
    | cons p ps ih =>
      intro hn hl hqq
      have hn' := List.nodup_cons.1 hn
      have hp := hl p (by simp)
      rw [List.countP_cons, ih hn'.2 (fun x hx => hl x (List.mem_cons_of_mem _ hx)) hqq]
      by_cases e : p = q
      · subst e
        rw [if_neg hn'.1]
        simp [joins]
      · have hj : joins q.1 q.2 p = false := by
          unfold joins
          rw [Bool.eq_false_iff]
          intro hx
          simp only [Bool.or_eq_true, Bool.and_eq_true, decide_eq_true_eq] at hx
          rcases hx with ⟨h1, h2⟩ | ⟨h1, h2⟩
          · exact e (Prod.ext h1 h2)
          · omega
        rw [hj]
        have e' : ¬ q = p := fun h => e h.symm
        by_cases m : q ∈ ps
        · simp [m]
        · simp [m, e']
  rw [hgen os h.nodup hlt (hlt q hq), if_pos hq]
theorem Made.code {ns : List Nat} {os : List Gr.Ln} (h : Made ns os) (h1 : 1 ≤ ns.length) (h8 : ns.length ≤ 8) (h24 : os.length ≤ 24) : Gr.code (ns.length : Int) os = 0 := by
  refine Gr.code_zero.2 ⟨by omega, by omega, h24, fun p hp => ?_⟩
  obtain ⟨a, b, rfl, h2, h3⟩ := h.good p hp
  exact ⟨by show (0 : Int) ≤ (a : Int); omega, by show (a : Int) < _; omega, by show (0 : Int) ≤ (b : Int); omega, by show (b : Int) < _; omega, by show (a : Int) ≠ (b : Int); omega⟩

end Go.Proofs.Ytnekbgeablhgiaa.De
