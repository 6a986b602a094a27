/-
  Plain facts on ors of two, with no program in them: answers by trying all, the least of them; there is one just if no name and its contrary lead to each other (Aspvall, Plass, Tarjan); fewer ors. No statement of the program is proved here; there is no condition.
-/
import Derived.Test.YthalopmplekdoaaDoorStrongN
set_option linter.unusedSimpArgs false
set_option linter.unusedVariables false
namespace Go.Proofs.YthalopmplekdoaaDoor.Pa
open Sg (reach both reach_trans reach_comes reach_refl reach_iff)
open Wa (wk wk_zero wk_succ)

/-- a name, or its contrary; an or of two -/
abbrev Lt : Type := Int × Bool
abbrev Or2 : Type := Lt × Lt
/-- what it says under an answer -/
def say (v : List Bool) (x : Lt) : Bool := v.getD x.1.toNat false != x.2
def right (cs : List Or2) (v : List Bool) : Bool := cs.all fun c => say v c.1 || say v c.2
theorem right_mono {cs ds : List Or2} (h : ∀ c ∈ ds, c ∈ cs) {v : List Bool} (hr : right cs v = true) : right ds v = true := List.all_eq_true.2 fun c hc => List.all_eq_true.1 hr c (h c hc)
theorem right_step {cs : List Or2} {k : Nat} (hk : k < cs.length) (v : List Bool) : right (cs.take (k + 1)) v = (right (cs.take k) v && (say v cs[k].1 || say v cs[k].2)) := by
  unfold right
  rw [List.take_succ_eq_append_getElem hk, List.all_append]
  simp

/-! ### by trying all, false first -/
def ans (R : List Bool → Bool) : Nat → List Bool → Option (List Bool)
  | 0, b => if R b = true then some b else none
  | f + 1, b => match ans R f (b ++ [false]) with
    | some o => some o
    | none => ans R f (b ++ [true])
/-- m is not behind a: where they part first a says true -/
def Lx (m a : List Bool) : Prop := ∀ i, i < m.length → (∀ j, j < i → m.getD j false = a.getD j false) → m.getD i false ≠ a.getD i false → a.getD i false = true
theorem Lx.refl (m : List Bool) : Lx m m := fun i _ _ h => absurd rfl h
theorem Lx.only {m a : List Bool} (h : Lx m a) (h' : Lx a m) (hl : m.length = a.length) : m = a := by
  have key : ∀ i, i ≤ m.length → ∀ j, j < i → m.getD j false = a.getD j false := by
    intro i
    induction i with
    | zero => intro _ j hj; omega
    | succ i ih =>
      intro hi j hj
      have ih' := ih (by omega)
      by_cases e : j = i
      · subst e
        cases hm : m.getD j false <;> cases ha : a.getD j false
        · rfl
        · have := h' j (by omega) (fun k hk => (ih' k hk).symm) (by rw [hm, ha]; simp)
          rw [hm] at this; exact this
        · have := h j (by omega) ih' (by rw [hm, ha]; simp)
          rw [ha] at this; exact this.symm
        · rfl
      · exact ih' j (by omega)
  refine List.ext_getElem hl fun i h1 h2 => ?_
  have := key m.length (Nat.le_refl _) i h1
  simpa [List.getD, h1, h2] using this
theorem ans_some {R : List Bool → Bool} : ∀ (f : Nat) (b o : List Bool), ans R f b = some o → R o = true ∧ (∃ t, o = b ++ t ∧ t.length = f) ∧ ∀ t, t.length = f → R (b ++ t) = true → Lx o (b ++ t)
  | 0, b, o, h => by
    unfold ans at h
    by_cases hR : R b = true
    · rw [if_pos hR] at h
      obtain rfl := Option.some.inj h
      refine ⟨hR, ⟨[], by simp, rfl⟩, fun t ht _ => ?_⟩
      obtain rfl := List.eq_nil_of_length_eq_zero ht
      rw [List.append_nil]
      exact Lx.refl _
    · rw [if_neg hR] at h; cases h
  | f + 1, b, o, h => by
    unfold ans at h
    cases h1 : ans R f (b ++ [false]) with
    | some o1 =>
      rw [h1] at h
      obtain rfl := Option.some.inj h
      obtain ⟨hR, ⟨t1, e1, l1⟩, hm⟩ := ans_some f _ _ h1
      refine ⟨hR, ⟨false :: t1, by rw [e1]; simp, by simp [l1]⟩, fun t ht hRt => ?_⟩
      cases t with
      | nil => simp at ht
      | cons x t =>
        have ht' : t.length = f := by simpa using ht
        cases x with
        | false =>
          have e : b ++ false :: t = b ++ [false] ++ t := by simp
          rw [e] at hRt ⊢
          exact hm t ht' hRt
        | true =>
          intro i hi hpre hne
          have e2 : (b ++ true :: t).getD b.length false = true := by simp [List.getD]
          have e3 : o1.getD b.length false = false := by rw [e1]; simp [List.getD]
          rcases Nat.lt_trichotomy i b.length with hl | hl | hl
          · exfalso
            apply hne
            rw [e1]
            simp [List.getD, List.getElem?_append_left, hl]
          · rw [hl]; exact e2
          · have := hpre b.length hl
            rw [e2, e3] at this
            cases this
    | none =>
      rw [h1] at h
      obtain ⟨hR, ⟨t1, e1, l1⟩, hm⟩ := ans_some f _ _ h
      refine ⟨hR, ⟨true :: t1, by rw [e1]; simp, by simp [l1]⟩, fun t ht hRt => ?_⟩
      cases t with
      | nil => simp at ht
      | cons x t =>
        have ht' : t.length = f := by simpa using ht
        cases x with
        | true =>
          have e : b ++ true :: t = b ++ [true] ++ t := by simp
          rw [e] at hRt ⊢
          exact hm t ht' hRt
        | false =>
          exfalso
          have e : b ++ false :: t = b ++ [false] ++ t := by simp
          rw [e] at hRt
          exact ans_none f _ h1 t ht' hRt
where
  ans_none {R : List Bool → Bool} : ∀ (f : Nat) (b : List Bool), ans R f b = none → ∀ t : List Bool, t.length = f → R (b ++ t) = true → False
    | 0, b, h, t, ht, hR => by
      obtain rfl := List.eq_nil_of_length_eq_zero ht
      rw [List.append_nil] at hR
      unfold ans at h
      rw [if_pos hR] at h
      cases h
    | f + 1, b, h, t, ht, hR => by
      unfold ans at h
      cases h1 : ans R f (b ++ [false]) with
      | some o => rw [h1] at h; cases h
      | none =>
        rw [h1] at h
        cases t with
        | nil => simp at ht
        | cons x t =>
          have ht' : t.length = f := by simpa using ht
          have e : b ++ x :: t = b ++ [x] ++ t := by simp
          rw [e] at hR
          cases x
          · exact ans_none f _ h1 t ht' hR
          · exact ans_none f _ h t ht' hR
theorem ans_none {R : List Bool → Bool} (f : Nat) (b : List Bool) (h : ans R f b = none) (t : List Bool) (ht : t.length = f) : R (b ++ t) = false := by
  cases hR : R (b ++ t) with
  | false => rfl
  | true => exact (ans_some.ans_none f b h t ht hR).elim
/-- the least right answer -/
def Least (cs : List Or2) (n : Nat) (m : List Bool) : Prop := m.length = n ∧ right cs m = true ∧ ∀ a : List Bool, a.length = n → right cs a = true → Lx m a
theorem Least.only {cs : List Or2} {n : Nat} {m m' : List Bool} (h : Least cs n m) (h' : Least cs n m') : m = m' :=
  (h.2.2 m' h'.1 h'.2.1).only (h'.2.2 m h.1 h.2.1) (h.1.trans h'.1.symm)
theorem ans_least {cs : List Or2} {n : Nat} {m : List Bool} (h : ans (right cs) n [] = some m) : Least cs n m := by
  obtain ⟨hR, ⟨t, e, l⟩, hm⟩ := ans_some n [] m h
  exact ⟨by rw [e]; simpa using l, hR, fun a ha hr => by simpa using hm a ha (by simpa using hr)⟩
theorem ans_no {cs : List Or2} {n : Nat} (h : ans (right cs) n [] = none) {a : List Bool} (ha : a.length = n) : right cs a = false := by simpa using ans_none n [] h a ha
/-- an answer that is right, so there is a least one -/
theorem least_ex {cs : List Or2} {n : Nat} {a : List Bool} (ha : a.length = n) (hr : right cs a = true) : ∃ m, Least cs n m := by
  cases h : ans (right cs) n [] with
  | some m => exact ⟨m, ans_least h⟩
  | none => rw [ans_no h ha] at hr; cases hr

/-! ### what follows from what -/
/-- a name or its contrary, as a point -/
def pnt (x : Lt) : Nat := 2 * x.1.toNat + if x.2 = true then 1 else 0
/-- the contrary -/
def neg (p : Nat) : Nat := if p % 2 = 0 then p + 1 else p - 1
theorem neg_neg (p : Nat) : neg (neg p) = p := by unfold neg; split <;> split <;> omega
theorem neg_lt {p N : Nat} (h : p < 2 * N) : neg p < 2 * N := by unfold neg; split <;> omega
theorem neg_ne (p : Nat) : neg p ≠ p := by unfold neg; split <;> omega
theorem neg_half (p : Nat) : neg p / 2 = p / 2 := by unfold neg; split <;> omega
/-- the lines of one or: from the contrary of the one the other one -/
def two (c : Or2) : List Gr.Ln := (if neg (pnt c.1) ≠ pnt c.2 then [(((neg (pnt c.1) : Nat) : Int), ((pnt c.2 : Nat) : Int))] else []) ++ (if neg (pnt c.2) ≠ pnt c.1 then [(((neg (pnt c.2) : Nat) : Int), ((pnt c.1 : Nat) : Int))] else [])
def lns (cs : List Or2) : List Gr.Ln := cs.flatMap two
/-- names in range -/
def Good (N : Nat) (c : Or2) : Prop := 0 ≤ c.1.1 ∧ c.1.1 < (N : Int) ∧ 0 ≤ c.2.1 ∧ c.2.1 < (N : Int)
section
variable {N : Nat} {cs : List Or2}
theorem pnt_lt {x : Lt} (h0 : 0 ≤ x.1) (h : x.1 < (N : Int)) : pnt x < 2 * N := by unfold pnt; split <;> omega
theorem has_lns {u v : Nat} : Gr.has (lns cs) (u : Int) (v : Int) = true ↔ u ≠ v ∧ ∃ c ∈ cs, (u = neg (pnt c.1) ∧ v = pnt c.2) ∨ (u = neg (pnt c.2) ∧ v = pnt c.1) := by
  rw [Gr.has_iff]
  unfold lns
  rw [List.mem_flatMap]
  constructor
  · rintro ⟨c, hc, h⟩
    unfold two at h
    rcases List.mem_append.1 h with h | h
    · by_cases e : neg (pnt c.1) ≠ pnt c.2
      · rw [if_pos e] at h
        have h' := Prod.mk.inj (List.mem_singleton.1 h)
        have e1 : u = neg (pnt c.1) := by omega
        have e2 : v = pnt c.2 := by omega
        exact ⟨by rw [e1, e2]; exact e, c, hc, .inl ⟨e1, e2⟩⟩
      · rw [if_neg e] at h; exact absurd h (by simp)
    · by_cases e : neg (pnt c.2) ≠ pnt c.1
      · rw [if_pos e] at h
        have h' := Prod.mk.inj (List.mem_singleton.1 h)
        have e1 : u = neg (pnt c.2) := by omega
        have e2 : v = pnt c.1 := by omega
        exact ⟨by rw [e1, e2]; exact e, c, hc, .inr ⟨e1, e2⟩⟩
      · rw [if_neg e] at h; exact absurd h (by simp)
  · rintro ⟨hne, c, hc, (⟨rfl, rfl⟩ | ⟨rfl, rfl⟩)⟩
    · exact ⟨c, hc, by unfold two; rw [if_pos hne]; simp⟩
    · exact ⟨c, hc, by unfold two; rw [if_pos (c := neg (pnt c.2) ≠ pnt c.1) hne]; simp⟩
theorem lns_good (hg : ∀ c ∈ cs, Good N c) : ∀ p ∈ lns cs, Gr.Good ((2 * N : Nat) : Int) p := by
  intro p hp
  have hp2 := hp
  unfold lns at hp2
  obtain ⟨c, hc, h⟩ := List.mem_flatMap.1 hp2
  obtain ⟨h1, h2, h3, h4⟩ := hg c hc
  have l1 := pnt_lt h1 h2
  have l2 := pnt_lt h3 h4
  have l3 := neg_lt l1
  have l4 := neg_lt l2
  unfold two at h
  unfold Gr.Good
  rcases List.mem_append.1 h with h | h
  · by_cases e : neg (pnt c.1) ≠ pnt c.2
    · rw [if_pos e] at h
      obtain rfl := List.mem_singleton.1 h
      simp only
      omega
    · rw [if_neg e] at h; exact absurd h (by simp)
  · by_cases e : neg (pnt c.2) ≠ pnt c.1
    · rw [if_pos e] at h
      obtain rfl := List.mem_singleton.1 h
      simp only
      omega
    · rw [if_neg e] at h; exact absurd h (by simp)
/-- what follows, seen from the contraries -/
theorem has_neg {u v : Nat} (h : Gr.has (lns cs) (u : Int) (v : Int) = true) : Gr.has (lns cs) ((neg v : Nat) : Int) ((neg u : Nat) : Int) = true := by
  obtain ⟨hne, c, hc, h⟩ := has_lns.1 h
  refine has_lns.2 ⟨fun e => hne ?_, c, hc, ?_⟩
  · rw [← neg_neg u, ← e, neg_neg]
  · rcases h with ⟨rfl, rfl⟩ | ⟨rfl, rfl⟩
    · exact .inr ⟨rfl, neg_neg _⟩
    · exact .inl ⟨rfl, neg_neg _⟩
theorem reach_neg {u v : Nat} (hu : u < 2 * N) (hv : v < 2 * N) (h : reach (2 * N) (lns cs) u v = true) : reach (2 * N) (lns cs) (neg v) (neg u) = true := by
  obtain ⟨k, hk⟩ := (reach_iff hu).1 h
  clear h
  induction k generalizing v with
  | zero =>
    obtain rfl := wk_zero.1 hk
    exact reach_refl (neg_lt hu)
  | succ k ih =>
    obtain ⟨c, hc, h1, h2⟩ := wk_succ.1 hk
    have h3 := has_neg (To.mem_frow.1 h2).2
    have h4 : reach (2 * N) (lns cs) (neg v) (neg c) = true := (reach_iff (neg_lt hv)).2 ⟨1, Wa.wk_one (neg_lt hv) (To.mem_frow.2 ⟨neg_lt hc, h3⟩)⟩
    exact reach_trans (neg_lt hv) h4 (ih hc h1)
/-- what a point says under an answer -/
def sayP (v : List Bool) (p : Nat) : Bool := v.getD (p / 2) false != decide (p % 2 = 1)
theorem say_pnt (v : List Bool) (x : Lt) : sayP v (pnt x) = say v x := by
  unfold sayP say pnt
  cases x.2
  · simp only [if_neg (show ¬ (false = true) by simp), Nat.add_zero]
    rw [show 2 * x.1.toNat / 2 = x.1.toNat by omega, show 2 * x.1.toNat % 2 = 0 by omega]
    simp
  · simp only [if_pos]
    rw [show (2 * x.1.toNat + 1) / 2 = x.1.toNat by omega, show (2 * x.1.toNat + 1) % 2 = 1 by omega]
    simp
theorem say_neg (v : List Bool) (p : Nat) : sayP v (neg p) = !sayP v p := by
  unfold sayP
  rw [neg_half]
  have : decide (neg p % 2 = 1) = !decide (p % 2 = 1) := by
    unfold neg
    by_cases h : p % 2 = 0
    · rw [if_pos h]
      rw [decide_eq_true (show (p + 1) % 2 = 1 by omega), decide_eq_false (show ¬ p % 2 = 1 by omega)]; rfl
    · rw [if_neg h]
      rw [decide_eq_false (show ¬ (p - 1) % 2 = 1 by omega), decide_eq_true (show p % 2 = 1 by omega)]; rfl
  rw [this]
  cases v.getD (p / 2) false <;> cases decide (p % 2 = 1) <;> rfl
/-- a right answer goes along -/
theorem right_line {v : List Bool} (hr : right cs v = true) {x y : Nat} (h : Gr.has (lns cs) (x : Int) (y : Int) = true) (hx : sayP v x = true) : sayP v y = true := by
  obtain ⟨_, c, hc, h⟩ := has_lns.1 h
  have hcl := List.all_eq_true.1 hr c hc
  rw [Bool.or_eq_true, ← say_pnt, ← say_pnt] at hcl
  rcases h with ⟨rfl, rfl⟩ | ⟨rfl, rfl⟩
  · rw [say_neg] at hx
    rcases hcl with h | h
    · rw [h] at hx; cases hx
    · exact h
  · rw [say_neg] at hx
    rcases hcl with h | h
    · exact h
    · rw [h] at hx; cases hx
theorem right_reach {v : List Bool} (hr : right cs v = true) {x y : Nat} (hx : x < 2 * N) (h : reach (2 * N) (lns cs) x y = true) (hs : sayP v x = true) : sayP v y = true := by
  obtain ⟨k, hk⟩ := (reach_iff hx).1 h
  clear h
  induction k generalizing y with
  | zero => obtain rfl := wk_zero.1 hk; exact hs
  | succ k ih =>
    obtain ⟨c, hc, h1, h2⟩ := wk_succ.1 hk
    exact right_line hr (To.mem_frow.1 h2).2 (ih h1)
/-- a right answer: no name leads to its contrary and back -/
theorem right_apart {v : List Bool} (hr : right cs v = true) {i : Nat} (hi : i < N) : both (2 * N) (lns cs) (2 * i) (2 * i + 1) = false := by
  cases hb : both (2 * N) (lns cs) (2 * i) (2 * i + 1) with
  | false => rfl
  | true =>
    exfalso
    unfold both at hb
    simp only [Bool.and_eq_true] at hb
    have hn : neg (2 * i) = 2 * i + 1 := by unfold neg; rw [if_pos (by omega)]
    have hs := say_neg v (2 * i)
    rw [hn] at hs
    cases h : sayP v (2 * i) with
    | true =>
      have := right_reach (N := N) hr (by omega) hb.1 h
      rw [hs, h] at this
      cases this
    | false =>
      rw [h] at hs
      have := right_reach (N := N) hr (by omega) hb.2 hs
      rw [h] at this
      cases this
/-- points that go together: all that follows, no contraries -/
structure Shut (cs : List Or2) (N : Nat) (S : Nat → Bool) : Prop where
  cl : ∀ x y, x < 2 * N → S x = true → reach (2 * N) (lns cs) x y = true → S y = true
  co : ∀ x, x < 2 * N → S x = true → S (neg x) = false
theorem shut_more (hap : ∀ i, i < N → both (2 * N) (lns cs) (2 * i) (2 * i + 1) = false) {S : Nat → Bool} (h : Shut cs N S) {i : Nat} (hi : i < N) (h0 : S (2 * i) = false) (h1 : S (2 * i + 1) = false) :
    ∃ T, Shut cs N T ∧ (∀ x, S x = true → T x = true) ∧ (T (2 * i) = true ∨ T (2 * i + 1) = true) := by
  have hn0 : neg (2 * i) = 2 * i + 1 := by unfold neg; rw [if_pos (by omega)]
  have hn1 : neg (2 * i + 1) = 2 * i := by unfold neg; rw [if_neg (by omega)]; omega
  have key : ∀ x, x < 2 * N → S (neg x) = false → reach (2 * N) (lns cs) x (neg x) = false → ∃ T, Shut cs N T ∧ (∀ y, S y = true → T y = true) ∧ T x = true := by
    intro x hx hSx hr
    refine ⟨fun y => S y || reach (2 * N) (lns cs) x y, ⟨fun y z hy hT hyz => ?_, fun y hy hT => ?_⟩, fun y hy => by simp [hy], by simp [reach_refl hx]⟩
    · simp only [Bool.or_eq_true] at hT ⊢
      rcases hT with hT | hT
      · exact .inl (h.cl y z hy hT hyz)
      · exact .inr (reach_trans hx hT hyz)
    · simp only [Bool.or_eq_true] at hT
      rw [Bool.or_eq_false_iff]
      rcases hT with hT | hT
      · refine ⟨h.co y hy hT, ?_⟩
        cases hh : reach (2 * N) (lns cs) x (neg y) with
        | false => rfl
        | true =>
          have := reach_neg hx (neg_lt hy) hh
          rw [neg_neg] at this
          rw [h.cl y _ hy hT this] at hSx
          cases hSx
      · constructor
        · cases hh : S (neg y) with
          | false => rfl
          | true =>
            have := reach_neg hx hy hT
            rw [h.cl _ _ (neg_lt hy) hh this] at hSx
            cases hSx
        · cases hh : reach (2 * N) (lns cs) x (neg y) with
          | false => rfl
          | true =>
            have := reach_neg hx (neg_lt hy) hh
            rw [neg_neg] at this
            have := reach_trans hx hT this
            rw [hr] at this
            cases this
  have hb := hap i hi
  unfold both at hb
  rcases Bool.and_eq_false_iff.1 hb with hb | hb
  · obtain ⟨T, t1, t2, t3⟩ := key (2 * i) (by omega) (by rw [hn0]; exact h1) (by rw [hn0]; exact hb)
    exact ⟨T, t1, t2, .inl t3⟩
  · obtain ⟨T, t1, t2, t3⟩ := key (2 * i + 1) (by omega) (by rw [hn1]; exact h0) (by rw [hn1]; exact hb)
    exact ⟨T, t1, t2, .inr t3⟩
theorem shut_all (hap : ∀ i, i < N → both (2 * N) (lns cs) (2 * i) (2 * i + 1) = false) : ∀ k, k ≤ N → ∃ S, Shut cs N S ∧ ∀ i, i < k → S (2 * i) = true ∨ S (2 * i + 1) = true
  | 0, _ => ⟨fun _ => false, ⟨fun x y _ h => (by cases h), fun x _ h => (by cases h)⟩, fun i hi => by omega⟩
  | k + 1, hk => by
    obtain ⟨S, hS, hd⟩ := shut_all hap k (by omega)
    cases h0 : S (2 * k) with
    | true => exact ⟨S, hS, fun i hi => by
        by_cases e : i = k
        · rw [e]; exact .inl h0
        · exact hd i (by omega)⟩
    | false =>
      cases h1 : S (2 * k + 1) with
      | true => exact ⟨S, hS, fun i hi => by
          by_cases e : i = k
          · rw [e]; exact .inr h1
          · exact hd i (by omega)⟩
      | false =>
        obtain ⟨T, t1, t2, t3⟩ := shut_more hap hS (show k < N by omega) h0 h1
        exact ⟨T, t1, fun i hi => by
          by_cases e : i = k
          · rw [e]; exact t3
          · exact (hd i (by omega)).imp (t2 _) (t2 _)⟩
/-- no name leads to its contrary and back: there is a right answer -/
theorem apart_right (hg : ∀ c ∈ cs, Good N c) (hap : ∀ i, i < N → both (2 * N) (lns cs) (2 * i) (2 * i + 1) = false) : ∃ v : List Bool, v.length = N ∧ right cs v = true := by
  obtain ⟨S, hS, hd⟩ := shut_all hap N (Nat.le_refl _)
  have hval : ∀ p, p < 2 * N → S p = true → sayP ((List.range N).map fun i => S (2 * i)) p = true := by
    intro p hp hSp
    have e : ((List.range N).map fun i => S (2 * i)).getD (p / 2) false = S (2 * (p / 2)) := by simp [List.getD, show p / 2 < N by omega]
    unfold sayP
    rw [e]
    by_cases h : p % 2 = 0
    · rw [show 2 * (p / 2) = p by omega, hSp, decide_eq_false (show ¬ p % 2 = 1 by omega)]; rfl
    · have hn : neg p = 2 * (p / 2) := by unfold neg; rw [if_neg h]; omega
      rw [← hn, hS.co p hp hSp, decide_eq_true (show p % 2 = 1 by omega)]; rfl
  have hor : ∀ p, p < 2 * N → S p = true ∨ S (neg p) = true := by
    intro p hp
    have h1 := hd (p / 2) (by omega)
    by_cases h : p % 2 = 0
    · have hn : neg p = 2 * (p / 2) + 1 := by unfold neg; rw [if_pos h]; omega
      rw [hn]
      rwa [show 2 * (p / 2) = p by omega] at h1 ⊢
    · have hn : neg p = 2 * (p / 2) := by unfold neg; rw [if_neg h]; omega
      rw [hn]
      rw [show 2 * (p / 2) + 1 = p by omega] at h1
      exact h1.symm
  refine ⟨(List.range N).map fun i => S (2 * i), by simp, List.all_eq_true.2 fun c hc => ?_⟩
  obtain ⟨h1, h2, h3, h4⟩ := hg c hc
  have l1 := pnt_lt h1 h2
  have l2 := pnt_lt h3 h4
  rw [Bool.or_eq_true, ← say_pnt, ← say_pnt]
  rcases hor _ l1 with h | h
  · exact .inl (hval _ l1 h)
  · refine .inr (hval _ l2 ?_)
    by_cases e : neg (pnt c.1) = pnt c.2
    · rw [← e]; exact h
    · refine hS.cl _ _ (neg_lt l1) h ((reach_iff (neg_lt l1)).2 ⟨1, Wa.wk_one (neg_lt l1) (To.mem_frow.2 ⟨l2, has_lns.2 ⟨e, c, hc, .inl ⟨rfl, rfl⟩⟩⟩)⟩)
/-- Aspvall, Plass, Tarjan -/
theorem aspvall (hg : ∀ c ∈ cs, Good N c) : ((List.range N).any fun i => both (2 * N) (lns cs) (2 * i) (2 * i + 1)) = (ans (right cs) N []).isNone := by
  cases h : ans (right cs) N [] with
  | some m =>
    obtain ⟨_, hr, _⟩ := ans_least h
    rw [Option.isNone_some, List.any_eq_false]
    intro i hi
    rw [right_apart hr (List.mem_range.1 hi)]
    simp
  | none =>
    rw [Option.isNone_none]
    cases ha : ((List.range N).any fun i => both (2 * N) (lns cs) (2 * i) (2 * i + 1)) with
    | true => rfl
    | false =>
      obtain ⟨v, hv, hr⟩ := apart_right hg fun i hi => by
        have := List.any_eq_false.1 ha i (List.mem_range.2 hi)
        simpa using this
      rw [ans_no h hv] at hr
      cases hr
end
end Go.Proofs.YthalopmplekdoaaDoor.Pa
