/-
  Plain facts on ways of one line or more, with no program in them: they go on, lines along them change nothing, the lines that no way goes round are enough and none of them can be spared, all of it turned. No statement of the program is proved here; there is no condition.
  Plain facts on ways, with no program in them: a table of eight times eight truth values that is filled in place, point by point in between (Warshall), says where ways of one line or more lead. No statement of the program is proved here; there is no condition.
-/
import Derived.Test.YtoofpmajiphldaaDoorTopoP
set_option linter.unusedSimpArgs false
set_option linter.unusedVariables false
namespace Go.Proofs.YtoofpmajiphldaaDoor.Cl
open Wa (wk wk_zero wk_succ wk_add wk_one)
open To (frow mem_frow frow_ok comes comes_iff Step Ring)

section
variable {n : Nat} {ls ks : List Gr.Ln}
theorem way_line (hg : ∀ p ∈ ls, Gr.Good (n : Int) p) {a b : Nat} (h : Gr.has ls (a : Int) (b : Int) = true) : comes n ls a b = true := by
  obtain ⟨i, j, e1, e2, hi, hj, _⟩ := To.ends hg h
  have ha : a < n := by omega
  exact (comes_iff hg ha).2 ⟨1, Nat.le_refl _, wk_one ha (mem_frow.2 ⟨by omega, h⟩)⟩
theorem way_lt (hg : ∀ p ∈ ls, Gr.Good (n : Int) p) {a b : Nat} (ha : a < n) (h : comes n ls a b = true) : b < n := by
  obtain ⟨k, _, hw⟩ := (comes_iff hg ha).1 h
  exact Wa.wk_lt (frow_ok n ls) ha hw
theorem way_trans (hg : ∀ p ∈ ls, Gr.Good (n : Int) p) {a b c : Nat} (ha : a < n) (h1 : comes n ls a b = true) (h2 : comes n ls b c = true) : comes n ls a c = true := by
  have hb := way_lt hg ha h1
  obtain ⟨k, hk, hw⟩ := (comes_iff hg ha).1 h1
  obtain ⟨j, hj, hv⟩ := (comes_iff hg hb).1 h2
  exact (comes_iff hg ha).2 ⟨k + j, by omega, wk_add hw hv⟩
/-- the first line of a way -/
theorem way_first (hg : ∀ p ∈ ls, Gr.Good (n : Int) p) {a b : Nat} (ha : a < n) (h : comes n ls a b = true) : Gr.has ls (a : Int) (b : Int) = true ∨ ∃ c, c < n ∧ Gr.has ls (a : Int) (c : Int) = true ∧ comes n ls c b = true := by
  obtain ⟨k, hk, hw⟩ := (comes_iff hg ha).1 h
  obtain ⟨d, rfl⟩ : ∃ d, k = 1 + d := ⟨k - 1, by omega⟩
  obtain ⟨c, h1, h2⟩ := Wa.wk_split hw
  have h3 : ∃ x, x < n ∧ wk n (frow n ls) 0 a x = true ∧ c ∈ frow n ls x := wk_succ.1 h1
  obtain ⟨x, hx, h4, h5⟩ := h3
  obtain rfl := wk_zero.1 h4
  have h6 := mem_frow.1 h5
  cases d with
  | zero =>
    obtain rfl := wk_zero.1 h2
    exact .inl h6.2
  | succ d => exact .inr ⟨c, h6.1, h6.2, (comes_iff hg h6.1).2 ⟨d + 1, by omega, h2⟩⟩
/-- other lines that all go along ways -/
theorem way_along (hg : ∀ p ∈ ls, Gr.Good (n : Int) p) (hk : ∀ p ∈ ks, Gr.Good (n : Int) p) (h : ∀ a b : Nat, Gr.has ks (a : Int) (b : Int) = true → comes n ls a b = true) {a b : Nat} (ha : a < n) (hw : comes n ks a b = true) : comes n ls a b = true := by
  obtain ⟨k, h1, hw⟩ := (comes_iff hk ha).1 hw
  have key : ∀ k b, wk n (frow n ks) (k + 1) a b = true → comes n ls a b = true := by
    intro k
    induction k with
    | zero =>
      intro b hb
      obtain ⟨c, hc, h2, h3⟩ := wk_succ.1 hb
      obtain rfl := wk_zero.1 h2
      exact h _ _ (mem_frow.1 h3).2
    | succ k ih =>
      intro b hb
      obtain ⟨c, hc, h2, h3⟩ := wk_succ.1 hb
      exact way_trans hg ha (ih c h2) (h _ _ (mem_frow.1 h3).2)
  obtain ⟨d, rfl⟩ : ∃ d, k = d + 1 := ⟨k - 1, by omega⟩
  exact key d b hw
theorem way_same (hg : ∀ p ∈ ls, Gr.Good (n : Int) p) (hk : ∀ p ∈ ks, Gr.Good (n : Int) p) (h1 : ∀ a b : Nat, Gr.has ks (a : Int) (b : Int) = true → comes n ls a b = true) (h2 : ∀ a b : Nat, Gr.has ls (a : Int) (b : Int) = true → comes n ks a b = true) {a b : Nat} (ha : a < n) : comes n ks a b = comes n ls a b := by
  rw [Bool.eq_iff_iff]
  exact ⟨way_along hg hk h1 ha, way_along hk hg h2 ha⟩
/-- a line along a way -/
theorem way_more (hg : ∀ p ∈ ls, Gr.Good (n : Int) p) {a b : Nat} (ha : a < n) (hb : b < n) (hne : a ≠ b) (h : comes n ls a b = true) :
    (∀ p ∈ ls ++ [((a : Int), (b : Int))], Gr.Good (n : Int) p) ∧ ∀ x y : Nat, x < n → comes n (ls ++ [((a : Int), (b : Int))]) x y = comes n ls x y := by
  have hk : ∀ p ∈ ls ++ [((a : Int), (b : Int))], Gr.Good (n : Int) p := by
    intro p hp
    rcases List.mem_append.1 hp with hp | hp
    · exact hg p hp
    · obtain rfl : p = ((a : Int), (b : Int)) := by simpa using hp
      unfold Gr.Good
      simp only
      omega
  refine ⟨hk, fun x y hx => way_same hg hk (fun u v huv => ?_) (fun u v huv => way_line hk (Gr.has_iff.2 (List.mem_append_left _ (Gr.has_iff.1 huv)))) hx⟩
  rcases List.mem_append.1 (Gr.has_iff.1 huv) with hp | hp
  · exact way_line hg (Gr.has_iff.2 hp)
  · have hp' : ((u : Int), (v : Int)) = ((a : Int), (b : Int)) := by simpa using hp
    have e1 := (Prod.mk.inj hp').1
    have e2 := (Prod.mk.inj hp').2
    have e1' : u = a := by omega
    have e2' : v = b := by omega
    rw [e1', e2']
    exact h
/-- along an order -/
theorem way_up {o : List Int} (hg : ∀ p ∈ ls, Gr.Good (n : Int) p) (hs : Step n ls o) (hl : o.length = n) {a b : Nat} (ha : a < n) (h : comes n ls a b = true) : St.plc o (a : Int) < St.plc o (b : Int) := by
  obtain ⟨k, hk, hw⟩ := (comes_iff hg ha).1 h
  have := hs.way hl ha k b hw
  omega
theorem way_not_back {o : List Int} (hg : ∀ p ∈ ls, Gr.Good (n : Int) p) (hs : Step n ls o) (hl : o.length = n) {a : Nat} (ha : a < n) : comes n ls a a = false := by
  cases h : comes n ls a a with
  | false => rfl
  | true => have := way_up hg hs hl ha h; omega
end

/-! ### lists of lines by a test -/
/-- the pairs that a test takes, as lines -/
def lst (n : Nat) (r : Nat → Nat → Bool) : List Gr.Ln := (Gr.full n r).map fun p => ((p.1 : Int), (p.2 : Int))
theorem mem_lst {n : Nat} {r : Nat → Nat → Bool} {a b : Nat} : (((a : Int), (b : Int)) : Gr.Ln) ∈ lst n r ↔ a < n ∧ b < n ∧ r a b = true := by
  unfold lst
  rw [List.mem_map]
  constructor
  · rintro ⟨⟨x, y⟩, hp, e⟩
    have e1 := (Prod.mk.inj e).1
    have e2 := (Prod.mk.inj e).2
    have e1' : x = a := by simp only at e1; omega
    have e2' : y = b := by simp only at e2; omega
    have := Gr.mem_full.1 hp
    simp only [e1', e2'] at this
    exact this
  · intro h
    exact ⟨(a, b), Gr.mem_full.2 h, rfl⟩
theorem lst_ends {n : Nat} {r : Nat → Nat → Bool} {p : Gr.Ln} (h : p ∈ lst n r) : ∃ a b : Nat, p = ((a : Int), (b : Int)) ∧ a < n ∧ b < n ∧ r a b = true := by
  obtain ⟨⟨x, y⟩, hp, rfl⟩ := List.mem_map.1 h
  have := Gr.mem_full.1 hp
  exact ⟨x, y, rfl, this⟩
theorem has_lst {n : Nat} {r : Nat → Nat → Bool} {a b : Nat} (ha : a < n) (hb : b < n) : Gr.has (lst n r) (a : Int) (b : Int) = r a b := by
  rw [Bool.eq_iff_iff, Gr.has_iff, mem_lst]
  exact ⟨fun h => h.2.2, fun h => ⟨ha, hb, h⟩⟩
theorem lst_congr {n : Nat} {r s : Nat → Nat → Bool} (h : ∀ a b, a < n → b < n → r a b = s a b) : lst n r = lst n s := by
  unfold lst Gr.full
  have : ∀ a ∈ List.range n, ((List.range n).filter (r a)).map (fun b => (a, b)) = ((List.range n).filter (s a)).map (fun b => (a, b)) := fun a ha => by
    rw [List.filter_congr fun b hb => h a b (List.mem_range.1 ha) (List.mem_range.1 hb)]
  rw [List.flatMap_def, List.flatMap_def, List.map_congr_left this]
theorem full_nodup (n : Nat) (r : Nat → Nat → Bool) : (Gr.full n r).Nodup := by
  unfold Gr.full
  show List.Pairwise (· ≠ ·) _
  rw [List.pairwise_flatMap]
  refine ⟨fun a _ => ?_, ?_⟩
  · exact List.Pairwise.map _ (fun b c hbc e => hbc (Prod.mk.inj e).2) (List.Pairwise.filter (r a) (show List.Pairwise (· ≠ ·) (List.range n) from List.nodup_range))
  · refine List.Pairwise.imp_of_mem (fun {a b} _ _ hab => ?_) List.nodup_range
    intro x hx y hy exy
    obtain ⟨u, _, rfl⟩ := List.mem_map.1 hx
    obtain ⟨v, _, e⟩ := List.mem_map.1 hy
    rw [← e] at exy
    exact hab (Prod.mk.inj exy).1
theorem lst_nodup (n : Nat) (r : Nat → Nat → Bool) : (lst n r).Nodup := by
  unfold lst
  refine List.Pairwise.map _ (fun p q hpq e => hpq ?_) (full_nodup n r)
  have e1 := (Prod.mk.inj e).1
  have e2 := (Prod.mk.inj e).2
  exact Prod.ext (by omega) (by omega)
theorem lst_filter (n : Nat) (r s : Nat → Nat → Bool) : (Gr.full n r).filter (fun p => s p.1 p.2) = Gr.full n fun a b => r a b && s a b := by
  unfold Gr.full
  rw [List.filter_flatMap]
  congr 1
  funext a
  rw [List.filter_map, List.filter_filter]
  congr 1
  refine List.filter_congr fun b _ => ?_
  simp [Bool.and_comm]

/-! ### the lines that no way goes round -/
/-- a way goes there, and none goes round by another point -/
def thin (n : Nat) (ls : List Gr.Ln) (a b : Nat) : Bool := comes n ls a b && (List.range n).all fun k => !(comes n ls a k && comes n ls k b)
theorem thin_iff {n : Nat} {ls : List Gr.Ln} {a b : Nat} : thin n ls a b = true ↔ comes n ls a b = true ∧ ∀ k, k < n → ¬ (comes n ls a k = true ∧ comes n ls k b = true) := by
  unfold thin
  simp only [Bool.and_eq_true, List.all_eq_true, List.mem_range, Bool.not_eq_true', Bool.and_eq_false_iff, not_and, Bool.not_eq_true]
  constructor
  · rintro ⟨h1, h2⟩
    exact ⟨h1, fun k hk ha => (h2 k hk).elim (fun e => by rw [ha] at e; cases e) id⟩
  · rintro ⟨h1, h2⟩
    refine ⟨h1, fun k hk => ?_⟩
    cases h : comes n ls a k with
    | false => exact .inl rfl
    | true => exact .inr (h2 k hk h)
/-- all ways, as lines -/
def clos (n : Nat) (ls : List Gr.Ln) : List Gr.Ln := lst n (comes n ls)
def few (n : Nat) (ls : List Gr.Ln) : List Gr.Ln := lst n (thin n ls)
section
variable {n : Nat} {ls : List Gr.Ln}
theorem thin_line (hg : ∀ p ∈ ls, Gr.Good (n : Int) p) {a b : Nat} (ha : a < n) (h : thin n ls a b = true) : Gr.has ls (a : Int) (b : Int) = true := by
  obtain ⟨h1, h2⟩ := thin_iff.1 h
  rcases way_first hg ha h1 with h3 | ⟨c, hc, h3, h4⟩
  · exact h3
  · exact absurd ⟨way_line hg h3, h4⟩ (h2 c hc)
theorem few_sub (hg : ∀ p ∈ ls, Gr.Good (n : Int) p) : ∀ p ∈ few n ls, p ∈ ls := by
  intro p hp
  obtain ⟨a, b, rfl, ha, hb, h⟩ := lst_ends hp
  exact Gr.has_iff.1 (thin_line hg ha h)
theorem few_good (hg : ∀ p ∈ ls, Gr.Good (n : Int) p) : ∀ p ∈ few n ls, Gr.Good (n : Int) p := fun p hp => hg p (few_sub hg p hp)
theorem few_len (hg : ∀ p ∈ ls, Gr.Good (n : Int) p) : (few n ls).length ≤ ls.length := List.Nodup.length_le_of_subset (lst_nodup n _) (few_sub hg)
/-- they are enough -/
theorem few_way {o : List Int} (hg : ∀ p ∈ ls, Gr.Good (n : Int) p) (hs : Step n ls o) (hl : o.length = n) {a b : Nat} (ha : a < n) : comes n (few n ls) a b = comes n ls a b := by
  have hf := few_good hg
  have key : ∀ d : Nat, ∀ a b : Nat, a < n → St.plc o (b : Int) - St.plc o (a : Int) ≤ (d : Int) → comes n ls a b = true → comes n (few n ls) a b = true := by
    intro d
    induction d with
    | zero =>
      intro a b ha hd h
      have := way_up hg hs hl ha h
      omega
    | succ d ih =>
      intro a b ha hd h
      have hb := way_lt hg ha h
      cases ht : thin n ls a b with
      | true => exact way_line hf (Gr.has_iff.2 (mem_lst.2 ⟨ha, hb, ht⟩))
      | false =>
        have hn : ¬ (∀ k, k < n → ¬ (comes n ls a k = true ∧ comes n ls k b = true)) := fun hall => by
          have := thin_iff.2 ⟨h, hall⟩
          rw [ht] at this
          cases this
        obtain ⟨k, hk, h1, h2⟩ : ∃ k, k < n ∧ comes n ls a k = true ∧ comes n ls k b = true := Classical.byContradiction fun hne => hn fun k hk hh => hne ⟨k, hk, hh.1, hh.2⟩
        have u1 := way_up hg hs hl ha h1
        have u2 := way_up hg hs hl hk h2
        exact way_trans hf ha (ih a k ha (by omega) h1) (ih k b hk (by omega) h2)
  rw [Bool.eq_iff_iff]
  constructor
  · exact way_along hg hf (fun u v huv => way_line hg (Gr.has_iff.2 (few_sub hg _ (Gr.has_iff.1 huv)))) ha
  · intro h
    exact key (St.plc o (b : Int) - St.plc o (a : Int)).toNat a b ha (by omega) h
/-- none can be spared -/
theorem few_least (hg : ∀ p ∈ ls, Gr.Good (n : Int) p) {ks : List Gr.Ln} {a b : Nat} (ha : a < n) (h : thin n ls a b = true) (hsub : ∀ p ∈ ks, p ∈ few n ls) (hno : (((a : Int), (b : Int)) : Gr.Ln) ∉ ks) : comes n ks a b = false := by
  have hk : ∀ p ∈ ks, Gr.Good (n : Int) p := fun p hp => few_good hg p (hsub p hp)
  have hst : ∀ u v : Nat, Gr.has ks (u : Int) (v : Int) = true → comes n ls u v = true := fun u v huv => way_line hg (Gr.has_iff.2 (few_sub hg _ (hsub _ (Gr.has_iff.1 huv))))
  cases hc : comes n ks a b with
  | false => rfl
  | true =>
    exfalso
    rcases way_first hk ha hc with h1 | ⟨c, hc, h1, h2⟩
    · exact hno (Gr.has_iff.1 h1)
    · exact (thin_iff.1 h).2 c hc ⟨hst _ _ h1, way_along hg hk hst hc h2⟩

/-! ### turned -/
theorem way_turn (hg : ∀ p ∈ ls, Gr.Good (n : Int) p) {a b : Nat} (ha : a < n) (hb : b < n) : comes n (Gr.back ls) b a = comes n ls a b := by
  rw [Bool.eq_iff_iff, comes_iff (To.good_back hg) hb, comes_iff hg ha]
  constructor
  · rintro ⟨k, hk, h⟩; exact ⟨k, hk, (To.wk_back ha hb).1 h⟩
  · rintro ⟨k, hk, h⟩; exact ⟨k, hk, (To.wk_back ha hb).2 h⟩
theorem thin_turn (hg : ∀ p ∈ ls, Gr.Good (n : Int) p) {a b : Nat} (ha : a < n) (hb : b < n) : thin n (Gr.back ls) b a = thin n ls a b := by
  rw [Bool.eq_iff_iff, thin_iff, thin_iff, way_turn hg ha hb]
  constructor
  · rintro ⟨h1, h2⟩
    exact ⟨h1, fun k hk h => h2 k hk ⟨by rw [way_turn hg hk hb]; exact h.2, by rw [way_turn hg ha hk]; exact h.1⟩⟩
  · rintro ⟨h1, h2⟩
    exact ⟨h1, fun k hk h => h2 k hk ⟨by rw [← way_turn hg ha hk]; exact h.2, by rw [← way_turn hg hk hb]; exact h.1⟩⟩
theorem few_turn (hg : ∀ p ∈ ls, Gr.Good (n : Int) p) : (few n ls).length = (few n (Gr.back ls)).length := by
  have key : ∀ ks : List Gr.Ln, (∀ p ∈ ks, Gr.Good (n : Int) p) → (few n ks).length ≤ (few n (Gr.back ks)).length := by
    intro ks hk
    have : ((few n ks).map fun p : Gr.Ln => (p.2, p.1)).length ≤ (few n (Gr.back ks)).length := by
      have hnd : ((few n ks).map fun p : Gr.Ln => (p.2, p.1)).Nodup := List.Pairwise.map _ (fun p q hpq e => hpq (Prod.ext (Prod.mk.inj e).2 (Prod.mk.inj e).1)) (lst_nodup n _)
      refine List.Nodup.length_le_of_subset hnd fun p hp => ?_
      obtain ⟨q, hq, rfl⟩ := List.mem_map.1 hp
      obtain ⟨a, b, rfl, ha, hb, h⟩ := lst_ends hq
      exact mem_lst.2 ⟨hb, ha, by rw [thin_turn hk ha hb]; exact h⟩
    simpa using this
  have h1 := key ls hg
  have h2 := key (Gr.back ls) (To.good_back hg)
  have e : few n (Gr.back (Gr.back ls)) = few n ls := by
    refine lst_congr fun a b ha hb => ?_
    rw [thin_turn (To.good_back hg) hb ha, thin_turn hg ha hb]
  rw [e] at h2
  omega
end

/-! ### rows -/
/-- where ways lead from a point -/
def crow (n : Nat) (ls : List Gr.Ln) (a : Nat) : List Int := ((List.range n).filter (comes n ls a)).map fun b => ((b : Nat) : Int)
def crows (n : Nat) (ls : List Gr.Ln) : List (List Int) := (List.range n).map (crow n ls)
theorem crow_has {n : Nat} {ls : List Gr.Ln} {a b : Nat} (hb : b < n) : (crow n ls a).contains (b : Int) = comes n ls a b := by
  rw [Bool.eq_iff_iff, List.contains_iff_mem]
  unfold crow
  rw [List.mem_map]
  constructor
  · rintro ⟨c, hc, e⟩
    obtain rfl : c = b := by omega
    exact (List.mem_filter.1 hc).2
  · intro h
    exact ⟨b, List.mem_filter.2 ⟨List.mem_range.2 hb, h⟩, rfl⟩
theorem mem_crow {n : Nat} {ls : List Gr.Ln} {a : Nat} {x : Int} (h : x ∈ crow n ls a) : ∃ b : Nat, x = (b : Int) ∧ b < n ∧ comes n ls a b = true := by
  obtain ⟨b, hb, rfl⟩ := List.mem_map.1 h
  exact ⟨b, rfl, List.mem_range.1 (List.mem_filter.1 hb).1, (List.mem_filter.1 hb).2⟩
theorem crows_same {n : Nat} {ls ks : List Gr.Ln} (h : ∀ a b : Nat, a < n → b < n → comes n ls a b = comes n ks a b) : crows n ls = crows n ks := by
  refine List.map_congr_left fun a ha => ?_
  unfold crow
  rw [List.filter_congr fun b hb => h a b (List.mem_range.1 ha) (List.mem_range.1 hb)]
theorem crows_len (n : Nat) (ls : List Gr.Ln) : (crows n ls).length = n := by simp [crows]
theorem crows_at {n : Nat} (ls : List Gr.Ln) {a : Nat} (ha : a < n) : (crows n ls).getD a [] = crow n ls a := by simp [crows, List.getD, ha]
theorem crow_len (n : Nat) (ls : List Gr.Ln) (a : Nat) : (crow n ls a).length ≤ n := by
  unfold crow
  rw [List.length_map]
  have := List.length_filter_le (comes n ls a) (List.range n)
  simpa using this
/-- rows of other ways differ -/
theorem crows_ne {n : Nat} {ls ks : List Gr.Ln} {a b : Nat} (ha : a < n) (hb : b < n) (h : comes n ls a b ≠ comes n ks a b) : crows n ls ≠ crows n ks := fun e => by
  have e1 : crow n ls a = crow n ks a := by rw [← crows_at ls ha, ← crows_at ks ha, e]
  have e2 := crow_has (ls := ls) (a := a) hb
  rw [e1, crow_has hb] at e2
  exact h e2.symm
end Go.Proofs.YtoofpmajiphldaaDoor.Cl

set_option linter.unusedSimpArgs false
set_option linter.unusedVariables false
namespace Go.Proofs.YtoofpmajiphldaaDoor.Cl
open To (comes comes_iff)
open Wa (wk wk_zero wk_succ)

/-- from a to b with points below k in between -/
def cl (ls : List Gr.Ln) : Nat → Nat → Nat → Bool
  | 0, a, b => Gr.has ls (a : Int) (b : Int)
  | k + 1, a, b => cl ls k a b || (cl ls k a k && cl ls k k b)
theorem cl_col (ls : List Gr.Ln) (k a : Nat) : cl ls (k + 1) a k = cl ls k a k := by
  show (cl ls k a k || (cl ls k a k && cl ls k k k)) = _
  cases cl ls k a k <;> simp
theorem cl_row (ls : List Gr.Ln) (k b : Nat) : cl ls (k + 1) k b = cl ls k k b := by
  show (cl ls k k b || (cl ls k k k && cl ls k k b)) = _
  cases cl ls k k b <;> simp
theorem cl_mono {ls : List Gr.Ln} {k a b : Nat} (h : cl ls k a b = true) : cl ls (k + 1) a b = true := by
  show (cl ls k a b || _) = true
  rw [h]; rfl
theorem cl_le {ls : List Gr.Ln} {a b : Nat} : ∀ {k j : Nat}, k ≤ j → cl ls k a b = true → cl ls j a b = true := by
  intro k j hkj
  induction hkj with
  | refl => exact id
  | step _ ih => exact fun h => cl_mono (ih h)
theorem cl_trans {ls : List Gr.Ln} : ∀ {k a b c : Nat}, c < k → cl ls k a c = true → cl ls k c b = true → cl ls k a b = true := by
  intro k
  induction k with
  | zero => intro a b c h; omega
  | succ k ih =>
    intro a b c hc h1 h2
    have g1 : cl ls k a c = true ∨ (cl ls k a k = true ∧ cl ls k k c = true) := by
      have : (cl ls k a c || (cl ls k a k && cl ls k k c)) = true := h1
      simpa [Bool.or_eq_true, Bool.and_eq_true] using this
    have g2 : cl ls k c b = true ∨ (cl ls k c k = true ∧ cl ls k k b = true) := by
      have : (cl ls k c b || (cl ls k c k && cl ls k k b)) = true := h2
      simpa [Bool.or_eq_true, Bool.and_eq_true] using this
    show (cl ls k a b || (cl ls k a k && cl ls k k b)) = true
    rw [Bool.or_eq_true, Bool.and_eq_true]
    rcases Nat.lt_or_ge c k with h | h
    · rcases g1 with g1 | ⟨g1, g1'⟩
      · rcases g2 with g2 | ⟨g2, g2'⟩
        · exact .inl (ih h g1 g2)
        · exact .inr ⟨ih h g1 g2, g2'⟩
      · rcases g2 with g2 | ⟨g2, g2'⟩
        · exact .inr ⟨g1, ih h g1' g2⟩
        · exact .inr ⟨g1, g2'⟩
    · obtain rfl : c = k := by omega
      refine .inr ⟨?_, ?_⟩
      · rcases g1 with g1 | g1
        · exact g1
        · exact g1.1
      · rcases g2 with g2 | g2
        · exact g2
        · exact g2.2
section
variable {n : Nat} {ls : List Gr.Ln}
theorem cl_way (hg : ∀ p ∈ ls, Gr.Good (n : Int) p) : ∀ {k a b : Nat}, cl ls k a b = true → a < n ∧ b < n ∧ comes n ls a b = true := by
  intro k
  induction k with
  | zero =>
    intro a b h
    obtain ⟨i, j, e1, e2, hi, hj, _⟩ := To.ends hg h
    exact ⟨by omega, by omega, way_line hg h⟩
  | succ k ih =>
    intro a b h
    have : cl ls k a b = true ∨ (cl ls k a k = true ∧ cl ls k k b = true) := by
      have : (cl ls k a b || (cl ls k a k && cl ls k k b)) = true := h
      simpa [Bool.or_eq_true, Bool.and_eq_true] using this
    rcases this with h1 | ⟨h1, h2⟩
    · exact ih h1
    · obtain ⟨a1, a2, a3⟩ := ih h1
      obtain ⟨b1, b2, b3⟩ := ih h2
      exact ⟨a1, b2, way_trans hg a1 a3 b3⟩
theorem way_cl (hg : ∀ p ∈ ls, Gr.Good (n : Int) p) (h8 : n ≤ 8) {a b : Nat} (ha : a < n) (h : comes n ls a b = true) : cl ls 8 a b = true := by
  obtain ⟨k, h1, hw⟩ := (comes_iff hg ha).1 h
  have key : ∀ k b, wk n (To.frow n ls) (k + 1) a b = true → cl ls 8 a b = true := by
    intro k
    induction k with
    | zero =>
      intro b hb
      obtain ⟨c, hc, h2, h3⟩ := wk_succ.1 hb
      obtain rfl := wk_zero.1 h2
      exact cl_le (k := 0) (by omega) (To.mem_frow.1 h3).2
    | succ k ih =>
      intro b hb
      obtain ⟨c, hc, h2, h3⟩ := wk_succ.1 hb
      exact cl_trans (by omega) (ih c h2) (cl_le (k := 0) (by omega) (To.mem_frow.1 h3).2)
  obtain ⟨d, rfl⟩ : ∃ d, k = d + 1 := ⟨k - 1, by omega⟩
  exact key d b hw
theorem cl_is (hg : ∀ p ∈ ls, Gr.Good (n : Int) p) (h8 : n ≤ 8) {a b : Nat} (ha : a < n) : cl ls 8 a b = comes n ls a b := by
  rw [Bool.eq_iff_iff]
  exact ⟨fun h => (cl_way hg h).2.2, way_cl hg h8 ha⟩
/-- whom ways lead to, as the table says it, and what it says of other points -/
def tb (n : Nat) (ls : List Gr.Ln) (a b : Nat) : Bool := decide (a < n) && comes n ls a b
theorem tb_at {a b : Nat} (ha : a < n) : tb n ls a b = comes n ls a b := by simp [tb, ha]
theorem tb_lt (hg : ∀ p ∈ ls, Gr.Good (n : Int) p) {a b : Nat} (h : tb n ls a b = true) : a < n ∧ b < n := by
  unfold tb at h
  rw [Bool.and_eq_true] at h
  have ha : a < n := by simpa using h.1
  exact ⟨ha, way_lt hg ha h.2⟩
theorem cl_tb (hg : ∀ p ∈ ls, Gr.Good (n : Int) p) (h8 : n ≤ 8) (a b : Nat) : cl ls 8 a b = tb n ls a b := by
  by_cases ha : a < n
  · rw [tb_at ha, cl_is hg h8 ha]
  · cases h : cl ls 8 a b with
    | true => exact absurd (cl_way hg h).1 ha
    | false => simp [tb, ha]
/-- tables that say nothing of points from n on -/
theorem full_cut {m n : Nat} {r : Nat → Nat → Bool} (hm : n ≤ m) (hr : ∀ a b, r a b = true → a < n ∧ b < n) : Gr.full m r = Gr.full n r := by
  obtain ⟨d, rfl⟩ : ∃ d, m = n + d := ⟨m - n, by omega⟩
  have hrow : ∀ a, (List.range (n + d)).filter (r a) = (List.range n).filter (r a) := by
    intro a
    rw [List.range_add, List.filter_append]
    have : ((List.range d).map (fun x => n + x)).filter (r a) = [] := by
      rw [List.filter_eq_nil_iff]
      intro x hx
      obtain ⟨y, _, rfl⟩ := List.mem_map.1 hx
      intro h
      have := (hr _ _ h).2
      omega
    rw [this, List.append_nil]
  unfold Gr.full
  simp only [hrow]
  rw [List.range_add, List.flatMap_append]
  have : ((List.range d).map (fun x => n + x)).flatMap (fun a => ((List.range n).filter (r a)).map fun b => (a, b)) = [] := by
    rw [List.flatMap_eq_nil_iff]
    intro x hx
    obtain ⟨y, _, rfl⟩ := List.mem_map.1 hx
    rw [List.map_eq_nil_iff, List.filter_eq_nil_iff]
    intro b _ h
    have := (hr _ _ h).1
    omega
  rw [this, List.append_nil]
end

/-! ### the table as a list -/
/-- sixty-four truth values, row by row -/
def tbl (r : Nat → Nat → Bool) : List Bool := (List.range 64).map fun p => r (p / 8) (p % 8)
theorem tbl_len (r : Nat → Nat → Bool) : (tbl r).length = 64 := by simp [tbl]
theorem tbl_at (r : Nat → Nat → Bool) {a b : Nat} (ha : a < 8) (hb : b < 8) : (tbl r).getD (a * 8 + b) false = r a b := by
  have h : a * 8 + b < 64 := by omega
  have h1 : (a * 8 + b) / 8 = a := by omega
  have h2 : (a * 8 + b) % 8 = b := by omega
  simp [tbl, List.getD, h, h1, h2]
theorem tbl_congr {r s : Nat → Nat → Bool} (h : ∀ a b, a < 8 → b < 8 → r a b = s a b) : tbl r = tbl s := by
  unfold tbl
  refine List.map_congr_left fun p hp => ?_
  have := List.mem_range.1 hp
  exact h _ _ (by omega) (by omega)
theorem tbl_set (r : Nat → Nat → Bool) {a b : Nat} (ha : a < 8) (hb : b < 8) (t : Bool) : (tbl r).set (a * 8 + b) t = tbl fun x y => if x = a ∧ y = b then t else r x y := by
  apply List.ext_getElem
  · simp [tbl]
  · intro i h1 h2
    have hi : i < 64 := by simpa [tbl] using h2
    rw [List.getElem_set]
    simp only [tbl, List.getElem_map, List.getElem_range]
    by_cases e : a * 8 + b = i
    · rw [if_pos e, if_pos (by omega)]
    · rw [if_neg e, if_neg (by omega)]
/-- lines up to the k-th -/
def hasTo (ls : List Gr.Ln) (k : Nat) (a b : Nat) : Bool := Gr.has (ls.take k) (a : Int) (b : Int)
theorem hasTo_zero (ls : List Gr.Ln) (a b : Nat) : hasTo ls 0 a b = false := by simp [hasTo, Gr.has]
theorem tbl_zero (ls : List Gr.Ln) : tbl (hasTo ls 0) = List.replicate 64 false := by
  rw [tbl_congr (s := fun _ _ => false) (fun a b _ _ => hasTo_zero ls a b)]
  decide
theorem hasTo_next {ls : List Gr.Ln} {k a b : Nat} (hk : k < ls.length) (hp : (((a : Int), (b : Int)) : Gr.Ln) = ls.getD k (0, 0)) (x y : Nat) : hasTo ls (k + 1) x y = if x = a ∧ y = b then true else hasTo ls k x y := by
  unfold hasTo
  have e : ls.getD k (0, 0) = ls[k] := by simp [List.getD, hk]
  rw [List.take_succ_eq_append_getElem hk, ← e, ← hp]
  by_cases h : x = a ∧ y = b
  · obtain ⟨rfl, rfl⟩ := h
    rw [if_pos ⟨rfl, rfl⟩]
    simp [Gr.has]
  · rw [if_neg h]
    have : ((x : Int), (y : Int)) ≠ ((a : Int), (b : Int)) := fun e => h ⟨by have := (Prod.mk.inj e).1; omega, by have := (Prod.mk.inj e).2; omega⟩
    have h2 : ¬ ((x : Int) = (a : Int) ∧ (y : Int) = (b : Int)) := fun e => h ⟨by omega, by omega⟩
    rw [Bool.eq_iff_iff]
    simp only [Gr.has, List.contains_iff_mem, List.mem_append, List.mem_singleton, Prod.mk.injEq]
    constructor
    · rintro (h3 | h3)
      · exact h3
      · exact absurd h3 h2
    · exact .inl
theorem tbl_next {ls : List Gr.Ln} {k a b : Nat} (hk : k < ls.length) (hp : (((a : Int), (b : Int)) : Gr.Ln) = ls.getD k (0, 0)) (ha : a < 8) (hb : b < 8) : (tbl (hasTo ls k)).set (a * 8 + b) true = tbl (hasTo ls (k + 1)) := by
  rw [tbl_set _ ha hb]
  exact tbl_congr fun x y _ _ => (hasTo_next hk hp x y).symm
theorem tbl_lines (ls : List Gr.Ln) {k : Nat} (hk : ls.length ≤ k) : tbl (hasTo ls k) = tbl (cl ls 0) := tbl_congr fun x y _ _ => by
  unfold hasTo
  rw [List.take_of_length_le hk]
  rfl
/-- in round k, all ahead of (a, b) is done -/
def mid (ls : List Gr.Ln) (k a b : Nat) (x y : Nat) : Bool := if x * 8 + y < a * 8 + b then cl ls (k + 1) x y else cl ls k x y
theorem mid_col (ls : List Gr.Ln) (k a b x : Nat) : mid ls k a b x k = cl ls k x k := by
  unfold mid
  split
  · exact cl_col ls k x
  · rfl
theorem mid_row (ls : List Gr.Ln) (k a b y : Nat) : mid ls k a b k y = cl ls k k y := by
  unfold mid
  split
  · exact cl_row ls k y
  · rfl
theorem mid_start (ls : List Gr.Ln) (k : Nat) : tbl (mid ls k 0 0) = tbl (cl ls k) := tbl_congr fun x y _ _ => by
  unfold mid
  rw [if_neg (by omega)]
theorem mid_end (ls : List Gr.Ln) (k : Nat) : tbl (mid ls k 8 0) = tbl (cl ls (k + 1)) := tbl_congr fun x y hx hy => by
  unfold mid
  rw [if_pos (by omega)]
theorem mid_rowend (ls : List Gr.Ln) (k a : Nat) : tbl (mid ls k a 8) = tbl (mid ls k (a + 1) 0) := tbl_congr fun x y hx hy => by
  unfold mid
  have : (x * 8 + y < a * 8 + 8) = (x * 8 + y < (a + 1) * 8 + 0) := by rw [show a * 8 + 8 = (a + 1) * 8 + 0 by omega]
  simp only [this]
theorem mid_yes {ls : List Gr.Ln} {k a b : Nat} (ha : a < 8) (hb : b < 8) (h1 : cl ls k a k = true) (h2 : cl ls k k b = true) : (tbl (mid ls k a b)).set (a * 8 + b) true = tbl (mid ls k a (b + 1)) := by
  rw [tbl_set _ ha hb]
  refine tbl_congr fun x y hx hy => ?_
  by_cases e : x = a ∧ y = b
  · obtain ⟨rfl, rfl⟩ := e
    rw [if_pos ⟨rfl, rfl⟩]
    unfold mid
    rw [if_pos (by omega)]
    show true = (cl ls k x y || (cl ls k x k && cl ls k k y))
    rw [h1, h2]
    simp
  · rw [if_neg e]
    unfold mid
    by_cases h : x * 8 + y < a * 8 + b
    · rw [if_pos h, if_pos (by omega)]
    · rw [if_neg h, if_neg (by omega)]
theorem mid_no {ls : List Gr.Ln} {k a b : Nat} (ha : a < 8) (hb : b < 8) (h : (cl ls k a k && cl ls k k b) = false) : tbl (mid ls k a b) = tbl (mid ls k a (b + 1)) := by
  refine tbl_congr fun x y hx hy => ?_
  unfold mid
  by_cases e : x * 8 + y < a * 8 + b
  · rw [if_pos e, if_pos (by omega)]
  · rw [if_neg e]
    by_cases e2 : x * 8 + y < a * 8 + (b + 1)
    · rw [if_pos e2]
      obtain rfl : x = a := by omega
      obtain rfl : y = b := by omega
      show _ = (cl ls k x y || (cl ls k x k && cl ls k k y))
      rw [h, Bool.or_false]
    · rw [if_neg e2]

/-! ### ways by a third -/
def thr (r : Nat → Nat → Bool) (a b k : Nat) : Bool := (List.range k).any fun c => r a c && r c b
theorem thr_zero (r : Nat → Nat → Bool) (a b : Nat) : thr r a b 0 = false := by simp [thr]
theorem thr_succ (r : Nat → Nat → Bool) (a b k : Nat) : thr r a b (k + 1) = (thr r a b k || (r a k && r k b)) := by simp [thr, List.range_succ]
theorem thr_hit {r : Nat → Nat → Bool} {a b k m : Nat} (hk : k < m) (h1 : r a k = true) (h2 : r k b = true) : thr r a b m = true := by
  unfold thr
  rw [List.any_eq_true]
  exact ⟨k, List.mem_range.2 hk, by rw [h1, h2]; rfl⟩
theorem thr_thin {n : Nat} {ls : List Gr.Ln} (hg : ∀ p ∈ ls, Gr.Good (n : Int) p) (h8 : n ≤ 8) {a b : Nat} : (tb n ls a b && !thr (tb n ls) a b 8) = (decide (a < n) && thin n ls a b) := by
  by_cases ha : a < n
  · rw [Bool.eq_iff_iff]
    simp only [Bool.and_eq_true, Bool.not_eq_true', decide_eq_true_eq]
    rw [tb_at ha, thin_iff]
    constructor
    · rintro ⟨h1, h2⟩
      refine ⟨ha, h1, fun k hk hh => ?_⟩
      have := thr_hit (r := tb n ls) (m := 8) (a := a) (b := b) (k := k) (by omega) (by rw [tb_at ha]; exact hh.1) (by rw [tb_at hk]; exact hh.2)
      rw [h2] at this
      cases this
    · rintro ⟨_, h1, h2⟩
      refine ⟨h1, ?_⟩
      cases h : thr (tb n ls) a b 8 with
      | false => rfl
      | true =>
        exfalso
        unfold thr at h
        rw [List.any_eq_true] at h
        obtain ⟨k, _, hk⟩ := h
        rw [Bool.and_eq_true] at hk
        have hkn := (tb_lt hg hk.2).1
        rw [tb_at ha, tb_at hkn] at hk
        exact h2 k hkn hk
  · simp [tb, ha]
/-- the program's list of ways -/
theorem full_tb {n : Nat} {ls : List Gr.Ln} (hg : ∀ p ∈ ls, Gr.Good (n : Int) p) : Gr.full n (tb n ls) = Gr.full n (comes n ls) := by
  unfold Gr.full
  rw [List.flatMap_def, List.flatMap_def]
  congr 1
  refine List.map_congr_left fun a ha => ?_
  rw [List.filter_congr fun b _ => tb_at (List.mem_range.1 ha)]
theorem side_tb {n : Nat} {ls : List Gr.Ln} (hg : ∀ p ∈ ls, Gr.Good (n : Int) p) {a : Nat} (ha : a < n) : Gr.side (Gr.full n (tb n ls)) a = crow n ls a := by
  rw [Gr.side_full n _ ha]
  unfold crow
  rw [List.filter_congr fun b _ => tb_at ha]
theorem few_is {n : Nat} {ls : List Gr.Ln} (hg : ∀ p ∈ ls, Gr.Good (n : Int) p) (h8 : n ≤ 8) : ((Gr.full n (tb n ls)).filter fun p => !thr (tb n ls) p.1 p.2 8).map (fun p => ((p.1 : Int), (p.2 : Int))) = few n ls := by
  unfold few lst
  have e : ((Gr.full n (tb n ls)).filter fun p => !thr (tb n ls) p.1 p.2 8) = Gr.full n fun a b => tb n ls a b && !thr (tb n ls) a b 8 := lst_filter n (tb n ls) (fun a b => !thr (tb n ls) a b 8)
  rw [e]
  congr 1
  unfold Gr.full
  rw [List.flatMap_def, List.flatMap_def]
  congr 1
  refine List.map_congr_left fun a ha => ?_
  rw [List.filter_congr fun b _ => ?_]
  show (tb n ls a b && !thr (tb n ls) a b 8) = thin n ls a b
  rw [thr_thin hg h8]
  simp [List.mem_range.1 ha]
end Go.Proofs.YtoofpmajiphldaaDoor.Cl
