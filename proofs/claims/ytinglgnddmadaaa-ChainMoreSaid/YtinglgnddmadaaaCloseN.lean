/-
  Plain facts on ways of one line or more, with no program in them: they go on, lines along them change nothing, the lines that no way goes round are enough and none of them can be spared, all of it turned. No statement of the program is proved here; there is no condition.
-/
import Derived.Test.YtinglgnddmadaaaTopoP
set_option linter.unusedSimpArgs false
set_option linter.unusedVariables false
namespace Go.Proofs.Ytinglgnddmadaaa.Cl
open Wa (wk wk_zero wk_succ wk_add wk_one)
open To (frow mem_frow frow_ok comes comes_iff Step Ring)

section
variable {n : Nat} {ls ks : List Gr.Ln}
theorem way_line (hg : ∀ p ∈ ls, Gr.Good (n : Int) p) {a b : Nat} (h : Gr.has ls (a : Int) (b : Int) = true) : comes n ls a b = true := by
  obtain ⟨i, j, e1, e2, hi, hj, _⟩ := To.ends hg h
  have ha : a < n := by omega
  exact (comes_iff hg ha).2 ⟨1, Nat.le_refl _, wk_one ha (mem_frow.2 ⟨by omega, h⟩)⟩
theorem way_lt (hg : ∀ p ∈ ls, Gr.Good (n : Int) p) {a b : Nat} (ha : a < n) (h : comes n ls a b = true) : b < n := by
  obtain ⟨k, _, hw⟩ := (comes_iff hg ha).1 h
  exact Wa.wk_lt (frow_ok n ls) ha hw
theorem way_trans (hg : ∀ p ∈ ls, Gr.Good (n : Int) p) {a b c : Nat} (ha : a < n) (h1 : comes n ls a b = true) (h2 : comes n ls b c = true) : comes n ls a c = true := by
  have hb := way_lt hg ha h1
  obtain ⟨k, hk, hw⟩ := (comes_iff hg ha).1 h1
  obtain ⟨j, hj, hv⟩ := (comes_iff hg hb).1 h2
  exact (comes_iff hg ha).2 ⟨k + j, by omega, wk_add hw hv⟩
/-- the first line of a way -/
theorem way_first (hg : ∀ p ∈ ls, Gr.Good (n : Int) p) {a b : Nat} (ha : a < n) (h : comes n ls a b = true) : Gr.has ls (a : Int) (b : Int) = true ∨ ∃ c, c < n ∧ Gr.has ls (a : Int) (c : Int) = true ∧ comes n ls c b = true := by
  obtain ⟨k, hk, hw⟩ := (comes_iff hg ha).1 h
  obtain ⟨d, rfl⟩ : ∃ d, k = 1 + d := ⟨k - 1, by omega⟩
  obtain ⟨c, h1, h2⟩ := Wa.wk_split hw
  have h3 : ∃ x, x < n ∧ wk n (frow n ls) 0 a x = true ∧ c ∈ frow n ls x := wk_succ.1 h1
  obtain ⟨x, hx, h4, h5⟩ := h3
  obtain rfl := wk_zero.1 h4
  have h6 := mem_frow.1 h5
  cases d with
  | zero =>
    obtain rfl := wk_zero.1 h2
    exact .inl h6.2
  | succ d => exact .inr ⟨c, h6.1, h6.2, (comes_iff hg h6.1).2 ⟨d + 1, by omega, h2⟩⟩
/-- other lines that all go along ways -/
theorem way_along (hg : ∀ p ∈ ls, Gr.Good (n : Int) p) (hk : ∀ p ∈ ks, Gr.Good (n : Int) p) (h : ∀ a b : Nat, Gr.has ks (a : Int) (b : Int) = true → comes n ls a b = true) {a b : Nat} (ha : a < n) (hw : comes n ks a b = true) : comes n ls a b = true := by
  obtain ⟨k, h1, hw⟩ := (comes_iff hk ha).1 hw
  have key : ∀ k b, wk n (frow n ks) (k + 1) a b = true → comes n ls a b = true := by
    intro k
    induction k with
    | zero =>
      intro b hb
      obtain ⟨c, hc, h2, h3⟩ := wk_succ.1 hb
      obtain rfl := wk_zero.1 h2
      exact h _ _ (mem_frow.1 h3).2
    | succ k ih =>
      intro b hb
      obtain ⟨c, hc, h2, h3⟩ := wk_succ.1 hb
      exact way_trans hg ha (ih c h2) (h _ _ (mem_frow.1 h3).2)
  obtain ⟨d, rfl⟩ : ∃ d, k = d + 1 := ⟨k - 1, by omega⟩
  exact key d b hw
theorem way_same (hg : ∀ p ∈ ls, Gr.Good (n : Int) p) (hk : ∀ p ∈ ks, Gr.Good (n : Int) p) (h1 : ∀ a b : Nat, Gr.has ks (a : Int) (b : Int) = true → comes n ls a b = true) (h2 : ∀ a b : Nat, Gr.has ls (a : Int) (b : Int) = true → comes n ks a b = true) {a b : Nat} (ha : a < n) : comes n ks a b = comes n ls a b := by
  rw [Bool.eq_iff_iff]
  exact ⟨way_along hg hk h1 ha, way_along hk hg h2 ha⟩
/-- a line along a way -/
theorem way_more (hg : ∀ p ∈ ls, Gr.Good (n : Int) p) {a b : Nat} (ha : a < n) (hb : b < n) (hne : a ≠ b) (h : comes n ls a b = true) :
    (∀ p ∈ ls ++ [((a : Int), (b : Int))], Gr.Good (n : Int) p) ∧ ∀ x y : Nat, x < n → comes n (ls ++ [((a : Int), (b : Int))]) x y = comes n ls x y := by
  have hk : ∀ p ∈ ls ++ [((a : Int), (b : Int))], Gr.Good (n : Int) p := by
    intro p hp
    rcases List.mem_append.1 hp with hp | hp
    · exact hg p hp
    · obtain rfl : p = ((a : Int), (b : Int)) := by simpa using hp
      unfold Gr.Good
      simp only
      omega
  refine ⟨hk, fun x y hx => way_same hg hk (fun u v huv => ?_) (fun u v huv => way_line hk (Gr.has_iff.2 (List.mem_append_left _ (Gr.has_iff.1 huv)))) hx⟩
  rcases List.mem_append.1 (Gr.has_iff.1 huv) with hp | hp
  · exact way_line hg (Gr.has_iff.2 hp)
  · have hp' : ((u : Int), (v : Int)) = ((a : Int), (b : Int)) := by simpa using hp
    have e1 := (Prod.mk.inj hp').1
    have e2 := (Prod.mk.inj hp').2
    have e1' : u = a := by omega
    have e2' : v = b := by omega
    rw [e1', e2']
    exact h
/-- along an order -/
theorem way_up {o : List Int} (hg : ∀ p ∈ ls, Gr.Good (n : Int) p) (hs : Step n ls o) (hl : o.length = n) {a b : Nat} (ha : a < n) (h : comes n ls a b = true) : St.plc o (a : Int) < St.plc o (b : Int) := by
  obtain ⟨k, hk, hw⟩ := (comes_iff hg ha).1 h
  have := hs.way hl ha k b hw
  omega
theorem way_not_back {o : List Int} (hg : ∀ p ∈ ls, Gr.Good (n : Int) p) (hs : Step n ls o) (hl : o.length = n) {a : Nat} (ha : a < n) : comes n ls a a = false := by
  cases h : comes n ls a a with
  | false => rfl
  | true => have := way_up hg hs hl ha h; omega
end

/-! ### lists of lines by a test -/
/-- the pairs that a test takes, as lines -/
def lst (n : Nat) (r : Nat → Nat → Bool) : List Gr.Ln := (Gr.full n r).map fun p => ((p.1 : Int), (p.2 : Int))
theorem mem_lst {n : Nat} {r : Nat → Nat → Bool} {a b : Nat} : (((a : Int), (b : Int)) : Gr.Ln) ∈ lst n r ↔ a < n ∧ b < n ∧ r a b = true := by
  unfold lst
  rw [List.mem_map]
  constructor
  · rintro ⟨⟨x, y⟩, hp, e⟩
    have e1 := (Prod.mk.inj e).1
    have e2 := (Prod.mk.inj e).2
    have e1' : x = a := by simp only at e1; omega
    have e2' : y = b := by simp only at e2; omega
    have := Gr.mem_full.1 hp
    simp only [e1', e2'] at this
    exact this
  · intro h
    exact ⟨(a, b), Gr.mem_full.2 h, rfl⟩
theorem lst_ends {n : Nat} {r : Nat → Nat → Bool} {p : Gr.Ln} (h : p ∈ lst n r) : ∃ a b : Nat, p = ((a : Int), (b : Int)) ∧ a < n ∧ b < n ∧ r a b = true := by
  obtain ⟨⟨x, y⟩, hp, rfl⟩ := List.mem_map.1 h
  have := Gr.mem_full.1 hp
  exact ⟨x, y, rfl, this⟩
theorem has_lst {n : Nat} {r : Nat → Nat → Bool} {a b : Nat} (ha : a < n) (hb : b < n) : Gr.has (lst n r) (a : Int) (b : Int) = r a b := by
  rw [Bool.eq_iff_iff, Gr.has_iff, mem_lst]
  exact ⟨fun h => h.2.2, fun h => ⟨ha, hb, h⟩⟩
theorem lst_congr {n : Nat} {r s : Nat → Nat → Bool} (h : ∀ a b, a < n → b < n → r a b = s a b) : lst n r = lst n s := by
  unfold lst Gr.full
  have : ∀ a ∈ List.range n, ((List.range n).filter (r a)).map (fun b => (a, b)) = ((List.range n).filter (s a)).map (fun b => (a, b)) := fun a ha => by
    rw [List.filter_congr fun b hb => h a b (List.mem_range.1 ha) (List.mem_range.1 hb)]
  rw [List.flatMap_def, List.flatMap_def, List.map_congr_left this]
theorem full_nodup (n : Nat) (r : Nat → Nat → Bool) : (Gr.full n r).Nodup := by
  unfold Gr.full
  show List.Pairwise (· ≠ ·) _
  rw [List.pairwise_flatMap]
  refine ⟨fun a _ => ?_, ?_⟩
  · exact List.Pairwise.map _ (fun b c hbc e => hbc (Prod.mk.inj e).2) (List.Pairwise.filter (r a) (show List.Pairwise (· ≠ ·) (List.range n) from List.nodup_range))
  · refine List.Pairwise.imp_of_mem (fun {a b} _ _ hab => ?_) List.nodup_range
    intro x hx y hy exy
    obtain ⟨u, _, rfl⟩ := List.mem_map.1 hx
    obtain ⟨v, _, e⟩ := List.mem_map.1 hy
    rw [← e] at exy
    exact hab (Prod.mk.inj exy).1
theorem lst_nodup (n : Nat) (r : Nat → Nat → Bool) : (lst n r).Nodup := by
  unfold lst
  refine List.Pairwise.map _ (fun p q hpq e => hpq ?_) (full_nodup n r)
  have e1 := (Prod.mk.inj e).1
  have e2 := (Prod.mk.inj e).2
  exact Prod.ext (by omega) (by omega)
theorem lst_filter (n : Nat) (r s : Nat → Nat → Bool) : (Gr.full n r).filter (fun p => s p.1 p.2) = Gr.full n fun a b => r a b && s a b := by
  unfold Gr.full
  rw [List.filter_flatMap]
  congr 1
  funext a
  rw [List.filter_map, List.filter_filter]
  congr 1
  refine List.filter_congr fun b _ => ?_
  simp [Bool.and_comm]

/-! ### the lines that no way goes round -/
/-- a way goes there, and none goes round by another point -/
def thin (n : Nat) (ls : List Gr.Ln) (a b : Nat) : Bool := comes n ls a b && (List.range n).all fun k => !(comes n ls a k && comes n ls k b)
theorem thin_iff {n : Nat} {ls : List Gr.Ln} {a b : Nat} : thin n ls a b = true ↔ comes n ls a b = true ∧ ∀ k, k < n → ¬ (comes n ls a k = true ∧ comes n ls k b = true) := by
  unfold thin
  simp only [Bool.and_eq_true, List.all_eq_true, List.mem_range, Bool.not_eq_true', Bool.and_eq_false_iff, not_and, Bool.not_eq_true]
  constructor
  · rintro ⟨h1, h2⟩
    exact ⟨h1, fun k hk ha => (h2 k hk).elim (fun e => by rw [ha] at e; cases e) id⟩
  · rintro ⟨h1, h2⟩
    refine ⟨h1, fun k hk => ?_⟩
    cases h : comes n ls a k with
    | false => exact .inl rfl
    | true => exact .inr (h2 k hk h)
/-- all ways, as lines -/
def clos (n : Nat) (ls : List Gr.Ln) : List Gr.Ln := lst n (comes n ls)
def few (n : Nat) (ls : List Gr.Ln) : List Gr.Ln := lst n (thin n ls)
section
variable {n : Nat} {ls : List Gr.Ln}
theorem thin_line (hg : ∀ p ∈ ls, Gr.Good (n : Int) p) {a b : Nat} (ha : a < n) (h : thin n ls a b = true) : Gr.has ls (a : Int) (b : Int) = true := by
  obtain ⟨h1, h2⟩ := thin_iff.1 h
  rcases way_first hg ha h1 with h3 | ⟨c, hc, h3, h4⟩
  · exact h3
  · exact absurd ⟨way_line hg h3, h4⟩ (h2 c hc)
theorem few_sub (hg : ∀ p ∈ ls, Gr.Good (n : Int) p) : ∀ p ∈ few n ls, p ∈ ls := by
  intro p hp
  obtain ⟨a, b, rfl, ha, hb, h⟩ := lst_ends hp
  exact Gr.has_iff.1 (thin_line hg ha h)
theorem few_good (hg : ∀ p ∈ ls, Gr.Good (n : Int) p) : ∀ p ∈ few n ls, Gr.Good (n : Int) p := fun p hp => hg p (few_sub hg p hp)
theorem few_len (hg : ∀ p ∈ ls, Gr.Good (n : Int) p) : (few n ls).length ≤ ls.length := List.Nodup.length_le_of_subset (lst_nodup n _) (few_sub hg)
/-- they are enough -/
theorem few_way {o : List Int} (hg : ∀ p ∈ ls, Gr.Good (n : Int) p) (hs : Step n ls o) (hl : o.length = n) {a b : Nat} (ha : a < n) : comes n (few n ls) a b = comes n ls a b := by
  have hf := few_good hg
  have key : ∀ d : Nat, ∀ a b : Nat, a < n → St.plc o (b : Int) - St.plc o (a : Int) ≤ (d : Int) → comes n ls a b = true → comes n (few n ls) a b = true := by
    intro d
    induction d with
    | zero =>
      intro a b ha hd h
      have := way_up hg hs hl ha h
      omega
    | succ d ih =>
      intro a b ha hd h
      have hb := way_lt hg ha h
      cases ht : thin n ls a b with
      | true => exact way_line hf (Gr.has_iff.2 (mem_lst.2 ⟨ha, hb, ht⟩))
      | false =>
        have hn : ¬ (∀ k, k < n → ¬ (comes n ls a k = true ∧ comes n ls k b = true)) := fun hall => by
          have := thin_iff.2 ⟨h, hall⟩
          rw [ht] at this
          cases this
        obtain ⟨k, hk, h1, h2⟩ : ∃ k, k < n ∧ comes n ls a k = true ∧ comes n ls k b = true := Classical.byContradiction fun hne => hn fun k hk hh => hne ⟨k, hk, hh.1, hh.2⟩
        have u1 := way_up hg hs hl ha h1
        have u2 := way_up hg hs hl hk h2
        exact way_trans hf ha (ih a k ha (by omega) h1) (ih k b hk (by omega) h2)
  rw [Bool.eq_iff_iff]
  constructor
  · exact way_along hg hf (fun u v huv => way_line hg (Gr.has_iff.2 (few_sub hg _ (Gr.has_iff.1 huv)))) ha
  · intro h
    exact key (St.plc o (b : Int) - St.plc o (a : Int)).toNat a b ha (by omega) h
/-- none can be spared -/
theorem few_least (hg : ∀ p ∈ ls, Gr.Good (n : Int) p) {ks : List Gr.Ln} {a b : Nat} (ha : a < n) (h : thin n ls a b = true) (hsub : ∀ p ∈ ks, p ∈ few n ls) (hno : (((a : Int), (b : Int)) : Gr.Ln) ∉ ks) : comes n ks a b = false := by
  have hk : ∀ p ∈ ks, Gr.Good (n : Int) p := fun p hp => few_good hg p (hsub p hp)
  have hst : ∀ u v : Nat, Gr.has ks (u : Int) (v : Int) = true → comes n ls u v = true := fun u v huv => way_line hg (Gr.has_iff.2 (few_sub hg _ (hsub _ (Gr.has_iff.1 huv))))
  cases hc : comes n ks a b with
  | false => rfl
  | true =>
    exfalso
    rcases way_first hk ha hc with h1 | ⟨c, hc, h1, h2⟩
    · exact hno (Gr.has_iff.1 h1)
    · exact (thin_iff.1 h).2 c hc ⟨hst _ _ h1, way_along hg hk hst hc h2⟩

/-! ### turned -/
theorem way_turn (hg : ∀ p ∈ ls, Gr.Good (n : Int) p) {a b : Nat} (ha : a < n) (hb : b < n) : comes n (Gr.back ls) b a = comes n ls a b := by
  rw [Bool.eq_iff_iff, comes_iff (To.good_back hg) hb, comes_iff hg ha]
  constructor
  · rintro ⟨k, hk, h⟩; exact ⟨k, hk, (To.wk_back ha hb).1 h⟩
  · rintro ⟨k, hk, h⟩; exact ⟨k, hk, (To.wk_back ha hb).2 h⟩
theorem thin_turn (hg : ∀ p ∈ ls, Gr.Good (n : Int) p) {a b : Nat} (ha : a < n) (hb : b < n) : thin n (Gr.back ls) b a = thin n ls a b := by
  rw [Bool.eq_iff_iff, thin_iff, thin_iff, way_turn hg ha hb]
  constructor
  · rintro ⟨h1, h2⟩
    exact ⟨h1, fun k hk h => h2 k hk ⟨by rw [way_turn hg hk hb]; exact h.2, by rw [way_turn hg ha hk]; exact h.1⟩⟩
  · rintro ⟨h1, h2⟩
    exact ⟨h1, fun k hk h => h2 k hk ⟨by rw [← way_turn hg ha hk]; exact h.2, by rw [← way_turn hg hk hb]; exact h.1⟩⟩
theorem few_turn (hg : ∀ p ∈ ls, Gr.Good (n : Int) p) : (few n ls).length = (few n (Gr.back ls)).length := by
  have key : ∀ ks : List Gr.Ln, (∀ p ∈ ks, Gr.Good (n : Int) p) → (few n ks).length ≤ (few n (Gr.back ks)).length := by
    intro ks hk
    have : ((few n ks).map fun p : Gr.Ln => (p.2, p.1)).length ≤ (few n (Gr.back ks)).length := by
      have hnd : ((few n ks).map fun p : Gr.Ln => (p.2, p.1)).Nodup := List.Pairwise.map _ (fun p q hpq e => hpq (Prod.ext (Prod.mk.inj e).2 (Prod.mk.inj e).1)) (lst_nodup n _)
      refine List.Nodup.length_le_of_subset hnd fun p hp => ?_
      obtain ⟨q, hq, rfl⟩ := List.mem_map.1 hp
      obtain ⟨a, b, rfl, ha, hb, h⟩ := lst_ends hq
      exact mem_lst.2 ⟨hb, ha, by rw [thin_turn hk ha hb]; exact h⟩
    simpa using this
  have h1 := key ls hg
  have h2 := key (Gr.back ls) (To.good_back hg)
  have e : few n (Gr.back (Gr.back ls)) = few n ls := by
    refine lst_congr fun a b ha hb => ?_
    rw [thin_turn (To.good_back hg) hb ha, thin_turn hg ha hb]
  rw [e] at h2
  omega
end

/-! ### rows -/
/-- where ways lead from a point -/
def crow (n : Nat) (ls : List Gr.Ln) (a : Nat) : List Int := ((List.range n).filter (comes n ls a)).map fun b => ((b : Nat) : Int)
def crows (n : Nat) (ls : List Gr.Ln) : List (List Int) := (List.range n).map (crow n ls)
theorem crow_has {n : Nat} {ls : List Gr.Ln} {a b : Nat} (hb : b < n) : (crow n ls a).contains (b : Int) = comes n ls a b := by
  rw [Bool.eq_iff_iff, List.contains_iff_mem]
  unfold crow
  rw [List.mem_map]
  constructor
  · rintro ⟨c, hc, e⟩
    obtain rfl : c = b := by omega
    exact (List.mem_filter.1 hc).2
  · intro h
    exact ⟨b, List.mem_filter.2 ⟨List.mem_range.2 hb, h⟩, rfl⟩
theorem mem_crow {n : Nat} {ls : List Gr.Ln} {a : Nat} {x : Int} (h : x ∈ crow n ls a) : ∃ b : Nat, x = (b : Int) ∧ b < n ∧ comes n ls a b = true := by
  obtain ⟨b, hb, rfl⟩ := List.mem_map.1 h
  exact ⟨b, rfl, List.mem_range.1 (List.mem_filter.1 hb).1, (List.mem_filter.1 hb).2⟩
theorem crows_same {n : Nat} {ls ks : List Gr.Ln} (h : ∀ a b : Nat, a < n → b < n → comes n ls a b = comes n ks a b) : crows n ls = crows n ks := by
  refine List.map_congr_left fun a ha => ?_
  unfold crow
  rw [List.filter_congr fun b hb => h a b (List.mem_range.1 ha) (List.mem_range.1 hb)]
theorem crows_len (n : Nat) (ls : List Gr.Ln) : (crows n ls).length = n := by simp [crows]
theorem crows_at {n : Nat} (ls : List Gr.Ln) {a : Nat} (ha : a < n) : (crows n ls).getD a [] = crow n ls a := by simp [crows, List.getD, ha]
theorem crow_len (n : Nat) (ls : List Gr.Ln) (a : Nat) : (crow n ls a).length ≤ n := by
  unfold crow
  rw [List.length_map]
  have := List.length_filter_le (comes n ls a) (List.range n)
  simpa using this
/-- rows of other ways differ -/
theorem crows_ne {n : Nat} {ls ks : List Gr.Ln} {a b : Nat} (ha : a < n) (hb : b < n) (h : comes n ls a b ≠ comes n ks a b) : crows n ls ≠ crows n ks := fun e => by
  have e1 : crow n ls a = crow n ks a := by rw [← crows_at ls ha, ← crows_at ks ha, e]
  have e2 := crow_has (ls := ls) (a := a) hb
  rw [e1, crow_has hb] at e2
  exact h e2.symm
end Go.Proofs.Ytinglgnddmadaaa.Cl
