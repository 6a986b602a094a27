/-
  Plain facts on points that ways lead to and back from, with no program in them: the least one of each part, the parts' numbers, the parts folded up (no way comes back, the same ways, folded once more it stays), turned lines, more lines. No statement of the program is proved here; there is no condition.
-/
import Derived.Test.YtoofpmajiphldaaDoorCloseP
import Derived.Test.YtoofpmajiphldaaDoorMatchK
set_option linter.unusedSimpArgs false
set_option linter.unusedVariables false
namespace Go.Proofs.YtoofpmajiphldaaDoor.Sg
open Wa (wk wk_zero wk_succ wk_add wk_one)
open To (frow mem_frow frow_ok comes comes_iff Step Ring)
open Cl (way_line way_lt way_trans way_first way_up way_along lst mem_lst has_lst lst_congr lst_ends)
open Ma (cnt)

/-- does a way lead there, of no line or more? -/
def reach (n : Nat) (ls : List Gr.Ln) (a b : Nat) : Bool := decide (0 ≤ Wa.dist n (frow n ls) a b)
/-- there and back -/
def both (n : Nat) (ls : List Gr.Ln) (a b : Nat) : Bool := reach n ls a b && reach n ls b a
section
variable {n : Nat} {ls : List Gr.Ln}
theorem reach_iff {a b : Nat} (ha : a < n) : reach n ls a b = true ↔ ∃ k, wk n (frow n ls) k a b = true := by
  unfold reach
  rw [decide_eq_true_eq]
  exact Wa.dist_nn (frow_ok n ls) ha
theorem reach_refl {a : Nat} (ha : a < n) : reach n ls a a = true := (reach_iff ha).2 ⟨0, wk_zero.2 rfl⟩
theorem reach_lt {a b : Nat} (ha : a < n) (h : reach n ls a b = true) : b < n := by
  obtain ⟨k, hk⟩ := (reach_iff ha).1 h
  exact Wa.wk_lt (frow_ok n ls) ha hk
theorem reach_trans {a b c : Nat} (ha : a < n) (h1 : reach n ls a b = true) (h2 : reach n ls b c = true) : reach n ls a c = true := by
  have hb := reach_lt ha h1
  obtain ⟨k, hk⟩ := (reach_iff ha).1 h1
  obtain ⟨j, hj⟩ := (reach_iff hb).1 h2
  exact (reach_iff ha).2 ⟨k + j, wk_add hk hj⟩
theorem reach_comes (hg : ∀ p ∈ ls, Gr.Good (n : Int) p) {a b : Nat} (ha : a < n) : reach n ls a b = true ↔ a = b ∨ comes n ls a b = true := by
  rw [reach_iff ha, comes_iff hg ha]
  constructor
  · rintro ⟨k, hk⟩
    cases k with
    | zero => exact .inl (wk_zero.1 hk)
    | succ k => exact .inr ⟨k + 1, by omega, hk⟩
  · rintro (rfl | ⟨k, _, hk⟩)
    · exact ⟨0, wk_zero.2 rfl⟩
    · exact ⟨k, hk⟩
theorem both_refl {a : Nat} (ha : a < n) : both n ls a a = true := by unfold both; rw [reach_refl ha]; rfl
theorem both_comm (a b : Nat) : both n ls a b = both n ls b a := by unfold both; rw [Bool.and_comm]
theorem both_lt {a b : Nat} (ha : a < n) (h : both n ls a b = true) : b < n := by
  unfold both at h
  simp only [Bool.and_eq_true] at h
  exact reach_lt ha h.1
theorem both_trans {a b c : Nat} (ha : a < n) (h1 : both n ls a b = true) (h2 : both n ls b c = true) : both n ls a c = true := by
  have hb := both_lt ha h1
  have hc := both_lt hb h2
  unfold both at *
  simp only [Bool.and_eq_true] at *
  exact ⟨reach_trans ha h1.1 h2.1, reach_trans hc h2.2 h1.2⟩
theorem both_iff (hg : ∀ p ∈ ls, Gr.Good (n : Int) p) {a b : Nat} (ha : a < n) (hb : b < n) : both n ls a b = true ↔ a = b ∨ (comes n ls a b = true ∧ comes n ls b a = true) := by
  unfold both
  rw [Bool.and_eq_true, reach_comes hg ha, reach_comes hg hb]
  constructor
  · rintro ⟨h1 | h1, h2 | h2⟩
    · exact .inl h1
    · exact .inl h1
    · exact .inl h2.symm
    · exact .inr ⟨h1, h2⟩
  · rintro (h | ⟨h1, h2⟩)
    · exact ⟨.inl h, .inl h.symm⟩
    · exact ⟨.inr h1, .inr h2⟩

/-! ### the least one -/
/-- the first from k on that a test takes -/
def first (p : Nat → Bool) : Nat → Nat → Nat
  | 0, k => k
  | f + 1, k => if p k then k else first p f (k + 1)
theorem first_spec {p : Nat → Bool} : ∀ (f k i : Nat), k ≤ i → i < k + f → p i = true → k ≤ first p f k ∧ first p f k ≤ i ∧ p (first p f k) = true ∧ ∀ j, k ≤ j → j < first p f k → p j = false
  | 0, k, i, h1, h2, _ => by omega
  | f + 1, k, i, h1, h2, hp => by
    unfold first
    by_cases hk : p k = true
    · rw [if_pos hk]
      exact ⟨Nat.le_refl _, h1, hk, fun j h3 h4 => by omega⟩
    · rw [if_neg hk]
      have hne : k ≠ i := fun e => hk (by rw [e]; exact hp)
      obtain ⟨a1, a2, a3, a4⟩ := first_spec f (k + 1) i (by omega) (by omega) hp
      refine ⟨by omega, a2, a3, fun j h3 h4 => ?_⟩
      by_cases e : j = k
      · rw [e]; simpa using hk
      · exact a4 j (by omega) h4
/-- the least one of a point's part -/
def pt (n : Nat) (ls : List Gr.Ln) (i : Nat) : Nat := first (both n ls i) n 0
theorem pt_spec {i : Nat} (hi : i < n) : pt n ls i ≤ i ∧ both n ls i (pt n ls i) = true ∧ ∀ j, j < pt n ls i → both n ls i j = false := by
  obtain ⟨_, a2, a3, a4⟩ := first_spec (p := both n ls i) n 0 i (Nat.zero_le _) (by omega) (both_refl hi)
  exact ⟨a2, a3, fun j hj => a4 j (Nat.zero_le _) hj⟩
theorem pt_only {i k : Nat} (hi : i < n) (h1 : both n ls i k = true) (h2 : ∀ j, j < k → both n ls i j = false) : k = pt n ls i := by
  obtain ⟨_, a2, a3⟩ := pt_spec (ls := ls) hi
  rcases Nat.lt_trichotomy k (pt n ls i) with h | h | h
  · rw [a3 k h] at h1; cases h1
  · exact h
  · rw [h2 _ h] at a2; cases a2
theorem pt_eq {a b : Nat} (ha : a < n) (hb : b < n) : pt n ls a = pt n ls b ↔ both n ls a b = true := by
  obtain ⟨_, a2, a3⟩ := pt_spec (ls := ls) ha
  obtain ⟨_, b2, b3⟩ := pt_spec (ls := ls) hb
  constructor
  · intro e
    rw [← e, both_comm] at b2
    exact both_trans ha a2 b2
  · intro h
    refine pt_only hb (both_trans hb (by rw [both_comm]; exact h) a2) fun j hj => ?_
    cases hh : both n ls b j with
    | false => rfl
    | true => rw [← a3 j hj]; exact (both_trans ha h hh).symm
theorem pt_pt {i : Nat} (hi : i < n) : pt n ls (pt n ls i) = pt n ls i := by
  obtain ⟨a1, a2, _⟩ := pt_spec (ls := ls) hi
  exact (pt_eq (by omega) hi).2 (by rw [both_comm]; exact a2)
def parts (n : Nat) (ls : List Gr.Ln) : List Int := (List.range n).map fun i => ((pt n ls i : Nat) : Int)
theorem parts_len (n : Nat) (ls : List Gr.Ln) : (parts n ls).length = n := by simp [parts]
theorem parts_at {i : Nat} (hi : i < n) : (parts n ls).getD i 0 = ((pt n ls i : Nat) : Int) := by simp [parts, List.getD, hi]

/-! ### the parts' numbers -/
/-- is it the least one of its part? -/
def isl (n : Nat) (ls : List Gr.Ln) (i : Nat) : Bool := decide (pt n ls i = i)
/-- how many parts begin below k -/
def below (n : Nat) (ls : List Gr.Ln) (k : Nat) : Nat := cnt k (isl n ls)
def many (n : Nat) (ls : List Gr.Ln) : Nat := below n ls n
/-- the number of a point's part -/
def nm (n : Nat) (ls : List Gr.Ln) (i : Nat) : Nat := below n ls (pt n ls i)
theorem below_succ (k : Nat) : below n ls (k + 1) = below n ls k + if isl n ls k = true then 1 else 0 := by
  unfold below cnt
  rw [List.range_succ, List.countP_append, List.countP_singleton]
theorem below_mono {j : Nat} : ∀ {k : Nat}, j ≤ k → below n ls j ≤ below n ls k
  | 0, h => by obtain rfl : j = 0 := by omega
               exact Nat.le_refl _
  | k + 1, h => by
    by_cases e : j = k + 1
    · rw [e]; exact Nat.le_refl _
    · have := below_mono (j := j) (k := k) (by omega)
      rw [below_succ]
      omega
theorem below_lt {j k : Nat} (h : j < k) (hl : isl n ls j = true) : below n ls j < below n ls k := by
  have := below_succ (n := n) (ls := ls) j
  rw [if_pos hl] at this
  have := below_mono (n := n) (ls := ls) (show j + 1 ≤ k from h)
  omega
theorem isl_pt {i : Nat} (hi : i < n) : isl n ls (pt n ls i) = true := by unfold isl; rw [decide_eq_true_eq]; exact pt_pt hi
theorem nm_lt {i : Nat} (hi : i < n) : nm n ls i < many n ls := by
  have := (pt_spec (ls := ls) hi).1
  exact below_lt (by omega) (isl_pt hi)
theorem nm_eq {a b : Nat} (ha : a < n) (hb : b < n) : nm n ls a = nm n ls b ↔ both n ls a b = true := by
  rw [← pt_eq ha hb]
  constructor
  · intro h
    rcases Nat.lt_trichotomy (pt n ls a) (pt n ls b) with hl | hl | hl
    · have := below_lt hl (isl_pt ha); unfold nm at h; omega
    · exact hl
    · have := below_lt hl (isl_pt hb); unfold nm at h; omega
  · intro h; unfold nm; rw [h]
/-- the numbers as they come: a new one is the next one -/
theorem nm_next {i : Nat} (hi : i < n) : (isl n ls i = true ∧ nm n ls i = below n ls i) ∨ (isl n ls i = false ∧ nm n ls i < below n ls i) := by
  obtain ⟨a1, _, _⟩ := pt_spec (ls := ls) hi
  by_cases h : pt n ls i = i
  · exact .inl ⟨by unfold isl; simpa using h, by unfold nm; rw [h]⟩
  · exact .inr ⟨by unfold isl; simpa using h, below_lt (by omega) (isl_pt hi)⟩
theorem many_le (n : Nat) (ls : List Gr.Ln) : many n ls ≤ n := Ma.cnt_le n _
theorem many_pos (h : 0 < n) : 0 < many n ls := by have := nm_lt (ls := ls) h; omega
/-- each number is one of a point -/
theorem nm_ex : ∀ k, k ≤ n → ∀ c, c < below n ls k → ∃ i, i < k ∧ isl n ls i = true ∧ nm n ls i = c
  | 0, _, c, hc => by simp [below, cnt] at hc
  | k + 1, hk, c, hc => by
    rw [below_succ] at hc
    by_cases hl : isl n ls k = true
    · rw [if_pos hl] at hc
      by_cases e : c = below n ls k
      · refine ⟨k, by omega, hl, ?_⟩
        have hp : pt n ls k = k := by unfold isl at hl; simpa using hl
        unfold nm; rw [hp, e]
      · obtain ⟨i, hi, h1, h2⟩ := nm_ex k (by omega) c (by omega)
        exact ⟨i, by omega, h1, h2⟩
    · rw [if_neg hl] at hc
      obtain ⟨i, hi, h1, h2⟩ := nm_ex k (by omega) c (by omega)
      exact ⟨i, by omega, h1, h2⟩
def nums (n : Nat) (ls : List Gr.Ln) : List Int := (List.range n).map fun i => ((nm n ls i : Nat) : Int)
theorem nums_len (n : Nat) (ls : List Gr.Ln) : (nums n ls).length = n := by simp [nums]
theorem nums_at {i : Nat} (hi : i < n) : (nums n ls).getD i 0 = ((nm n ls i : Nat) : Int) := by simp [nums, List.getD, hi]
/-- the least ones, rising -/
def leasts (n : Nat) (ls : List Gr.Ln) (k : Nat) : List Int := ((List.range k).filter (isl n ls)).map fun i => ((i : Nat) : Int)
theorem leasts_succ (k : Nat) : leasts n ls (k + 1) = if isl n ls k = true then leasts n ls k ++ [(k : Int)] else leasts n ls k := by
  unfold leasts
  rw [List.range_succ, List.filter_append]
  by_cases h : isl n ls k = true
  · rw [if_pos h]; simp [h]
  · rw [if_neg h]; simp [h]
theorem leasts_len (k : Nat) : (leasts n ls k).length = below n ls k := by
  unfold leasts below cnt
  rw [List.length_map, List.countP_eq_length_filter]

/-! ### folded up -/
/-- does a line lead from one part to another one? -/
def fr (n : Nat) (ls : List Gr.Ln) (a b : Nat) : Bool := !decide (a = b) && ls.any fun p => decide (nm n ls p.1.toNat = a) && decide (nm n ls p.2.toNat = b)
def folded (n : Nat) (ls : List Gr.Ln) : List Gr.Ln := lst (many n ls) (fr n ls)
theorem fr_iff (hg : ∀ p ∈ ls, Gr.Good (n : Int) p) {a b : Nat} : fr n ls a b = true ↔ a ≠ b ∧ ∃ u v : Nat, u < n ∧ v < n ∧ Gr.has ls (u : Int) (v : Int) = true ∧ nm n ls u = a ∧ nm n ls v = b := by
  unfold fr
  rw [Bool.and_eq_true, List.any_eq_true]
  simp only [Bool.not_eq_true', decide_eq_false_iff_not, Bool.and_eq_true, decide_eq_true_eq]
  constructor
  · rintro ⟨h1, p, hp, h2, h3⟩
    have := hg p hp
    unfold Gr.Good at this
    refine ⟨h1, p.1.toNat, p.2.toNat, by omega, by omega, Gr.has_iff.2 ?_, h2, h3⟩
    rw [show ((p.1.toNat : Nat) : Int) = p.1 by omega, show ((p.2.toNat : Nat) : Int) = p.2 by omega]
    exact hp
  · rintro ⟨h1, u, v, hu, hv, hh, h2, h3⟩
    exact ⟨h1, ((u : Int), (v : Int)), Gr.has_iff.1 hh, by simpa using h2, by simpa using h3⟩
theorem folded_good : ∀ p ∈ folded n ls, Gr.Good (many n ls : Int) p := by
  intro p hp
  obtain ⟨a, b, rfl, ha, hb, h⟩ := lst_ends hp
  have hne : a ≠ b := by unfold fr at h; simp only [Bool.and_eq_true, Bool.not_eq_true', decide_eq_false_iff_not] at h; exact h.1
  unfold Gr.Good
  simp only
  omega
theorem fold_line (hg : ∀ p ∈ ls, Gr.Good (n : Int) p) {x y : Nat} (h : Gr.has (folded n ls) (x : Int) (y : Int) = true) : x ≠ y ∧ ∃ u v : Nat, u < n ∧ v < n ∧ Gr.has ls (u : Int) (v : Int) = true ∧ nm n ls u = x ∧ nm n ls v = y := (fr_iff hg).1 (mem_lst.1 (Gr.has_iff.1 h)).2.2
/-- a way of the folded lines is one of the lines -/
theorem fold_way (hg : ∀ p ∈ ls, Gr.Good (n : Int) p) : ∀ (k x y : Nat), wk (many n ls) (frow (many n ls) (folded n ls)) (k + 1) x y = true → ∀ a b, a < n → b < n → nm n ls a = x → nm n ls b = y → comes n ls a b = true
  | 0, x, y, h, a, b, ha, hb, ea, eb => by
    obtain ⟨c, hc, h1, h2⟩ := wk_succ.1 h
    obtain rfl := wk_zero.1 h1
    obtain ⟨_, u, v, hu, hv, hh, e1, e2⟩ := fold_line hg (mem_frow.1 h2).2
    have r1 := (nm_eq (ls := ls) ha hu).1 (ea.trans e1.symm)
    have r2 := (nm_eq (ls := ls) hv hb).1 (e2.trans eb.symm)
    unfold both at r1 r2
    simp only [Bool.and_eq_true] at r1 r2
    have h3 := way_line hg hh
    rcases (reach_comes hg ha).1 r1.1 with rfl | r1
    · rcases (reach_comes hg hv).1 r2.1 with rfl | r2
      · exact h3
      · exact way_trans hg ha h3 r2
    · rcases (reach_comes hg hv).1 r2.1 with rfl | r2
      · exact way_trans hg ha r1 h3
      · exact way_trans hg ha (way_trans hg ha r1 h3) r2
  | k + 1, x, y, h, a, b, ha, hb, ea, eb => by
    obtain ⟨c, hc, h1, h2⟩ := wk_succ.1 h
    obtain ⟨_, u, v, hu, hv, hh, e1, e2⟩ := fold_line hg (mem_frow.1 h2).2
    have h3 := fold_way hg k x c h1 a u ha hu ea e1
    have r2 := (nm_eq (ls := ls) hv hb).1 (e2.trans eb.symm)
    unfold both at r2
    simp only [Bool.and_eq_true] at r2
    have h4 := way_trans hg ha h3 (way_line hg hh)
    rcases (reach_comes hg hv).1 r2.1 with rfl | r2
    · exact h4
    · exact way_trans hg ha h4 r2
/-- and the other way round -/
theorem way_fold (hg : ∀ p ∈ ls, Gr.Good (n : Int) p) {a : Nat} (ha : a < n) : ∀ (k b : Nat), wk n (frow n ls) k a b = true → reach (many n ls) (folded n ls) (nm n ls a) (nm n ls b) = true
  | 0, b, h => by
    obtain rfl := wk_zero.1 h
    exact reach_refl (nm_lt ha)
  | k + 1, b, h => by
    obtain ⟨c, hc, h1, h2⟩ := wk_succ.1 h
    have ih := way_fold hg ha k c h1
    have hl := mem_frow.1 h2
    by_cases e : nm n ls c = nm n ls b
    · rw [← e]; exact ih
    · have hf : Gr.has (folded n ls) ((nm n ls c : Nat) : Int) ((nm n ls b : Nat) : Int) = true := Gr.has_iff.2 (mem_lst.2 ⟨nm_lt hc, nm_lt hl.1, (fr_iff hg).2 ⟨e, c, b, hc, hl.1, hl.2, rfl, rfl⟩⟩)
      exact reach_trans (nm_lt ha) ih ((reach_comes folded_good (nm_lt hc)).2 (.inr (way_line folded_good hf)))
/-- the same ways -/
theorem fold_same (hg : ∀ p ∈ ls, Gr.Good (n : Int) p) {a b : Nat} (ha : a < n) (hb : b < n) (hne : nm n ls a ≠ nm n ls b) : comes (many n ls) (folded n ls) (nm n ls a) (nm n ls b) = comes n ls a b := by
  rw [Bool.eq_iff_iff]
  constructor
  · intro h
    obtain ⟨k, hk, hw⟩ := (comes_iff folded_good (nm_lt ha)).1 h
    obtain ⟨d, rfl⟩ : ∃ d, k = d + 1 := ⟨k - 1, by omega⟩
    exact fold_way hg d _ _ hw a b ha hb rfl rfl
  · intro h
    obtain ⟨k, hk, hw⟩ := (comes_iff hg ha).1 h
    rcases (reach_comes folded_good (nm_lt ha)).1 (way_fold hg ha k b hw) with h1 | h1
    · exact absurd h1 hne
    · exact h1
/-- no way comes back -/
theorem fold_no_ring (hg : ∀ p ∈ ls, Gr.Good (n : Int) p) {x : Nat} (hx : x < many n ls) : comes (many n ls) (folded n ls) x x = false := by
  cases hc : comes (many n ls) (folded n ls) x x with
  | false => rfl
  | true =>
    exfalso
    have hf := folded_good (n := n) (ls := ls)
    obtain ⟨a, ha, _, ea⟩ := nm_ex (ls := ls) n (Nat.le_refl _) x hx
    rcases way_first hf hx hc with h | ⟨c, hcm, h1, h2⟩
    · exact (fold_line hg h).1 rfl
    · obtain ⟨hne, u, v, hu, hv, hh, e1, e2⟩ := fold_line hg h1
      obtain ⟨k, hk, hw⟩ := (comes_iff hf hcm).1 h2
      obtain ⟨d, rfl⟩ : ∃ d, k = d + 1 := ⟨k - 1, by omega⟩
      have h3 := fold_way hg d _ _ hw v u hv hu e2 e1
      have : both n ls u v = true := (both_iff hg hu hv).2 (.inr ⟨way_line hg hh, h3⟩)
      exact hne (by rw [← e1, ← e2]; exact (nm_eq hu hv).2 this)
theorem fold_order (hg : ∀ p ∈ ls, Gr.Good (n : Int) p) : ∃ o, Step (many n ls) (folded n ls) o ∧ o.length = many n ls := by
  rcases To.order_or_ring (folded_good (n := n) (ls := ls)) with h | ⟨i, k, hi, hk, hw⟩
  · exact h
  · have := (comes_iff (folded_good (n := n) (ls := ls)) hi).2 ⟨k, hk, hw⟩
    rw [fold_no_ring hg hi] at this
    cases this
/-- where no way comes back each point is a part of its own -/
theorem alone (hg : ∀ p ∈ ls, Gr.Good (n : Int) p) (h : ∀ i, i < n → comes n ls i i = false) : (∀ i, i < n → pt n ls i = i) ∧ (∀ k, k ≤ n → below n ls k = k) ∧ ∀ i, i < n → nm n ls i = i := by
  have h1 : ∀ i, i < n → pt n ls i = i := fun i hi => by
    obtain ⟨a1, a2, _⟩ := pt_spec (ls := ls) hi
    rcases (both_iff hg hi (by omega)).1 a2 with e | ⟨b1, b2⟩
    · exact e.symm
    · have := way_trans hg hi b1 b2
      rw [h i hi] at this
      cases this
  have h2 : ∀ k, k ≤ n → below n ls k = k := by
    intro k
    induction k with
    | zero => intro _; rfl
    | succ k ih =>
      intro hk
      rw [below_succ, ih (by omega), if_pos (by unfold isl; simpa using h1 k (by omega))]
  exact ⟨h1, h2, fun i hi => by unfold nm; rw [h1 i hi, h2 i (by omega)]⟩
/-- folded once more it stays -/
theorem fold_fold (hg : ∀ p ∈ ls, Gr.Good (n : Int) p) : many (many n ls) (folded n ls) = many n ls ∧ (∀ i, i < many n ls → nm (many n ls) (folded n ls) i = i) ∧ folded (many n ls) (folded n ls) = folded n ls := by
  obtain ⟨_, h2, h3⟩ := alone (folded_good (n := n) (ls := ls)) (fun i hi => fold_no_ring hg hi)
  have hm : many (many n ls) (folded n ls) = many n ls := h2 _ (Nat.le_refl _)
  refine ⟨hm, h3, ?_⟩
  have e : folded (many n ls) (folded n ls) = lst (many n ls) (fr (many n ls) (folded n ls)) := by unfold folded; rw [show many (many n ls) (lst (many n ls) (fr n ls)) = many n ls from hm]
  rw [e]
  refine lst_congr fun a b ha hb => ?_
  rw [Bool.eq_iff_iff, fr_iff folded_good]
  constructor
  · rintro ⟨hne, u, v, hu, hv, hh, e1, e2⟩
    rw [h3 u hu] at e1
    rw [h3 v hv] at e2
    subst e1 e2
    exact (mem_lst.1 (Gr.has_iff.1 hh)).2.2
  · intro h
    have hne : a ≠ b := ((fr_iff hg).1 h).1
    exact ⟨hne, a, b, ha, hb, Gr.has_iff.2 (mem_lst.2 ⟨ha, hb, h⟩), h3 a ha, h3 b hb⟩

/-! ### turned lines, and more of them -/
theorem both_turn (hg : ∀ p ∈ ls, Gr.Good (n : Int) p) {a b : Nat} (ha : a < n) (hb : b < n) : both n (Gr.back ls) a b = both n ls a b := by
  rw [Bool.eq_iff_iff, both_iff (To.good_back hg) ha hb, both_iff hg ha hb, Cl.way_turn hg hb ha, Cl.way_turn hg ha hb]
  constructor <;> (rintro (h | ⟨h1, h2⟩); exact .inl h; exact .inr ⟨h2, h1⟩)
theorem first_congr {p q : Nat → Bool} : ∀ (f k : Nat), (∀ j, k ≤ j → j < k + f → p j = q j) → first p f k = first q f k
  | 0, _, _ => rfl
  | f + 1, k, h => by
    unfold first
    rw [h k (Nat.le_refl _) (by omega), first_congr f (k + 1) fun j h1 h2 => h j (by omega) (by omega)]
theorem parts_turn (hg : ∀ p ∈ ls, Gr.Good (n : Int) p) : parts n (Gr.back ls) = parts n ls := by
  refine List.map_congr_left fun i hi => ?_
  have hi' := List.mem_range.1 hi
  unfold pt
  rw [first_congr n 0 fun j _ hj => both_turn hg hi' (by omega)]
theorem both_more {ks : List Gr.Ln} (hg : ∀ p ∈ ls, Gr.Good (n : Int) p) (hk : ∀ p ∈ ks, Gr.Good (n : Int) p) (hsub : ∀ p ∈ ls, p ∈ ks) {a b : Nat} (ha : a < n) (hb : b < n) (h : both n ls a b = true) : both n ks a b = true := by
  have key : ∀ u v : Nat, u < n → comes n ls u v = true → comes n ks u v = true := fun u v hu h => way_along hk hg (fun x y hxy => way_line hk (Gr.has_iff.2 (hsub _ (Gr.has_iff.1 hxy)))) hu h
  rcases (both_iff hg ha hb).1 h with e | ⟨h1, h2⟩
  · exact (both_iff hk ha hb).2 (.inl e)
  · exact (both_iff hk ha hb).2 (.inr ⟨key a b ha h1, key b a hb h2⟩)
end
end Go.Proofs.YtoofpmajiphldaaDoor.Sg
