/-
  Plain facts on package common, with no program in them: whom each point hangs on, as a list; the way as integers, point by point; what is wrong, as a number. No statement of the program is proved here; there is no condition.
-/
import Derived.Test.YtojkjdccjomaaaaDoorCommonP
set_option linter.unusedSimpArgs false
set_option linter.unusedVariables false
namespace Go.Proofs.YtojkjdccjomaaaaDoor.Co
open Tr (Met Tree far ad tcode tcode_zero)
open Sg (first first_spec)

/-! ### what is wrong -/
/-- with the tree, then with a root -/
def ccode (n : Int) (ls : List Gr.Ln) (r : Int) : Int := if tcode n ls ≠ 0 then tcode n ls else if r < 0 ∨ n ≤ r then 1 else 0
/-- with those, then with a point or two -/
def ocode (n : Int) (ls : List Gr.Ln) (r a b : Int) : Int := if ccode n ls r ≠ 0 then ccode n ls r else if (a < 0 ∨ n ≤ a) ∨ (b < 0 ∨ n ≤ b) then 1 else 0
/-- with the tree, then with the two ends of a way -/
def ycode (n : Int) (ls : List Gr.Ln) (a b : Int) : Int := if tcode n ls ≠ 0 then tcode n ls else if (a < 0 ∨ n ≤ a) ∨ (b < 0 ∨ n ≤ b) then 1 else 0
theorem ccode_bad {n r : Int} {ls : List Gr.Ln} (h : tcode n ls ≠ 0) : ccode n ls r = tcode n ls := if_pos h
theorem ccode_range {n r : Int} {ls : List Gr.Ln} (h : tcode n ls = 0) (hr : r < 0 ∨ n ≤ r) : ccode n ls r = 1 := by unfold ccode; rw [if_neg (by simpa using h), if_pos hr]
theorem ccode_zero {n r : Int} {ls : List Gr.Ln} : ccode n ls r = 0 ↔ tcode n ls = 0 ∧ 0 ≤ r ∧ r < n := by
  unfold ccode
  by_cases h : tcode n ls = 0
  · rw [if_neg (by simpa using h)]
    by_cases hr : r < 0 ∨ n ≤ r
    · rw [if_pos hr]; omega
    · rw [if_neg hr]; omega
  · rw [if_pos h]; exact ⟨fun e => absurd e h, fun e => absurd e.1 h⟩
theorem ocode_bad {n r a b : Int} {ls : List Gr.Ln} (h : ccode n ls r ≠ 0) : ocode n ls r a b = ccode n ls r := if_pos h
theorem ocode_range {n r a b : Int} {ls : List Gr.Ln} (h : ccode n ls r = 0) (hr : (a < 0 ∨ n ≤ a) ∨ (b < 0 ∨ n ≤ b)) : ocode n ls r a b = 1 := by unfold ocode; rw [if_neg (by simpa using h), if_pos hr]
theorem ocode_zero {n r a b : Int} {ls : List Gr.Ln} : ocode n ls r a b = 0 ↔ ccode n ls r = 0 ∧ (0 ≤ a ∧ a < n) ∧ (0 ≤ b ∧ b < n) := by
  unfold ocode
  by_cases h : ccode n ls r = 0
  · rw [if_neg (by simpa using h)]
    by_cases hr : (a < 0 ∨ n ≤ a) ∨ (b < 0 ∨ n ≤ b)
    · rw [if_pos hr]; omega
    · rw [if_neg hr]; omega
  · rw [if_pos h]; exact ⟨fun e => absurd e h, fun e => absurd e.1 h⟩
theorem ycode_bad {n a b : Int} {ls : List Gr.Ln} (h : tcode n ls ≠ 0) : ycode n ls a b = tcode n ls := if_pos h
theorem ycode_range {n a b : Int} {ls : List Gr.Ln} (h : tcode n ls = 0) (hr : (a < 0 ∨ n ≤ a) ∨ (b < 0 ∨ n ≤ b)) : ycode n ls a b = 1 := by unfold ycode; rw [if_neg (by simpa using h), if_pos hr]
theorem ycode_zero {n a b : Int} {ls : List Gr.Ln} : ycode n ls a b = 0 ↔ tcode n ls = 0 ∧ (0 ≤ a ∧ a < n) ∧ (0 ≤ b ∧ b < n) := by
  unfold ycode
  by_cases h : tcode n ls = 0
  · rw [if_neg (by simpa using h)]
    by_cases hr : (a < 0 ∨ n ≤ a) ∨ (b < 0 ∨ n ≤ b)
    · rw [if_pos hr]; omega
    · rw [if_neg hr]; omega
  · rw [if_pos h]; exact ⟨fun e => absurd e h, fun e => absurd e.1 h⟩
theorem ycode_ccode {n a b : Int} {ls : List Gr.Ln} (h : ccode n ls b ≠ 0) : ycode n ls a b = ccode n ls b := by
  by_cases ht : tcode n ls = 0
  · have hr : b < 0 ∨ n ≤ b := by
      rcases Classical.em (b < 0 ∨ n ≤ b) with hr | hr
      · exact hr
      · exact absurd (ccode_zero.2 ⟨ht, by omega, by omega⟩) h
    rw [ycode_range ht (.inr hr), ccode_range ht hr]
  · rw [ycode_bad ht, ccode_bad ht]
theorem ocode_swap {n r a b : Int} {ls : List Gr.Ln} : ocode n ls r b a = ocode n ls r a b := by
  unfold ocode
  by_cases h : ccode n ls r ≠ 0
  · rw [if_pos h, if_pos h]
  · rw [if_neg h, if_neg h]
    by_cases hr : (a < 0 ∨ n ≤ a) ∨ (b < 0 ∨ n ≤ b)
    · rw [if_pos hr, if_pos hr.symm]
    · rw [if_neg hr, if_neg (fun h => hr h.symm)]

/-! ### whom each one hangs on -/
section
variable {m : Nat} {ls : List Gr.Ln}
def way (m : Nat) (ls : List Gr.Ln) (a b : Nat) : List Nat := wy m (ad ls) (far m ls) a b
def upI (m : Nat) (ls : List Gr.Ln) (r v : Nat) : Int := if v = r then -1 else (nx m (ad ls) (far m ls) r v : Int)
def ups (m : Nat) (ls : List Gr.Ln) (r : Nat) : List Int := (List.range m).map (upI m ls r)
theorem ups_len (m : Nat) (ls : List Gr.Ln) (r : Nat) : (ups m ls r).length = m := by simp [ups]
theorem ups_at (ls : List Gr.Ln) (r : Nat) {v : Nat} (hv : v < m) : (ups m ls r).getD v 0 = upI m ls r v := by simp [ups, List.getD, hv]
theorem far_eq (h : Tree m ls) {r v : Nat} (hr : r < m) (hv : v < m) : (Wa.dists m (Wa.nrow m ls) r).getD v 0 = (far m ls r v : Int) := by
  rw [Wa.dists_at _ _ hv]
  have := h.con r v hr hv
  unfold far
  omega
theorem far_lt (h : Tree m ls) {a b : Nat} (ha : a < m) (hb : b < m) : far m ls a b < m := h.met.lt ha hb
/-- who is nearer, of those beside a point: the one it hangs on -/
theorem row_near (h : Tree m ls) {r v : Nat} (hr : r < m) (hv : v < m) : ∀ x ∈ Gr.row m ls v, ∃ u : Nat, x = (u : Int) ∧ u < m ∧ ((Wa.dists m (Wa.nrow m ls) r).getD u 0 < (Wa.dists m (Wa.nrow m ls) r).getD v 0 ↔ (u : Int) = upI m ls r v) := by
  intro x hx
  obtain ⟨h1, h2, h3⟩ := Gr.mem_row.1 hx
  obtain ⟨u, rfl⟩ : ∃ u : Nat, x = (u : Int) := ⟨x.toNat, by omega⟩
  have hu : u < m := by omega
  refine ⟨u, rfl, hu, ?_⟩
  rw [far_eq h hr hu, far_eq h hr hv]
  unfold upI
  by_cases he : v = r
  · rw [if_pos he]
    have h0 : far m ls r v = 0 := by rw [he]; exact (h.met.zero r r hr hr).2 rfl
    omega
  · rw [if_neg he]
    have hn := nx_iff h.met hv hr he hu
    rw [h.met.sym u r hu hr, h.met.sym v r hv hr] at hn
    constructor
    · intro hd
      rw [hn.1 ⟨h3, by omega⟩]
    · intro e
      have := (hn.2 (by omega)).2
      omega
theorem row_has (h : Tree m ls) {r v : Nat} (hr : r < m) (hv : v < m) (hne : v ≠ r) : upI m ls r v ∈ Gr.row m ls v := by
  obtain ⟨h1, h2, h3⟩ := nx_spec h.met hv hr hne
  unfold upI
  rw [if_neg hne]
  exact Gr.mem_row.2 ⟨by omega, by omega, h2⟩
theorem upI_root (ls : List Gr.Ln) (r : Nat) : upI m ls r r = -1 := if_pos rfl
theorem upI_ne (ls : List Gr.Ln) {r v : Nat} (h : v ≠ r) : upI m ls r v = (nx m (ad ls) (far m ls) r v : Int) := if_neg h

/-! ### the way, point by point; behind its end: -1 -/
def wayI (m : Nat) (ls : List Gr.Ln) (a b : Nat) : List Int := (way m ls a b).map fun x : Nat => (x : Int)
def pos (m : Nat) (ls : List Gr.Ln) (a b k : Nat) : Int := if k ≤ far m ls a b then ((way m ls a b).getD k 0 : Int) else -1
theorem wayI_len (h : Tree m ls) {a b : Nat} (ha : a < m) (hb : b < m) : (wayI m ls a b).length = far m ls a b + 1 := by
  unfold wayI; rw [List.length_map]; exact wy_len h.met ha hb
theorem wayI_at (h : Tree m ls) {a b k : Nat} (ha : a < m) (hb : b < m) (hk : k ≤ far m ls a b) : (wayI m ls a b).getD k 0 = ((way m ls a b).getD k 0 : Int) := by
  have hl : k < (way m ls a b).length := by have := wy_len h.met ha hb; unfold way; omega
  simp [wayI, List.getD, hl]
theorem pos_zero (h : Tree m ls) {a b : Nat} (ha : a < m) (hb : b < m) : pos m ls a b 0 = (a : Int) := by
  unfold pos; rw [if_pos (Nat.zero_le _)]; unfold way; rw [wy_zero h.met ha hb]
theorem pos_in (h : Tree m ls) {a b k : Nat} (ha : a < m) (hb : b < m) (hk : k ≤ far m ls a b) : ∃ v : Nat, pos m ls a b k = (v : Int) ∧ v < m ∧ v = (way m ls a b).getD k 0 ∧ upI m ls b v = pos m ls a b (k + 1) ∧ far m ls v b + k = far m ls a b := by
  obtain ⟨h1, h2, h3⟩ := wy_at h.met ha hb hk
  refine ⟨(way m ls a b).getD k 0, if_pos hk, h1, rfl, ?_, ?_⟩
  · unfold pos upI
    by_cases hlt : k < far m ls a b
    · rw [if_neg (show ¬ (way m ls a b).getD k 0 = b from wy_ne h.met ha hb hlt), if_pos (show k + 1 ≤ far m ls a b by omega)]
      unfold way
      rw [wy_next h.met ha hb hlt]
    · obtain rfl : k = far m ls a b := by omega
      rw [if_pos (show (way m ls a b).getD (far m ls a b) 0 = b from wy_last h.met ha hb), if_neg (by omega)]
  · unfold On at h3
    unfold way
    omega
theorem pos_end (ls : List Gr.Ln) {a b k : Nat} (hk : far m ls a b < k) : pos m ls a b k = -1 := if_neg (by omega)
theorem wayI_take (h : Tree m ls) {a b k : Nat} (ha : a < m) (hb : b < m) (hk : k ≤ far m ls a b) : (wayI m ls a b).take (k + 1) = (wayI m ls a b).take k ++ [pos m ls a b k] := by
  have hl : k < (wayI m ls a b).length := by rw [wayI_len h ha hb]; omega
  rw [List.take_add_one]
  congr 1
  have := wayI_at h ha hb hk
  unfold pos
  rw [if_pos hk, ← this]
  simp [List.getD, hl]
theorem wayI_all (h : Tree m ls) {a b k : Nat} (ha : a < m) (hb : b < m) (hk : far m ls a b < k) : (wayI m ls a b).take k = wayI m ls a b := List.take_of_length_le (by rw [wayI_len h ha hb]; omega)
theorem wayI_has (m : Nat) (ls : List Gr.Ln) (a b v : Nat) : (wayI m ls a b).contains (v : Int) = decide (v ∈ way m ls a b) := by
  unfold wayI
  rw [Bool.eq_iff_iff, List.contains_iff_mem, List.mem_map, decide_eq_true_eq]
  exact ⟨fun ⟨x, hx, e⟩ => by rw [← Int.ofNat.inj e]; exact hx, fun h => ⟨v, h, rfl⟩⟩
/-- how much there is still to go -/
def mu (m : Nat) (ls : List Gr.Ln) (b : Nat) (x : Int) : Nat := if 0 ≤ x then far m ls x.toNat b + 1 else 0
theorem mu_lt (h : Tree m ls) {a b k : Nat} (ha : a < m) (hb : b < m) (hk : k ≤ far m ls a b) : mu m ls b (pos m ls a b (k + 1)) < mu m ls b (pos m ls a b k) := by
  obtain ⟨v, e1, e2, _, _, e5⟩ := pos_in h ha hb hk
  rw [e1]
  unfold mu
  rw [if_pos (show (0 : Int) ≤ (v : Int) by omega), Int.toNat_natCast]
  by_cases hlt : k + 1 ≤ far m ls a b
  · obtain ⟨u, f1, f2, _, _, f5⟩ := pos_in h ha hb hlt
    rw [f1, if_pos (show (0 : Int) ≤ (u : Int) by omega), Int.toNat_natCast]
    omega
  · rw [pos_end ls (by omega), if_neg (by omega)]
    omega
/-- the first one from b on, upward, that a hangs on, too -/
theorem low_at (h : Tree m ls) {r a b k : Nat} (hr : r < m) (ha : a < m) (hb : b < m) (hk : k ≤ far m ls b r) (hin : (way m ls b r).getD k 0 ∈ way m ls a r)
    (hno : ∀ j, j < k → (way m ls b r).getD j 0 ∉ way m ls a r) : Low m (far m ls) r a b ((way m ls b r).getD k 0) := (low_first h.met hr hb ha hk hin hno).comm
theorem low_last (h : Tree m ls) {r a b : Nat} (hr : r < m) (ha : a < m) (hb : b < m) : (way m ls b r).getD (far m ls b r) 0 ∈ way m ls a r := low_bound h.met hr hb ha
/-- whom two hang on in common, the farthest from the root -/
instance (n : Nat) (D : Nat → Nat → Nat) (r a b v : Nat) : Decidable (Low n D r a b v) := by unfold Low On; infer_instance
def lowN (m : Nat) (ls : List Gr.Ln) (r a b : Nat) : Nat := first (fun v => decide (Low m (far m ls) r a b v)) m 0
theorem low_is (h : Tree m ls) {r a b : Nat} (hr : r < m) (ha : a < m) (hb : b < m) : Low m (far m ls) r a b (lowN m ls r a b) := by
  obtain ⟨v, hv⟩ := low_ex h.met hr ha hb
  obtain ⟨_, _, h3, _⟩ := first_spec (p := fun v => decide (Low m (far m ls) r a b v)) m 0 v (Nat.zero_le _) (by have := hv.1; omega) (by simpa using hv)
  exact of_decide_eq_true h3
theorem low_eq (h : Tree m ls) {r a b v : Nat} (hr : r < m) (ha : a < m) (hb : b < m) (hv : Low m (far m ls) r a b v) : v = lowN m ls r a b := hv.only h.met hr ha (low_is h hr ha hb)
theorem low_swap (h : Tree m ls) {r a b : Nat} (hr : r < m) (ha : a < m) (hb : b < m) : lowN m ls r b a = lowN m ls r a b := low_eq h hr ha hb (low_is h hr hb ha).comm
end
end Go.Proofs.YtojkjdccjomaaaaDoor.Co
