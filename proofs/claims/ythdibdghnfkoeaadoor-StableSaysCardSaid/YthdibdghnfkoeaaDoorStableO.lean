/-
  Plain facts for the laws on package stable, with no program in them: what is wrong seen from the other side, those that all on the left want first, whether both ways round the pairs are the same, the lines of a pairing. No statement of the program is proved here; there is no condition.
-/
import Derived.Test.YthdibdghnfkoeaaDoorStableM
set_option linter.unusedSimpArgs false
set_option linter.unusedVariables false
namespace Go.Proofs.YthdibdghnfkoeaaDoor.St

theorem code_turn {left right : List (List Int)} (h : code left right = 0) : code right left = 0 := by
  obtain ⟨h1, h2, h3⟩ := code_zero.1 h
  have e : right.length = left.length := h3.1
  exact code_zero.2 ⟨by omega, by rw [e]; exact h3, by rw [e]; exact h2⟩
theorem code_len {left right : List (List Int)} (h : code left right = 0) : right.length = left.length := (code_zero.1 h).2.2.1

/-- whom each of the first k on the left wants most -/
def firsts (left : List (List Int)) (k : Nat) : List Int := (List.range k).map fun i => (left.getD i []).getD 0 0
theorem firsts_len (left : List (List Int)) (k : Nat) : (firsts left k).length = k := by simp [firsts]
theorem firsts_succ (left : List (List Int)) (k : Nat) (x : Int) (hx : x = (left.getD k []).getD 0 0) : firsts left (k + 1) = firsts left k ++ [x] := by simp [firsts, List.range_succ, hx]
theorem firsts_at {left : List (List Int)} {k i : Nat} (hi : i < k) : (firsts left k).getD i 0 = (left.getD i []).getD 0 0 := by simp [firsts, List.getD, hi]
theorem firsts_only {n : Nat} {left right : List (List Int)} (hL : Rks n left) (hn : (firsts left n).Nodup) {g : List Nat} (ho : Opt n (pl left) (pl right) g) : up g = firsts left n := by
  have hrow : Row n (firsts left n) := by
    refine ⟨firsts_len _ _, fun x hx => ?_, hn⟩
    unfold firsts at hx
    obtain ⟨i, hi, rfl⟩ := List.mem_map.1 hx
    have hi' := List.mem_range.1 hi
    have hr := hL.row hi'
    exact hr.rng _ (getD_mem (by rw [hr.len]; omega))
  obtain ⟨p, hp, hpr⟩ := hrow.pr
  rw [hp]
  congr 1
  refine ho.first hL.ord hpr fun i hi => ?_
  have hr := hL.row hi
  have h0 : 0 < (left.getD i []).length := by rw [hr.len]; omega
  unfold pl
  rw [← up_at, ← hp, firsts_at hi, plc_at hr.nodup h0]
  rfl

/-- are the pairs of the first k the same both ways round? -/
def same (h r : List Nat) (k : Nat) : Bool := (List.range k).all fun i => decide (r.getD (h.getD i 0) 0 = i)
theorem same_succ (h r : List Nat) (k : Nat) : same h r (k + 1) = (same h r k && decide (r.getD (h.getD k 0) 0 = k)) := by simp [same, List.range_succ]
theorem same_zero (h r : List Nat) : same h r 0 = true := rfl
theorem same_back {n : Nat} {h r : List Nat} (e : same h r n = true) : Back n h r := by
  unfold same at e
  simp only [List.all_eq_true, List.mem_range, decide_eq_true_eq] at e
  exact e

/-- a place, of a pairing -/
theorem plc_pr {n : Nat} {h : List Nat} (hp : Pr n h) {j : Nat} (hj : j < n) : ∃ i, i < n ∧ h.getD i 0 = j ∧ plc (up h) (j : Int) = (i : Int) := by
  obtain ⟨i, hi, rfl⟩ := hp.by hj
  have hr := hp.row
  exact ⟨i, hi, rfl, by rw [← up_at, plc_at hr.nodup (by rw [hr.len]; exact hi)]⟩
theorem up_range {n : Nat} {h : List Nat} (hp : Pr n h) : ∀ d ∈ up h, 0 ≤ d ∧ d ≤ (n : Int) - 1 := hp.row.rng
theorem best_left {n : Nat} {left right : List (List Int)} (hL : Rks n left) {g h : List Nat} (ho : Opt n (pl left) (pl right) g) (hp : Pr n h) (hs : Stab n (pl left) (pl right) h) {i : Nat} (hi : i < n) :
    ¬ plc (left.getD i []) ((up h).getD i 0) < plc (left.getD i []) ((up g).getD i 0) := by
  rw [up_at, up_at, hL.pl hi (hp.at_lt hi), hL.pl hi (ho.1.at_lt hi)]
  have := ho.2.2 h hp hs i hi
  omega
theorem worst_right {n : Nat} {left right : List (List Int)} (hL : Rks n left) (hR : Rks n right) {g h : List Nat} (ho : Opt n (pl left) (pl right) g) (hp : Pr n h) (hs : Stab n (pl left) (pl right) h) {j : Nat} (hj : j < n) :
    ¬ plc (right.getD j []) (plc (up g) (j : Int)) < plc (right.getD j []) (plc (up h) (j : Int)) := by
  obtain ⟨i, hi, e1, e2⟩ := plc_pr ho.1 hj
  obtain ⟨k, hk, e3, e4⟩ := plc_pr hp hj
  rw [e2, e4, hR.pl hj hi, hR.pl hj hk]
  have := ho.worst hL.ord hp hs hi hk (e3.trans e1.symm)
  rw [e1] at this
  omega
end Go.Proofs.YthdibdghnfkoeaaDoor.St
