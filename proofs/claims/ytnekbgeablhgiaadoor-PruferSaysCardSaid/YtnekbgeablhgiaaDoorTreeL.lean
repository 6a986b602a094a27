/-
  Plain facts on trees, with no program in them: a tree without one of its ends is a tree. No statement of the program is proved here; there is no condition.
-/
import Derived.Test.YtnekbgeablhgiaaDoorTreeU
import Derived.Test.YtnekbgeablhgiaaDoorUpN
import Derived.Test.YtnekbgeablhgiaaDoorGraphL
set_option linter.unusedSimpArgs false
set_option linter.unusedVariables false
namespace Go.Proofs.YtnekbgeablhgiaaDoor.Tr
open Wa (nrow mem_nrow nrow_ok nrow_sym dist dist_zero dist_step dist_back dist_sym dist_tri)
open Dp (up up_ne up_lt up_of up_mono has_without)

/-- does a line end at i? -/
def tch (i : Int) (p : Gr.Ln) : Bool := decide (p.1 = i ∨ p.2 = i)
theorem without_count (i : Int) : ∀ ls : List Gr.Ln, (Gr.without i ls).length + ls.countP (tch i) = ls.length
  | [] => rfl
  | p :: ls => by
    have ih := without_count i ls
    unfold Gr.without
    by_cases h : p.1 = i ∨ p.2 = i
    · rw [if_pos h, List.countP_cons_of_pos (by simpa [tch] using h), List.length_cons]
      omega
    · rw [if_neg h, List.countP_cons_of_neg (by simpa [tch] using h), List.length_cons, List.length_cons]
      omega
theorem count_one {q : Gr.Ln → Bool} {ls : List Gr.Ln} {k : Nat} (hk : k < ls.length) (h1 : q ls[k] = true) (h2 : ∀ j, (hj : j < ls.length) → j ≠ k → q ls[j] = false) : ls.countP q = 1 := by
  have e : ls = ls.take k ++ ls[k] :: ls.drop (k + 1) := by
    rw [← List.drop_eq_getElem_cons hk, List.take_append_drop]
  have hz : ∀ l : List Gr.Ln, (∀ x ∈ l, q x = false) → l.countP q = 0 := fun l hl => by
    rw [List.countP_eq_zero]
    intro x hx
    rw [hl x hx]
    simp
  rw [e, List.countP_append, List.countP_cons_of_pos h1, hz (ls.take k), hz (ls.drop (k + 1))]
  · intro x hx
    obtain ⟨j, hj, rfl⟩ := List.mem_iff_getElem.1 hx
    rw [List.getElem_drop]
    exact h2 _ _ (by omega)
  · intro x hx
    obtain ⟨j, hj, rfl⟩ := List.mem_iff_getElem.1 hx
    rw [List.getElem_take]
    rw [List.length_take] at hj
    exact h2 _ _ (by omega)

section
variable {n : Nat} {ls : List Gr.Ln}
/-- one line alone leads to an end -/
theorem leaf_count (h : Tree n ls) {i u : Nat} (hi : i < n) (hu : u < n) (hiu : ad ls i u = true) (hone : ∀ w, w < n → ad ls i w = true → w = u) : ls.countP (tch (i : Int)) = 1 := by
  obtain ⟨f, hf, hs⟩ := all_lines h hi
  have hne : u ≠ i := fun e => by
    subst e
    rcases Gr.adj_iff.1 hiu with hm | hm <;> exact (h.good _ hm).2.2.2.2 rfl
  have htouch : ∀ k, (hk : k < ls.length) → tch (i : Int) ls[k] = true → k = f u := by
    intro k hk ht
    obtain ⟨v, hv, hvi, rfl⟩ := hs k hk
    obtain ⟨_, x, hx, hfar, hl⟩ := hf v hv hvi
    have hg : ls.getD (f v) (0, 0) = ls[f v] := by simp [List.getD, hk]
    have hmem : ls[f v] ∈ ls := List.getElem_mem hk
    rw [hg] at hl
    have hxi : x = i := by
      unfold tch at ht
      rcases hl with hl | hl
      · rw [hl] at ht
        simp only [decide_eq_true_eq] at ht
        omega
      · rw [hl] at ht
        simp only [decide_eq_true_eq] at ht
        omega
    subst hxi
    have hav : ad ls x v = true := by
      refine Gr.adj_iff.2 ?_
      rcases hl with hl | hl
      · exact .inr (hl ▸ hmem)
      · exact .inl (hl ▸ hmem)
    rw [hone v hv hav]
  obtain ⟨k, hk, ht⟩ : ∃ k, ∃ hk : k < ls.length, tch (i : Int) ls[k] = true := by
    rcases Gr.adj_iff.1 hiu with hm | hm
    · obtain ⟨k, hk, e⟩ := List.mem_iff_getElem.1 hm
      exact ⟨k, hk, by rw [e]; simp [tch]⟩
    · obtain ⟨k, hk, e⟩ := List.mem_iff_getElem.1 hm
      exact ⟨k, hk, by rw [e]; simp [tch]⟩
  have hku := htouch k hk ht
  refine count_one hk ht fun j hj hjk => ?_
  cases hjt : tch (i : Int) ls[j] with
  | false => rfl
  | true => exact absurd ((htouch j hj hjt).trans hku.symm) hjk

/-- a tree without an end -/
theorem Tree.leaf (h : Tree n ls) (hn : 1 < n) {i u : Nat} (hi : i < n) (hu : u < n) (hiu : ad ls i u = true) (hone : ∀ w, w < n → ad ls i w = true → w = u) : Tree (n - 1) (Gr.without (i : Int) ls) := by
  have hgood : ∀ p ∈ Gr.without (i : Int) ls, Gr.Good ((n : Int) - 1) p := Gr.without_good (by omega) (by omega) h.good
  have e1 : ((n - 1 : Nat) : Int) = (n : Int) - 1 := by omega
  have hR := nrow_ok (n - 1) (Gr.without (i : Int) ls)
  refine ⟨fun p hp => by rw [e1]; exact hgood p hp, ?_, ?_⟩
  · have h1 := without_count (i : Int) ls
    have h2 := leaf_count h hi hu hiu hone
    have h3 := h.len
    omega
  · have hui : u ≠ i := fun e => by
      subst e
      rcases Gr.adj_iff.1 hiu with hm | hm <;> exact (h.good _ hm).2.2.2.2 rfl
    have key : ∀ k a b, a < n - 1 → b < n - 1 → far n ls (up i a) (up i b) = k → 0 ≤ dist (n - 1) (nrow (n - 1) (Gr.without (i : Int) ls)) a b := by
      intro k
      induction k with
      | zero =>
        intro a b ha hb hk
        have e := (far_zero h (up_lt ha hi) (up_lt hb hi)).1 hk
        have m1 := up_mono (i := i) (a := a) (b := b)
        have m2 := up_mono (i := i) (a := b) (b := a)
        obtain rfl : a = b := by omega
        rw [(dist_zero hR ha (v := a)).2 rfl]
        omega
      | succ k ih =>
        intro a b ha hb hk
        have hne : up i b ≠ up i a := fun e => by
          have := (far_zero h (up_lt ha hi) (up_lt hb hi)).2 e.symm
          omega
        obtain ⟨w, hw, hA, hf⟩ := far_back h (up_lt ha hi) (up_lt hb hi) hne
        have hwi : w ≠ i := fun e => by
          subst e
          have e1 : up w b = u := hone _ (up_lt hb hi) (by rw [ad_comm]; exact hA)
          obtain ⟨x, hx, hB, hg⟩ := far_back h (up_lt ha hi) hi (fun e => up_ne w a e.symm)
          have e2 : x = u := hone x hx hB
          rw [e1] at hf
          rw [e2] at hg
          omega
        obtain ⟨c, hc, rfl⟩ := up_of hi hw hwi
        have h1 := ih a c ha hc (by omega)
        refine (dist_step hR ha hc (mem_nrow.2 ⟨hb, ?_⟩) h1).1
        show Gr.adj _ _ _ = true
        unfold Gr.adj
        rw [has_without, has_without]
        have hA' : Gr.adj ls (up i b : Int) (up i c : Int) = true := hA
        rw [Gr.adj_comm] at hA'
        exact hA'
    exact fun a b ha hb => key _ a b ha hb rfl
end
end Go.Proofs.YtnekbgeablhgiaaDoor.Tr
