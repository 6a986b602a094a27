/-
  Plain facts on ors of two, with no program in them: what is wrong with them (as a number), the least right answer or none, fewer ors, names that follow from each other. No statement of the program is proved here; there is no condition.
-/
import Derived.Test.YthalopmplekdoaaPairsN
set_option linter.unusedSimpArgs false
set_option linter.unusedVariables false
namespace Go.Proofs.Ythalopmplekdoaa.Pa

/-- is a name one of N? -/
def isName (N : Int) (x : Int) : Bool := decide (0 ≤ x) && decide (x < N)
def fits (N : Int) (c : Or2) : Bool := isName N c.1.1 && isName N c.2.1
/-- what is wrong, as a number: 0 nothing, 1 a number, 4 too many -/
def code (N : Int) (cs : List Or2) : Int := if N < 1 ∨ 4 < N then 1 else if 20 < cs.length then 4 else if cs.all (fits N) = true then 0 else 1
theorem fits_iff {N : Nat} {c : Or2} : fits (N : Int) c = true ↔ Good N c := by
  unfold fits isName Good
  simp only [Bool.and_eq_true, decide_eq_true_eq]
  constructor
  · rintro ⟨⟨h1, h2⟩, h3, h4⟩; exact ⟨h1, h2, h3, h4⟩
  · rintro ⟨h1, h2, h3, h4⟩; exact ⟨⟨h1, h2⟩, h3, h4⟩
theorem code_zero {N : Int} {cs : List Or2} : code N cs = 0 ↔ 1 ≤ N ∧ N ≤ 4 ∧ cs.length ≤ 20 ∧ ∀ c ∈ cs, fits N c = true := by
  unfold code
  by_cases h1 : N < 1 ∨ 4 < N
  · rw [if_pos h1]
    constructor
    · intro h; cases h
    · rintro ⟨h2, h3, _⟩; omega
  · rw [if_neg h1]
    by_cases h2 : 20 < cs.length
    · rw [if_pos h2]
      constructor
      · intro h; cases h
      · rintro ⟨_, _, h3, _⟩; omega
    · rw [if_neg h2]
      by_cases h3 : cs.all (fits N) = true
      · rw [if_pos h3]
        exact ⟨fun _ => ⟨by omega, by omega, by omega, List.all_eq_true.1 h3⟩, fun _ => rfl⟩
      · rw [if_neg h3]
        constructor
        · intro h; cases h
        · rintro ⟨_, _, _, h4⟩; exact absurd (List.all_eq_true.2 h4) h3
theorem code_good {N : Nat} {cs : List Or2} (h : code (N : Int) cs = 0) : 1 ≤ N ∧ N ≤ 4 ∧ cs.length ≤ 20 ∧ ∀ c ∈ cs, Good N c := by
  obtain ⟨h1, h2, h3, h4⟩ := code_zero.1 h
  exact ⟨by omega, by omega, h3, fun c hc => fits_iff.1 (h4 c hc)⟩
theorem code_range {N : Int} {cs : List Or2} (h : N < 1 ∨ 4 < N) : code N cs = 1 := by unfold code; rw [if_pos h]
theorem code_full {N : Int} {cs : List Or2} (h : ¬ (N < 1 ∨ 4 < N)) (h2 : 20 < cs.length) : code N cs = 4 := by unfold code; rw [if_neg h, if_pos h2]
theorem code_name {N : Int} {cs : List Or2} (h : ¬ (N < 1 ∨ 4 < N)) (h2 : ¬ 20 < cs.length) {c : Or2} (hc : c ∈ cs) (hf : fits N c = false) : code N cs = 1 := by
  unfold code
  rw [if_neg h, if_neg h2, if_neg]
  intro h3
  have := List.all_eq_true.1 h3 c hc
  rw [hf] at this
  cases this
theorem code_le {N : Int} {cs ds : List Or2} (h : code N cs = 0) (hl : ds.length ≤ 20) (hs : ∀ c ∈ ds, c ∈ cs) : code N ds = 0 := by
  obtain ⟨h1, h2, _, h4⟩ := code_zero.1 h
  exact code_zero.2 ⟨h1, h2, hl, fun c hc => h4 c (hs c hc)⟩
theorem code_ne {N : Int} {cs : List Or2} (h : code N cs ≠ 0) : code N cs = 1 ∨ code N cs = 4 := by
  unfold code at *
  split
  · exact .inl rfl
  · split
    · exact .inr rfl
    · rename_i h1 h2
      rw [if_neg h1, if_neg h2] at h
      split
      · rename_i h3; rw [if_pos h3] at h; exact absurd rfl h
      · exact .inl rfl

/-- the least right answer, or there is none -/
theorem outcome (cs : List Or2) (n : Nat) : (∃ m, ans (right cs) n [] = some m ∧ Least cs n m) ∨ (ans (right cs) n [] = none ∧ ∀ a : List Bool, a.length = n → right cs a = false) := by
  cases h : ans (right cs) n [] with
  | some m => exact .inl ⟨m, rfl, ans_least h⟩
  | none => exact .inr ⟨rfl, fun a ha => ans_no h ha⟩
theorem Least.ans {cs : List Or2} {n : Nat} {m : List Bool} (h : Least cs n m) : ans (right cs) n [] = some m := by
  rcases outcome cs n with ⟨m', h1, h2⟩ | ⟨_, h2⟩
  · rw [h1, h.only h2]
  · have := h2 m h.1
    rw [h.2.1] at this
    cases this
/-- with fewer ors there is an answer still, no later -/
theorem Least.less {cs ds : List Or2} {n : Nat} {m : List Bool} (h : Least cs n m) (hs : ∀ c ∈ ds, c ∈ cs) : ∃ m', Least ds n m' ∧ Lx m' m := by
  have hr := right_mono hs h.2.1
  obtain ⟨m', h'⟩ := least_ex h.1 hr
  exact ⟨m', h', h'.2.2 m h.1 hr⟩
/-- names that follow from each other -/
theorem names_same {cs : List Or2} {v : List Bool} (hr : right cs v = true) {a b : Nat} (h1 : ((((a : Nat) : Int), true), (((b : Nat) : Int), false)) ∈ cs) (h2 : ((((b : Nat) : Int), true), (((a : Nat) : Int), false)) ∈ cs) : v.getD a false = v.getD b false := by
  have k1 := List.all_eq_true.1 hr _ h1
  have k2 := List.all_eq_true.1 hr _ h2
  unfold say at k1 k2
  simp only [Int.toNat_natCast] at k1 k2
  generalize v.getD a false = x at k1 k2 ⊢
  generalize v.getD b false = y at k1 k2 ⊢
  cases x <;> cases y <;> simp_all
/-- one or more: is it said? -/
theorem right_snoc {cs : List Or2} (c : Or2) (v : List Bool) : right (cs ++ [c]) v = (right cs v && (say v c.1 || say v c.2)) := by simp [right]
theorem right_to {cs : List Or2} {k : Nat} (hk : k < cs.length) (v : List Bool) (c : Or2) (hc : c = cs.getD k ((0, false), (0, false))) : right (cs.take (k + 1)) v = (right (cs.take k) v && (say v c.1 || say v c.2)) := by
  rw [right_step hk, hc]
  simp [List.getD, hk]
theorem right_stop {cs : List Or2} {k : Nat} (hk : k < cs.length) (v : List Bool) (c : Or2) (hc : c = cs.getD k ((0, false), (0, false))) (hs : (say v c.1 || say v c.2) = false) : right cs v = false := by
  cases h : right cs v with
  | false => rfl
  | true =>
    have := List.all_eq_true.1 h cs[k] (List.getElem_mem hk)
    rw [show cs[k] = c by rw [hc]; simp [List.getD, hk], hs] at this
    cases this
end Go.Proofs.Ythalopmplekdoaa.Pa
