/-
  Contracts of package pairs: what is wrong, as one number (the ors' own fault, or that nothing is right), and what Solve and Is hand back then.
-/
import Derived.Test.YthalopmplekdoaaDoorPairsD
namespace Go.Proofs.YthalopmplekdoaaDoor
open Go.RowKit
set_option linter.unusedSimpArgs false
set_option linter.unusedVariables false

/-- something is wrong, or nothing is right: its number -/
def Pa.Bad (n : Int) (cs : List Or2) (k : Int) : Prop := (Pa.code n cs ≠ 0 ∧ k = Pa.code n cs) ∨ ∃ N : Nat, n = (N : Int) ∧ Pa.code (N : Int) cs = 0 ∧ Pa.ans (Pa.right cs) N [] = none ∧ k = 5
theorem Pa.bad_ne {n : Int} {cs : List Or2} {k : Int} (h : Pa.Bad n cs k) : k ≠ 0 := by
  rcases h with ⟨h, rfl⟩ | ⟨N, _, _, _, rfl⟩
  · exact h
  · omega
theorem Pa.bad_or (n : Int) (cs : List Or2) : (∃ k, Pa.Bad n cs k) ∨ ∃ (N : Nat) (m : List Bool), n = (N : Int) ∧ Pa.code (N : Int) cs = 0 ∧ Pa.Least cs N m := by
  by_cases h : Pa.code n cs = 0
  · obtain ⟨N, rfl⟩ : ∃ N : Nat, n = (N : Int) := ⟨n.toNat, by have := (Pa.code_zero.1 h).1; omega⟩
    rcases Pa.outcome cs N with ⟨m, _, hm⟩ | ⟨hm, _⟩
    · exact .inr ⟨N, m, rfl, h, hm⟩
    · exact .inl ⟨5, .inr ⟨N, rfl, h, hm, rfl⟩⟩
  · exact .inl ⟨_, .inl ⟨h, rfl⟩⟩

theorem Solve_bad (n : Int) (A : Option Addr) (k c : Nat) (cs : List Or2) (q : Int) (w : World) (hr : RdO w w.heap.size A k c cs) (h : Pa.Bad n cs q) :
    Calls Tryd.prog 11 #[.int .i64 n, .slice A k c] w fun e w' => e = .returned (.tuple #[.slice none 0 0, errv q]) ∧ Below w.heap.size w w' := by
  rcases h with ⟨h, rfl⟩ | ⟨N, rfl, h0, hn, rfl⟩
  · exact Solve_err n A k c cs w hr h
  · exact Solve_no N A k c cs w hr h0 hn
/-- what Solve hands back, as it is read -/
theorem Solve_rd (N : Nat) (A : Option Addr) (k c : Nat) (cs : List Or2) (m : List Bool) (w : World) (hr : RdO w w.heap.size A k c cs) (h : Pa.code (N : Int) cs = 0) (hm : Pa.Least cs N m) :
    Calls Tryd.prog 11 #[.int .i64 (N : Int), .slice A k c] w fun e w' => (∃ g, e = .returned (.tuple #[.slice (some ⟨g, 0, none⟩) N N, .nilIface]) ∧ RdB w' w'.heap.size (some ⟨g, 0, none⟩) N N m) ∧ Below w.heap.size w w' := by
  refine (Solve_yes N A k c cs m w hr h hm).mono ?_
  rintro e w' ⟨⟨g, he, ho⟩, hb⟩
  exact ⟨⟨g, he, ho.rd'⟩, hb⟩
theorem PIs_bad (n : Int) (A B : Option Addr) (k c m d : Nat) (cs : List Or2) (v : List Bool) (q : Int) (w : World) (hr : RdO w w.heap.size A k c cs) (hv : RdB w w.heap.size B m d v) (h : Pa.Bad n cs q) :
    Calls Tryd.prog 13 #[.int .i64 n, .slice A k c, .slice B m d] w fun e w' => (∃ f, e = .returned (.tuple #[.bool false, f])) ∧ Below w.heap.size w w' := by
  rcases h with ⟨h, rfl⟩ | ⟨N, rfl, h0, hn, rfl⟩
  · exact (PIs_err n A B k c m d cs w hr h).mono fun e w' h => ⟨⟨_, h.1⟩, h.2⟩
  · by_cases hm : m = N
    · subst hm
      exact (PIs_ok m A B k c d cs v false w hr hv h0 (Pa.ans_no hn hv.len)).mono fun e w' h => ⟨⟨_, h.1⟩, h.2⟩
    · exact (PIs_shape N A B k c m d cs v w hr hv h0 hm).mono fun e w' h => ⟨⟨_, h.1⟩, h.2⟩

end Go.Proofs.YthalopmplekdoaaDoor
