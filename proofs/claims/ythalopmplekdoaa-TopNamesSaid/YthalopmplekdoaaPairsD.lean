/-
  Contracts of package pairs: Solve where something is wrong, and by what there is; Is.
-/
import Derived.Test.YthalopmplekdoaaPairsC
import Derived.BigQuiet
namespace Go.Proofs.Ythalopmplekdoaa
open Go.RowKit Go.Shelf

attribute [local go_sem] Oper.semAt_some
set_option linter.unusedSimpArgs false
set_option linter.unusedVariables false

set_option maxRecDepth 100000 in
set_option maxHeartbeats 1000000 in
theorem Solve_err (n : Int) (A : Option Addr) (k c : Nat) (cs : List Or2) (w : World) (hr : RdO w w.heap.size A k c cs) (h : Pa.code n cs ≠ 0) :
    Calls Try.prog 4 #[.int .i64 n, .slice A k c] w fun e w' => e = .returned (.tuple #[.slice none 0 0, errv (Pa.code n cs)]) ∧ Below w.heap.size w w' := by
  have H := Lib.hid h
  clear h
  go_enter Try.func4, Try.ntmps4
  go_wp2_with fail
  refine (PCheck_err n A k c cs _ hr H.out).mono ?_
  rintro e w1 ⟨rfl, hb1⟩
  go_wp2
  go_ret2
  exact ⟨rfl, hb1⟩

theorem Solve_yes (N : Nat) (A : Option Addr) (k c : Nat) (cs : List Or2) (m : List Bool) (w : World) (hr : RdO w w.heap.size A k c cs) (h : Pa.code (N : Int) cs = 0) (hm : Pa.Least cs N m) :
    Calls Try.prog 4 #[.int .i64 (N : Int), .slice A k c] w fun e w' => (∃ g, e = .returned (.tuple #[.slice (some ⟨g, 0, none⟩) N N, .nilIface]) ∧ OwnB w' w.heap.size 4 (.slice (some ⟨g, 0, none⟩) N N) m) ∧ Below w.heap.size w w' := by
  obtain ⟨_, h4, _, hg⟩ := Pa.code_good h
  refine (Solve_ok N A k c cs w hr h).mono ?_
  rintro e w' ⟨hb, (⟨⟨i, hi, hc⟩, _⟩ | ⟨hc, g, he, ho⟩)⟩
  · have := Pa.cla_none h4 hg hi hc m
    rw [hm.2.1] at this
    cases this
  · rw [(Pa.pre_least h4 hg hc).only hm] at ho
    exact ⟨⟨g, he, ho⟩, hb⟩
theorem Solve_no (N : Nat) (A : Option Addr) (k c : Nat) (cs : List Or2) (w : World) (hr : RdO w w.heap.size A k c cs) (h : Pa.code (N : Int) cs = 0) (hm : Pa.ans (Pa.right cs) N [] = none) :
    Calls Try.prog 4 #[.int .i64 (N : Int), .slice A k c] w fun e w' => e = .returned (.tuple #[.slice none 0 0, errv 5]) ∧ Below w.heap.size w w' := by
  obtain ⟨_, h4, _, hg⟩ := Pa.code_good h
  refine (Solve_ok N A k c cs w hr h).mono ?_
  rintro e w' ⟨hb, (⟨_, he⟩ | ⟨hc, _⟩)⟩
  · exact ⟨he, hb⟩
  · rw [(Pa.pre_least h4 hg hc).ans] at hm
    cases hm


end Go.Proofs.Ythalopmplekdoaa
