/-
  The contracts of Write and Read of package prufer, whole; the closed fact of the laws on it, reckoned on four points. No condition.
-/
import Derived.Test.YtnekbgeablhgiaaDoorPruferC
import Derived.Test.YtnekbgeablhgiaaDoorPruferE
import Derived.Test.YtnekbgeablhgiaaDoorGraphE
import Derived.Test.YtnekbgeablhgiaaDoorNewLines
namespace Go.Proofs.YtnekbgeablhgiaaDoor
open Go.RowKit

set_option linter.unusedSimpArgs false
set_option linter.unusedVariables false

/-- what is wrong with a tree that is to be written, as a number -/
def Pf.wcode (n : Int) (ls : List Gr.Ln) : Int := if Tr.tcode n ls ≠ 0 then Tr.tcode n ls else if n = 1 then 5 else 0
theorem Pf.wcode_zero {n : Int} {ls : List Gr.Ln} : Pf.wcode n ls = 0 ↔ Tr.tcode n ls = 0 ∧ n ≠ 1 := by
  unfold Pf.wcode
  by_cases h : Tr.tcode n ls = 0
  · rw [if_neg (by simpa using h)]
    by_cases h1 : n = 1
    · rw [if_pos h1]; exact ⟨fun e => by omega, fun e => absurd h1 e.2⟩
    · rw [if_neg h1]; exact ⟨fun _ => ⟨h, h1⟩, fun _ => rfl⟩
  · rw [if_pos h]; exact ⟨fun e => absurd e h, fun e => absurd e.1 h⟩
theorem Pf.wcode_tree {n : Int} {ls : List Gr.Ln} (h : Pf.wcode n ls = 0) : ∃ m : Nat, n = (m : Int) ∧ 2 ≤ m ∧ m ≤ 8 ∧ Tr.tcode (m : Int) ls = 0 ∧ Tr.Tree m ls := by
  obtain ⟨h1, h2⟩ := Pf.wcode_zero.1 h
  have hg : Gr.code n ls = 0 := by
    refine Classical.byContradiction fun hne => ?_
    have := h1
    unfold Tr.tcode at this
    rw [if_pos hne] at this
    exact hne this
  obtain ⟨g1, g2, _⟩ := Gr.code_zero.1 hg
  obtain ⟨m, rfl⟩ : ∃ m : Nat, n = (m : Int) := ⟨n.toNat, by omega⟩
  exact ⟨m, rfl, by omega, by omega, h1, (Tr.tcode_zero.1 h1).2⟩

theorem Write_bad (n : Int) (A : Option Addr) (k c : Nat) (ls : List Gr.Ln) (w : World) (hr : RdP w w.heap.size A k c ls) (h : Pf.wcode n ls ≠ 0) :
    Calls Tryd.prog 6 #[.int .i64 n, .slice A k c] w fun e w' => e = .returned (.tuple #[.slice none 0 0, errv (Pf.wcode n ls)]) ∧ Below w.heap.size w w' := by
  by_cases h0 : Tr.tcode n ls = 0
  · have h1 : n = 1 := Classical.byContradiction fun h1 => h (Pf.wcode_zero.2 ⟨h0, h1⟩)
    subst h1
    have e : Pf.wcode 1 ls = 5 := by unfold Pf.wcode; rw [if_neg (by simpa using h0), if_pos rfl]
    rw [e]
    exact Write_one A k c ls w hr h0
  · have e : Pf.wcode n ls = Tr.tcode n ls := by unfold Pf.wcode; rw [if_pos h0]
    rw [e]
    exact Write_code n A k c ls w hr h0
theorem Read_bad (A : Option Addr) (n c : Nat) (row : List Int) (w : World) (hr : Rd w w.heap.size A n c row) (h : Pf.rcode row ≠ 0) :
    Calls Tryd.prog 11 #[.slice A n c] w fun e w' => e = .returned (.tuple #[.slice none 0 0, errv (Pf.rcode row)]) ∧ Below w.heap.size w w' := by
  have hl := hr.len
  by_cases h6 : 6 < n
  · rw [Pf.rcode_full (by omega)]
    exact Read_full A n c row w hr h6
  · have hb : ¬ Pf.okr row := fun hok => h (Pf.rcode_zero.2 ⟨by omega, hok⟩)
    rw [Pf.rcode_bad (by omega) hb]
    exact Read_range A n c row w hr (by omega) hb
theorem Read_yes (A : Option Addr) (n c : Nat) (row : List Int) (w : World) (hr : Rd w w.heap.size A n c row) (h : Pf.rcode row = 0) :
    Calls Tryd.prog 11 #[.slice A n c] w fun e w' => ∃ A1 c1, e = .returned (.tuple #[.slice A1 (n + 1) c1, .nilIface]) ∧ RdP w' w'.heap.size A1 (n + 1) c1 (Pf.rdL (Pf.nrow row)) ∧ Below w.heap.size w w' := by
  obtain ⟨h1, h2⟩ := Pf.rcode_zero.1 h
  have hl := hr.len
  exact callsIn_wide.1 (Read_in A n c row w hr (by omega) h2)
theorem upN_nrow {row : List Int} (h : Pf.okr row) : upN (Pf.nrow row) = row := by
  unfold upN Pf.nrow
  rw [List.map_map]
  refine (List.map_congr_left fun x hx => ?_).trans (List.map_id _)
  have := (h x hx).1
  show ((x.toNat : Nat) : Int) = x
  omega
theorem nrow_upN (xs : List Nat) : Pf.nrow (upN xs) = xs := by
  unfold upN Pf.nrow
  rw [List.map_map]
  exact (List.map_congr_left fun x _ => Int.toNat_natCast x).trans (List.map_id _)
theorem upN_len (xs : List Nat) : (upN xs).length = xs.length := by simp [upN]


end Go.Proofs.YtnekbgeablhgiaaDoor
