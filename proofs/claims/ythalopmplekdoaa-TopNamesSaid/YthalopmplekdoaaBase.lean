/-
  Contracts that every stage wants: the numbers of errors, the laws' own test 'in', the comparison Ints.
-/
import Derived.Test.YthalopmplekdoaaProg
import Derived.Test.YthalopmplekdoaaLib
import Derived.WalkKit
import Derived.Deep.LoopGhost
import Derived.Deep.QuietTactic
import Derived.BigQuiet
import Derived.Outline
import Derived.RegionTactic
import Derived.ChangeAlike
namespace Go.Proofs.Ythalopmplekdoaa
open Go.RowKit

theorem intInfo : (Try.prog.info? 3).map (fun i => (i.zero, i.size, i.bytes)) = some (some (.int .i64 0), 1, 8) := by kernel_rfl

/-- an error of package api -/
abbrev errv (k : Int) : Value := .iface 40 (.int .i64 k)

/-- an error of package api, or none -/
def errOf (k : Int) : Value := if k = 0 then .nilIface else errv k
theorem errOf_zero {k : Int} (h : k = 0) : errOf k = .nilIface := if_pos h
theorem errOf_pos {k : Int} (h : k ≠ 0) : errOf k = errv k := if_neg h

theorem topIn_yes (n a b : Int) (w : World) (h1 : a ≤ n) (h2 : n ≤ b) :
    Calls Try.prog 6 #[.int .i64 n, .int .i64 a, .int .i64 b] w fun e w' => e = .returned (.bool true) ∧ w = w' := by
  go_enter Try.func6, Try.ntmps6
  go_wp2
  go_ret
  exact ⟨rfl, rfl⟩
theorem topIn_no (n a b : Int) (w : World) (h : n < a ∨ b < n) :
    Calls Try.prog 6 #[.int .i64 n, .int .i64 a, .int .i64 b] w fun e w' => e = .returned (.bool false) ∧ w = w' := by
  by_cases ha : n < a
  · go_enter Try.func6, Try.ntmps6
    go_wp2
    go_ret
    exact ⟨rfl, rfl⟩
  · have h1 : a ≤ n := by omega
    have hd : decide (n ≤ b) = false := by simp; omega
    clear h ha
    go_enter Try.func6, Try.ntmps6
    go_wp2
    go_ret
    exact ⟨rfl, rfl⟩

/-- Ints: are two lists the same? -/
theorem ints_take {xs ys : List Int} {k : Nat} (h : xs.take k = ys.take k) (he : xs.getD k 0 = ys.getD k 0) (hx : k < xs.length) (hy : k < ys.length) : xs.take (k + 1) = ys.take (k + 1) := by
  rw [List.take_succ_eq_append_getElem hx, List.take_succ_eq_append_getElem hy, h]
  simp [List.getD, hx, hy] at he
  rw [he]


end Go.Proofs.Ythalopmplekdoaa
