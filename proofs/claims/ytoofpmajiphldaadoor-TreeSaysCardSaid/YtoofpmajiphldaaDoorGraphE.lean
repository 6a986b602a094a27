/-
  Contracts of the laws' own comparisons Lines and Rows, of Back (lines turned round), and of Has.
-/
import Derived.Test.YtoofpmajiphldaaDoorGraphA
import Derived.Test.YtoofpmajiphldaaDoorGraphL
import Derived.Test.YtoofpmajiphldaaDoorLibR
import Derived.Deep.RegionHeld3
namespace Go.Proofs.YtoofpmajiphldaaDoor
open Go.RowKit

theorem lines_take {xs ys : List Gr.Ln} {k : Nat} (h : xs.take k = ys.take k) (he : xs.getD k (0, 0) = ys.getD k (0, 0)) (hx : k < xs.length) (hy : k < ys.length) : xs.take (k + 1) = ys.take (k + 1) := by
  rw [List.take_succ_eq_append_getElem hx, List.take_succ_eq_append_getElem hy, h]
  simp [List.getD, hx, hy] at he
  rw [he]


theorem Ints_t (A B : Option Addr) (n m c d : Nat) (xs ys : List Int) (t : Bool) (w : World) (hx : Rd w w.heap.size A n c xs) (hy : Rd w w.heap.size B m d ys) (ht : decide (xs = ys) = t) :
    Calls Tryd.prog 12 #[.slice A n c, .slice B m d] w fun e w' => e = .returned (.bool t) ∧ Below w.heap.size w w' :=
  (Ints_any A B n m c d xs ys w hx hy).mono fun _ _ h => ⟨h.1.trans (by rw [ht]), h.2⟩

theorem rows_take {xs ys : List (List Int)} {k : Nat} (h : xs.take k = ys.take k) (he : xs.getD k [] = ys.getD k []) (hx : k < xs.length) (hy : k < ys.length) : xs.take (k + 1) = ys.take (k + 1) := by
  rw [List.take_succ_eq_append_getElem hx, List.take_succ_eq_append_getElem hy, h]
  simp [List.getD, hx, hy] at he
  rw [he]




end Go.Proofs.YtoofpmajiphldaaDoor
