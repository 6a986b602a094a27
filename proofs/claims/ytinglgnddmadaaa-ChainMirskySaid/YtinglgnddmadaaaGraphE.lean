/-
  Contracts of the laws' own comparisons Lines and Rows, of Back (lines turned round), and of Has.
-/
import Derived.Test.YtinglgnddmadaaaGraphA
import Derived.Test.YtinglgnddmadaaaGraphL
import Derived.Test.YtinglgnddmadaaaLibR
import Derived.Deep.RegionHeld3
namespace Go.Proofs.Ytinglgnddmadaaa
open Go.RowKit

theorem lines_take {xs ys : List Gr.Ln} {k : Nat} (h : xs.take k = ys.take k) (he : xs.getD k (0, 0) = ys.getD k (0, 0)) (hx : k < xs.length) (hy : k < ys.length) : xs.take (k + 1) = ys.take (k + 1) := by
  rw [List.take_succ_eq_append_getElem hx, List.take_succ_eq_append_getElem hy, h]
  simp [List.getD, hx, hy] at he
  rw [he]



theorem rows_take {xs ys : List (List Int)} {k : Nat} (h : xs.take k = ys.take k) (he : xs.getD k [] = ys.getD k []) (hx : k < xs.length) (hy : k < ys.length) : xs.take (k + 1) = ys.take (k + 1) := by
  rw [List.take_succ_eq_append_getElem hx, List.take_succ_eq_append_getElem hy, h]
  simp [List.getD, hx, hy] at he
  rw [he]




end Go.Proofs.Ytinglgnddmadaaa
