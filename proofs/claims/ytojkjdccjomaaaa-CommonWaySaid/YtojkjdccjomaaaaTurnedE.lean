/-
  The contract of the laws' own Turned: a row of numbers the other way round. No statement of the program is proved here; there is no condition.
-/
import Derived.Test.YtojkjdccjomaaaaBase
import Derived.Test.YtojkjdccjomaaaaLibS
namespace Go.Proofs.Ytojkjdccjomaaaa
open Go.RowKit
set_option linter.unusedSimpArgs false
set_option linter.unusedVariables false

theorem turned_drop {l : List Int} {i : Nat} (hi : i < l.length) : (l.drop i).reverse = (l.drop (i + 1)).reverse ++ [l.getD i 0] := by
  rw [List.drop_eq_getElem_cons hi, List.reverse_cons]
  simp [List.getD, hi]
set_option maxHeartbeats 1000000 in
theorem Turned_any (A : Option Addr) (n c : Nat) (l : List Int) (w : World) (hr : Rd w w.heap.size A n c l) (hsm : n ≤ 1048576) :
    Calls Try.prog 14 #[.slice A n c] w fun e w' => ∃ v, e = .returned v ∧ Own w' w.heap.size 3 v l.reverse ∧ Below w.heap.size w w' := by
  have HX := Lib.hid hr.len
  go_enter Try.func14, Try.ntmps14
  go_wp2
  go_loopw [3, 4] (fun v i wr => ∃ (j : Int) (k : Nat), k ≤ n ∧ i = .int .i64 j ∧ j + 1 = (k : Int) ∧ Own wr w.heap.size 3 v (l.drop k).reverse ∧ Below w.heap.size w wr) (fun _ i _ => (intOf i + 1).toNat)
  case atStart => exact ⟨_, n, Nat.le_refl _, rfl, by omega, by rw [List.drop_eq_nil_of_le (by rw [HX.out]; exact Nat.le_refl _)]; exact Own.nil _ _ _, Below.refl _ _⟩
  case round =>
    obtain ⟨j, k, hk, rfl, hj, hown, hbel⟩ := hrel
    have hsz := hbel.size
    by_cases hpos : 0 ≤ j
    · obtain ⟨i, rfl⟩ : ∃ i : Nat, j = (i : Int) := ⟨j.toNat, by omega⟩
      obtain rfl : k = i + 1 := by omega
      clear hj
      obtain ⟨b1, o1, rfl, hbb, hcc⟩ := hr.at_ (by omega)
      have g1 : wr.cell? ⟨b1, o1 + i, none⟩ = some (.int .i64 (l.getD i 0)) := (hbel.cell (by exact hbb)).trans (hcc i (by omega))
      clear hcc
      obtain ⟨p, hp⟩ : ∃ p, p = l.getD i 0 := ⟨_, rfl⟩
      rw [← hp] at g1
      have hnext : Hid ((l.drop i).reverse = (l.drop (i + 1)).reverse ++ [p]) := by show _ = _; rw [turned_drop (by rw [HX.out]; omega), hp]
      clear hp
      have hlen : ((l.drop (i + 1)).reverse).length + 1 ≤ 17592186044416 := by rw [List.length_reverse, List.length_drop, HX.out]; omega
      go_wp2_with (at_builtin; refine wpList_app _ rfl (.tmp 12) (.tmp 17) _ rfl w.heap.size 3 Try.underlying28 intInfo _ _ rfl (hown.below ((Below.refl _ _).alloc (Nat.le_refl _) _)) (some ⟨wr.heap.size, 0, none⟩) 1 1 [p] rfl (Rd.one _ _ _) hlen (by simp; omega) ?_; intro v1 w1 hown1 hg1 hat1)
      have hb1 := below_app (hbel.alloc hsz _) (hown.below ((Below.refl _ _).alloc (Nat.le_refl _) _)) hg1 (by simp; omega)
      go_roundw
      case rel => exact ⟨_, i, by omega, rfl, by omega, by rw [hnext.out]; exact hown1, hb1⟩
      case measure => simp [intOf]
    · obtain rfl : k = 0 := by omega
      go_wp2
      go_ret
      exact ⟨_, rfl, by simpa using hown, hbel⟩

end Go.Proofs.Ytojkjdccjomaaaa
