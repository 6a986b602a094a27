/-
  The contract of the reference's But: all lines but one.
-/
import Derived.Test.YtnekbgeablhgiaaDoorBase
import Derived.Test.YtnekbgeablhgiaaDoorLibS
import Derived.Test.YtnekbgeablhgiaaDoorGraphA
namespace Go.Proofs.YtnekbgeablhgiaaDoor
open Go.RowKit

set_option linter.unusedSimpArgs false
set_option linter.unusedVariables false

theorem erase_step {ls : List Gr.Ln} {j k : Nat} (hj : j < ls.length) : (ls.take (j + 1)).eraseIdx k = if j = k then (ls.take j).eraseIdx k else (ls.take j).eraseIdx k ++ [ls.getD j (0, 0)] := by
  rw [List.take_succ_eq_append_getElem hj]
  have hl : (ls.take j).length = j := by simp; omega
  have hg : ls.getD j (0, 0) = ls[j] := by simp [List.getD, hj]
  rw [hg]
  by_cases e : j = k
  · subst e
    rw [if_pos rfl, List.eraseIdx_append_of_length_le (by omega), hl, Nat.sub_self, List.eraseIdx_of_length_le (l := ls.take j) (by omega)]
    simp
  · rw [if_neg e]
    rcases Nat.lt_or_ge k j with h | h
    · rw [List.eraseIdx_append_of_lt_length (by omega)]
    · rw [List.eraseIdx_append_of_length_le (by omega), List.eraseIdx_of_length_le (l := ls.take j) (by omega), List.eraseIdx_of_length_le (l := [ls[j]]) (by simp; omega)]

set_option maxRecDepth 100000 in
set_option maxHeartbeats 1000000 in
/-- all lines but one -/
theorem But_any (A : Option Addr) (n c k : Nat) (ls : List Gr.Ln) (w : World) (hr : RdP w w.heap.size A n c ls) (hsm : n ≤ 1048576) :
    Calls Tryd.prog 15 #[.slice A n c, .int .i64 (k : Int)] w fun e w' => ∃ v, e = .returned v ∧ OwnP w' w.heap.size 41 v (ls.eraseIdx k) ∧ Below w.heap.size w w' := by
  have hl := hr.len
  have HX := Lib.hid hl
  clear hl
  go_enter Tryd.func15, Tryd.ntmps15
  go_wp2
  go_loopw [5, 6] (fun v i wr => ∃ j : Nat, j ≤ n ∧ i = .int .i64 j ∧ OwnP wr w.heap.size 41 v ((ls.take j).eraseIdx k) ∧ Below w.heap.size w wr) (fun _ i _ => n - (intOf i).toNat)
  case atStart => exact ⟨0, Nat.zero_le _, rfl, by simpa using OwnP.nil _ _ _, Below.refl _ _⟩
  case round =>
    obtain ⟨j, hj, rfl, hown, hbel⟩ := hrel
    have hsz := hbel.size
    by_cases hlt : j < n
    · obtain ⟨b1, o1, rfl, hbw, hcc⟩ := (hr.below hbel).at_ (by omega)
      obtain ⟨g1, g2⟩ := hcc j hlt
      clear hcc
      have hnx := erase_step (k := k) (show j < ls.length by rw [HX.out]; exact hlt)
      have hlen : Hid (((ls.take j).eraseIdx k).length ≤ n) := by
        show _ ≤ _
        have := List.length_eraseIdx_le (ls.take j) k
        rw [List.length_take, HX.out] at this
        omega
      obtain ⟨⟨p, q⟩, hp⟩ : ∃ p, p = ls.getD j (0, 0) := ⟨_, rfl⟩
      rw [← hp] at g1 g2 hnx
      simp only at g1 g2
      have HN := Lib.hid hnx
      clear hp hnx
      have k1 : (0 : Int) ≤ (j : Int) := by omega
      have k2 : (j : Int) < (n : Int) := by omega
      by_cases hjk : j = k
      · have hn : Hid ((ls.take (j + 1)).eraseIdx k = (ls.take j).eraseIdx k) := by show _ = _; rw [HN.out, if_pos hjk]
        have d1 : ((j : Int) == (k : Int)) = true := by simp; omega
        have d2 : (j == k) = true := by simp; omega
        have d3 : decide (j = k) = true := by simp; omega
        have d4 : ((j : Int) != (k : Int)) = false := by simp; omega
        have d5 : (j != k) = false := by simp; omega
        clear hjk
        go_wp2
        go_roundw
        case rel => exact ⟨j + 1, by omega, by go_num, by rw [hn.out]; exact hown, hbel⟩
        case measure => simp [intOf]; omega
      · have hn : Hid ((ls.take (j + 1)).eraseIdx k = (ls.take j).eraseIdx k ++ [(p, q)]) := by show _ = _; rw [HN.out, if_neg hjk]
        have d1 : ((j : Int) == (k : Int)) = false := by simp; omega
        have d2 : (j == k) = false := by simp; omega
        have d3 : decide (j = k) = false := by simp; omega
        have d4 : ((j : Int) != (k : Int)) = true := by simp; omega
        have d5 : (j != k) = true := by simp; omega
        have hroom := hlen.out
        have hown2 := hown.below ((Below.refl _ wr).alloc (Nat.le_refl _) (.cells #[.int .i64 p, .int .i64 q] 41))
        have hbel2 := hbel.alloc hsz (.cells #[.int .i64 p, .int .i64 q] 41)
        clear hjk
        go_wp2_with (at_builtin; refine wpList_appP _ rfl (.tmp 16) (.tmp 21) _ rfl w.heap.size 41 Tryd.underlying22 lineInfo _ _ rfl hown2 _ 1 1 [(p, q)] rfl (RdP.one wr _ _) (by omega) (by simp; omega) ?_; intro v3 w3 hown3 hg3 hat3)
        have hb3 := below_appP hbel2 hown2 hg3 (by simp; omega)
        go_wp2
        go_roundw
        case rel => exact ⟨j + 1, by omega, by go_num, by rw [hn.out]; exact hown3, hb3⟩
        case measure => simp [intOf]; omega
    · obtain rfl : j = n := by omega
      have hfin : Hid ((ls.take j).eraseIdx k = ls.eraseIdx k) := by show _ = _; rw [List.take_of_length_le (by rw [HX.out]; exact Nat.le_refl _)]
      go_wp2
      go_ret
      exact ⟨_, rfl, by rw [← hfin.out]; exact hown, hbel⟩

end Go.Proofs.YtnekbgeablhgiaaDoor
