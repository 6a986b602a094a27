/-
  Contracts of what the laws on degrees ask besides: the sum and the turning round of a list, whether a number stands twice, and the closed fact on degrees.
-/
import Derived.Test.YtjjjnhdongaclaaDoorDegreeC
import Derived.Test.YtjjjnhdongaclaaDoorGraphF
import Derived.Test.YtjjjnhdongaclaaDoorRefL
namespace Go.Proofs.YtjjjnhdongaclaaDoor
open Go.RowKit

set_option maxHeartbeats 400000 in
theorem ESum_any {B : Nat} (A : Option Addr) (n c : Nat) (l : List Int) (w : World) (hr : Rd w B A n c l) (hb : ∀ d ∈ l, 0 ≤ d ∧ d ≤ 7) (h8 : n ≤ 8) :
    Calls Tryd.prog 13 #[.slice A n c] w fun e w' => e = .returned (.int .i64 (De.tot l)) ∧ w = w' := by
  have HX := Lib.hid hr.len
  have HB := Lib.hid hb
  clear hb
  go_enter Tryd.func13, Tryd.ntmps13
  go_wp2
  go_loop [3, 4] (fun s i => ∃ (k : Nat) (a : Int), k ≤ n ∧ i = .int .i64 k ∧ s = .int .i64 a ∧ 0 ≤ a ∧ a ≤ 7 * (k : Int) ∧ Hid (a = De.tot (l.take k))) (fun _ i => n - (intOf i).toNat)
  case atStart => exact ⟨0, 0, Nat.zero_le _, rfl, rfl, by omega, by omega, rfl⟩
  case round =>
    obtain ⟨k, a, hk, rfl, rfl, ha0, ha7, H⟩ := hrel
    by_cases hlt : k < n
    · obtain ⟨b1, o1, rfl, hb1, hc1⟩ := hr.at_ (by omega)
      have g1 := hc1 k hlt
      clear hc1
      obtain ⟨p, hp⟩ : ∃ p, p = l.getD k 0 := ⟨_, rfl⟩
      rw [← hp] at g1
      have hkl : k < l.length := by rw [HX.out]; exact hlt
      have hp07 : 0 ≤ p ∧ p ≤ 7 := HB.out p (by rw [hp]; simp [List.getD, hkl])
      have hnext : Hid (a + p = De.tot (l.take (k + 1))) := by show _ = _; rw [De.tot_take hkl, ← H.out, ← hp]
      obtain ⟨hp0, hp7⟩ := hp07
      clear hp hkl
      go_wp2
      go_round
      case rel => exact ⟨k + 1, a + p, by omega, by go_num, rfl, by omega, by omega, hnext⟩
      case measure => simp [intOf]; omega
    · have hfin : Hid (a = De.tot l) := by show _ = _; rw [H.out, List.take_of_length_le (by rw [HX.out]; omega)]
      go_wp2
      go_ret
      exact ⟨by rw [← hfin.out]; rfl, rfl⟩




end Go.Proofs.YtjjjnhdongaclaaDoor
