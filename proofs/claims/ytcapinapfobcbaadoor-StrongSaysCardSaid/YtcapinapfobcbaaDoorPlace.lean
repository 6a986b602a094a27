/-
  The contract of the reference's Place: where a number stands in a list.
-/
import Derived.Test.YtcapinapfobcbaaDoorBase
import Derived.Test.YtcapinapfobcbaaDoorStableM
import Derived.BigQuiet
namespace Go.Proofs.YtcapinapfobcbaaDoor
open Go.RowKit
set_option linter.unusedSimpArgs false
set_option linter.unusedVariables false

set_option maxHeartbeats 1000000 in
theorem Place_t {B : Nat} (A : Option Addr) (n c : Nat) (l : List Int) (x t : Int) (w : World) (hr : Rd w B A n c l) (ht : St.plc l x = t) :
    Calls Tryd.prog 6 #[.slice A n c, .int .i64 x] w fun e w' => e = .returned (.int .i64 t) ∧ w = w' := by
  have HX := Lib.hid hr.len
  have HT : Hid (St.plcF x (l.drop 0) 0 = t) := ht
  clear ht
  have hbig := hr.big
  go_enter Tryd.func6, Tryd.ntmps6
  go_wp2
  go_loop [5] (fun i => ∃ k : Nat, k ≤ n ∧ i = .int .i64 k ∧ Hid (St.plcF x (l.drop k) k = t)) (fun i => n - (intOf i).toNat)
  case atStart => exact ⟨0, Nat.zero_le _, rfl, HT⟩
  case round =>
    obtain ⟨k, hk, rfl, H⟩ := hrel
    by_cases hlt : k < n
    · obtain ⟨b1, o1, rfl, hb1, hc1⟩ := hr.at_ (by omega)
      have g1 := hc1 k hlt
      clear hc1
      obtain ⟨p, hp⟩ : ∃ p, p = l.getD k 0 := ⟨_, rfl⟩
      rw [← hp] at g1
      have hstep : Hid (t = if p = x then (k : Int) else St.plcF x (l.drop (k + 1)) (k + 1)) := by show _ = _; rw [← H.out, St.plcF_step (by rw [HX.out]; exact hlt) x p hp]
      clear hp
      by_cases hpx : p = x
      · have hfin : Hid (t = (k : Int)) := by show _ = _; rw [hstep.out, if_pos hpx]
        have d1 : (p == x) = true := by simpa using hpx
        clear hpx hstep
        go_wp2
        go_ret
        exact ⟨by rw [hfin.out]; rfl, rfl⟩
      · have hn : Hid (St.plcF x (l.drop (k + 1)) (k + 1) = t) := by show _ = _; rw [hstep.out, if_neg hpx]
        have d1 : (p == x) = false := by simpa using hpx
        clear hpx hstep
        go_wp2
        go_round
        case rel => exact ⟨k + 1, by omega, by go_num, hn⟩
        case measure => simp [intOf]; omega
    · obtain rfl : k = n := by omega
      have hfin : Hid (t = -1) := by
        show _ = _
        rw [← H.out, List.drop_eq_nil_of_le (by rw [HX.out]; exact Nat.le_refl _)]
        rfl
      go_wp2
      go_ret
      exact ⟨by rw [hfin.out]; rfl, rfl⟩

end Go.Proofs.YtcapinapfobcbaaDoor
