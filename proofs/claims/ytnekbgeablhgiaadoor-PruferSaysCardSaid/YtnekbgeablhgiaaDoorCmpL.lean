/-
  Contracts of cmp.Compare and cmp.Or at integers; which of two lines comes first. No statement of the program is proved here; there is no condition.
-/
import Derived.Test.YtnekbgeablhgiaaDoorBase
import Derived.Test.YtnekbgeablhgiaaDoorLibS
import Derived.Test.YtnekbgeablhgiaaDoorGraphA
import Derived.Shelf.Abstract
import Derived.Shelf.SlSortCmp.InsertionK
import Derived.Sort.LotA
import Derived.Deep.RegionHeld3
namespace Go.Proofs.YtnekbgeablhgiaaDoor
open Go.RowKit

/-- which of two numbers is less -/
def cmpI (x y : Int) : Int := if x < y then -1 else if y < x then 1 else 0
/-- the first that is not 0 -/
def orI (x y : Int) : Int := if x = 0 then y else x
/-- which of two lines comes first -/
def cmpL (p q : Int × Int) : Int := if cmpI p.1 q.1 = 0 then cmpI p.2 q.2 else cmpI p.1 q.1

theorem isNaN_int (x : Int) (w : World) : Calls Tryd.prog 45 #[.int .i64 x] w fun e w' => e = .returned (.bool false) ∧ w = w' := by
  go_enter Tryd.func45, Tryd.ntmps45
  go_wp2
  go_ret
  simp

set_option maxHeartbeats 1000000 in
theorem Compare_int (x y : Int) (w : World) : Calls Tryd.prog 33 #[.int .i64 x, .int .i64 y] w fun e w' => e = .returned (.int .i64 (cmpI x y)) ∧ w = w' := by
  obtain ⟨r, hr⟩ : ∃ r, r = cmpI x y := ⟨_, rfl⟩
  rw [← hr]
  have HR := Lib.hid hr
  clear hr
  by_cases h1 : x < y
  · have e : Hid (r = -1) := by show _ = _; rw [HR.out]; unfold cmpI; rw [if_pos h1]
    go_enter Tryd.func33, Tryd.ntmps33
    go_wp2_with (go_at_call 45; refine (isNaN_int _ _).mono ?_; rintro e w1 ⟨rfl, rfl⟩)
    go_ret
    rw [e.out]; exact ⟨rfl, rfl⟩
  · by_cases h2 : y < x
    · have e : Hid (r = 1) := by show _ = _; rw [HR.out]; unfold cmpI; rw [if_neg h1, if_pos h2]
      go_enter Tryd.func33, Tryd.ntmps33
      go_wp2_with (go_at_call 45; refine (isNaN_int _ _).mono ?_; rintro e w1 ⟨rfl, rfl⟩)
      go_ret
      rw [e.out]; exact ⟨rfl, rfl⟩
    · have e : Hid (r = 0) := by show _ = _; rw [HR.out]; unfold cmpI; rw [if_neg h1, if_neg h2]
      go_enter Tryd.func33, Tryd.ntmps33
      go_wp2_with (go_at_call 45; refine (isNaN_int _ _).mono ?_; rintro e w1 ⟨rfl, rfl⟩)
      go_ret
      rw [e.out]; exact ⟨rfl, rfl⟩

set_option maxHeartbeats 1000000 in
/-- cmp.Or of two numbers -/
theorem Or_two (b : Nat) (x y : Int) (w : World) (g0 : w.cell? ⟨b, 0, none⟩ = some (.int .i64 x)) (g1 : w.cell? ⟨b, 1, none⟩ = some (.int .i64 y)) :
    Calls Tryd.prog 32 #[.slice (some ⟨b, 0, none⟩) 2 2] w fun e w' => e = .returned (.int .i64 (orI x y)) ∧ w = w' := by
  have HX : ∀ i : Nat, i < 2 → w.cell? ⟨b, i, none⟩ = some (.int .i64 (if i = 0 then x else y)) := fun i hi => by
    rcases Nat.lt_or_ge i 1 with h | h
    · obtain rfl : i = 0 := by omega
      exact g0
    · obtain rfl : i = 1 := by omega
      exact g1
  obtain ⟨r, hr⟩ : ∃ r, r = orI x y := ⟨_, rfl⟩
  rw [← hr]
  have HR := Lib.hid hr
  have HXX := Lib.hid HX
  clear hr g0 g1 HX
  go_enter Tryd.func32, Tryd.ntmps32
  go_wp2
  go_loop [8] (fun i => ∃ k : Nat, k ≤ 2 ∧ i = .int .i64 k ∧ Hid (0 < k → x = 0) ∧ Hid (1 < k → y = 0)) (fun i => 2 - (intOf i).toNat)
  case atStart => exact ⟨0, by omega, rfl, fun h => by omega, fun h => by omega⟩
  case round =>
    obtain ⟨k, hk, rfl, H0, H1⟩ := hrel
    by_cases hlt : k < 2
    · have g := HXX.out k hlt
      obtain ⟨z, hz⟩ : ∃ z, z = if k = 0 then x else y := ⟨_, rfl⟩
      rw [← hz] at g
      have HZ := Lib.hid hz
      clear hz
      by_cases hz0 : z = 0
      · have hd : decide (z = 0) = true := by simpa using hz0
        have hbe : (z == 0) = true := by simpa using hz0
        have N0 : Hid (0 < k + 1 → x = 0) := fun _ => by
          by_cases hk0 : k = 0
          · have := HZ.out; rw [if_pos hk0] at this; omega
          · exact H0 (by omega)
        have N1 : Hid (1 < k + 1 → y = 0) := fun h => by
          have := HZ.out; rw [if_neg (by omega)] at this; omega
        have Z0 := Lib.hid hz0
        clear hz0
        go_wp2
        go_round
        case rel => exact ⟨k + 1, by omega, by go_num, N0, N1⟩
        case measure => simp [intOf]; omega
      · have hd : decide (z = 0) = false := by simpa using hz0
        have hbe : (z == 0) = false := by simpa using hz0
        have hfin : Hid (z = r) := by
          show _ = _
          rw [HR.out]
          unfold orI
          by_cases hk0 : k = 0
          · have := HZ.out; rw [if_pos hk0] at this; rw [if_neg (by omega)]; exact this
          · have h0 := H0 (by omega)
            have := HZ.out; rw [if_neg hk0] at this; rw [if_pos h0]; exact this
        have Z0 := Lib.hid hz0
        clear hz0
        go_wp2
        go_ret
        rw [hfin.out]
        exact ⟨rfl, rfl⟩
    · have hfin : Hid (r = 0) := by
        show _ = _
        rw [HR.out]
        unfold orI
        rw [if_pos (H0 (by omega))]
        exact H1 (by omega)
      go_wp2
      go_ret
      rw [hfin.out]
      exact ⟨rfl, rfl⟩

/-- the comparison of two lines -/
def encLn (p : Int × Int) : List Value := [.int .i64 p.1, .int .i64 p.2]

end Go.Proofs.YtnekbgeablhgiaaDoor
