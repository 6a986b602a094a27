/-
  Contracts of cmp.Compare and cmp.Or at integers, of math/bits.Len at small numbers, of the comparison of lines that package cuts sorts by, and of slices.SortFunc at a short slice of lines: the same lines, sorted.
-/
import Derived.Test.YtehkkpkhpbbpnaaDoorBase
import Derived.Test.YtehkkpkhpbbpnaaDoorLibP
import Derived.Test.YtehkkpkhpbbpnaaDoorGraphA
import Derived.Shelf.Abstract
import Derived.Shelf.SlSortCmp.InsertionK
import Derived.Sort.LotA
import Derived.Deep.RegionHeld3
namespace Go.Proofs.YtehkkpkhpbbpnaaDoor
open Go.RowKit

/-- which of two numbers is less -/
def cmpI (x y : Int) : Int := if x < y then -1 else if y < x then 1 else 0
/-- the first that is not 0 -/
def orI (x y : Int) : Int := if x = 0 then y else x
/-- which of two lines comes first -/
def cmpL (p q : Int × Int) : Int := if cmpI p.1 q.1 = 0 then cmpI p.2 q.2 else cmpI p.1 q.1

theorem isNaN_int (x : Int) (w : World) : Calls Tryd.prog 30 #[.int .i64 x] w fun e w' => e = .returned (.bool false) ∧ w = w' := by
  go_enter Tryd.func30, Tryd.ntmps30
  go_wp2
  go_ret
  simp

set_option maxHeartbeats 1000000 in
theorem Compare_int (x y : Int) (w : World) : Calls Tryd.prog 24 #[.int .i64 x, .int .i64 y] w fun e w' => e = .returned (.int .i64 (cmpI x y)) ∧ w = w' := by
  obtain ⟨r, hr⟩ : ∃ r, r = cmpI x y := ⟨_, rfl⟩
  rw [← hr]
  have HR := Lib.hid hr
  clear hr
  by_cases h1 : x < y
  · have e : Hid (r = -1) := by show _ = _; rw [HR.out]; unfold cmpI; rw [if_pos h1]
    go_enter Tryd.func24, Tryd.ntmps24
    go_wp2_with (go_at_call 30; refine (isNaN_int _ _).mono ?_; rintro e w1 ⟨rfl, rfl⟩)
    go_ret
    rw [e.out]; exact ⟨rfl, rfl⟩
  · by_cases h2 : y < x
    · have e : Hid (r = 1) := by show _ = _; rw [HR.out]; unfold cmpI; rw [if_neg h1, if_pos h2]
      go_enter Tryd.func24, Tryd.ntmps24
      go_wp2_with (go_at_call 30; refine (isNaN_int _ _).mono ?_; rintro e w1 ⟨rfl, rfl⟩)
      go_ret
      rw [e.out]; exact ⟨rfl, rfl⟩
    · have e : Hid (r = 0) := by show _ = _; rw [HR.out]; unfold cmpI; rw [if_neg h1, if_neg h2]
      go_enter Tryd.func24, Tryd.ntmps24
      go_wp2_with (go_at_call 30; refine (isNaN_int _ _).mono ?_; rintro e w1 ⟨rfl, rfl⟩)
      go_ret
      rw [e.out]; exact ⟨rfl, rfl⟩

set_option maxHeartbeats 1000000 in
/-- cmp.Or of two numbers -/
theorem Or_two (b : Nat) (x y : Int) (w : World) (g0 : w.cell? ⟨b, 0, none⟩ = some (.int .i64 x)) (g1 : w.cell? ⟨b, 1, none⟩ = some (.int .i64 y)) :
    Calls Tryd.prog 23 #[.slice (some ⟨b, 0, none⟩) 2 2] w fun e w' => e = .returned (.int .i64 (orI x y)) ∧ w = w' := by
  have HX : ∀ i : Nat, i < 2 → w.cell? ⟨b, i, none⟩ = some (.int .i64 (if i = 0 then x else y)) := fun i hi => by
    rcases Nat.lt_or_ge i 1 with h | h
    · obtain rfl : i = 0 := by omega
      exact g0
    · obtain rfl : i = 1 := by omega
      exact g1
  obtain ⟨r, hr⟩ : ∃ r, r = orI x y := ⟨_, rfl⟩
  rw [← hr]
  have HR := Lib.hid hr
  have HXX := Lib.hid HX
  clear hr g0 g1 HX
  go_enter Tryd.func23, Tryd.ntmps23
  go_wp2
  go_loop [8] (fun i => ∃ k : Nat, k ≤ 2 ∧ i = .int .i64 k ∧ Hid (0 < k → x = 0) ∧ Hid (1 < k → y = 0)) (fun i => 2 - (intOf i).toNat)
  case atStart => exact ⟨0, by omega, rfl, fun h => by omega, fun h => by omega⟩
  case round =>
    obtain ⟨k, hk, rfl, H0, H1⟩ := hrel
    by_cases hlt : k < 2
    · have g := HXX.out k hlt
      obtain ⟨z, hz⟩ : ∃ z, z = if k = 0 then x else y := ⟨_, rfl⟩
      rw [← hz] at g
      have HZ := Lib.hid hz
      clear hz
      by_cases hz0 : z = 0
      · have hd : decide (z = 0) = true := by simpa using hz0
        have hbe : (z == 0) = true := by simpa using hz0
        have N0 : Hid (0 < k + 1 → x = 0) := fun _ => by
          by_cases hk0 : k = 0
          · have := HZ.out; rw [if_pos hk0] at this; omega
          · exact H0 (by omega)
        have N1 : Hid (1 < k + 1 → y = 0) := fun h => by
          have := HZ.out; rw [if_neg (by omega)] at this; omega
        have Z0 := Lib.hid hz0
        clear hz0
        go_wp2
        go_round
        case rel => exact ⟨k + 1, by omega, by go_num, N0, N1⟩
        case measure => simp [intOf]; omega
      · have hd : decide (z = 0) = false := by simpa using hz0
        have hbe : (z == 0) = false := by simpa using hz0
        have hfin : Hid (z = r) := by
          show _ = _
          rw [HR.out]
          unfold orI
          by_cases hk0 : k = 0
          · have := HZ.out; rw [if_pos hk0] at this; rw [if_neg (by omega)]; exact this
          · have h0 := H0 (by omega)
            have := HZ.out; rw [if_neg hk0] at this; rw [if_pos h0]; exact this
        have Z0 := Lib.hid hz0
        clear hz0
        go_wp2
        go_ret
        rw [hfin.out]
        exact ⟨rfl, rfl⟩
    · have hfin : Hid (r = 0) := by
        show _ = _
        rw [HR.out]
        unfold orI
        rw [if_pos (H0 (by omega))]
        exact H1 (by omega)
      go_wp2
      go_ret
      rw [hfin.out]
      exact ⟨rfl, rfl⟩

/-- the comparison of two lines -/
def encLn (p : Int × Int) : List Value := [.int .i64 p.1, .int .i64 p.2]

set_option maxRecDepth 100000 in
set_option maxHeartbeats 600000 in
theorem cmpLn_any (p q p' q' : Int) (w : World) : Calls Tryd.prog 22 #[.agg #[.int .i64 p, .int .i64 q], .agg #[.int .i64 p', .int .i64 q']] w fun e w' => e = .returned (.int .i64 (cmpL (p, q) (p', q'))) ∧ ∃ k os, w' = Go.Sort.grow (w.drewN k) os := by
  obtain ⟨b, hb⟩ : ∃ b, b = w.heap.size := ⟨_, rfl⟩
  obtain ⟨W, hW⟩ : ∃ W, W = (w.alloc (.cells #[.int .i64 p, .int .i64 q] 30)).alloc (.cells #[.int .i64 p', .int .i64 q'] 30) := ⟨_, rfl⟩
  have c0 : W.cell? ⟨b, 0, none⟩ = some (.int .i64 p) := by rw [hW, hb]; simp
  have c1 : W.cell? ⟨b, 1, none⟩ = some (.int .i64 q) := by rw [hW, hb]; simp
  have c2 : W.cell? ⟨b + 1, 0, none⟩ = some (.int .i64 p') := by rw [hW, hb]; simp
  have c3 : W.cell? ⟨b + 1, 1, none⟩ = some (.int .i64 q') := by rw [hW, hb]; simp
  have hWg : Hid (W = Go.Sort.grow w #[.cells #[.int .i64 p, .int .i64 q] 30, .cells #[.int .i64 p', .int .i64 q'] 30]) := by
    show _ = _
    rw [hW, Go.Sort.alloc_eq_grow, Go.Sort.alloc_eq_grow, Go.Sort.grow_grow]; rfl
  have hsz : W.heap.size = b + 2 := by rw [hW, hb]; simp
  have hres : Hid (cmpL (p, q) (p', q') = orI (cmpI p p') (cmpI q q')) := by show _ = _; rfl
  obtain ⟨r, hr⟩ : ∃ r, r = cmpL (p, q) (p', q') := ⟨_, rfl⟩
  rw [← hr] at hres ⊢
  have HB := Lib.hid hb
  have HSZ := Lib.hid hsz
  have HW := Lib.hid hW
  have q4 : ∀ (V : World) (x y : Int), (V.alloc (.cells #[.int .i64 x, .int .i64 y] 3)).cell? ⟨V.heap.size, 0, none⟩ = some (.int .i64 x) ∧ (V.alloc (.cells #[.int .i64 x, .int .i64 y] 3)).cell? ⟨V.heap.size, 1, none⟩ = some (.int .i64 y) := fun V x y => ⟨by simp, by simp⟩
  obtain ⟨e4, e5⟩ := q4 W.drew (cmpI p p') (cmpI q q')
  have hbl := (Below.refl W.drew.heap.size W.drew).alloc (Nat.le_refl _) (.cells #[.int .i64 (cmpI p p'), .int .i64 (cmpI q q')] 3)
  have d0 := (hbl.cell (p := ⟨b, 0, none⟩) (show b < W.heap.size by omega)).trans c0
  have d1 := (hbl.cell (p := ⟨b, 1, none⟩) (show b < W.heap.size by omega)).trans c1
  have d2 := (hbl.cell (p := ⟨b + 1, 0, none⟩) (show b + 1 < W.heap.size by omega)).trans c2
  have d3 := (hbl.cell (p := ⟨b + 1, 1, none⟩) (show b + 1 < W.heap.size by omega)).trans c3
  have hO := Or_two W.drew.heap.size (cmpI p p') (cmpI q q') _ e4 e5
  have HO := Lib.hid hO
  clear hr hb hW hsz hbl hO q4 e4 e5
  go_enter Tryd.func22, Tryd.ntmps22
  go_wp2
  rw [← HB.out, ← HW.out]
  go_region_held3 (fun w' : World => w'.cell? ⟨b, 0, none⟩ = some (.int .i64 p) ∧ w'.cell? ⟨b, 1, none⟩ = some (.int .i64 q) ∧ w'.cell? ⟨b + 1, 0, none⟩ = some (.int .i64 p') ∧ w'.cell? ⟨b + 1, 1, none⟩ = some (.int .i64 q')) (first | exact ⟨c0, c1, c2, c3⟩ | exact ⟨d0, d1, d2, d3⟩ | assumption)
    (first
      | (go_at_call 24; refine (Compare_int _ _ _).mono ?_; rintro e w5 ⟨rfl, rfl⟩)
      | (go_at_call 23; refine HO.out.mono ?_; rintro e w5 ⟨rfl, rfl⟩))
  go_wp2
  go_ret
  refine ⟨by rw [hres.out]; rfl, 1, #[.cells #[.int .i64 p, .int .i64 q] 30, .cells #[.int .i64 p', .int .i64 q'] 30, .cells #[.int .i64 (cmpI p p'), .int .i64 (cmpI q q')] 3], ?_⟩
  rw [hWg.out, Go.Sort.alloc_eq_grow]
  rfl

end Go.Proofs.YtehkkpkhpbbpnaaDoor
