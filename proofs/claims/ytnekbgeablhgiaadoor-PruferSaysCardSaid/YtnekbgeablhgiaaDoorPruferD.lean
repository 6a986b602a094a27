/-
  Contracts of package prufer: the comparison of Read, the sort of its lines; what is wrong with a row; Read where something is wrong. No statement of the program is proved here; there is no condition.
-/
import Derived.Test.YtnekbgeablhgiaaDoorPruferB
import Derived.Test.YtnekbgeablhgiaaDoorSortS
import Derived.Test.YtnekbgeablhgiaaDoorRepeat
import Derived.Deep.RegionHeld3
import Derived.Sort.LotA
namespace Go.Proofs.YtnekbgeablhgiaaDoor
open Go.RowKit Go.Shelf

attribute [local go_sem] Oper.semAt_some
set_option linter.unusedSimpArgs false
set_option linter.unusedVariables false

set_option maxRecDepth 100000 in
set_option maxHeartbeats 600000 in
theorem cmpP_any (p q p' q' : Int) (w : World) : Calls Tryd.prog 31 #[.agg #[.int .i64 p, .int .i64 q], .agg #[.int .i64 p', .int .i64 q']] w fun e w' => e = .returned (.int .i64 (cmpL (p, q) (p', q'))) ∧ ∃ k os, w' = Go.Sort.grow (w.drewN k) os := by
  obtain ⟨b, hb⟩ : ∃ b, b = w.heap.size := ⟨_, rfl⟩
  obtain ⟨W, hW⟩ : ∃ W, W = (w.alloc (.cells #[.int .i64 p, .int .i64 q] 41)).alloc (.cells #[.int .i64 p', .int .i64 q'] 41) := ⟨_, rfl⟩
  have c0 : W.cell? ⟨b, 0, none⟩ = some (.int .i64 p) := by rw [hW, hb]; simp
  have c1 : W.cell? ⟨b, 1, none⟩ = some (.int .i64 q) := by rw [hW, hb]; simp
  have c2 : W.cell? ⟨b + 1, 0, none⟩ = some (.int .i64 p') := by rw [hW, hb]; simp
  have c3 : W.cell? ⟨b + 1, 1, none⟩ = some (.int .i64 q') := by rw [hW, hb]; simp
  have hWg : Hid (W = Go.Sort.grow w #[.cells #[.int .i64 p, .int .i64 q] 41, .cells #[.int .i64 p', .int .i64 q'] 41]) := by
    show _ = _
    rw [hW, Go.Sort.alloc_eq_grow, Go.Sort.alloc_eq_grow, Go.Sort.grow_grow]; rfl
  have hsz : W.heap.size = b + 2 := by rw [hW, hb]; simp
  have hres : Hid (cmpL (p, q) (p', q') = orI (cmpI p p') (cmpI q q')) := by show _ = _; rfl
  obtain ⟨r, hr⟩ : ∃ r, r = cmpL (p, q) (p', q') := ⟨_, rfl⟩
  rw [← hr] at hres ⊢
  have HB := Lib.hid hb
  have HSZ := Lib.hid hsz
  have HW := Lib.hid hW
  have q4 : ∀ (V : World) (x y : Int), (V.alloc (.cells #[.int .i64 x, .int .i64 y] 3)).cell? ⟨V.heap.size, 0, none⟩ = some (.int .i64 x) ∧ (V.alloc (.cells #[.int .i64 x, .int .i64 y] 3)).cell? ⟨V.heap.size, 1, none⟩ = some (.int .i64 y) := fun V x y => ⟨by simp, by simp⟩
  obtain ⟨e4, e5⟩ := q4 W.drew (cmpI p p') (cmpI q q')
  have hbl := (Below.refl W.drew.heap.size W.drew).alloc (Nat.le_refl _) (.cells #[.int .i64 (cmpI p p'), .int .i64 (cmpI q q')] 3)
  have d0 := (hbl.cell (p := ⟨b, 0, none⟩) (show b < W.heap.size by omega)).trans c0
  have d1 := (hbl.cell (p := ⟨b, 1, none⟩) (show b < W.heap.size by omega)).trans c1
  have d2 := (hbl.cell (p := ⟨b + 1, 0, none⟩) (show b + 1 < W.heap.size by omega)).trans c2
  have d3 := (hbl.cell (p := ⟨b + 1, 1, none⟩) (show b + 1 < W.heap.size by omega)).trans c3
  have hO := Or_two W.drew.heap.size (cmpI p p') (cmpI q q') _ e4 e5
  have HO := Lib.hid hO
  clear hr hb hW hsz hbl hO q4 e4 e5
  go_enter Tryd.func31, Tryd.ntmps31
  go_wp2
  rw [← HB.out, ← HW.out]
  go_region_held3 (fun w' : World => w'.cell? ⟨b, 0, none⟩ = some (.int .i64 p) ∧ w'.cell? ⟨b, 1, none⟩ = some (.int .i64 q) ∧ w'.cell? ⟨b + 1, 0, none⟩ = some (.int .i64 p') ∧ w'.cell? ⟨b + 1, 1, none⟩ = some (.int .i64 q')) (first | exact ⟨c0, c1, c2, c3⟩ | exact ⟨d0, d1, d2, d3⟩ | assumption)
    (first
      | (go_at_call 33; refine (Compare_int _ _ _).mono ?_; rintro e w5 ⟨rfl, rfl⟩)
      | (go_at_call 32; refine HO.out.mono ?_; rintro e w5 ⟨rfl, rfl⟩))
  go_wp2
  go_ret
  refine ⟨by rw [hres.out]; rfl, 1, #[.cells #[.int .i64 p, .int .i64 q] 41, .cells #[.int .i64 p', .int .i64 q'] 41, .cells #[.int .i64 (cmpI p p'), .int .i64 (cmpI q q')] 3], ?_⟩
  rw [hWg.out, Go.Sort.alloc_eq_grow]
  rfl


theorem sortP_own (base g cap n : Nat) (zs : List (Int × Int)) (w : World) (hn : zs.length = n) (hown : OwnP w base 41 (.slice (some ⟨g, 0, none⟩) n cap) zs) (h62 : n < 4611686018427387904) :
    Calls Tryd.prog 30 #[.slice (some ⟨g, 0, none⟩) n cap, .func (.func 31) #[] #[]] w (SortPost w base g n cap zs) :=
  sortLns_own 31 #[] base g cap n zs w hn hown h62 (enters_of Tryd.func31 (by kernel_rfl) rfl) (fun sz m os dk _ x y => cmpP_any x.1 x.2 y.1 y.2 _)

/-! ### rows that come in -/
namespace Pf
open Sg (first first_spec)
/-- may it stand in a row? -/
def okr (row : List Int) : Prop := ∀ x ∈ row, 0 ≤ x ∧ x < (row.length : Int) + 2
instance (row : List Int) : Decidable (okr row) := by unfold okr; exact inferInstance
/-- what is wrong with a row, as a number -/
def rcode (row : List Int) : Int := if 6 < row.length then 4 else if okr row then 0 else 1
theorem rcode_full {row : List Int} (h : 6 < row.length) : rcode row = 4 := if_pos h
theorem rcode_bad {row : List Int} (h : row.length ≤ 6) (h2 : ¬ okr row) : rcode row = 1 := by unfold rcode; rw [if_neg (by omega), if_neg h2]
theorem rcode_zero {row : List Int} : rcode row = 0 ↔ row.length ≤ 6 ∧ okr row := by
  unfold rcode
  by_cases h : 6 < row.length
  · rw [if_pos h]; constructor
    · intro e; omega
    · intro e; omega
  · rw [if_neg h]
    by_cases h2 : okr row
    · rw [if_pos h2]; exact ⟨fun _ => ⟨by omega, h2⟩, fun _ => rfl⟩
    · rw [if_neg h2]; exact ⟨fun e => by omega, fun e => absurd e.2 h2⟩
/-- the first one that may not stand there -/
theorem bad_first {row : List Int} (h : ¬ okr row) : ∃ i, i < row.length ∧ (row.getD i 0 < 0 ∨ (row.length : Int) + 2 ≤ row.getD i 0) ∧ ∀ j, j < i → 0 ≤ row.getD j 0 ∧ row.getD j 0 < (row.length : Int) + 2 := by
  have hex : ∃ v, v < row.length ∧ (row.getD v 0 < 0 ∨ (row.length : Int) + 2 ≤ row.getD v 0) := by
    refine Classical.byContradiction fun hno => h fun x hx => ?_
    obtain ⟨i, hi, rfl⟩ := List.getElem_of_mem hx
    refine Classical.byContradiction fun hb => hno ⟨i, hi, ?_⟩
    simp [List.getD, hi]
    omega
  obtain ⟨v, hv, hb⟩ := hex
  obtain ⟨_, a2, a3, a4⟩ := first_spec (p := fun i => decide (row.getD i 0 < 0 ∨ (row.length : Int) + 2 ≤ row.getD i 0)) row.length 0 v (Nat.zero_le _) (by omega) (decide_eq_true hb)
  refine ⟨_, Nat.lt_of_le_of_lt a2 hv, of_decide_eq_true a3, fun j hj => ?_⟩
  have := of_decide_eq_false (a4 j (Nat.zero_le _) hj)
  omega
/-- a good row, in plain numbers -/
def nrow (row : List Int) : List Nat := row.map Int.toNat
theorem nrow_len (row : List Int) : (nrow row).length = row.length := by simp [nrow]
theorem nrow_lt {row : List Int} (h : okr row) : ∀ x ∈ nrow row, x < (nrow row).length + 2 := fun x hx => by
  rw [nrow_len]
  obtain ⟨y, hy, rfl⟩ := List.mem_map.1 hx
  have := h y hy
  omega
theorem nrow_at {row : List Int} (h : okr row) {k : Nat} (hk : k < row.length) : row.getD k 0 = (((nrow row).getD k 0 : Nat) : Int) := by
  have := h (row.getD k 0) (by simp [List.getD, hk])
  simp [nrow, List.getD, hk] at this ⊢
  omega
/-- how many lines each point has by the first j numbers -/
def dgTo (row : List Int) (j : Nat) : List Int := tab (row.length + 2) fun v => 1 + (row.take j).count ((v : Nat) : Int)
theorem dgTo_zero (row : List Int) : dgTo row 0 = List.replicate (row.length + 2) 1 := by
  unfold dgTo tab
  rw [List.eq_replicate_iff]
  refine ⟨by simp, fun x hx => ?_⟩
  obtain ⟨v, _, rfl⟩ := List.mem_map.1 hx
  simp
theorem dgTo_small {row : List Int} (h6 : row.length ≤ 6) (j v : Nat) : 0 ≤ (dgTo row j).getD v 0 ∧ (dgTo row j).getD v 0 ≤ 16 := tab_small (fun v _ => by
  have := List.count_le_length (a := ((v : Nat) : Int)) (l := row.take j)
  rw [List.length_take] at this
  omega) v
theorem dgTo_succ {row : List Int} {j p : Nat} (hj : j < row.length) (hp : row.getD j 0 = (p : Int)) (hpl : p < row.length + 2) : dgTo row (j + 1) = (dgTo row j).set p ((dgTo row j).getD p 0 + 1) := by
  have ht : row.take (j + 1) = row.take j ++ [(p : Int)] := by
    rw [List.take_succ_eq_append_getElem hj, ← hp]
    simp [List.getD, hj]
  refine List.ext_getElem (by simp [dgTo, tab]) fun v hv _ => ?_
  have hvn : v < row.length + 2 := by simpa [dgTo, tab] using hv
  have e1 : (dgTo row j).getD p 0 = ((1 + (row.take j).count ((p : Nat) : Int) : Nat) : Int) := tab_at hpl
  rw [List.getElem_set]
  by_cases e : p = v
  · subst e
    rw [if_pos rfl, e1]
    simp only [dgTo, tab, List.getElem_map, List.getElem_range, ht, List.count_append]
    simp
    omega
  · rw [if_neg e]
    have hne : ((p : Int) == (v : Int)) = false := by simp; omega
    simp only [dgTo, tab, List.getElem_map, List.getElem_range, ht, List.count_append, List.count_singleton, hne]
    simp
theorem count_up : ∀ {row : List Int}, (∀ x ∈ row, 0 ≤ x) → ∀ v : Nat, row.count (v : Int) = (row.map Int.toNat).count v
  | [], _, _ => rfl
  | x :: row, h, v => by
    have h0 := h x (by simp)
    rw [List.count_cons, List.map_cons, List.count_cons, count_up (fun y hy => h y (List.mem_cons_of_mem _ hy)) v]
    congr 1
    by_cases e : x = (v : Int)
    · subst e; simp
    · have : ¬ x.toNat = v := fun h => e (by omega)
      simp [e, this]
/-- all of them: as the run begins -/
theorem dgTo_all {row : List Int} (h : okr row) : dgTo row row.length = dr ((nrow row).length + 2) (nrow row) (fun _ => false) 0 := by
  unfold dgTo dr
  rw [nrow_len]
  unfold tab
  refine List.map_congr_left fun v _ => ?_
  show ((1 + (row.take row.length).count ((v : Nat) : Int) : Nat) : Int) = ((if false = true then 0 else 1 + ((nrow row).drop 0).count v : Nat) : Int)
  rw [if_neg (by simp), List.take_length, List.drop_zero, count_up (fun x hx => (h x hx).1) v]
  rfl
end Pf

theorem Read_full (A : Option Addr) (n c : Nat) (row : List Int) (w : World) (hr : Rd w w.heap.size A n c row) (h : 6 < n) :
    Calls Tryd.prog 11 #[.slice A n c] w fun e w' => e = .returned (.tuple #[.slice none 0 0, errv 4]) ∧ Below w.heap.size w w' := by
  have hb1 : Below w.heap.size w (w.alloc (.cells #[.slice A n c] 23)) := (Below.refl _ _).alloc (Nat.le_refl _) _
  have hbig := hr.big
  go_enter Tryd.func11, Tryd.ntmps11
  go_wp2
  go_ret2
  exact ⟨rfl, hb1⟩

set_option maxRecDepth 100000 in
set_option maxHeartbeats 1000000 in
theorem Read_range (A : Option Addr) (n c : Nat) (row : List Int) (w : World) (hr : Rd w w.heap.size A n c row) (h : n ≤ 6) (hbad : ¬ Pf.okr row) :
    Calls Tryd.prog 11 #[.slice A n c] w fun e w' => e = .returned (.tuple #[.slice none 0 0, errv 1]) ∧ Below w.heap.size w w' := by
  have HX := Lib.hid hr.len
  have HBAD := Lib.hid hbad
  clear hbad
  obtain ⟨s0, hs0⟩ : ∃ s0, s0 = w.heap.size := ⟨_, rfl⟩
  obtain ⟨W1, hW1⟩ : ∃ W1, W1 = w.alloc (.cells #[.slice A n c] 23) := ⟨_, rfl⟩
  have hb1 : Below w.heap.size w W1 := by rw [hW1]; exact (Below.refl _ _).alloc (Nat.le_refl _) _
  have h1s : W1.heap.size = s0 + 1 := by rw [hW1, hs0]; simp
  have hx1 : Boxed W1 s0 23 (.slice A n c) := by rw [hW1, hs0]; exact Boxed.new w _ _
  obtain ⟨W2, hW2⟩ : ∃ W2, W2 = W1.alloc (.cells #[.int .i64 1] 3) := ⟨_, rfl⟩
  have hb2 : Below (s0 + 1) W1 W2 := by rw [hW2, ← h1s]; exact (Below.refl _ _).alloc (Nat.le_refl _) _
  have h2s : W2.heap.size = s0 + 2 := by rw [hW2]; simp [h1s]
  have hx2 : Boxed W2 s0 23 (.slice A n c) := (hb2.block s0 (by omega)).trans hx1
  have c2 : W2.cell? ⟨s0 + 1, 0, none⟩ = some (.int .i64 1) := by
    rw [hW2]
    have := Boxed.new W1 3 (.int .i64 1)
    rw [h1s] at this
    exact this.cell
  have hrep := Repeat_any 1 (s0 + 1) (n + 2) (by omega) W2 c2
  rw [show ((n + 2 : Nat) : Int) = (n : Int) + 2 by omega] at hrep
  have HR := Lib.hid hrep
  clear hrep
  have g0 := hx1.cell
  have HW1 := Lib.hid hW1
  have HW2 := Lib.hid hW2
  rw [hW1] at g0
  have HS0 := Lib.hid hs0
  have hd6 : decide ((6 : Int) < (n : Int)) = false := by simp; omega
  rw [hs0] at g0
  clear hW1 hW2 hs0
  go_enter Tryd.func11, Tryd.ntmps11
  go_wp2_with (first
    | (go_at_call 26; rw [← HW1.out, ← HW2.out, ← HS0.out]; refine HR.out.mono ?_; rintro e w3 ⟨rfl, hown, hb3⟩; have g3 := Boxed.cell ((hb3.block s0 (by omega)).trans hx2 : Boxed w3 s0 23 (.slice A n c))))
  obtain ⟨i0, hi0, hb0, hg0⟩ := Pf.bad_first HBAD.out
  have hrow := hr.below hb1
  rw [HX.out] at hi0 hb0 hg0
  have HG0 := Lib.hid hg0
  have HB0 := Lib.hid hb0
  have hb13 : Below w.heap.size w w3 := (hb1.trans (hb2.mono (by rw [HS0.out]; omega))).trans (hb3.mono (by rw [h2s, HS0.out]; omega))
  have hown0 : Own w3 (s0 + 2) 3 (.slice (some ⟨s0 + 2, 0, none⟩) (n + 2) (n + 2)) (Pf.dgTo row 0) := by
    rw [Pf.dgTo_zero, HX.out, ← h2s]
    exact hown
  have hs02 : w.heap.size ≤ s0 + 2 := by rw [HS0.out]; omega
  clear hown hb3 hb1 hb2 hx1 hx2 c2 g0 hg0 hb0 hrow h1s h2s g3
  go_loopw [7, 24] (fun _ iv wr => ∃ j : Nat, j ≤ i0 ∧ iv = .int .i64 (j : Int) ∧ Own wr (s0 + 2) 3 (.slice (some ⟨s0 + 2, 0, none⟩) (n + 2) (n + 2)) (Pf.dgTo row j) ∧ Below w.heap.size w wr) (fun _ iv _ => n - (intOf iv).toNat)
  case atStart => exact ⟨0, Nat.zero_le _, rfl, hown0, hb13⟩
  case round =>
    clear hown0 hb13
    obtain ⟨j, hj, rfl, hO, hB⟩ := hrel
    obtain ⟨b1, o1, rfl, hb1, hc1⟩ := (hr.below hB).at_ (by omega)
    have g1 := hc1 j (by omega)
    have j0 : (0 : Int) ≤ (j : Int) := by omega
    have j1 : (j : Int) < (n : Int) := by omega
    clear hc1
    by_cases he : j = i0
    · subst he
      have hb := HB0.out
      obtain ⟨p, hp⟩ : ∃ p, p = row.getD j 0 := ⟨_, rfl⟩
      rw [← hp] at g1 hb
      clear hp hO
      rcases hb with h1 | h1
      · go_wp2
        go_ret2
        exact ⟨rfl, hB⟩
      · have h2 : ¬ p < 0 := by omega
        go_wp2
        go_ret2
        exact ⟨rfl, hB⟩
    · obtain ⟨h1, h2⟩ := HG0.out j (by omega)
      obtain ⟨p, hp⟩ : ∃ p : Nat, row.getD j 0 = (p : Int) := ⟨(row.getD j 0).toNat, by omega⟩
      rw [hp] at g1 h1 h2
      have HN := Lib.hid (Pf.dgTo_succ (row := row) (j := j) (by rw [HX.out]; omega) hp (by rw [HX.out]; omega))
      obtain ⟨y, hy⟩ : ∃ y, y = (Pf.dgTo row j).getD p 0 := ⟨_, rfl⟩
      have hys := Pf.dgTo_small (row := row) (by rw [HX.out]; exact h) j p
      have f2 := hO.cell p (by omega)
      have f3 := hO.frozen p
      have hO4 := (hO.store p (y + 1)).1
      rw [← hy] at f2 hys
      have hO5 : Hid (Own (wr.setCell ⟨s0 + 2, p, none⟩ (.int .i64 (y + 1))) (s0 + 2) 3 (.slice (some ⟨s0 + 2, 0, none⟩) (n + 2) (n + 2)) (Pf.dgTo row (j + 1))) := by
        show Own _ _ _ _ _
        rw [HN.out, ← hy]
        exact hO4
      have hB5 := hB.setCell (p := ⟨s0 + 2, p, none⟩) hs02 (.int .i64 (y + 1))
      clear hO hO4 hp hy HN
      go_wp2
      go_roundw
      case rel => exact ⟨j + 1, by omega, by go_num, hO5.out, hB5⟩
      case measure => simp [intOf]; omega

end Go.Proofs.YtnekbgeablhgiaaDoor
