/-
  The contracts of upward and Ups of package common: the way up from a point; whom each point hangs on, or what is wrong. No statement of the program is proved here; there is no condition.
-/
import Derived.Test.YtojkjdccjomaaaaDoorCommonA
import Derived.Test.YtojkjdccjomaaaaDoorTreeA
import Derived.Test.YtojkjdccjomaaaaDoorWalkH
namespace Go.Proofs.YtojkjdccjomaaaaDoor
open Go.RowKit
set_option linter.unusedSimpArgs false
set_option linter.unusedVariables false

set_option maxRecDepth 100000 in
set_option maxHeartbeats 1000000 in
theorem upward_any (m a b : Nat) (ls : List Gr.Ln) (hT : Tr.Tree m ls) (hm8 : m ≤ 8) (ha : a < m) (hb : b < m) (A : Option Addr) (c : Nat) (w : World) (hr : Rd w w.heap.size A m c (Co.ups m ls b)) :
    Calls Tryd.prog 22 #[.slice A m c, .int .i64 (a : Int)] w fun e w' => ∃ v, e = .returned v ∧ Own w' w.heap.size 3 v (Co.wayI m ls a b) ∧ Below w.heap.size w w' := by
  obtain ⟨D, hD⟩ : ∃ D, D = Tr.far m ls a b := ⟨_, rfl⟩
  have hDm : D < m := by rw [hD]; exact Co.far_lt hT ha hb
  have HP0 : Hid ((a : Int) = Co.pos m ls a b 0) := (Co.pos_zero hT ha hb).symm
  have HT := Lib.hid hT
  have HD := Lib.hid hD
  have h0 : Own w w.heap.size 3 (.slice none 0 0) ((Co.wayI m ls a b).take 0) := Own.nil _ _ _
  have hlen := Co.wayI_len hT ha hb
  rw [← hD] at hlen
  have HL := Lib.hid hlen
  clear hT hD hlen
  go_enter Tryd.func22, Tryd.ntmps22
  go_wp2
  go_loopw [1, 5] (fun xv v wr => ∃ (k : Nat) (x : Int), k ≤ D + 1 ∧ xv = .int .i64 x ∧ Hid (x = Co.pos m ls a b k) ∧ Own wr w.heap.size 3 v ((Co.wayI m ls a b).take k) ∧ Below w.heap.size w wr) (fun xv _ _ => Co.mu m ls b (intOf xv))
  case atStart => exact ⟨0, _, Nat.zero_le _, rfl, HP0, h0, Below.refl _ _⟩
  case round =>
    clear HP0 h0
    obtain ⟨k, x, hk, rfl, HX, hown, hbel⟩ := hrel
    have hsz := hbel.size
    by_cases hlt : k ≤ D
    · have hkD : k ≤ Tr.far m ls a b := by rw [← HD.out]; exact hlt
      obtain ⟨v, e1, e2, e3, e4, e5⟩ := Co.pos_in HT.out ha hb hkD
      have hmu := Co.mu_lt HT.out ha hb hkD
      obtain rfl : x = (v : Int) := by rw [HX.out, e1]
      rw [e1] at hmu
      obtain ⟨b1, o1, rfl, hbb, hc1⟩ := hr.at_ (by omega)
      have g0 := hc1 v e2
      rw [Co.ups_at ls b e2, e4] at g0
      obtain ⟨y, hy⟩ : ∃ y, y = Co.pos m ls a b (k + 1) := ⟨_, rfl⟩
      rw [← hy] at g0 hmu
      have HY := Lib.hid hy
      have HMU := Lib.hid hmu
      have hnext : Hid ((Co.wayI m ls a b).take (k + 1) = (Co.wayI m ls a b).take k ++ [(v : Int)]) := by show _ = _; rw [Co.wayI_take HT.out ha hb hkD, e1]
      have hroom : Hid (((Co.wayI m ls a b).take k).length + 1 ≤ 17592186044416) := by show _ ≤ _; rw [List.length_take]; omega
      have v0 : (0 : Int) ≤ (v : Int) := by omega
      have v1 : (v : Int) < (m : Int) := by omega
      have hbig := hr.big
      clear hc1 e1 e3 e4 e5 hy hmu HX hkD
      go_wp2_with (at_builtin; refine wpList_app _ rfl (.tmp 12) (.tmp 14) 25 rfl w.heap.size 3 Tryd.underlying25 intInfo _ _ rfl (hown.below ((Below.refl _ _).alloc (Nat.le_refl _) _)) (some ⟨wr.heap.size, 0, none⟩) 1 1 [(v : Int)] rfl (Rd.one _ _ _) hroom.out (by simp; omega) ?_; intro v1 w1 hown1 hg1 hat1; have hb1 := below_app (hbel.alloc hsz _) (hown.below ((Below.refl _ _).alloc (Nat.le_refl _) _)) hg1 (by simp; omega); have g2 := (hb1.cell (p := ⟨b1, o1 + v, none⟩) hbb).trans g0)
      go_roundw
      case rel => exact ⟨k + 1, y, by omega, rfl, HY, by rw [hnext.out]; exact hown1, hb1⟩
      case measure => simpa [intOf] using HMU.out
    · have hxe : x = -1 := by rw [HX.out]; exact Co.pos_end ls (by rw [← HD.out]; omega)
      subst hxe
      have hall : Hid ((Co.wayI m ls a b).take k = Co.wayI m ls a b) := List.take_of_length_le (by rw [HL.out]; omega)
      go_wp2
      go_ret
      exact ⟨_, rfl, by rw [← hall.out]; exact hown, hbel⟩

/-! ### Ups -/
set_option maxHeartbeats 400000 in
theorem Ups_tree (n r : Int) (A : Option Addr) (k c : Nat) (ls : List Gr.Ln) (w : World) (hr : RdP w w.heap.size A k c ls) (h : Tr.tcode n ls ≠ 0) :
    Calls Tryd.prog 7 #[.int .i64 n, .slice A k c, .int .i64 r] w fun e w' => e = .returned (.tuple #[.slice none 0 0, errv (Tr.tcode n ls)]) ∧ Below w.heap.size w w' := by
  have H := Lib.hid h
  clear h
  go_enter Tryd.func7, Tryd.ntmps7
  go_wp2_with fail
  refine (TCheck_bad n A k c ls _ hr H.out).mono ?_
  rintro e w1 ⟨rfl, hb⟩
  go_wp2
  go_ret2
  exact ⟨rfl, hb⟩

set_option maxHeartbeats 400000 in
theorem Ups_range (n r : Int) (A : Option Addr) (k c : Nat) (ls : List Gr.Ln) (w : World) (hr : RdP w w.heap.size A k c ls) (h : Tr.tcode n ls = 0) (hx : r < 0 ∨ n ≤ r) :
    Calls Tryd.prog 7 #[.int .i64 n, .slice A k c, .int .i64 r] w fun e w' => e = .returned (.tuple #[.slice none 0 0, errv 1]) ∧ Below w.heap.size w w' := by
  have hg : Gr.code n ls = 0 := by
    rcases Tr.tcode_cases n ls with ⟨m, rfl, _, hc, _⟩ | h1
    · exact hc
    · exact absurd h h1
  have hf : Wa.fcode n ls r = 1 := by unfold Wa.fcode; rw [if_pos hg, if_pos hx]
  have H := Lib.hid h
  have HF := Lib.hid hf
  clear h hg hf hx
  go_enter Tryd.func7, Tryd.ntmps7
  go_wp2_with fail
  refine (TCheck_ok n A k c ls _ hr H.out).mono ?_
  rintro e w1 ⟨rfl, hb⟩
  go_wp2_with fail
  refine (From_any n A k c ls r _ (hr.past hb)).mono ?_
  rintro e w2 ⟨hb2, (⟨_, rfl⟩ | ⟨h0, _⟩)⟩
  · rw [HF.out]
    have hb02 := hb.trans (hb2.mono hb.size)
    go_wp2
    go_ret2
    exact ⟨rfl, hb02⟩
  · rw [HF.out] at h0
    omega

theorem Ups_bad (n r : Int) (A : Option Addr) (k c : Nat) (ls : List Gr.Ln) (w : World) (hr : RdP w w.heap.size A k c ls) (h : Co.ccode n ls r ≠ 0) :
    Calls Tryd.prog 7 #[.int .i64 n, .slice A k c, .int .i64 r] w fun e w' => e = .returned (.tuple #[.slice none 0 0, errv (Co.ccode n ls r)]) ∧ Below w.heap.size w w' := by
  by_cases ht : Tr.tcode n ls = 0
  · by_cases hx : r < 0 ∨ n ≤ r
    · rw [Co.ccode_range ht hx]
      exact Ups_range n r A k c ls w hr ht hx
    · exact absurd (Co.ccode_zero.2 ⟨ht, by omega, by omega⟩) h
  · rw [Co.ccode_bad ht]
    exact Ups_tree n r A k c ls w hr ht

set_option maxRecDepth 100000 in
set_option maxHeartbeats 2000000 in
theorem Ups_ok (m r : Nat) (A : Option Addr) (k c : Nat) (ls : List Gr.Ln) (w : World) (hr : RdP w w.heap.size A k c ls) (h : Tr.tcode (m : Int) ls = 0) (hrm : r < m) :
    Calls Tryd.prog 7 #[.int .i64 (m : Int), .slice A k c, .int .i64 (r : Int)] w fun e w' => ∃ g, e = .returned (.tuple #[.slice (some ⟨g, 0, none⟩) m m, .nilIface]) ∧ Own w' w.heap.size 3 (.slice (some ⟨g, 0, none⟩) m m) (Co.ups m ls r) ∧ Below w.heap.size w w' := by
  obtain ⟨hc, hT⟩ := Tr.tcode_zero.1 h
  have hm8 : m ≤ 8 := by have := (Gr.code_zero.1 hc).2.1; omega
  have hm1 : 1 ≤ m := by have := (Gr.code_zero.1 hc).1; omega
  obtain ⟨i0, hi, hz0, hz1, hz2⟩ := info_parts intInfo
  have hml : m ≤ maxLen := by simp only [maxLen]; omega
  obtain ⟨zc, hzc⟩ : ∃ zc, zc = madeCells (Value.int .i64 0).cells (m * 1) := ⟨_, rfl⟩
  have hmk : ∀ w : World, (Instr.makeSlice 25 (.int .i64 (m : Int)) (.int .i64 (m : Int))).run Tryd.prog w = .ok (.slice (some ⟨w.heap.size, 0, none⟩) m m) (w.alloc (.cells zc 3)) := fun w => by
    have := run_make (P := Tryd.prog) w 25 3 i0 (.int .i64 0) Tryd.underlying25 hi hz0 .i64 .i64 (m : Int) (m : Int) (by omega) (Int.le_refl _) (by rw [hz2]; omega) (by omega)
    simp only [Int.toNat_natCast, hz1, ← hzc] at this
    exact this
  have HZ := Lib.hid hzc
  have H := Lib.hid h
  have HC := Lib.hid hc
  have HT := Lib.hid hT
  clear h hc hT hzc hi hz0 hz1 hz2
  go_enter Tryd.func7, Tryd.ntmps7
  go_wp2_with fail
  refine (TCheck_ok (m : Int) A k c ls _ hr H.out).mono ?_
  rintro e w1 ⟨rfl, hb1⟩
  have hr1 := hr.past hb1
  go_wp2_with fail
  refine (From_fine m r A k c ls _ hr1 HC.out hrm).mono ?_
  rintro e w2 ⟨g, rfl, hdo, hb2⟩
  have hrd2 := hdo.rd'
  have hr2 := hr1.past hb2
  have hb02 := hb1.trans (hb2.mono hb1.size)
  clear hdo hr1 hb1 hb2
  go_wp2_with fail
  refine (Beside_good m A k c ls _ hr2 HC.out).mono ?_
  rintro e w3 ⟨A3, c3, rfl, hrr, hb3⟩
  have hrd3 := hrd2.past hb3
  have hb03 := hb02.trans (hb3.mono hb02.size)
  have hbig3 := hrr.big
  clear hrd2 hr2 hb02 hb3
  obtain ⟨s, hs⟩ : ∃ s, s = w3.heap.size := ⟨_, rfl⟩
  obtain ⟨x4, hx4⟩ : ∃ x4, x4 = w3.alloc (.cells zc 3) := ⟨_, rfl⟩
  have hbx0 : Below w3.heap.size w3 x4 := by rw [hx4]; exact (Below.refl _ _).alloc (Nat.le_refl _) _
  have hbx : Below w.heap.size w x4 := hb03.trans (hbx0.mono hb03.size)
  have hown : Own x4 s 3 (.slice (some ⟨s, 0, none⟩) m m) (fillTo (Co.ups m ls r) 0) := by
    rw [fillTo_zero, Co.ups_len, hx4, hs]
    refine Own.made ?_
    rw [HZ.out]
    exact World.ownsRow_lit w3 _ m (Nat.le_refl _) hml (size_madeCells _ _)
  have hsw : w.heap.size ≤ s := by rw [hs]; exact hb03.size
  have hrr4 : RdR x4 s A3 m c3 (Gr.rows m ls) := by rw [hs]; exact hrr.below hbx0
  have hrd4 : Rd x4 s (some ⟨g, 0, none⟩) m m (Wa.dists m (Wa.nrow m ls) r) := by rw [hs]; exact hrd3.below hbx0
  have hsx : s ≤ x4.heap.size := by rw [hs]; exact hbx0.size
  have HS := Lib.hid hs
  have HX := Lib.hid hx4
  clear hs hx4 hb03 hrd3 hrr hbx0
  go_wp2
  rw [← HX.out, ← HS.out]
  go_loopw [13, 14, 44] (fun _ _ iv wr => ∃ i : Nat, i ≤ m ∧ iv = .int .i64 (i : Int) ∧ Own wr s 3 (.slice (some ⟨s, 0, none⟩) m m) (fillTo (Co.ups m ls r) i) ∧ Below w.heap.size w wr ∧ Below s x4 wr) (fun _ _ iv _ => m - (intOf iv).toNat)
  case atStart => exact ⟨0, Nat.zero_le _, rfl, hown, hbx, Below.refl _ _⟩
  case round =>
    clear hown hbx
    obtain ⟨i, hi, rfl, hown, hbw, hbs⟩ := hrel
    by_cases hlt : i < m
    · have hsr := hbs.size
      obtain ⟨b1, o1, rfl, hbb1, hc1⟩ := (hrr4.below hbs).at_ (by omega)
      obtain ⟨A', c', g3, hrow⟩ := hc1 i hlt
      rw [Gr.rows_getD ls hlt] at g3 hrow
      obtain ⟨N, hN⟩ : ∃ N, N = (Gr.row m ls i).length := ⟨_, rfl⟩
      rw [← hN] at g3 hrow
      have hrow2 : Rd wr wr.heap.size A' N c' (Gr.row m ls i) := hrow.more (by omega)
      have hfr : Rd wr wr.heap.size (some ⟨g, 0, none⟩) m m (Wa.dists m (Wa.nrow m ls) r) := (hrd4.below hbs).more (by omega)
      have HNE := Lib.hid (nearer_any m i r ls HT.out hrm hlt (some ⟨g, 0, none⟩) A' m N c' wr hfr hrow2)
      have i1 : (0 : Int) ≤ (i : Int) := by omega
      have i2 : (i : Int) < (m : Int) := by omega
      clear hc1 hrow hrow2 hfr hN
      go_wp2_with fail
      refine HNE.out.mono ?_
      rintro e w2 ⟨rfl, hb2⟩
      obtain ⟨d, hd⟩ : ∃ d, d = Co.upI m ls r i := ⟨_, rfl⟩
      have hde : d = (Co.ups m ls r).getD i 0 := by rw [Co.ups_at ls r hlt]; exact hd
      rw [← hd]
      have hown2 := hown.below hb2
      have hst := (hown2.store i d).1
      rw [hde, fillTo_succ (by rw [Co.ups_len]; exact hlt), ← hde] at hst
      have hb02 := hbw.trans (hb2.mono hbw.size)
      have hbs2 := hbs.trans (hb2.mono (show s ≤ wr.heap.size by omega))
      have hbn := hb02.setCell (p := ⟨s, i, none⟩) (show w.heap.size ≤ s from hsw) (.int .i64 d)
      have hbn2 := hbs2.setCell (p := ⟨s, i, none⟩) (show s ≤ s from Nat.le_refl _) (.int .i64 d)
      have g1 := hown2.cell i hlt
      have g2 := hown2.frozen i
      clear hd hde
      go_wp2
      go_roundw
      case rel => exact ⟨i + 1, by omega, by go_num, hst, hbn, hbn2⟩
      case measure => simp [intOf]; omega
    · obtain rfl : i = m := by omega
      have hfin : Own wr s 3 (.slice (some ⟨s, 0, none⟩) i i) (Co.ups i ls r) := by
        have e := fillTo_all (Co.ups i ls r)
        rw [Co.ups_len] at e
        rw [← e]
        exact hown
      clear hown
      go_wp2
      go_ret2
      exact ⟨s, rfl, hfin.mono hsw, hbw⟩

end Go.Proofs.YtojkjdccjomaaaaDoor
