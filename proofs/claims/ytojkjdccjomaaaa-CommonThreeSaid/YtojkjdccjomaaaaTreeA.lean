/-
  The contracts of Check and farthest of package tree: is it a tree, and how far is the farthest from each point? No statement of the program is proved here; there is no condition.
-/
import Derived.Test.YtojkjdccjomaaaaWalkH
import Derived.Test.YtojkjdccjomaaaaMaxI
import Derived.Test.YtojkjdccjomaaaaTreeU
import Derived.Test.YtojkjdccjomaaaaLibS
namespace Go.Proofs.Ytojkjdccjomaaaa
open Go.RowKit
set_option linter.unusedSimpArgs false
set_option linter.unusedVariables false

set_option maxHeartbeats 400000 in
theorem TCheck_err (n : Int) (A : Option Addr) (k c : Nat) (ls : List Gr.Ln) (w : World) (hr : RdP w w.heap.size A k c ls) (h : Gr.code n ls ≠ 0) :
    Calls Try.prog 26 #[.int .i64 n, .slice A k c] w fun e w' => e = .returned (errv (Gr.code n ls)) ∧ Below w.heap.size w w' := by
  have H := Lib.hid h
  clear h
  go_enter Try.func26, Try.ntmps26
  go_wp2_with fail
  refine (Parts_any n A k c ls _ hr).mono ?_
  rintro e w1 ⟨hb, (⟨h0, rfl⟩ | ⟨h0, _⟩)⟩
  · go_wp2
    go_ret
    exact ⟨rfl, hb⟩
  · exact absurd h0 H.out

set_option maxHeartbeats 400000 in
theorem TCheck_len (m : Nat) (A : Option Addr) (k c : Nat) (ls : List Gr.Ln) (w : World) (hr : RdP w w.heap.size A k c ls) (h : Gr.code (m : Int) ls = 0) (hl : (ls.length : Int) ≠ (m : Int) - 1) :
    Calls Try.prog 26 #[.int .i64 (m : Int), .slice A k c] w fun e w' => e = .returned (errv 7) ∧ Below w.heap.size w w' := by
  have hm8 : m ≤ 8 := by have := (Gr.code_zero.1 h).2.1; omega
  have hm1 : 1 ≤ m := by have := (Gr.code_zero.1 h).1; omega
  obtain ⟨q, hq⟩ : ∃ q : Int, q = (m : Int) - 1 := ⟨_, rfl⟩
  have hw : IntKind.i64.wrap ((m : Int) - 1) = q := by rw [IntKind.wrap_i64]; omega
  have hd : ((k : Int) != q) = true := by rw [hr.len] at hl; simp; omega
  have H := Lib.hid h
  clear h hl hq
  go_enter Try.func26, Try.ntmps26
  go_wp2_with fail
  refine (Parts_fine m A k c ls _ hr H.out).mono ?_
  rintro e w1 ⟨g, rfl, _, hb⟩
  go_wp2
  go_ret
  exact ⟨rfl, hb⟩

set_option maxHeartbeats 400000 in
theorem TCheck_max (m : Nat) (A : Option Addr) (k c : Nat) (ls : List Gr.Ln) (w : World) (hr : RdP w w.heap.size A k c ls) (h : Gr.code (m : Int) ls = 0) (hl : (ls.length : Int) = (m : Int) - 1) :
    Calls Try.prog 26 #[.int .i64 (m : Int), .slice A k c] w fun e w' => e = .returned (errOf (Tr.tcode (m : Int) ls)) ∧ Below w.heap.size w w' := by
  have hm8 : m ≤ 8 := by have := (Gr.code_zero.1 h).2.1; omega
  have hm1 : 1 ≤ m := by have := (Gr.code_zero.1 h).1; omega
  obtain ⟨q, hq⟩ : ∃ q : Int, q = (m : Int) - 1 := ⟨_, rfl⟩
  have hw : IntKind.i64.wrap ((m : Int) - 1) = q := by rw [IntKind.wrap_i64]; omega
  have hd : ((k : Int) != q) = false := by rw [hr.len] at hl; simp; omega
  have H := Lib.hid h
  have HL := Lib.hid hl
  clear h hl hq
  go_enter Try.func26, Try.ntmps26
  go_wp2_with fail
  refine (Parts_fine m A k c ls _ hr H.out).mono ?_
  rintro e w1 ⟨g, rfl, hown, hb⟩
  have hrd := hown.rd'
  clear hown
  go_wp2_with fail
  refine (Max_any _ m m _ _ hrd hm1).mono ?_
  rintro e w2 ⟨d, rfl, h1, h2, rfl⟩
  have HT := Lib.hid (Tr.tcode_max H.out HL.out h1 h2)
  clear h1 h2
  by_cases hd0 : 0 < d
  · have HE : Hid (Tr.tcode (m : Int) ls = 7) := by show _ = _; rw [HT.out, if_pos hd0]
    go_wp2
    go_ret
    exact ⟨by rw [HE.out]; rfl, hb⟩
  · have HE : Hid (Tr.tcode (m : Int) ls = 0) := by show _ = _; rw [HT.out, if_neg hd0]
    have hd1 : decide (0 < d) = false := decide_eq_false hd0
    clear hd0
    go_wp2
    go_ret
    exact ⟨by rw [HE.out]; rfl, hb⟩

theorem TCheck_any (n : Int) (A : Option Addr) (k c : Nat) (ls : List Gr.Ln) (w : World) (hr : RdP w w.heap.size A k c ls) :
    Calls Try.prog 26 #[.int .i64 n, .slice A k c] w fun e w' => e = .returned (errOf (Tr.tcode n ls)) ∧ Below w.heap.size w w' := by
  by_cases h : Gr.code n ls = 0
  · have h1 := (Gr.code_zero.1 h).1
    obtain ⟨m, rfl⟩ : ∃ m : Nat, n = (m : Int) := ⟨n.toNat, by omega⟩
    by_cases hl : (ls.length : Int) = (m : Int) - 1
    · exact TCheck_max m A k c ls w hr h hl
    · rw [Tr.tcode_len h hl]
      exact TCheck_len m A k c ls w hr h hl
  · rw [Tr.tcode_bad h, errOf_pos h]
    exact TCheck_err n A k c ls w hr h
theorem TCheck_bad (n : Int) (A : Option Addr) (k c : Nat) (ls : List Gr.Ln) (w : World) (hr : RdP w w.heap.size A k c ls) (h : Tr.tcode n ls ≠ 0) :
    Calls Try.prog 26 #[.int .i64 n, .slice A k c] w fun e w' => e = .returned (errv (Tr.tcode n ls)) ∧ Below w.heap.size w w' := by
  have := TCheck_any n A k c ls w hr
  rwa [errOf_pos h] at this
theorem TCheck_ok (n : Int) (A : Option Addr) (k c : Nat) (ls : List Gr.Ln) (w : World) (hr : RdP w w.heap.size A k c ls) (h : Tr.tcode n ls = 0) :
    Calls Try.prog 26 #[.int .i64 n, .slice A k c] w fun e w' => e = .returned .nilIface ∧ Below w.heap.size w w' := by
  have := TCheck_any n A k c ls w hr
  rwa [h] at this

set_option maxHeartbeats 400000 in
theorem farthest_bad (n : Int) (A : Option Addr) (k c : Nat) (ls : List Gr.Ln) (w : World) (hr : RdP w w.heap.size A k c ls) (h : Tr.tcode n ls ≠ 0) :
    Calls Try.prog 29 #[.int .i64 n, .slice A k c] w fun e w' => e = .returned (.tuple #[.slice none 0 0, errv (Tr.tcode n ls)]) ∧ Below w.heap.size w w' := by
  have H := Lib.hid h
  clear h
  go_enter Try.func29, Try.ntmps29
  go_wp2_with fail
  refine (TCheck_bad n A k c ls _ hr H.out).mono ?_
  rintro e w1 ⟨rfl, hb⟩
  go_wp2
  go_ret2
  exact ⟨rfl, hb⟩

set_option maxRecDepth 100000 in
set_option maxHeartbeats 2000000 in
theorem farthest_ok (m : Nat) (A : Option Addr) (k c : Nat) (ls : List Gr.Ln) (w : World) (hr : RdP w w.heap.size A k c ls) (h : Tr.tcode (m : Int) ls = 0) :
    Calls Try.prog 29 #[.int .i64 (m : Int), .slice A k c] w fun e w' => ∃ g, e = .returned (.tuple #[.slice (some ⟨g, 0, none⟩) m m, .nilIface]) ∧ Own w' w.heap.size 3 (.slice (some ⟨g, 0, none⟩) m m) (Tr.eccs m ls) ∧ Below w.heap.size w w' := by
  obtain ⟨hc, hT⟩ := Tr.tcode_zero.1 h
  have hm8 : m ≤ 8 := by have := (Gr.code_zero.1 hc).2.1; omega
  have hm1 : 1 ≤ m := by have := (Gr.code_zero.1 hc).1; omega
  obtain ⟨i0, hi, hz0, hz1, hz2⟩ := info_parts intInfo
  have hml : m ≤ maxLen := by simp only [maxLen]; omega
  obtain ⟨zc, hzc⟩ : ∃ zc, zc = madeCells (Value.int .i64 0).cells (m * 1) := ⟨_, rfl⟩
  have hmk : ∀ w : World, (Instr.makeSlice 28 (.int .i64 (m : Int)) (.int .i64 (m : Int))).run Try.prog w = .ok (.slice (some ⟨w.heap.size, 0, none⟩) m m) (w.alloc (.cells zc 3)) := fun w => by
    have := run_make (P := Try.prog) w 28 3 i0 (.int .i64 0) Try.underlying28 hi hz0 .i64 .i64 (m : Int) (m : Int) (by omega) (Int.le_refl _) (by rw [hz2]; omega) (by omega)
    simp only [Int.toNat_natCast, hz1, ← hzc] at this
    exact this
  have HZ := Lib.hid hzc
  have H := Lib.hid h
  have HC := Lib.hid hc
  have HT := Lib.hid hT
  clear h hc hT hzc hi hz0 hz1 hz2
  go_enter Try.func29, Try.ntmps29
  go_wp2_with fail
  refine (TCheck_ok (m : Int) A k c ls _ hr H.out).mono ?_
  rintro e w1 ⟨rfl, hb⟩
  obtain ⟨s, hs⟩ : ∃ s, s = w1.heap.size := ⟨_, rfl⟩
  obtain ⟨x1, hx1⟩ : ∃ x1, x1 = w1.alloc (.cells zc 3) := ⟨_, rfl⟩
  have hbx : Below w.heap.size w x1 := by rw [hx1]; exact hb.alloc hb.size _
  have hown : Own x1 s 3 (.slice (some ⟨s, 0, none⟩) m m) (fillTo (Tr.eccs m ls) 0) := by
    rw [fillTo_zero, Tr.eccs_len, hx1, hs]
    refine Own.made ?_
    rw [HZ.out]
    exact World.ownsRow_lit w1 _ m (Nat.le_refl _) hml (size_madeCells _ _)
  have hsw : w.heap.size ≤ s := by rw [hs]; exact hb.size
  have HS := Lib.hid hs
  have HX := Lib.hid hx1
  clear hs hx1 hb
  go_wp2
  rw [← HX.out, ← HS.out]
  go_loopw [8, 9, 10, 20] (fun _ _ _ iv wr => ∃ i : Nat, i ≤ m ∧ iv = .int .i64 (i : Int) ∧ Own wr s 3 (.slice (some ⟨s, 0, none⟩) m m) (fillTo (Tr.eccs m ls) i) ∧ Below w.heap.size w wr) (fun _ _ _ iv _ => m - (intOf iv).toNat)
  case atStart => exact ⟨0, Nat.zero_le _, rfl, hown, hbx⟩
  case round =>
    clear hown hbx
    obtain ⟨i, hi, rfl, hown, hbw⟩ := hrel
    by_cases hlt : i < m
    · have hr1 := hr.past hbw
      have i1 : (0 : Int) ≤ (i : Int) := by omega
      have i2 : (i : Int) < (m : Int) := by omega
      go_wp2_with fail
      refine (From_fine m i A k c ls _ hr1 HC.out hlt).mono ?_
      rintro e w2 ⟨g, rfl, hdo, hb2⟩
      have hrd := hdo.rd'
      have hown2 := hown.below hb2
      have hb02 := hbw.trans (hb2.mono hbw.size)
      clear hdo hown hbw hr1 hb2
      go_wp2_with fail
      refine (Max_any _ m m _ _ hrd hm1).mono ?_
      rintro e w3 ⟨d, rfl, h1, h2, rfl⟩
      have hd : d = (Tr.eccs m ls).getD i 0 := by rw [Tr.eccs_at ls hlt]; exact Tr.max_ecc HT.out hlt h1 h2
      have hst := (hown2.store i d).1
      rw [hd, fillTo_succ (by rw [Tr.eccs_len]; exact hlt), ← hd] at hst
      have hbn := hb02.setCell (p := ⟨s, i, none⟩) (show w.heap.size ≤ s from hsw) (.int .i64 d)
      have g1 := hown2.cell i hlt
      have g2 := hown2.frozen i
      clear h1 h2 hd hrd
      go_wp2
      go_roundw
      case rel => exact ⟨i + 1, by omega, by go_num, hst, hbn⟩
      case measure => simp [intOf]; omega
    · obtain rfl : i = m := by omega
      have hfin : Own wr s 3 (.slice (some ⟨s, 0, none⟩) i i) (Tr.eccs i ls) := by
        have e := fillTo_all (Tr.eccs i ls)
        rw [Tr.eccs_len] at e
        rw [← e]
        exact hown
      clear hown
      go_wp2
      go_ret2
      exact ⟨s, rfl, hfin.mono hsw, hbw⟩

end Go.Proofs.Ytojkjdccjomaaaa
