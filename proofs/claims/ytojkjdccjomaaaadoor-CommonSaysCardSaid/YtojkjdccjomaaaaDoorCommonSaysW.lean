/-
  The walk of the law CommonSays: for every number of points, lines, root and two points it returns true, where the library's variable errors.errorType holds what its initialiser lays.
-/
import Derived.Test.YtojkjdccjomaaaaDoorCommonC
import Derived.Test.YtojkjdccjomaaaaDoorRefWay
import Derived.Test.YtojkjdccjomaaaaDoorGraphE
import Derived.Test.YtojkjdccjomaaaaDoorIn3
import Derived.Test.YtojkjdccjomaaaaDoorErrS
import Derived.BigQuiet
namespace Go.Proofs.YtojkjdccjomaaaaDoor.commonSays
open Go.RowKit
set_option linter.unusedSimpArgs false
set_option linter.unusedVariables false

theorem Ints_none (w : World) : Calls Tryd.prog 9 #[.slice none 0 0, .slice none 0 0] w fun e w' => e = .returned (.bool true) ∧ Below w.heap.size w w' :=
  Ints_t none none 0 0 0 0 [] [] true w (Rd.nil _ _) (Rd.nil _ _) (by decide)
theorem ups_take {m : Nat} {ls : List Gr.Ln} {r i : Nat} (hi : i < m) : (Co.ups m ls r).take (i + 1) = (Co.ups m ls r).take i ++ [Co.upI m ls r i] := by
  rw [List.take_add_one]
  congr 1
  simp [Co.ups, hi]
theorem way_one {m : Nat} {ls : List Gr.Ln} (hT : Tr.Tree m ls) {i r : Nat} (hi : i < m) (hr : r < m) (hne : i ≠ r) : 1 ≤ Tr.far m ls i r ∧ (Co.wayI m ls i r).getD 1 0 = Co.upI m ls r i := by
  have h1 : 1 ≤ Tr.far m ls i r := by
    rcases Nat.eq_zero_or_pos (Tr.far m ls i r) with h0 | h0
    · exact absurd ((hT.met.zero i r hi hr).1 h0) hne
    · exact h0
  refine ⟨h1, ?_⟩
  rw [Co.wayI_at hT hi hr h1, Co.upI_ne ls hne]
  unfold Co.way
  rw [Co.wy_one hT.met hi hr hne]
theorem way_self {m : Nat} {ls : List Gr.Ln} (hT : Tr.Tree m ls) {r : Nat} (hr : r < m) : Tr.far m ls r r = 0 := (hT.met.zero r r hr hr).2 rfl

set_option maxRecDepth 100000 in
set_option maxHeartbeats 4000000 in
theorem t1 (w : World) (het : tld.EtIs w) (a0 : Int) (a1 : Option Addr) (n1 c1 : Nat) (z1 : List Gr.Ln) (w1 : RdP w w.heap.size a1 n1 c1 z1) (a2 : Int) (a3 a4 : Int) (hc : Tr.tcode a0 z1 ≠ 0) (h0 : 0 < a0) :
    Calls Tryd.prog 3 #[.int .i64 a0, .slice a1 n1 c1, .int .i64 a2, .int .i64 a3, .int .i64 a4] w fun e w' => e = .returned (.bool true) ∧ Below w.heap.size w w' := by
  obtain ⟨K, hk⟩ : ∃ K, K = Tr.tcode a0 z1 := ⟨_, rfl⟩
  have d1 : (K == 0) = false := by rw [hk]; simpa using hc
  have t0 : decide (0 < a0) = true := by simp; omega
  have HOC : Hid (Co.ocode a0 z1 a2 a3 a4 = K) := by show _ = _; rw [Co.ocode_bad (by rw [Co.ccode_bad hc]; exact hc), Co.ccode_bad hc, hk]
  have HYC : Hid (Co.ycode a0 z1 a3 a4 = K) := by show _ = _; rw [Co.ycode_bad hc, hk]
  have HKN : Hid (K ≠ 0) := by show _ ≠ _; rw [hk]; exact hc
  have H := Lib.hid hc
  have HK := Lib.hid hk
  clear hc hk
  go_enter Tryd.func3, Tryd.ntmps3
  go_wp2_with fail
  refine (RefTr.Tree_any a0 a1 n1 c1 z1 _ w1).mono ?_
  rintro e x1 ⟨rfl, b1⟩
  have d1 := b1
  rw [← HK.out]
  go_wp2
  go_loopw [13, 15, 16, 17] (fun uv iv _ _ wr => uv = .slice none 0 0 ∧ iv = .int .i64 0 ∧ x1 = wr) (fun _ _ _ _ _ => 0)
  case atStart => exact ⟨rfl, rfl, rfl⟩
  case round =>
    obtain ⟨rfl, rfl, rfl⟩ := hrel
    go_wp2_with fail
    refine (Ups_tree a0 a2 a1 n1 c1 z1 _ (w1.past d1) H.out).mono ?_
    rintro e x2 ⟨rfl, b2⟩
    have d2 := d1.trans (b2.mono d1.size)
    rw [← HK.out]
    go_wp2_with fail
    refine (Err_same K _ (het.below d2)).mono ?_
    rintro e x3 ⟨rfl, b3⟩
    have d3 := d2.trans (b3.mono d2.size)
    go_wp2_with fail
    refine (Ints_none _).mono ?_
    rintro e x4 ⟨rfl, b4⟩
    have d4 := d3.trans (b4.mono d3.size)
    go_wp2_with fail
    refine (COf_bad a0 a2 a3 a4 a1 n1 c1 z1 _ (w1.past d4) (by rw [HOC.out]; exact HKN.out)).mono ?_
    rintro e x5 ⟨rfl, b5⟩
    have d5 := d4.trans (b5.mono d4.size)
    rw [HOC.out]
    go_wp2_with fail
    refine (Err_same K _ (het.below d5)).mono ?_
    rintro e x6 ⟨rfl, b6⟩
    have d6 := d5.trans (b6.mono d5.size)
    go_wp2_with fail
    refine (Way_bad a0 a3 a4 a1 n1 c1 z1 _ (w1.past d6) (by rw [HYC.out]; exact HKN.out)).mono ?_
    rintro e x7 ⟨rfl, b7⟩
    have d7 := d6.trans (b7.mono d6.size)
    rw [HYC.out]
    go_wp2_with fail
    refine (Err_same K _ (het.below d7)).mono ?_
    rintro e x8 ⟨rfl, b8⟩
    have d8 := d7.trans (b8.mono d7.size)
    go_wp2_with fail
    refine (Ints_none _).mono ?_
    rintro e x9 ⟨rfl, b9⟩
    have d9 := d8.trans (b9.mono d8.size)
    go_wp2
    go_ret
    exact ⟨rfl, d9⟩

set_option maxRecDepth 100000 in
set_option maxHeartbeats 4000000 in
theorem t2 (w : World) (het : tld.EtIs w) (a0 : Int) (a1 : Option Addr) (n1 c1 : Nat) (z1 : List Gr.Ln) (w1 : RdP w w.heap.size a1 n1 c1 z1) (a2 : Int) (a3 a4 : Int) (hc : Tr.tcode a0 z1 ≠ 0) (h0 : ¬ 0 < a0) :
    Calls Tryd.prog 3 #[.int .i64 a0, .slice a1 n1 c1, .int .i64 a2, .int .i64 a3, .int .i64 a4] w fun e w' => e = .returned (.bool true) ∧ Below w.heap.size w w' := by
  obtain ⟨K, hk⟩ : ∃ K, K = Tr.tcode a0 z1 := ⟨_, rfl⟩
  have d1 : (K == 0) = false := by rw [hk]; simpa using hc
  have t0 : decide (0 < a0) = false := by simp; omega
  have HOC : Hid (Co.ocode a0 z1 a2 a3 a4 = K) := by show _ = _; rw [Co.ocode_bad (by rw [Co.ccode_bad hc]; exact hc), Co.ccode_bad hc, hk]
  have HYC : Hid (Co.ycode a0 z1 a3 a4 = K) := by show _ = _; rw [Co.ycode_bad hc, hk]
  have HKN : Hid (K ≠ 0) := by show _ ≠ _; rw [hk]; exact hc
  have H := Lib.hid hc
  have HK := Lib.hid hk
  clear hc hk
  go_enter Tryd.func3, Tryd.ntmps3
  go_wp2_with fail
  refine (RefTr.Tree_any a0 a1 n1 c1 z1 _ w1).mono ?_
  rintro e x1 ⟨rfl, b1⟩
  have d1 := b1
  rw [← HK.out]
  go_wp2
  go_loopw [13, 15, 16, 17] (fun uv iv _ _ wr => uv = .slice none 0 0 ∧ iv = .int .i64 0 ∧ x1 = wr) (fun _ _ _ _ _ => 0)
  case atStart => exact ⟨rfl, rfl, rfl⟩
  case round =>
    obtain ⟨rfl, rfl, rfl⟩ := hrel
    go_wp2_with fail
    refine (Ups_tree a0 a2 a1 n1 c1 z1 _ (w1.past d1) H.out).mono ?_
    rintro e x2 ⟨rfl, b2⟩
    have d2 := d1.trans (b2.mono d1.size)
    rw [← HK.out]
    go_wp2_with fail
    refine (Err_same K _ (het.below d2)).mono ?_
    rintro e x3 ⟨rfl, b3⟩
    have d3 := d2.trans (b3.mono d2.size)
    go_wp2_with fail
    refine (Ints_none _).mono ?_
    rintro e x4 ⟨rfl, b4⟩
    have d4 := d3.trans (b4.mono d3.size)
    go_wp2_with fail
    refine (COf_bad a0 a2 a3 a4 a1 n1 c1 z1 _ (w1.past d4) (by rw [HOC.out]; exact HKN.out)).mono ?_
    rintro e x5 ⟨rfl, b5⟩
    have d5 := d4.trans (b5.mono d4.size)
    rw [HOC.out]
    go_wp2_with fail
    refine (Err_same K _ (het.below d5)).mono ?_
    rintro e x6 ⟨rfl, b6⟩
    have d6 := d5.trans (b6.mono d5.size)
    go_wp2_with fail
    refine (Way_bad a0 a3 a4 a1 n1 c1 z1 _ (w1.past d6) (by rw [HYC.out]; exact HKN.out)).mono ?_
    rintro e x7 ⟨rfl, b7⟩
    have d7 := d6.trans (b7.mono d6.size)
    rw [HYC.out]
    go_wp2_with fail
    refine (Err_same K _ (het.below d7)).mono ?_
    rintro e x8 ⟨rfl, b8⟩
    have d8 := d7.trans (b8.mono d7.size)
    go_wp2_with fail
    refine (Ints_none _).mono ?_
    rintro e x9 ⟨rfl, b9⟩
    have d9 := d8.trans (b9.mono d8.size)
    go_wp2
    go_ret
    exact ⟨rfl, d9⟩

set_option maxRecDepth 100000 in
set_option maxHeartbeats 4000000 in
theorem oa (w : World) (het : tld.EtIs w) (m : Nat) (a1 : Option Addr) (n1 c1 : Nat) (z1 : List Gr.Ln) (w1 : RdP w w.heap.size a1 n1 c1 z1) (a2 : Int) (a3 : Int) (a4 : Int) (hc : Tr.tcode (m : Int) z1 = 0) (hro : a2 < 0 ∨ (m : Int) ≤ a2) (hao : a3 < 0 ∨ (m : Int) ≤ a3) :
    Calls Tryd.prog 3 #[.int .i64 (m : Int), .slice a1 n1 c1, .int .i64 a2, .int .i64 a3, .int .i64 a4] w fun e w' => e = .returned (.bool true) ∧ Below w.heap.size w w' := by
  obtain ⟨hg, hT⟩ := Tr.tcode_zero.1 hc
  have hm8 : m ≤ 8 := by have := (Gr.code_zero.1 hg).2.1; omega
  have hm1 : 1 ≤ m := by have := (Gr.code_zero.1 hg).1; omega
  have m0 : (0 : Int) < (m : Int) := by omega
  have m0' : 0 < m := by omega
  have m0d : decide (0 < m) = true := by simp; omega
  obtain ⟨q, hq⟩ : ∃ q : Int, q = (m : Int) - 1 := ⟨_, rfl⟩
  have hwq : IntKind.i64.wrap ((m : Int) - 1) = q := by rw [IntKind.wrap_i64]; omega
  have H := Lib.hid hc
  have HT := Lib.hid hT
  have HRO : Hid (a2 < 0 ∨ (m : Int) ≤ a2) := hro
  have HRI : Hid (a2 < 0 ∨ q < a2) := by show _ ∨ _; omega
  have HOC : Hid (Co.ocode (m : Int) z1 a2 a3 a4 = 1) := by show _ = _; rw [Co.ocode_bad (by rw [Co.ccode_range hc hro]; omega), Co.ccode_range hc hro]
  have HAI : Hid (a3 < 0 ∨ q < a3) := by show _ ∨ _; omega
  have HYC : Hid (Co.ycode (m : Int) z1 a3 a4 = 1) := Co.ycode_range hc (.inl hao)
  clear hc hg hT hq hro hao
  go_enter Tryd.func3, Tryd.ntmps3
  go_wp2_with fail
  refine (RefTr.Tree_any (m : Int) a1 n1 c1 z1 _ w1).mono ?_
  rintro e x1 ⟨rfl, b1⟩
  have d1 := b1
  rw [H.out]
  go_wp2_with fail
  refine (in3_no _ _ _ _ HRI.out).mono ?_
  rintro e y2 ⟨rfl, rfl⟩
  go_wp2
  go_loopw [13, 15, 16, 17] (fun uv iv _ _ wr => uv = .slice none 0 0 ∧ iv = .int .i64 0 ∧ x1 = wr) (fun _ _ _ _ _ => 0)
  case atStart => exact ⟨rfl, rfl, rfl⟩
  case round =>
    obtain ⟨rfl, rfl, rfl⟩ := hrel
    go_wp2_with fail
    refine (Ups_range (m : Int) a2 a1 n1 c1 z1 _ (w1.past d1) H.out HRO.out).mono ?_
    rintro e x3 ⟨rfl, b3⟩
    have d3 := d1.trans (b3.mono d1.size)
    go_wp2_with fail
    refine (Err_same 1 _ (het.below d3)).mono ?_
    rintro e x4 ⟨rfl, b4⟩
    have d4 := d3.trans (b4.mono d3.size)
    go_wp2_with fail
    refine (Ints_none _).mono ?_
    rintro e x5 ⟨rfl, b5⟩
    have d5 := d4.trans (b5.mono d4.size)
    go_wp2_with fail
    refine (COf_bad (m : Int) a2 a3 a4 a1 n1 c1 z1 _ (w1.past d5) (by rw [HOC.out]; omega)).mono ?_
    rintro e x6 ⟨rfl, b6⟩
    have d6 := d5.trans (b6.mono d5.size)
    rw [HOC.out]
    go_wp2_with fail
    refine (Err_same 1 _ (het.below d6)).mono ?_
    rintro e x7 ⟨rfl, b7⟩
    have d7 := d6.trans (b7.mono d6.size)
    go_wp2_with fail
    refine (in3_no _ _ _ _ HAI.out).mono ?_
    rintro e y8 ⟨rfl, rfl⟩
    go_wp2_with fail
    refine (Way_bad (m : Int) a3 a4 a1 n1 c1 z1 _ (w1.past d7) (by rw [HYC.out]; omega)).mono ?_
    rintro e x9 ⟨rfl, b9⟩
    have d9 := d7.trans (b9.mono d7.size)
    rw [HYC.out]
    go_wp2_with fail
    refine (Err_same 1 _ (het.below d9)).mono ?_
    rintro e x10 ⟨rfl, b10⟩
    have d10 := d9.trans (b10.mono d9.size)
    go_wp2_with fail
    refine (Ints_none _).mono ?_
    rintro e x11 ⟨rfl, b11⟩
    have d11 := d10.trans (b11.mono d10.size)
    go_wp2
    go_ret
    exact ⟨rfl, d11⟩

set_option maxRecDepth 100000 in
set_option maxHeartbeats 4000000 in
theorem ob (w : World) (het : tld.EtIs w) (m : Nat) (a1 : Option Addr) (n1 c1 : Nat) (z1 : List Gr.Ln) (w1 : RdP w w.heap.size a1 n1 c1 z1) (a2 : Int) (a : Nat) (a4 : Int) (hc : Tr.tcode (m : Int) z1 = 0) (hro : a2 < 0 ∨ (m : Int) ≤ a2) (ham : a < m) (hbo : a4 < 0 ∨ (m : Int) ≤ a4) :
    Calls Tryd.prog 3 #[.int .i64 (m : Int), .slice a1 n1 c1, .int .i64 a2, .int .i64 (a : Int), .int .i64 a4] w fun e w' => e = .returned (.bool true) ∧ Below w.heap.size w w' := by
  obtain ⟨hg, hT⟩ := Tr.tcode_zero.1 hc
  have hm8 : m ≤ 8 := by have := (Gr.code_zero.1 hg).2.1; omega
  have hm1 : 1 ≤ m := by have := (Gr.code_zero.1 hg).1; omega
  have m0 : (0 : Int) < (m : Int) := by omega
  have m0' : 0 < m := by omega
  have m0d : decide (0 < m) = true := by simp; omega
  obtain ⟨q, hq⟩ : ∃ q : Int, q = (m : Int) - 1 := ⟨_, rfl⟩
  have hwq : IntKind.i64.wrap ((m : Int) - 1) = q := by rw [IntKind.wrap_i64]; omega
  have H := Lib.hid hc
  have HT := Lib.hid hT
  have HRO : Hid (a2 < 0 ∨ (m : Int) ≤ a2) := hro
  have HRI : Hid (a2 < 0 ∨ q < a2) := by show _ ∨ _; omega
  have HOC : Hid (Co.ocode (m : Int) z1 a2 (a : Int) a4 = 1) := by show _ = _; rw [Co.ocode_bad (by rw [Co.ccode_range hc hro]; omega), Co.ccode_range hc hro]
  have ai0 : (0 : Int) ≤ (a : Int) := by omega
  have ai1 : (a : Int) ≤ q := by omega
  have HBI : Hid (a4 < 0 ∨ q < a4) := by show _ ∨ _; omega
  have HYC : Hid (Co.ycode (m : Int) z1 (a : Int) a4 = 1) := Co.ycode_range hc (.inr hbo)
  clear hc hg hT hq hro hbo
  go_enter Tryd.func3, Tryd.ntmps3
  go_wp2_with fail
  refine (RefTr.Tree_any (m : Int) a1 n1 c1 z1 _ w1).mono ?_
  rintro e x1 ⟨rfl, b1⟩
  have d1 := b1
  rw [H.out]
  go_wp2_with fail
  refine (in3_no _ _ _ _ HRI.out).mono ?_
  rintro e y2 ⟨rfl, rfl⟩
  go_wp2
  go_loopw [13, 15, 16, 17] (fun uv iv _ _ wr => uv = .slice none 0 0 ∧ iv = .int .i64 0 ∧ x1 = wr) (fun _ _ _ _ _ => 0)
  case atStart => exact ⟨rfl, rfl, rfl⟩
  case round =>
    obtain ⟨rfl, rfl, rfl⟩ := hrel
    go_wp2_with fail
    refine (Ups_range (m : Int) a2 a1 n1 c1 z1 _ (w1.past d1) H.out HRO.out).mono ?_
    rintro e x3 ⟨rfl, b3⟩
    have d3 := d1.trans (b3.mono d1.size)
    go_wp2_with fail
    refine (Err_same 1 _ (het.below d3)).mono ?_
    rintro e x4 ⟨rfl, b4⟩
    have d4 := d3.trans (b4.mono d3.size)
    go_wp2_with fail
    refine (Ints_none _).mono ?_
    rintro e x5 ⟨rfl, b5⟩
    have d5 := d4.trans (b5.mono d4.size)
    go_wp2_with fail
    refine (COf_bad (m : Int) a2 (a : Int) a4 a1 n1 c1 z1 _ (w1.past d5) (by rw [HOC.out]; omega)).mono ?_
    rintro e x6 ⟨rfl, b6⟩
    have d6 := d5.trans (b6.mono d5.size)
    rw [HOC.out]
    go_wp2_with fail
    refine (Err_same 1 _ (het.below d6)).mono ?_
    rintro e x7 ⟨rfl, b7⟩
    have d7 := d6.trans (b7.mono d6.size)
    go_wp2_with fail
    refine (in3_yes _ _ _ _ ai0 ai1).mono ?_
    rintro e y8 ⟨rfl, rfl⟩
    go_wp2_with fail
    refine (in3_no _ _ _ _ HBI.out).mono ?_
    rintro e y9 ⟨rfl, rfl⟩
    go_wp2_with fail
    refine (Way_bad (m : Int) (a : Int) a4 a1 n1 c1 z1 _ (w1.past d7) (by rw [HYC.out]; omega)).mono ?_
    rintro e x10 ⟨rfl, b10⟩
    have d10 := d7.trans (b10.mono d7.size)
    rw [HYC.out]
    go_wp2_with fail
    refine (Err_same 1 _ (het.below d10)).mono ?_
    rintro e x11 ⟨rfl, b11⟩
    have d11 := d10.trans (b11.mono d10.size)
    go_wp2_with fail
    refine (Ints_none _).mono ?_
    rintro e x12 ⟨rfl, b12⟩
    have d12 := d11.trans (b12.mono d11.size)
    go_wp2
    go_ret
    exact ⟨rfl, d12⟩

set_option maxRecDepth 100000 in
set_option maxHeartbeats 4000000 in
theorem og (w : World) (het : tld.EtIs w) (m : Nat) (a1 : Option Addr) (n1 c1 : Nat) (z1 : List Gr.Ln) (w1 : RdP w w.heap.size a1 n1 c1 z1) (a2 : Int) (a : Nat) (b : Nat) (hc : Tr.tcode (m : Int) z1 = 0) (hro : a2 < 0 ∨ (m : Int) ≤ a2) (ham : a < m) (hbm : b < m) :
    Calls Tryd.prog 3 #[.int .i64 (m : Int), .slice a1 n1 c1, .int .i64 a2, .int .i64 (a : Int), .int .i64 (b : Int)] w fun e w' => e = .returned (.bool true) ∧ Below w.heap.size w w' := by
  obtain ⟨hg, hT⟩ := Tr.tcode_zero.1 hc
  have hm8 : m ≤ 8 := by have := (Gr.code_zero.1 hg).2.1; omega
  have hm1 : 1 ≤ m := by have := (Gr.code_zero.1 hg).1; omega
  have m0 : (0 : Int) < (m : Int) := by omega
  have m0' : 0 < m := by omega
  have m0d : decide (0 < m) = true := by simp; omega
  obtain ⟨q, hq⟩ : ∃ q : Int, q = (m : Int) - 1 := ⟨_, rfl⟩
  have hwq : IntKind.i64.wrap ((m : Int) - 1) = q := by rw [IntKind.wrap_i64]; omega
  have H := Lib.hid hc
  have HT := Lib.hid hT
  have HRO : Hid (a2 < 0 ∨ (m : Int) ≤ a2) := hro
  have HRI : Hid (a2 < 0 ∨ q < a2) := by show _ ∨ _; omega
  have HOC : Hid (Co.ocode (m : Int) z1 a2 (a : Int) (b : Int) = 1) := by show _ = _; rw [Co.ocode_bad (by rw [Co.ccode_range hc hro]; omega), Co.ccode_range hc hro]
  have ai0 : (0 : Int) ≤ (a : Int) := by omega
  have ai1 : (a : Int) ≤ q := by omega
  have bi0 : (0 : Int) ≤ (b : Int) := by omega
  have bi1 : (b : Int) ≤ q := by omega
  obtain ⟨L, hL⟩ : ∃ L, L = Tr.far m z1 a b + 1 := ⟨_, rfl⟩
  have HL := Lib.hid hL
  clear hL
  clear hc hg hT hq hro
  go_enter Tryd.func3, Tryd.ntmps3
  go_wp2_with fail
  refine (RefTr.Tree_any (m : Int) a1 n1 c1 z1 _ w1).mono ?_
  rintro e x1 ⟨rfl, b1⟩
  have d1 := b1
  rw [H.out]
  go_wp2_with fail
  refine (in3_no _ _ _ _ HRI.out).mono ?_
  rintro e y2 ⟨rfl, rfl⟩
  go_wp2
  go_loopw [13, 15, 16, 17] (fun uv iv _ _ wr => uv = .slice none 0 0 ∧ iv = .int .i64 0 ∧ x1 = wr) (fun _ _ _ _ _ => 0)
  case atStart => exact ⟨rfl, rfl, rfl⟩
  case round =>
    obtain ⟨rfl, rfl, rfl⟩ := hrel
    go_wp2_with fail
    refine (Ups_range (m : Int) a2 a1 n1 c1 z1 _ (w1.past d1) H.out HRO.out).mono ?_
    rintro e x3 ⟨rfl, b3⟩
    have d3 := d1.trans (b3.mono d1.size)
    go_wp2_with fail
    refine (Err_same 1 _ (het.below d3)).mono ?_
    rintro e x4 ⟨rfl, b4⟩
    have d4 := d3.trans (b4.mono d3.size)
    go_wp2_with fail
    refine (Ints_none _).mono ?_
    rintro e x5 ⟨rfl, b5⟩
    have d5 := d4.trans (b5.mono d4.size)
    go_wp2_with fail
    refine (COf_bad (m : Int) a2 (a : Int) (b : Int) a1 n1 c1 z1 _ (w1.past d5) (by rw [HOC.out]; omega)).mono ?_
    rintro e x6 ⟨rfl, b6⟩
    have d6 := d5.trans (b6.mono d5.size)
    rw [HOC.out]
    go_wp2_with fail
    refine (Err_same 1 _ (het.below d6)).mono ?_
    rintro e x7 ⟨rfl, b7⟩
    have d7 := d6.trans (b7.mono d6.size)
    go_wp2_with fail
    refine (in3_yes _ _ _ _ ai0 ai1).mono ?_
    rintro e y8 ⟨rfl, rfl⟩
    go_wp2_with fail
    refine (in3_yes _ _ _ _ bi0 bi1).mono ?_
    rintro e y9 ⟨rfl, rfl⟩
    go_wp2_with fail
    refine (RefTr.Way_any m a b a1 n1 c1 z1 _ (w1.past d7) hm8 hm1 HT.out ham hbm).mono ?_
    rw [← HL.out]
    rintro e x10 ⟨Az, cz, rfl, rz, b10⟩
    have d10 := d7.trans (b10.mono d7.size)
    go_wp2_with fail
    refine (Way_ok m a b a1 n1 c1 z1 _ (w1.past d10) H.out ham hbm).mono ?_
    rw [← HL.out]
    rintro e x11 ⟨Aq, cq, rfl, rq, b11⟩
    have d11 := d10.trans (b11.mono d10.size)
    have rz := rz.past b11
    go_wp2_with fail
    refine (Err_none _).mono ?_
    rintro e y12 ⟨rfl, rfl⟩
    go_wp2_with fail
    refine (Ints_t Aq Az L L cq cz _ _ true _ rq rz (by simp)).mono ?_
    rintro e x13 ⟨rfl, b13⟩
    have d13 := d11.trans (b13.mono d11.size)
    go_wp2
    go_ret
    exact ⟨rfl, d13⟩

set_option maxRecDepth 100000 in
set_option maxHeartbeats 4000000 in
theorem ia (w : World) (het : tld.EtIs w) (m : Nat) (a1 : Option Addr) (n1 c1 : Nat) (z1 : List Gr.Ln) (w1 : RdP w w.heap.size a1 n1 c1 z1) (r : Nat) (a3 : Int) (a4 : Int) (hc : Tr.tcode (m : Int) z1 = 0) (hrm : r < m) (hao : a3 < 0 ∨ (m : Int) ≤ a3) :
    Calls Tryd.prog 3 #[.int .i64 (m : Int), .slice a1 n1 c1, .int .i64 (r : Int), .int .i64 a3, .int .i64 a4] w fun e w' => e = .returned (.bool true) ∧ Below w.heap.size w w' := by
  obtain ⟨hg, hT⟩ := Tr.tcode_zero.1 hc
  have hm8 : m ≤ 8 := by have := (Gr.code_zero.1 hg).2.1; omega
  have hm1 : 1 ≤ m := by have := (Gr.code_zero.1 hg).1; omega
  have m0 : (0 : Int) < (m : Int) := by omega
  have m0' : 0 < m := by omega
  have m0d : decide (0 < m) = true := by simp; omega
  obtain ⟨q, hq⟩ : ∃ q : Int, q = (m : Int) - 1 := ⟨_, rfl⟩
  have hwq : IntKind.i64.wrap ((m : Int) - 1) = q := by rw [IntKind.wrap_i64]; omega
  have H := Lib.hid hc
  have HT := Lib.hid hT
  have HCZ : Hid (Co.ccode (m : Int) z1 (r : Int) = 0) := Co.ccode_zero.2 ⟨hc, by omega, by omega⟩
  have ri0 : (0 : Int) ≤ (r : Int) := by omega
  have ri1 : (r : Int) ≤ q := by omega
  have HUL : Hid ((Co.ups m z1 r).length = m) := Co.ups_len m z1 r
  have HAI : Hid (a3 < 0 ∨ q < a3) := by show _ ∨ _; omega
  have HYC : Hid (Co.ycode (m : Int) z1 a3 a4 = 1) := Co.ycode_range hc (.inl hao)
  have HOC : Hid (Co.ocode (m : Int) z1 (r : Int) a3 a4 = 1) := Co.ocode_range HCZ.out (.inl hao)
  clear hc hg hT hq hao
  go_enter Tryd.func3, Tryd.ntmps3
  go_wp2_with fail
  refine (RefTr.Tree_any (m : Int) a1 n1 c1 z1 _ w1).mono ?_
  rintro e x1 ⟨rfl, b1⟩
  have d1 := b1
  rw [H.out]
  go_wp2_with fail
  refine (in3_yes _ _ _ _ ri0 ri1).mono ?_
  rintro e y2 ⟨rfl, rfl⟩
  go_wp2
  have u0 : Own x1 x1.heap.size 3 (.slice none 0 0) ((Co.ups m z1 r).take 0) := Own.nil _ _ _
  go_loopw [13, 15, 16, 17] (fun uv iv _ _ wr => ∃ i : Nat, i ≤ m ∧ iv = .int .i64 (i : Int) ∧ Own wr x1.heap.size 3 uv ((Co.ups m z1 r).take i) ∧ Below x1.heap.size x1 wr) (fun _ iv _ _ _ => m - (intOf iv).toNat)
  case atStart => exact ⟨0, Nat.zero_le _, rfl, u0, Below.refl _ _⟩
  case round =>
    clear u0
    obtain ⟨i, hi, rfl, hown, hbw⟩ := hrel
    by_cases hlt : i < m
    · have dw := d1.trans (hbw.mono d1.size)
      have i1 : (i : Int) < (m : Int) := by omega
      have hsz := hbw.size
      obtain ⟨M, hM⟩ : ∃ M, M = Tr.far m z1 i r + 1 := ⟨_, rfl⟩
      have HM := Lib.hid hM
      have HST := Lib.hid (ups_take (ls := z1) (r := r) hlt)
      have hroom : Hid (((Co.ups m z1 r).take i).length + 1 ≤ 17592186044416) := by show _ ≤ _; rw [List.length_take]; omega
      obtain ⟨U, hU⟩ : ∃ U, U = Co.upI m z1 r i := ⟨_, rfl⟩
      rw [← hU] at HST
      by_cases hir : i = r
      · have hM1 : M = 1 := by rw [hM, hir, way_self HT.out hrm]
        have hU1 : U = -1 := by rw [hU, hir]; exact Co.upI_root z1 r
        subst hU1
        have dM : decide ((1 : Int) < (M : Int)) = false := by simp; omega
        clear hM hU hir
        go_wp2_with fail
        refine (RefTr.Way_any m i r a1 n1 c1 z1 _ (w1.past dw) hm8 hm1 HT.out hlt hrm).mono ?_
        rw [← HM.out]
        rintro e xw ⟨Aw, cw, rfl, rw', bw⟩
        have hown2 := hown.below bw
        have hbw2 := hbw.trans (bw.mono hsz)
        have hsz2 := hbw2.size
        clear hown hbw bw
        go_wp2_with (at_builtin; refine wpList_app _ rfl (.tmp 60) (.tmp 62) 25 rfl x1.heap.size 3 Tryd.underlying25 intInfo _ _ rfl (hown2.below ((Below.refl _ _).alloc (Nat.le_refl _) _)) (some ⟨xw.heap.size, 0, none⟩) 1 1 [(-1 : Int)] rfl (Rd.one _ _ _) hroom.out (by simp; omega) ?_; intro v1 w3 hown1 hg1 hat1)
        have hb1 := below_app (hbw2.alloc hsz2 _) (hown2.below ((Below.refl _ _).alloc (Nat.le_refl _) _)) hg1 (by simp; omega)
        go_wp2
        go_roundw
        case rel => exact ⟨i + 1, by omega, by go_num, by rw [HST.out]; exact hown1, hb1⟩
        case measure => simp [intOf]; omega
      · obtain ⟨hf1, hw1⟩ := way_one HT.out hlt hrm hir
        rw [← hU] at hw1
        have HW1 := Lib.hid hw1
        have hM2 : 1 < M := by omega
        have dM : decide ((1 : Int) < (M : Int)) = true := by simp; omega
        have dM2 : (1 : Int) < (M : Int) := by omega
        clear hM hU hir hf1 hw1
        go_wp2_with fail
        refine (RefTr.Way_any m i r a1 n1 c1 z1 _ (w1.past dw) hm8 hm1 HT.out hlt hrm).mono ?_
        rw [← HM.out]
        rintro e xw ⟨Aw, cw, rfl, rw', bw⟩
        have hown2 := hown.below bw
        have hbw2 := hbw.trans (bw.mono hsz)
        have hsz2 := hbw2.size
        have hbgw := rw'.big
        obtain ⟨bq, oq, rfl, hbq, hcq⟩ := rw'.at_ (by omega)
        have gq := hcq 1 hM2
        rw [HW1.out] at gq
        clear hown hbw bw hcq rw'
        go_wp2_with (at_builtin; refine wpList_app _ rfl (.tmp 60) (.tmp 62) 25 rfl x1.heap.size 3 Tryd.underlying25 intInfo _ _ rfl (hown2.below ((Below.refl _ _).alloc (Nat.le_refl _) _)) (some ⟨xw.heap.size, 0, none⟩) 1 1 [U] rfl (Rd.one _ _ _) hroom.out (by simp; omega) ?_; intro v1 w3 hown1 hg1 hat1)
        have hb1 := below_app (hbw2.alloc hsz2 _) (hown2.below ((Below.refl _ _).alloc (Nat.le_refl _) _)) hg1 (by simp; omega)
        go_wp2
        go_roundw
        case rel => exact ⟨i + 1, by omega, by go_num, by rw [HST.out]; exact hown1, hb1⟩
        case measure => simp [intOf]; omega
    · obtain rfl : i = m := by omega
      have hall : Hid ((Co.ups i z1 r).take i = Co.ups i z1 r) := List.take_of_length_le (by rw [HUL.out]; exact Nat.le_refl _)
      rw [hall.out] at hown
      have d3 := d1.trans (hbw.mono d1.size)
      obtain ⟨x3, hx3⟩ : ∃ x, x = wr := ⟨_, rfl⟩
      rw [← hx3] at d3 hown ⊢
      obtain ⟨Au, cu, rfl, ru⟩ := hown.rd
      rw [HUL.out] at ru ⊢
      clear hown hbw hx3
      go_wp2_with fail
      refine (Ups_ok i r a1 n1 c1 z1 _ (w1.past d3) H.out hrm).mono ?_
      rintro e x4 ⟨gu, rfl, hou, b4⟩
      have d4 := d3.trans (b4.mono d3.size)
      have rv := hou.rd'
      have ru := ru.past b4
      clear hou
      go_wp2_with fail
      refine (Err_none _).mono ?_
      rintro e y5 ⟨rfl, rfl⟩
      go_wp2_with fail
      refine (Ints_t (some ⟨gu, 0, none⟩) Au i i i cu _ _ true _ rv ru (by simp)).mono ?_
      rintro e x6 ⟨rfl, b6⟩
      have d6 := d4.trans (b6.mono d4.size)
      clear rv ru
      go_wp2_with fail
      refine (in3_no _ _ _ _ HAI.out).mono ?_
      rintro e y7 ⟨rfl, rfl⟩
      go_wp2_with fail
      refine (COf_bad (i : Int) (r : Int) a3 a4 a1 n1 c1 z1 _ (w1.past d6) (by rw [HOC.out]; omega)).mono ?_
      rintro e x8 ⟨rfl, b8⟩
      have d8 := d6.trans (b8.mono d6.size)
      rw [HOC.out]
      go_wp2_with fail
      refine (Err_same 1 _ (het.below d8)).mono ?_
      rintro e x9 ⟨rfl, b9⟩
      have d9 := d8.trans (b9.mono d8.size)
      go_wp2_with fail
      refine (in3_no _ _ _ _ HAI.out).mono ?_
      rintro e y10 ⟨rfl, rfl⟩
      go_wp2_with fail
      refine (Way_bad (i : Int) a3 a4 a1 n1 c1 z1 _ (w1.past d9) (by rw [HYC.out]; omega)).mono ?_
      rintro e x11 ⟨rfl, b11⟩
      have d11 := d9.trans (b11.mono d9.size)
      rw [HYC.out]
      go_wp2_with fail
      refine (Err_same 1 _ (het.below d11)).mono ?_
      rintro e x12 ⟨rfl, b12⟩
      have d12 := d11.trans (b12.mono d11.size)
      go_wp2_with fail
      refine (Ints_none _).mono ?_
      rintro e x13 ⟨rfl, b13⟩
      have d13 := d12.trans (b13.mono d12.size)
      go_wp2
      go_ret
      exact ⟨rfl, d13⟩

set_option maxRecDepth 100000 in
set_option maxHeartbeats 4000000 in
theorem ib (w : World) (het : tld.EtIs w) (m : Nat) (a1 : Option Addr) (n1 c1 : Nat) (z1 : List Gr.Ln) (w1 : RdP w w.heap.size a1 n1 c1 z1) (r : Nat) (a : Nat) (a4 : Int) (hc : Tr.tcode (m : Int) z1 = 0) (hrm : r < m) (ham : a < m) (hbo : a4 < 0 ∨ (m : Int) ≤ a4) :
    Calls Tryd.prog 3 #[.int .i64 (m : Int), .slice a1 n1 c1, .int .i64 (r : Int), .int .i64 (a : Int), .int .i64 a4] w fun e w' => e = .returned (.bool true) ∧ Below w.heap.size w w' := by
  obtain ⟨hg, hT⟩ := Tr.tcode_zero.1 hc
  have hm8 : m ≤ 8 := by have := (Gr.code_zero.1 hg).2.1; omega
  have hm1 : 1 ≤ m := by have := (Gr.code_zero.1 hg).1; omega
  have m0 : (0 : Int) < (m : Int) := by omega
  have m0' : 0 < m := by omega
  have m0d : decide (0 < m) = true := by simp; omega
  obtain ⟨q, hq⟩ : ∃ q : Int, q = (m : Int) - 1 := ⟨_, rfl⟩
  have hwq : IntKind.i64.wrap ((m : Int) - 1) = q := by rw [IntKind.wrap_i64]; omega
  have H := Lib.hid hc
  have HT := Lib.hid hT
  have HCZ : Hid (Co.ccode (m : Int) z1 (r : Int) = 0) := Co.ccode_zero.2 ⟨hc, by omega, by omega⟩
  have ri0 : (0 : Int) ≤ (r : Int) := by omega
  have ri1 : (r : Int) ≤ q := by omega
  have HUL : Hid ((Co.ups m z1 r).length = m) := Co.ups_len m z1 r
  have ai0 : (0 : Int) ≤ (a : Int) := by omega
  have ai1 : (a : Int) ≤ q := by omega
  have HBI : Hid (a4 < 0 ∨ q < a4) := by show _ ∨ _; omega
  have HYC : Hid (Co.ycode (m : Int) z1 (a : Int) a4 = 1) := Co.ycode_range hc (.inr hbo)
  have HOC : Hid (Co.ocode (m : Int) z1 (r : Int) (a : Int) a4 = 1) := Co.ocode_range HCZ.out (.inr hbo)
  clear hc hg hT hq hbo
  go_enter Tryd.func3, Tryd.ntmps3
  go_wp2_with fail
  refine (RefTr.Tree_any (m : Int) a1 n1 c1 z1 _ w1).mono ?_
  rintro e x1 ⟨rfl, b1⟩
  have d1 := b1
  rw [H.out]
  go_wp2_with fail
  refine (in3_yes _ _ _ _ ri0 ri1).mono ?_
  rintro e y2 ⟨rfl, rfl⟩
  go_wp2
  have u0 : Own x1 x1.heap.size 3 (.slice none 0 0) ((Co.ups m z1 r).take 0) := Own.nil _ _ _
  go_loopw [13, 15, 16, 17] (fun uv iv _ _ wr => ∃ i : Nat, i ≤ m ∧ iv = .int .i64 (i : Int) ∧ Own wr x1.heap.size 3 uv ((Co.ups m z1 r).take i) ∧ Below x1.heap.size x1 wr) (fun _ iv _ _ _ => m - (intOf iv).toNat)
  case atStart => exact ⟨0, Nat.zero_le _, rfl, u0, Below.refl _ _⟩
  case round =>
    clear u0
    obtain ⟨i, hi, rfl, hown, hbw⟩ := hrel
    by_cases hlt : i < m
    · have dw := d1.trans (hbw.mono d1.size)
      have i1 : (i : Int) < (m : Int) := by omega
      have hsz := hbw.size
      obtain ⟨M, hM⟩ : ∃ M, M = Tr.far m z1 i r + 1 := ⟨_, rfl⟩
      have HM := Lib.hid hM
      have HST := Lib.hid (ups_take (ls := z1) (r := r) hlt)
      have hroom : Hid (((Co.ups m z1 r).take i).length + 1 ≤ 17592186044416) := by show _ ≤ _; rw [List.length_take]; omega
      obtain ⟨U, hU⟩ : ∃ U, U = Co.upI m z1 r i := ⟨_, rfl⟩
      rw [← hU] at HST
      by_cases hir : i = r
      · have hM1 : M = 1 := by rw [hM, hir, way_self HT.out hrm]
        have hU1 : U = -1 := by rw [hU, hir]; exact Co.upI_root z1 r
        subst hU1
        have dM : decide ((1 : Int) < (M : Int)) = false := by simp; omega
        clear hM hU hir
        go_wp2_with fail
        refine (RefTr.Way_any m i r a1 n1 c1 z1 _ (w1.past dw) hm8 hm1 HT.out hlt hrm).mono ?_
        rw [← HM.out]
        rintro e xw ⟨Aw, cw, rfl, rw', bw⟩
        have hown2 := hown.below bw
        have hbw2 := hbw.trans (bw.mono hsz)
        have hsz2 := hbw2.size
        clear hown hbw bw
        go_wp2_with (at_builtin; refine wpList_app _ rfl (.tmp 60) (.tmp 62) 25 rfl x1.heap.size 3 Tryd.underlying25 intInfo _ _ rfl (hown2.below ((Below.refl _ _).alloc (Nat.le_refl _) _)) (some ⟨xw.heap.size, 0, none⟩) 1 1 [(-1 : Int)] rfl (Rd.one _ _ _) hroom.out (by simp; omega) ?_; intro v1 w3 hown1 hg1 hat1)
        have hb1 := below_app (hbw2.alloc hsz2 _) (hown2.below ((Below.refl _ _).alloc (Nat.le_refl _) _)) hg1 (by simp; omega)
        go_wp2
        go_roundw
        case rel => exact ⟨i + 1, by omega, by go_num, by rw [HST.out]; exact hown1, hb1⟩
        case measure => simp [intOf]; omega
      · obtain ⟨hf1, hw1⟩ := way_one HT.out hlt hrm hir
        rw [← hU] at hw1
        have HW1 := Lib.hid hw1
        have hM2 : 1 < M := by omega
        have dM : decide ((1 : Int) < (M : Int)) = true := by simp; omega
        have dM2 : (1 : Int) < (M : Int) := by omega
        clear hM hU hir hf1 hw1
        go_wp2_with fail
        refine (RefTr.Way_any m i r a1 n1 c1 z1 _ (w1.past dw) hm8 hm1 HT.out hlt hrm).mono ?_
        rw [← HM.out]
        rintro e xw ⟨Aw, cw, rfl, rw', bw⟩
        have hown2 := hown.below bw
        have hbw2 := hbw.trans (bw.mono hsz)
        have hsz2 := hbw2.size
        have hbgw := rw'.big
        obtain ⟨bq, oq, rfl, hbq, hcq⟩ := rw'.at_ (by omega)
        have gq := hcq 1 hM2
        rw [HW1.out] at gq
        clear hown hbw bw hcq rw'
        go_wp2_with (at_builtin; refine wpList_app _ rfl (.tmp 60) (.tmp 62) 25 rfl x1.heap.size 3 Tryd.underlying25 intInfo _ _ rfl (hown2.below ((Below.refl _ _).alloc (Nat.le_refl _) _)) (some ⟨xw.heap.size, 0, none⟩) 1 1 [U] rfl (Rd.one _ _ _) hroom.out (by simp; omega) ?_; intro v1 w3 hown1 hg1 hat1)
        have hb1 := below_app (hbw2.alloc hsz2 _) (hown2.below ((Below.refl _ _).alloc (Nat.le_refl _) _)) hg1 (by simp; omega)
        go_wp2
        go_roundw
        case rel => exact ⟨i + 1, by omega, by go_num, by rw [HST.out]; exact hown1, hb1⟩
        case measure => simp [intOf]; omega
    · obtain rfl : i = m := by omega
      have hall : Hid ((Co.ups i z1 r).take i = Co.ups i z1 r) := List.take_of_length_le (by rw [HUL.out]; exact Nat.le_refl _)
      rw [hall.out] at hown
      have d3 := d1.trans (hbw.mono d1.size)
      obtain ⟨x3, hx3⟩ : ∃ x, x = wr := ⟨_, rfl⟩
      rw [← hx3] at d3 hown ⊢
      obtain ⟨Au, cu, rfl, ru⟩ := hown.rd
      rw [HUL.out] at ru ⊢
      clear hown hbw hx3
      go_wp2_with fail
      refine (Ups_ok i r a1 n1 c1 z1 _ (w1.past d3) H.out hrm).mono ?_
      rintro e x4 ⟨gu, rfl, hou, b4⟩
      have d4 := d3.trans (b4.mono d3.size)
      have rv := hou.rd'
      have ru := ru.past b4
      clear hou
      go_wp2_with fail
      refine (Err_none _).mono ?_
      rintro e y5 ⟨rfl, rfl⟩
      go_wp2_with fail
      refine (Ints_t (some ⟨gu, 0, none⟩) Au i i i cu _ _ true _ rv ru (by simp)).mono ?_
      rintro e x6 ⟨rfl, b6⟩
      have d6 := d4.trans (b6.mono d4.size)
      clear rv ru
      go_wp2_with fail
      refine (in3_yes _ _ _ _ ai0 ai1).mono ?_
      rintro e y7 ⟨rfl, rfl⟩
      go_wp2_with fail
      refine (in3_no _ _ _ _ HBI.out).mono ?_
      rintro e y8 ⟨rfl, rfl⟩
      go_wp2_with fail
      refine (COf_bad (i : Int) (r : Int) (a : Int) a4 a1 n1 c1 z1 _ (w1.past d6) (by rw [HOC.out]; omega)).mono ?_
      rintro e x9 ⟨rfl, b9⟩
      have d9 := d6.trans (b9.mono d6.size)
      rw [HOC.out]
      go_wp2_with fail
      refine (Err_same 1 _ (het.below d9)).mono ?_
      rintro e x10 ⟨rfl, b10⟩
      have d10 := d9.trans (b10.mono d9.size)
      go_wp2_with fail
      refine (in3_yes _ _ _ _ ai0 ai1).mono ?_
      rintro e y11 ⟨rfl, rfl⟩
      go_wp2_with fail
      refine (in3_no _ _ _ _ HBI.out).mono ?_
      rintro e y12 ⟨rfl, rfl⟩
      go_wp2_with fail
      refine (Way_bad (i : Int) (a : Int) a4 a1 n1 c1 z1 _ (w1.past d10) (by rw [HYC.out]; omega)).mono ?_
      rintro e x13 ⟨rfl, b13⟩
      have d13 := d10.trans (b13.mono d10.size)
      rw [HYC.out]
      go_wp2_with fail
      refine (Err_same 1 _ (het.below d13)).mono ?_
      rintro e x14 ⟨rfl, b14⟩
      have d14 := d13.trans (b14.mono d13.size)
      go_wp2_with fail
      refine (Ints_none _).mono ?_
      rintro e x15 ⟨rfl, b15⟩
      have d15 := d14.trans (b15.mono d14.size)
      go_wp2
      go_ret
      exact ⟨rfl, d15⟩

set_option maxRecDepth 100000 in
set_option maxHeartbeats 4000000 in
theorem ig (w : World) (het : tld.EtIs w) (m : Nat) (a1 : Option Addr) (n1 c1 : Nat) (z1 : List Gr.Ln) (w1 : RdP w w.heap.size a1 n1 c1 z1) (r : Nat) (a : Nat) (b : Nat) (hc : Tr.tcode (m : Int) z1 = 0) (hrm : r < m) (ham : a < m) (hbm : b < m) :
    Calls Tryd.prog 3 #[.int .i64 (m : Int), .slice a1 n1 c1, .int .i64 (r : Int), .int .i64 (a : Int), .int .i64 (b : Int)] w fun e w' => e = .returned (.bool true) ∧ Below w.heap.size w w' := by
  obtain ⟨hg, hT⟩ := Tr.tcode_zero.1 hc
  have hm8 : m ≤ 8 := by have := (Gr.code_zero.1 hg).2.1; omega
  have hm1 : 1 ≤ m := by have := (Gr.code_zero.1 hg).1; omega
  have m0 : (0 : Int) < (m : Int) := by omega
  have m0' : 0 < m := by omega
  have m0d : decide (0 < m) = true := by simp; omega
  obtain ⟨q, hq⟩ : ∃ q : Int, q = (m : Int) - 1 := ⟨_, rfl⟩
  have hwq : IntKind.i64.wrap ((m : Int) - 1) = q := by rw [IntKind.wrap_i64]; omega
  have H := Lib.hid hc
  have HT := Lib.hid hT
  have HCZ : Hid (Co.ccode (m : Int) z1 (r : Int) = 0) := Co.ccode_zero.2 ⟨hc, by omega, by omega⟩
  have ri0 : (0 : Int) ≤ (r : Int) := by omega
  have ri1 : (r : Int) ≤ q := by omega
  have HUL : Hid ((Co.ups m z1 r).length = m) := Co.ups_len m z1 r
  have ai0 : (0 : Int) ≤ (a : Int) := by omega
  have ai1 : (a : Int) ≤ q := by omega
  have bi0 : (0 : Int) ≤ (b : Int) := by omega
  have bi1 : (b : Int) ≤ q := by omega
  obtain ⟨L, hL⟩ : ∃ L, L = Tr.far m z1 a b + 1 := ⟨_, rfl⟩
  have HL := Lib.hid hL
  clear hL
  clear hc hg hT hq
  go_enter Tryd.func3, Tryd.ntmps3
  go_wp2_with fail
  refine (RefTr.Tree_any (m : Int) a1 n1 c1 z1 _ w1).mono ?_
  rintro e x1 ⟨rfl, b1⟩
  have d1 := b1
  rw [H.out]
  go_wp2_with fail
  refine (in3_yes _ _ _ _ ri0 ri1).mono ?_
  rintro e y2 ⟨rfl, rfl⟩
  go_wp2
  have u0 : Own x1 x1.heap.size 3 (.slice none 0 0) ((Co.ups m z1 r).take 0) := Own.nil _ _ _
  go_loopw [13, 15, 16, 17] (fun uv iv _ _ wr => ∃ i : Nat, i ≤ m ∧ iv = .int .i64 (i : Int) ∧ Own wr x1.heap.size 3 uv ((Co.ups m z1 r).take i) ∧ Below x1.heap.size x1 wr) (fun _ iv _ _ _ => m - (intOf iv).toNat)
  case atStart => exact ⟨0, Nat.zero_le _, rfl, u0, Below.refl _ _⟩
  case round =>
    clear u0
    obtain ⟨i, hi, rfl, hown, hbw⟩ := hrel
    by_cases hlt : i < m
    · have dw := d1.trans (hbw.mono d1.size)
      have i1 : (i : Int) < (m : Int) := by omega
      have hsz := hbw.size
      obtain ⟨M, hM⟩ : ∃ M, M = Tr.far m z1 i r + 1 := ⟨_, rfl⟩
      have HM := Lib.hid hM
      have HST := Lib.hid (ups_take (ls := z1) (r := r) hlt)
      have hroom : Hid (((Co.ups m z1 r).take i).length + 1 ≤ 17592186044416) := by show _ ≤ _; rw [List.length_take]; omega
      obtain ⟨U, hU⟩ : ∃ U, U = Co.upI m z1 r i := ⟨_, rfl⟩
      rw [← hU] at HST
      by_cases hir : i = r
      · have hM1 : M = 1 := by rw [hM, hir, way_self HT.out hrm]
        have hU1 : U = -1 := by rw [hU, hir]; exact Co.upI_root z1 r
        subst hU1
        have dM : decide ((1 : Int) < (M : Int)) = false := by simp; omega
        clear hM hU hir
        go_wp2_with fail
        refine (RefTr.Way_any m i r a1 n1 c1 z1 _ (w1.past dw) hm8 hm1 HT.out hlt hrm).mono ?_
        rw [← HM.out]
        rintro e xw ⟨Aw, cw, rfl, rw', bw⟩
        have hown2 := hown.below bw
        have hbw2 := hbw.trans (bw.mono hsz)
        have hsz2 := hbw2.size
        clear hown hbw bw
        go_wp2_with (at_builtin; refine wpList_app _ rfl (.tmp 60) (.tmp 62) 25 rfl x1.heap.size 3 Tryd.underlying25 intInfo _ _ rfl (hown2.below ((Below.refl _ _).alloc (Nat.le_refl _) _)) (some ⟨xw.heap.size, 0, none⟩) 1 1 [(-1 : Int)] rfl (Rd.one _ _ _) hroom.out (by simp; omega) ?_; intro v1 w3 hown1 hg1 hat1)
        have hb1 := below_app (hbw2.alloc hsz2 _) (hown2.below ((Below.refl _ _).alloc (Nat.le_refl _) _)) hg1 (by simp; omega)
        go_wp2
        go_roundw
        case rel => exact ⟨i + 1, by omega, by go_num, by rw [HST.out]; exact hown1, hb1⟩
        case measure => simp [intOf]; omega
      · obtain ⟨hf1, hw1⟩ := way_one HT.out hlt hrm hir
        rw [← hU] at hw1
        have HW1 := Lib.hid hw1
        have hM2 : 1 < M := by omega
        have dM : decide ((1 : Int) < (M : Int)) = true := by simp; omega
        have dM2 : (1 : Int) < (M : Int) := by omega
        clear hM hU hir hf1 hw1
        go_wp2_with fail
        refine (RefTr.Way_any m i r a1 n1 c1 z1 _ (w1.past dw) hm8 hm1 HT.out hlt hrm).mono ?_
        rw [← HM.out]
        rintro e xw ⟨Aw, cw, rfl, rw', bw⟩
        have hown2 := hown.below bw
        have hbw2 := hbw.trans (bw.mono hsz)
        have hsz2 := hbw2.size
        have hbgw := rw'.big
        obtain ⟨bq, oq, rfl, hbq, hcq⟩ := rw'.at_ (by omega)
        have gq := hcq 1 hM2
        rw [HW1.out] at gq
        clear hown hbw bw hcq rw'
        go_wp2_with (at_builtin; refine wpList_app _ rfl (.tmp 60) (.tmp 62) 25 rfl x1.heap.size 3 Tryd.underlying25 intInfo _ _ rfl (hown2.below ((Below.refl _ _).alloc (Nat.le_refl _) _)) (some ⟨xw.heap.size, 0, none⟩) 1 1 [U] rfl (Rd.one _ _ _) hroom.out (by simp; omega) ?_; intro v1 w3 hown1 hg1 hat1)
        have hb1 := below_app (hbw2.alloc hsz2 _) (hown2.below ((Below.refl _ _).alloc (Nat.le_refl _) _)) hg1 (by simp; omega)
        go_wp2
        go_roundw
        case rel => exact ⟨i + 1, by omega, by go_num, by rw [HST.out]; exact hown1, hb1⟩
        case measure => simp [intOf]; omega
    · obtain rfl : i = m := by omega
      have hall : Hid ((Co.ups i z1 r).take i = Co.ups i z1 r) := List.take_of_length_le (by rw [HUL.out]; exact Nat.le_refl _)
      rw [hall.out] at hown
      have d3 := d1.trans (hbw.mono d1.size)
      obtain ⟨x3, hx3⟩ : ∃ x, x = wr := ⟨_, rfl⟩
      rw [← hx3] at d3 hown ⊢
      obtain ⟨Au, cu, rfl, ru⟩ := hown.rd
      rw [HUL.out] at ru ⊢
      clear hown hbw hx3
      go_wp2_with fail
      refine (Ups_ok i r a1 n1 c1 z1 _ (w1.past d3) H.out hrm).mono ?_
      rintro e x4 ⟨gu, rfl, hou, b4⟩
      have d4 := d3.trans (b4.mono d3.size)
      have rv := hou.rd'
      have ru := ru.past b4
      clear hou
      go_wp2_with fail
      refine (Err_none _).mono ?_
      rintro e y5 ⟨rfl, rfl⟩
      go_wp2_with fail
      refine (Ints_t (some ⟨gu, 0, none⟩) Au i i i cu _ _ true _ rv ru (by simp)).mono ?_
      rintro e x6 ⟨rfl, b6⟩
      have d6 := d4.trans (b6.mono d4.size)
      clear rv ru
      go_wp2_with fail
      refine (in3_yes _ _ _ _ ai0 ai1).mono ?_
      rintro e y7 ⟨rfl, rfl⟩
      go_wp2_with fail
      refine (in3_yes _ _ _ _ bi0 bi1).mono ?_
      rintro e y8 ⟨rfl, rfl⟩
      obtain ⟨La, hLa⟩ : ∃ L, L = Tr.far i z1 a r + 1 := ⟨_, rfl⟩
      obtain ⟨Lb, hLb⟩ : ∃ L, L = Tr.far i z1 b r + 1 := ⟨_, rfl⟩
      have HLa := Lib.hid hLa
      have HLb := Lib.hid hLb
      clear hLa hLb
      go_wp2_with fail
      refine (RefTr.Way_any i a r a1 n1 c1 z1 _ (w1.past d6) hm8 hm1 HT.out ham hrm).mono ?_
      rw [← HLa.out]
      rintro e x9 ⟨Ax, cx, rfl, rx, b9⟩
      have d9 := d6.trans (b9.mono d6.size)
      go_wp2_with fail
      refine (RefTr.Way_any i b r a1 n1 c1 z1 _ (w1.past d9) hm8 hm1 HT.out hbm hrm).mono ?_
      rw [← HLb.out]
      rintro e x10 ⟨Ay, cy, rfl, ry, b10⟩
      have d10 := d9.trans (b10.mono d9.size)
      have rx := rx.past b10
      have hbgx := rx.big
      obtain ⟨bx, ox, rfl, hbx, hcx⟩ := rx.at_ (by have := HLa.out; omega)
      have HCX := Lib.hid hcx
      clear hcx rx
      go_wp2
      go_loopw [24] (fun kv wr => ∃ k : Nat, k < La ∧ kv = .int .i64 (k : Int) ∧ Hid (∀ j, j < k → (Co.way i z1 a r).getD j 0 ∉ Co.way i z1 b r) ∧ x10 = wr) (fun kv _ => La - (intOf kv).toNat)
      case atStart => exact ⟨0, by have := HLa.out; omega, rfl, fun j hj => absurd hj (Nat.not_lt_zero _), rfl⟩
      case round =>
        obtain ⟨k, hk, rfl, HNO, rfl⟩ := hrel
        have hkD : k ≤ Tr.far i z1 a r := by have := HLa.out; omega
        have gk := HCX.out k hk
        rw [Co.wayI_at HT.out ham hrm hkD] at gk
        have hcon := Co.wayI_has i z1 b r ((Co.way i z1 a r).getD k 0)
        have hlow := fun hin => Co.low_first HT.out.met hrm ham hbm hkD hin HNO.out
        obtain ⟨v, hv⟩ : ∃ v, v = (Co.way i z1 a r).getD k 0 := ⟨_, rfl⟩
        rw [← hv] at gk hcon
        have k0 : (0 : Int) ≤ (k : Int) := by omega
        have k1 : (k : Int) < (La : Int) := by omega
        by_cases hin : v ∈ Co.way i z1 b r
        case neg =>
          have hcf : (Co.wayI i z1 b r).contains (v : Int) = false := by rw [hcon]; simpa using hin
          have hlt : k + 1 < La := by
            rcases Nat.lt_or_ge (k + 1) La with h1 | h1
            · exact h1
            · exfalso
              have h2 := Co.low_bound HT.out.met hrm ham hbm
              have h3 : k = Tr.far i z1 a r := by have := HLa.out; omega
              rw [← h3] at h2
              exact hin (by rw [hv]; exact h2)
          have HN2 : Hid (∀ j, j < k + 1 → (Co.way i z1 a r).getD j 0 ∉ Co.way i z1 b r) := by
            show ∀ j, _
            intro j hj
            by_cases e : j = k
            · rw [e, ← hv]; exact hin
            · exact HNO.out j (by omega)
          clear hcon hin hv hlow hkD HNO
          go_wp2_with fail
          refine (Has_any Ay Lb cy _ (v : Int) false _ ry hcf).mono ?_
          rintro e yn ⟨rfl, rfl⟩
          go_wp2
          go_roundw
          case rel => exact ⟨k + 1, hlt, by go_num, HN2, trivial⟩
          case measure => simp [intOf]; omega
        case pos =>
          have hcf : (Co.wayI i z1 b r).contains (v : Int) = true := by rw [hcon]; simpa using hin
          have HLO : Hid (v = Co.lowN i z1 r a b) := by
            refine Co.low_eq HT.out hrm ham hbm ?_
            rw [hv] at hin ⊢
            exact hlow hin
          have hvv : ((v : Int) == (v : Int)) = true := by simp
          clear hcon hin hv hlow hkD HNO
          go_wp2_with fail
          refine (Has_any Ay Lb cy _ (v : Int) true _ ry hcf).mono ?_
          rintro e yn ⟨rfl, rfl⟩
          clear ry
          go_wp2_with fail
          refine (COf_ok i r a b a1 n1 c1 z1 _ (w1.past d10) H.out hrm ham hbm).mono ?_
          rw [← HLO.out]
          rintro e x11 ⟨rfl, b11⟩
          have d11 := d10.trans (b11.mono d10.size)
          go_wp2_with fail
          refine (Err_none _).mono ?_
          rintro e y12 ⟨rfl, rfl⟩
          go_wp2_with fail
          refine (in3_yes _ _ _ _ ai0 ai1).mono ?_
          rintro e y13 ⟨rfl, rfl⟩
          go_wp2_with fail
          refine (in3_yes _ _ _ _ bi0 bi1).mono ?_
          rintro e y14 ⟨rfl, rfl⟩
          go_wp2_with fail
          refine (RefTr.Way_any i a b a1 n1 c1 z1 _ (w1.past d11) hm8 hm1 HT.out ham hbm).mono ?_
          rw [← HL.out]
          rintro e x15 ⟨Az, cz, rfl, rz, b15⟩
          have d15 := d11.trans (b15.mono d11.size)
          go_wp2_with fail
          refine (Way_ok i a b a1 n1 c1 z1 _ (w1.past d15) H.out ham hbm).mono ?_
          rw [← HL.out]
          rintro e x16 ⟨Aq, cq, rfl, rq, b16⟩
          have d16 := d15.trans (b16.mono d15.size)
          have rz := rz.past b16
          go_wp2_with fail
          refine (Err_none _).mono ?_
          rintro e y17 ⟨rfl, rfl⟩
          go_wp2_with fail
          refine (Ints_t Aq Az L L cq cz _ _ true _ rq rz (by simp)).mono ?_
          rintro e x18 ⟨rfl, b18⟩
          have d18 := d16.trans (b18.mono d16.size)
          go_wp2
          go_ret
          exact ⟨rfl, d18⟩

theorem walk (w : World) (het : tld.EtIs w) (a0 : Int) (w0 : (Lit.int .i64 a0).wf = true) (a1 : Option Addr) (n1 c1 : Nat) (z1 : List Gr.Ln) (w1 : RdP w w.heap.size a1 n1 c1 z1) (a2 : Int) (w2 : (Lit.int .i64 a2).wf = true) (a3 : Int) (w3 : (Lit.int .i64 a3).wf = true) (a4 : Int) (w4 : (Lit.int .i64 a4).wf = true) :
    Calls Tryd.prog 3 #[.int .i64 a0, .slice a1 n1 c1, .int .i64 a2, .int .i64 a3, .int .i64 a4] w fun e w' => e = .returned (.bool true) ∧ Below w.heap.size w w' := by
  rcases Tr.tcode_cases a0 z1 with ⟨m, rfl, h, _, _⟩ | h
  · by_cases hr : a2 < 0 ∨ (m : Int) ≤ a2
    · by_cases ha : a3 < 0 ∨ (m : Int) ≤ a3
      · exact oa w het m a1 n1 c1 z1 w1 a2 a3 a4 h hr ha
      · obtain ⟨a, rfl⟩ : ∃ b' : Nat, a3 = (b' : Int) := ⟨a3.toNat, by omega⟩
        by_cases hb : a4 < 0 ∨ (m : Int) ≤ a4
        · exact ob w het m a1 n1 c1 z1 w1 a2 a a4 h hr (by omega) hb
        · obtain ⟨b, rfl⟩ : ∃ b' : Nat, a4 = (b' : Int) := ⟨a4.toNat, by omega⟩
          exact og w het m a1 n1 c1 z1 w1 a2 a b h hr (by omega) (by omega)
    · obtain ⟨r, rfl⟩ : ∃ b' : Nat, a2 = (b' : Int) := ⟨a2.toNat, by omega⟩
      by_cases ha : a3 < 0 ∨ (m : Int) ≤ a3
      · exact ia w het m a1 n1 c1 z1 w1 r a3 a4 h (by omega) ha
      · obtain ⟨a, rfl⟩ : ∃ b' : Nat, a3 = (b' : Int) := ⟨a3.toNat, by omega⟩
        by_cases hb : a4 < 0 ∨ (m : Int) ≤ a4
        · exact ib w het m a1 n1 c1 z1 w1 r a a4 h (by omega) (by omega) hb
        · obtain ⟨b, rfl⟩ : ∃ b' : Nat, a4 = (b' : Int) := ⟨a4.toNat, by omega⟩
          exact ig w het m a1 n1 c1 z1 w1 r a b h (by omega) (by omega) (by omega)
  · by_cases h0 : 0 < a0
    · exact t1 w het a0 a1 n1 c1 z1 w1 a2 a3 a4 h h0
    · exact t2 w het a0 a1 n1 c1 z1 w1 a2 a3 a4 h h0

end Go.Proofs.YtojkjdccjomaaaaDoor.commonSays
