/-
  The walk of the law DomSays: for every number of points, lines and start it returns true, where the library's variable errors.errorType holds what its initialiser lays.
-/
import Derived.Test.YtjcdnkbandagoaaDoorDomD
import Derived.Test.YtjcdnkbandagoaaDoorRefOv
import Derived.Test.YtjcdnkbandagoaaDoorErrS
import Derived.Test.YtjcdnkbandagoaaDoorRefL
import Derived.Test.YtjcdnkbandagoaaDoorGraphE
import Derived.Test.YtjcdnkbandagoaaDoorIn2
import Derived.BigQuiet
namespace Go.Proofs.YtjcdnkbandagoaaDoor.domSays
open Go.RowKit
set_option linter.unusedSimpArgs false
set_option linter.unusedVariables false

theorem Ints_none (w : World) : Calls Tryd.prog 11 #[.slice none 0 0, .slice none 0 0] w fun e w' => e = .returned (.bool true) ∧ Below w.heap.size w w' :=
  Ints_t none none 0 0 0 0 [] [] true w (Rd.nil _ _) (Rd.nil _ _) (by decide)
theorem Rows_none (w : World) : Calls Tryd.prog 9 #[.slice none 0 0, .slice none 0 0] w fun e w' => e = .returned (.bool true) ∧ Below w.heap.size w w' :=
  Rows_any none none 0 0 0 0 [] [] true w (RdR.nil _ _) (RdR.nil _ _) (by decide)

/-- the rows of the points below i, the last ones of the points below i -/
def rwTo (m : Nat) (ls : List Gr.Ln) (st i : Nat) : List (List Int) := (List.range i).map (Do.dl m ls st)
def lsTo (m : Nat) (ls : List Gr.Ln) (st i : Nat) : List Int := (List.range i).map (Do.lst m ls st)
theorem rwTo_succ (m : Nat) (ls : List Gr.Ln) (st i : Nat) : rwTo m ls st (i + 1) = rwTo m ls st i ++ [Do.dl m ls st i] := by simp [rwTo, List.range_succ]
theorem lsTo_succ (m : Nat) (ls : List Gr.Ln) (st i : Nat) : lsTo m ls st (i + 1) = lsTo m ls st i ++ [Do.lst m ls st i] := by simp [lsTo, List.range_succ]
theorem rwTo_len (m : Nat) (ls : List Gr.Ln) (st i : Nat) : (rwTo m ls st i).length = i := by simp [rwTo]
theorem lsTo_len (m : Nat) (ls : List Gr.Ln) (st i : Nat) : (lsTo m ls st i).length = i := by simp [lsTo]

set_option maxRecDepth 100000 in
set_option maxHeartbeats 2000000 in
/-- something is wrong with the lines -/
theorem bad (w : World) (het : tld.EtIs w) (a0 : Int) (a1 : Option Addr) (n1 c1 : Nat) (z1 : List Gr.Ln) (w1 : RdP w w.heap.size a1 n1 c1 z1) (a2 : Int) (hc : Gr.code a0 z1 ≠ 0) :
    Calls Tryd.prog 3 #[.int .i64 a0, .slice a1 n1 c1, .int .i64 a2] w fun e w' => e = .returned (.bool true) ∧ Below w.heap.size w w' := by
  obtain ⟨k, hk⟩ : ∃ k, k = Gr.code a0 z1 := ⟨_, rfl⟩
  have hfk : Do.fcode a0 z1 a2 = k := by unfold Do.fcode; rw [if_neg hc, hk]
  have HN : Hid (Do.fcode a0 z1 a2 ≠ 0) := by show _ ≠ _; rw [hfk, hk]; exact hc
  have d1 : (k == 0) = false := by simpa [hk] using hc
  have HK := Lib.hid hfk
  have HK0 := Lib.hid hk
  clear hc hk hfk
  go_enter Tryd.func3, Tryd.ntmps3
  go_wp2_with fail
  refine (RefL.Lines_any a0 a1 n1 c1 z1 _ w1).mono ?_
  rintro e x1 ⟨rfl, b1⟩
  rw [← HK0.out]
  go_wp2
  go_loopw [8, 10] (fun av iv wr => av = .slice none 0 0 ∧ iv = .int .i64 0 ∧ x1 = wr) (fun _ _ _ => 0)
  case atStart => exact ⟨rfl, rfl, rfl⟩
  case round =>
    obtain ⟨rfl, rfl, rfl⟩ := hrel
    obtain ⟨t, ht⟩ : ∃ t : Bool, decide ((0 : Int) < a0) = t := ⟨_, rfl⟩
    cases t with
    | true =>
      go_wp2
      go_loopw [9, 11, 12, 13, 14] (fun lv iv _ _ _ wr => lv = .slice none 0 0 ∧ iv = .int .i64 0 ∧ x1 = wr) (fun _ _ _ _ _ _ => 0)
      case atStart => exact ⟨rfl, rfl, rfl⟩
      case round =>
        obtain ⟨rfl, rfl, rfl⟩ := hrel
        go_wp2_with fail
        refine (Of_bad a0 a1 n1 c1 z1 a2 _ (w1.past b1) HN.out).mono ?_
        rintro e x2 ⟨rfl, b2⟩
        have b02 := b1.trans (b2.mono b1.size)
        rw [HK.out]
        go_wp2_with fail
        refine (Err_same k _ (het.below b02)).mono ?_
        rintro e x3 ⟨rfl, b3⟩
        have b03 := b02.trans (b3.mono b02.size)
        go_wp2_with fail
        refine (Rows_none _).mono ?_
        rintro e x4 ⟨rfl, b4⟩
        have b04 := b03.trans (b4.mono b03.size)
        go_wp2_with fail
        refine (Last_bad a0 a1 n1 c1 z1 a2 _ (w1.past b04) HN.out).mono ?_
        rintro e x5 ⟨rfl, b5⟩
        have b05 := b04.trans (b5.mono b04.size)
        rw [HK.out]
        go_wp2_with fail
        refine (Err_same k _ (het.below b05)).mono ?_
        rintro e x6 ⟨rfl, b6⟩
        have b06 := b05.trans (b6.mono b05.size)
        go_wp2_with fail
        refine (Ints_none _).mono ?_
        rintro e x7 ⟨rfl, b7⟩
        go_wp2
        go_ret
        exact ⟨rfl, b06.trans (b7.mono b06.size)⟩
    | false =>
      go_wp2
      go_loopw [9, 11, 12, 13, 14] (fun lv iv _ _ _ wr => lv = .slice none 0 0 ∧ iv = .int .i64 0 ∧ x1 = wr) (fun _ _ _ _ _ _ => 0)
      case atStart => exact ⟨rfl, rfl, rfl⟩
      case round =>
        obtain ⟨rfl, rfl, rfl⟩ := hrel
        go_wp2_with fail
        refine (Of_bad a0 a1 n1 c1 z1 a2 _ (w1.past b1) HN.out).mono ?_
        rintro e x2 ⟨rfl, b2⟩
        have b02 := b1.trans (b2.mono b1.size)
        rw [HK.out]
        go_wp2_with fail
        refine (Err_same k _ (het.below b02)).mono ?_
        rintro e x3 ⟨rfl, b3⟩
        have b03 := b02.trans (b3.mono b02.size)
        go_wp2_with fail
        refine (Rows_none _).mono ?_
        rintro e x4 ⟨rfl, b4⟩
        have b04 := b03.trans (b4.mono b03.size)
        go_wp2_with fail
        refine (Last_bad a0 a1 n1 c1 z1 a2 _ (w1.past b04) HN.out).mono ?_
        rintro e x5 ⟨rfl, b5⟩
        have b05 := b04.trans (b5.mono b04.size)
        rw [HK.out]
        go_wp2_with fail
        refine (Err_same k _ (het.below b05)).mono ?_
        rintro e x6 ⟨rfl, b6⟩
        have b06 := b05.trans (b6.mono b05.size)
        go_wp2_with fail
        refine (Ints_none _).mono ?_
        rintro e x7 ⟨rfl, b7⟩
        go_wp2
        go_ret
        exact ⟨rfl, b06.trans (b7.mono b06.size)⟩

set_option maxRecDepth 100000 in
set_option maxHeartbeats 2000000 in
/-- the start is no point -/
theorem out (w : World) (het : tld.EtIs w) (a0 : Int) (a1 : Option Addr) (n1 c1 : Nat) (z1 : List Gr.Ln) (w1 : RdP w w.heap.size a1 n1 c1 z1) (a2 : Int) (hc : Gr.code a0 z1 = 0) (ha : a2 < 0 ∨ a0 ≤ a2) :
    Calls Tryd.prog 3 #[.int .i64 a0, .slice a1 n1 c1, .int .i64 a2] w fun e w' => e = .returned (.bool true) ∧ Below w.heap.size w w' := by
  have hfk : Do.fcode a0 z1 a2 = 1 := by unfold Do.fcode; rw [if_pos hc, if_pos ha]
  have HN : Hid (Do.fcode a0 z1 a2 ≠ 0) := by show _ ≠ _; rw [hfk]; omega
  have HK := Lib.hid hfk
  have HK0 := Lib.hid hc
  obtain ⟨q, hq⟩ : ∃ q : Int, q = a0 - 1 := ⟨_, rfl⟩
  have h8 := (Gr.code_zero.1 hc).1
  have h9 := (Gr.code_zero.1 hc).2.1
  have hwr : IntKind.i64.wrap (a0 - 1) = q := by rw [IntKind.wrap_i64] <;> omega
  have HIN : Hid (a2 < 0 ∨ q < a2) := by show _ ∨ _; omega
  clear hc hfk ha hq h8 h9
  go_enter Tryd.func3, Tryd.ntmps3
  go_wp2_with fail
  refine (RefL.Lines_any a0 a1 n1 c1 z1 _ w1).mono ?_
  rintro e x1 ⟨rfl, b1⟩
  rw [HK0.out]
  go_wp2_with fail
  refine (in2_no a2 0 q _ HIN.out).mono ?_
  rintro e x2 ⟨rfl, rfl⟩
  go_wp2
  go_loopw [8, 10] (fun av iv wr => av = .slice none 0 0 ∧ iv = .int .i64 0 ∧ x1 = wr) (fun _ _ _ => 0)
  case atStart => exact ⟨rfl, rfl, rfl⟩
  case round =>
    obtain ⟨rfl, rfl, rfl⟩ := hrel
    obtain ⟨t, ht⟩ : ∃ t : Bool, decide ((0 : Int) < a0) = t := ⟨_, rfl⟩
    cases t with
    | true =>
      go_wp2
      go_loopw [9, 11, 12, 13, 14] (fun lv iv _ _ _ wr => lv = .slice none 0 0 ∧ iv = .int .i64 0 ∧ x1 = wr) (fun _ _ _ _ _ _ => 0)
      case atStart => exact ⟨rfl, rfl, rfl⟩
      case round =>
        obtain ⟨rfl, rfl, rfl⟩ := hrel
        go_wp2_with fail
        refine (Of_bad a0 a1 n1 c1 z1 a2 _ (w1.past b1) HN.out).mono ?_
        rintro e x2 ⟨rfl, b2⟩
        have b02 := b1.trans (b2.mono b1.size)
        rw [HK.out]
        go_wp2_with fail
        refine (Err_same 1 _ (het.below b02)).mono ?_
        rintro e x3 ⟨rfl, b3⟩
        have b03 := b02.trans (b3.mono b02.size)
        go_wp2_with fail
        refine (Rows_none _).mono ?_
        rintro e x4 ⟨rfl, b4⟩
        have b04 := b03.trans (b4.mono b03.size)
        go_wp2_with fail
        refine (Last_bad a0 a1 n1 c1 z1 a2 _ (w1.past b04) HN.out).mono ?_
        rintro e x5 ⟨rfl, b5⟩
        have b05 := b04.trans (b5.mono b04.size)
        rw [HK.out]
        go_wp2_with fail
        refine (Err_same 1 _ (het.below b05)).mono ?_
        rintro e x6 ⟨rfl, b6⟩
        have b06 := b05.trans (b6.mono b05.size)
        go_wp2_with fail
        refine (Ints_none _).mono ?_
        rintro e x7 ⟨rfl, b7⟩
        go_wp2
        go_ret
        exact ⟨rfl, b06.trans (b7.mono b06.size)⟩
    | false =>
      go_wp2
      go_loopw [9, 11, 12, 13, 14] (fun lv iv _ _ _ wr => lv = .slice none 0 0 ∧ iv = .int .i64 0 ∧ x1 = wr) (fun _ _ _ _ _ _ => 0)
      case atStart => exact ⟨rfl, rfl, rfl⟩
      case round =>
        obtain ⟨rfl, rfl, rfl⟩ := hrel
        go_wp2_with fail
        refine (Of_bad a0 a1 n1 c1 z1 a2 _ (w1.past b1) HN.out).mono ?_
        rintro e x2 ⟨rfl, b2⟩
        have b02 := b1.trans (b2.mono b1.size)
        rw [HK.out]
        go_wp2_with fail
        refine (Err_same 1 _ (het.below b02)).mono ?_
        rintro e x3 ⟨rfl, b3⟩
        have b03 := b02.trans (b3.mono b02.size)
        go_wp2_with fail
        refine (Rows_none _).mono ?_
        rintro e x4 ⟨rfl, b4⟩
        have b04 := b03.trans (b4.mono b03.size)
        go_wp2_with fail
        refine (Last_bad a0 a1 n1 c1 z1 a2 _ (w1.past b04) HN.out).mono ?_
        rintro e x5 ⟨rfl, b5⟩
        have b05 := b04.trans (b5.mono b04.size)
        rw [HK.out]
        go_wp2_with fail
        refine (Err_same 1 _ (het.below b05)).mono ?_
        rintro e x6 ⟨rfl, b6⟩
        have b06 := b05.trans (b6.mono b05.size)
        go_wp2_with fail
        refine (Ints_none _).mono ?_
        rintro e x7 ⟨rfl, b7⟩
        go_wp2
        go_ret
        exact ⟨rfl, b06.trans (b7.mono b06.size)⟩

set_option maxRecDepth 100000 in
set_option maxHeartbeats 8000000 in
theorem good (w : World) (het : tld.EtIs w) (m st : Nat) (a1 : Option Addr) (n1 c1 : Nat) (z1 : List Gr.Ln) (w1 : RdP w w.heap.size a1 n1 c1 z1) (hst : st < m) (h0 : Gr.code (m : Int) z1 = 0) :
    Calls Tryd.prog 3 #[.int .i64 (m : Int), .slice a1 n1 c1, .int .i64 (st : Int)] w fun e w' => e = .returned (.bool true) ∧ Below w.heap.size w w' := by
  have hm8 : m ≤ 8 := by have := (Gr.code_zero.1 h0).2.1; omega
  have HG := Lib.hid (Gr.code_zero.1 h0).2.2.2
  have H0 := Lib.hid h0
  clear h0
  obtain ⟨q, hq⟩ : ∃ q : Int, q = (m : Int) - 1 := ⟨_, rfl⟩
  have hwr : IntKind.i64.wrap ((m : Int) - 1) = q := by rw [IntKind.wrap_i64] <;> omega
  have HIN : Hid (0 ≤ (st : Int) ∧ (st : Int) ≤ q) := by show _ ∧ _; omega
  clear hq
  go_enter Tryd.func3, Tryd.ntmps3
  go_wp2_with fail
  refine (RefL.Lines_any (m : Int) a1 n1 c1 z1 _ w1).mono ?_
  rintro e x1 ⟨rfl, b1⟩
  rw [H0.out]
  go_wp2_with fail
  refine (in2_yes (st : Int) 0 q _ HIN.out.1 HIN.out.2).mono ?_
  rintro e x2 ⟨rfl, rfl⟩
  obtain ⟨B, hB⟩ : ∃ B, B = x1.heap.size := ⟨_, rfl⟩
  have HB := Lib.hid hB
  have b1s := b1.size
  rw [← hB] at b1s
  have hO0 : OwnR x1 B 26 3 (.slice none 0 0) (rwTo m z1 st 0) := OwnR.nil _ _ _ _
  have hb0 : Below B x1 x1 := Below.refl _ _
  clear hB
  go_wp2
  go_loopw [8, 10] (fun av iv wr => ∃ i : Nat, i ≤ m ∧ iv = .int .i64 (i : Int) ∧ OwnR wr B 26 3 av (rwTo m z1 st i) ∧ Below B x1 wr) (fun _ iv _ => m - (intOf iv).toNat)
  case atStart => exact ⟨0, Nat.zero_le _, rfl, hO0, hb0⟩
  case round =>
    clear hO0 hb0
    obtain ⟨i, hi, rfl, hR, hbel⟩ := hrel
    have hsz : B ≤ wr.heap.size := by have := hbel.size; rw [← HB.out] at this; exact this
    by_cases hlt : i < m
    · have bw := b1.trans (hbel.mono b1s)
      have HO := Lib.hid (RefOv.Over_any m st i a1 n1 c1 z1 wr (w1.past bw) hm8 hst hlt HG.out)
      have hn : Hid (rwTo m z1 st (i + 1) = rwTo m z1 st i ++ [Do.dl m z1 st i]) := rwTo_succ _ _ _ _
      have hrl := rwTo_len m z1 st i
      go_wp2_with fail
      refine HO.out.mono ?_
      rintro e w5 ⟨u, rfl, hown, hb5⟩
      have hbel5 := hbel.trans (hb5.mono hsz)
      have hsz5 : B ≤ w5.heap.size := Nat.le_trans hsz hb5.size
      have hu1 : Own w5 B 3 u (Do.dl m z1 st i) := hown.mono hsz
      have hR1 := hR.below hb5
      obtain ⟨Au, cu, rfl, _⟩ := hown.rd
      obtain ⟨L, hL⟩ : ∃ L, L = (Do.dl m z1 st i).length := ⟨_, rfl⟩
      rw [← hL] at hu1 ⊢
      clear hL hown hR hbel
      have hba := (Below.refl w5.heap.size w5).alloc (Nat.le_refl _) (.cells #[.slice Au L cu] 26)
      have hR2 := hR1.below hba
      have hu2 := hu1.below hba
      have hcu : (w5.alloc (.cells #[.slice Au L cu] 26)).cell? ⟨w5.heap.size, 0, none⟩ = some (.slice Au L cu) := by simp
      have hsy2 : B ≤ (w5.alloc (.cells #[.slice Au L cu] 26)).heap.size := by simp; omega
      have hb2 : Below B x1 (w5.alloc (.cells #[.slice Au L cu] 26)) := hbel5.trans (hba.mono (by omega))
      have hroom : (rwTo m z1 st i).length + 1 ≤ 1000000 := by rw [hrl]; omega
      clear hR1 hu1 hba
      go_wp2_with (at_builtin; refine wpList_appR _ rfl (.tmp 40) (.tmp 46) 25 rfl B 26 3 (by decide) Tryd.underlying25 rowInfo _ _ rfl hR2 w5.heap.size _ (Do.dl m z1 st i) rfl hcu hu2 hroom hsy2 ?_; intro v9 y3 hR3 hg3 hv9)
      obtain ⟨nv, xv, hv9⟩ := hv9
      have hbel3 : Below B x1 y3 := hb2.grown hg3 hsy2 (fun q hq => (World.ownsRow.lt hv9 q hq).1)
      rw [← hn.out] at hR3
      clear hR2 hu2 hb2 hcu hroom hg3 hv9
      go_roundw
      case rel => exact ⟨i + 1, by omega, by go_num, hR3, hbel3⟩
      case measure => simp [intOf]; omega
    · obtain rfl : i = m := by omega
      obtain ⟨A3, c3, rfl, r3⟩ := hR.rd
      rw [rwTo_len] at r3 ⊢
      have r3 : RdR wr wr.heap.size A3 i c3 (Do.dls i z1 st) := r3
      have b2 := b1.trans (hbel.mono b1s)
      have hbig := r3.big
      obtain ⟨x2, hx2⟩ : ∃ x2, x2 = wr := ⟨_, rfl⟩
      obtain ⟨B2, hB2⟩ : ∃ B2, B2 = x2.heap.size := ⟨_, rfl⟩
      have HB2 := Lib.hid hB2
      have hO0 : Own wr B2 3 (.slice none 0 0) (lsTo i z1 st 0) := Own.nil _ _ _
      have hb0 : Below B2 x2 wr := by rw [hx2]; exact Below.refl _ _
      rw [← hx2] at r3 b2
      have b2s := b2.size
      rw [← hB2] at r3 b2s
      obtain ⟨bA, oA, rfl, hbA, hcc⟩ := r3.at_ (by omega)
      have HC : Hid (∀ j, j < i → ∃ A' c', x2.cell? ⟨bA, oA + j, none⟩ = some (.slice A' (Do.dl i z1 st j).length c') ∧ Rd x2 B2 A' (Do.dl i z1 st j).length c' (Do.dl i z1 st j)) := by
        show ∀ j, _
        intro j hj
        have := hcc j hj
        rw [Do.dls_at hj] at this
        exact this
      have HR3 := Lib.hid r3
      clear hR hbel hx2 hB2 hsz b1 b1s hcc r3
      go_wp2
      go_loopw [9, 11, 12, 13, 14] (fun lv jv _ _ _ wr => ∃ j : Nat, j ≤ i ∧ jv = .int .i64 (j : Int) ∧ Own wr B2 3 lv (lsTo i z1 st j) ∧ Below B2 x2 wr) (fun _ jv _ _ _ _ => i - (intOf jv).toNat)
      case atStart => exact ⟨0, Nat.zero_le _, rfl, hO0, hb0⟩
      case round =>
        clear hO0 hb0
        obtain ⟨j, hj, rfl, hown, hbel⟩ := hrel
        have hsz : B2 ≤ wr.heap.size := by have := hbel.size; rw [← HB2.out] at this; exact this
        by_cases hlj : j < i
        · obtain ⟨A4, c4, y4, r4⟩ := HC.out j hlj
          have j1 : (0 : Int) ≤ (j : Int) := by omega
          have j2 : (j : Int) < (i : Int) := by omega
          obtain ⟨L, hL⟩ : ∃ L, L = (Do.dl i z1 st j).length := ⟨_, rfl⟩
          rw [← hL] at y4 r4
          have HL := Lib.hid hL
          have hLb := r4.big
          have hsl : Hid (lsTo i z1 st (j + 1) = lsTo i z1 st j ++ [Do.lst i z1 st j]) := lsTo_succ _ _ _ _
          clear hL
          go_wp2
          go_loopw [12, 13, 14] (fun bv kv _ wk => ∃ k : Nat, k ≤ L ∧ kv = .int .i64 (k : Int) ∧ bv = .int .i64 (Do.pk (Do.ruled i z1 st) j ((Do.dlN i z1 st j i).take k)) ∧ Own wk B2 3 u9 (lsTo i z1 st j) ∧ Below B2 x2 wk) (fun _ kv _ _ => L - (intOf kv).toNat)
          case atStart => exact ⟨0, Nat.zero_le _, rfl, rfl, hown, hbel⟩
          case round =>
            clear hown hbel hsz
            obtain ⟨k, hk, rfl, rfl, hown, hbel⟩ := hrel
            have hsz : B2 ≤ wr.heap.size := by have := hbel.size; rw [← HB2.out] at this; exact this
            have z4 := (hbel.cell (p := ⟨bA, oA + j, none⟩) hbA).trans y4
            by_cases hlk : k < L
            · obtain ⟨b5, o5, rfl, hb5, hc5⟩ := r4.at_ (by omega)
              have hkl : k < (Do.dlN i z1 st j i).length := by rw [Do.dlN_len, ← HL.out]; exact hlk
              have hkd : k < (Do.dl i z1 st j).length := by rw [← HL.out]; exact hlk
              have y5 := hc5 k hlk
              obtain ⟨p, hp, hpm, hpd⟩ := Do.dl_at hst hkd
              have hpn : (Do.dlN i z1 st j i).getD k 0 = p := by have := Do.dlN_at hkl; rw [hp] at this; omega
              rw [hp] at y5
              have z5 := (hbel.cell (p := ⟨b5, o5 + k, none⟩) hb5).trans y5
              obtain ⟨A6, c6, y6, r6⟩ := HC.out p hpm
              have z6 := (hbel.cell (p := ⟨bA, oA + p, none⟩) hbA).trans y6
              rw [Do.dl_len p] at z6
              have HPK := Lib.hid (Do.pk_take (rk := Do.ruled i z1 st) (i := j) hkl)
              rw [hpn] at HPK
              have hbc := Do.pk_cases (rk := Do.ruled i z1 st) (i := j) k (Nat.le_of_lt hkl)
              obtain ⟨b, hb⟩ : ∃ b, b = Do.pk (Do.ruled i z1 st) j ((Do.dlN i z1 st j i).take k) := ⟨_, rfl⟩
              rw [← hb] at HPK hbc ⊢
              obtain ⟨R, hR⟩ : ∃ R, R = Do.ruled i z1 st p := ⟨_, rfl⟩
              rw [← hR] at z6
              have hRb := r6.big
              rw [Do.dl_len p, ← hR] at hRb
              have HRR := Lib.hid hR
              have p1 : (0 : Int) ≤ (p : Int) := by omega
              have p2 : (p : Int) < (i : Int) := by omega
              clear hc5 hkl hkd y5 hp hpn hpd y6 r6 hb hR
              by_cases e : p = j
              · have HF : Hid (Do.pk (Do.ruled i z1 st) j ((Do.dlN i z1 st j i).take (k + 1)) = b) := by
                  show _ = _
                  rw [HPK.out]; unfold Do.pkS; rw [if_neg (fun h => h.1 e)]
                have d1 : ((p : Int) != (j : Int)) = false := by simp [e]
                clear e z6 hbc
                go_wp2
                go_quiet (fail)
                go_wp2
                go_roundw
                case rel => exact ⟨k + 1, by omega, by go_num, by rw [HF.out], hown.drewN _, hbel.trans (Below.drewN' _ _ _)⟩
                case measure => simp [intOf]; omega
              · have d1 : ((p : Int) != (j : Int)) = true := by simp; omega
                rcases hbc with hb1 | ⟨r, hb1, hrm⟩
                · have HF : Hid (Do.pk (Do.ruled i z1 st) j ((Do.dlN i z1 st j i).take (k + 1)) = (p : Int)) := by
                    show _ = _
                    rw [HPK.out]; unfold Do.pkS; rw [if_pos ⟨e, .inl (by omega)⟩]
                  subst hb1
                  clear e
                  go_wp2
                  go_quiet (fail)
                  go_wp2
                  go_roundw
                  case rel => exact ⟨k + 1, by omega, by go_num, by rw [HF.out], hown.drewN _, hbel.trans (Below.drewN' _ _ _)⟩
                  case measure => simp [intOf]; omega
                · have hrd := (Do.mem_dlN hst).1 hrm
                  have hri := (Do.dom_way hst hrd).2.1
                  obtain ⟨A7, c7, y7, r7⟩ := HC.out r hri
                  have z7 := (hbel.cell (p := ⟨bA, oA + r, none⟩) hbA).trans y7
                  rw [Do.dl_len r] at z7
                  obtain ⟨Q, hQ⟩ : ∃ Q, Q = Do.ruled i z1 st r := ⟨_, rfl⟩
                  rw [← hQ] at z7
                  have hQb := r7.big
                  rw [Do.dl_len r, ← hQ] at hQb
                  have r1 : (0 : Int) ≤ (r : Int) := by omega
                  have r2 : (r : Int) < (i : Int) := by omega
                  have d2 : decide ((r : Int) < 0) = false := by simp
                  have HPK2 : Hid (Do.pk (Do.ruled i z1 st) j ((Do.dlN i z1 st j i).take (k + 1)) = if Q < R then (p : Int) else (r : Int)) := by
                    show _ = _
                    rw [HPK.out, hb1]; unfold Do.pkS
                    rw [Int.toNat_natCast, ← hQ, ← HRR.out]
                    by_cases hqr : Q < R
                    · rw [if_pos ⟨e, .inr hqr⟩, if_pos hqr]
                    · rw [if_neg (fun h => h.2.elim (fun h => by omega) hqr), if_neg hqr]
                  subst hb1
                  clear e hrm hrd y7 r7 hQ HPK
                  by_cases hqr : Q < R
                  · have HF : Hid (Do.pk (Do.ruled i z1 st) j ((Do.dlN i z1 st j i).take (k + 1)) = (p : Int)) := by show _ = _; rw [HPK2.out, if_pos hqr]
                    have hqrI : (Q : Int) < (R : Int) := by omega
                    go_wp2
                    go_quiet (fail)
                    go_wp2
                    go_roundw
                    case rel => exact ⟨k + 1, by omega, by go_num, by rw [HF.out], hown.drewN _, hbel.trans (Below.drewN' _ _ _)⟩
                    case measure => simp [intOf]; omega
                  · have HF : Hid (Do.pk (Do.ruled i z1 st) j ((Do.dlN i z1 st j i).take (k + 1)) = (r : Int)) := by show _ = _; rw [HPK2.out, if_neg hqr]
                    have d3 : decide ((Q : Int) < (R : Int)) = false := by simp; omega
                    have d4 : decide (Q < R) = false := by simp; omega
                    go_wp2
                    go_quiet (fail)
                    go_wp2
                    go_roundw
                    case rel => exact ⟨k + 1, by omega, by go_num, by rw [HF.out], hown.drewN _, hbel.trans (Below.drewN' _ _ _)⟩
                    case measure => simp [intOf]; omega
            · obtain rfl : k = L := by omega
              have hpk : Do.pk (Do.ruled i z1 st) j ((Do.dlN i z1 st j i).take k) = Do.lst i z1 st j := by rw [Do.lst_all, Do.dlN_len, ← HL.out]
              rw [hpk]
              obtain ⟨y, hy⟩ : ∃ y, y = Do.lst i z1 st j := ⟨_, rfl⟩
              rw [← hy] at hsl ⊢
              have hown2 := hown.below ((Below.refl wr.heap.size wr).alloc (Nat.le_refl _) (.cells #[.int .i64 y] 3))
              have hql : (lsTo i z1 st j).length + 1 ≤ 17592186044416 := by rw [lsTo_len]; omega
              have hb2 := hbel.alloc hsz (.cells #[.int .i64 y] 3)
              clear hown hpk hy
              go_wp2_with (at_builtin; refine wpList_app _ rfl (.tmp 94) (.tmp 96) 26 rfl B2 3 Tryd.underlying26 intInfo _ _ rfl hown2 (some ⟨wr.heap.size, 0, none⟩) 1 1 [y] rfl (Rd.one _ _ _) hql (by simp; omega) ?_; intro v3 w3 hown3 hg3 hat3)
              rw [← hsl.out] at hown3
              go_roundw
              case rel => exact ⟨j + 1, by omega, by go_num, hown3, hb2.grown hg3 (by simp; omega) (fun k hk => hown2.at_base k hk)⟩
              case measure => simp [intOf]; omega
        · obtain rfl : j = i := by omega
          obtain ⟨A4, c4, rfl, r4⟩ := hown.rd
          rw [lsTo_len] at r4 ⊢
          have r4 : Rd wr wr.heap.size A4 j c4 (Do.lsts j z1 st) := r4
          have r3 := (HR3.out.below hbel).more hsz
          have b3 := b2.trans (hbel.mono b2s)
          clear hown hbel hsz b2 b2s HR3 HC
          go_wp2_with fail
          refine (Of_yes j st a1 n1 c1 z1 _ (w1.past b3) H0.out hst).mono ?_
          rintro e y1 ⟨A6, c6, rfl, r6, d1⟩
          have r3 := r3.past d1
          have r4 := r4.past d1
          have b5 := b3.trans (d1.mono b3.size)
          clear d1 b3
          go_wp2_with fail
          refine (Err_none _).mono ?_
          rintro e y2 ⟨rfl, rfl⟩
          go_wp2_with fail
          refine (Rows_any _ _ j j _ _ _ _ true _ r6 r3 (by simp)).mono ?_
          rintro e y2 ⟨rfl, d2⟩
          have r4 := r4.past d2
          have b6 := b5.trans (d2.mono b5.size)
          clear d2 b5 r3 r6
          go_wp2_with fail
          refine (Last_yes j st a1 n1 c1 z1 _ (w1.past b6) H0.out hst).mono ?_
          rintro e y3 ⟨A7, c7, rfl, r7, d3⟩
          have r4 := r4.past d3
          have b7 := b6.trans (d3.mono b6.size)
          clear d3 b6
          go_wp2_with fail
          refine (Err_none _).mono ?_
          rintro e y4 ⟨rfl, rfl⟩
          go_wp2_with fail
          refine (Ints_t _ _ j j _ _ _ _ true _ r7 r4 (by simp)).mono ?_
          rintro e y4 ⟨rfl, d4⟩
          go_wp2
          go_ret
          exact ⟨rfl, b7.trans (d4.mono b7.size)⟩

theorem walk (w : World) (het : tld.EtIs w) (a0 : Int) (w0 : (Lit.int .i64 a0).wf = true) (a1 : Option Addr) (n1 c1 : Nat) (z1 : List Gr.Ln) (w1 : RdP w w.heap.size a1 n1 c1 z1) (a2 : Int) (w2 : (Lit.int .i64 a2).wf = true) :
    Calls Tryd.prog 3 #[.int .i64 a0, .slice a1 n1 c1, .int .i64 a2] w fun e w' => e = .returned (.bool true) ∧ Below w.heap.size w w' := by
  by_cases h : Gr.code a0 z1 = 0
  · obtain ⟨m, rfl⟩ : ∃ m : Nat, a0 = (m : Int) := ⟨a0.toNat, by have := (Gr.code_zero.1 h).1; omega⟩
    by_cases h2 : a2 < 0 ∨ (m : Int) ≤ a2
    · exact out w het m a1 n1 c1 z1 w1 a2 h h2
    · obtain ⟨st, rfl⟩ : ∃ st : Nat, a2 = (st : Int) := ⟨a2.toNat, by omega⟩
      exact good w het m st a1 n1 c1 z1 w1 (by omega) h
  · exact bad w het a0 a1 n1 c1 z1 w1 a2 h

end Go.Proofs.YtjcdnkbandagoaaDoor.domSays
