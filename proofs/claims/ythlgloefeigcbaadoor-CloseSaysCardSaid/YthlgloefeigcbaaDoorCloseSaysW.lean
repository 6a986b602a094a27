/-
  The walk of the law CloseSays: for every number of points and lines it returns true, where the library's variable errors.errorType holds what its initialiser lays.
-/
import Derived.Test.YthlgloefeigcbaaDoorCloseD
import Derived.Test.YthlgloefeigcbaaDoorErrS
import Derived.Test.YthlgloefeigcbaaDoorRefL
import Derived.Test.YthlgloefeigcbaaDoorRefClo
import Derived.Test.YthlgloefeigcbaaDoorRefOrd
import Derived.Test.YthlgloefeigcbaaDoorLibS
import Derived.BigQuiet
namespace Go.Proofs.YthlgloefeigcbaaDoor.closeSays
open Go.RowKit
set_option linter.unusedSimpArgs false
set_option linter.unusedVariables false

theorem Rows_none (w : World) : Calls Tryd.prog 12 #[.slice none 0 0, .slice none 0 0] w fun e w' => e = .returned (.bool true) ∧ Below w.heap.size w w' :=
  Rows_any none none 0 0 0 0 [] [] true w (RdR.nil _ _) (RdR.nil _ _) (by decide)
theorem Lines_none (w : World) : Calls Tryd.prog 14 #[.slice none 0 0, .slice none 0 0] w fun e w' => e = .returned (.bool true) ∧ Below w.heap.size w w' :=
  Lines_any none none 0 0 0 0 [] [] true w (RdP.nil _ _) (RdP.nil _ _) (by decide)

/-- a row, up to b -/
def rowTo (m : Nat) (ls : List Gr.Ln) (a b : Nat) : List Int := ((List.range b).filter (To.comes m ls a)).map fun b => ((b : Nat) : Int)
theorem rowTo_hit {m : Nat} {ls : List Gr.Ln} {a b : Nat} (h : To.comes m ls a b = true) : rowTo m ls a (b + 1) = rowTo m ls a b ++ [(b : Int)] := by simp [rowTo, List.range_succ, List.filter_append, h]
theorem rowTo_miss {m : Nat} {ls : List Gr.Ln} {a b : Nat} (h : To.comes m ls a b = false) : rowTo m ls a (b + 1) = rowTo m ls a b := by simp [rowTo, List.range_succ, List.filter_append, h]
theorem rowTo_len (m : Nat) (ls : List Gr.Ln) (a b : Nat) : (rowTo m ls a b).length ≤ b := by
  have := List.length_filter_le (To.comes m ls a) (List.range b)
  simpa [rowTo] using this
theorem rows_step (m : Nat) (ls : List Gr.Ln) (a : Nat) : (List.range (a + 1)).map (Cl.crow m ls) = (List.range a).map (Cl.crow m ls) ++ [rowTo m ls a m] := by
  rw [List.range_succ, List.map_append]
  rfl

set_option maxRecDepth 100000 in
set_option maxHeartbeats 2000000 in
/-- something is wrong with the lines -/
theorem bad (w : World) (het : tld.EtIs w) (a0 : Int) (a1 : Option Addr) (n1 c1 : Nat) (z1 : List Gr.Ln) (w1 : RdP w w.heap.size a1 n1 c1 z1) (hc : Gr.code a0 z1 ≠ 0) :
    Calls Tryd.prog 3 #[.int .i64 a0, .slice a1 n1 c1] w fun e w' => e = .returned (.bool true) ∧ Below w.heap.size w w' := by
  have HN := Lib.hid hc
  obtain ⟨k, hk⟩ : ∃ k, k = Gr.code a0 z1 := ⟨_, rfl⟩
  have d1 : (k == 0) = false := by simpa [hk] using hc
  have HK := Lib.hid hk
  clear hc hk
  go_enter Tryd.func3, Tryd.ntmps3
  go_wp2_with fail
  refine (RefL.Lines_any a0 a1 n1 c1 z1 _ w1).mono ?_
  rintro e x1 ⟨rfl, b1⟩
  rw [← HK.out]
  go_wp2_with fail
  refine (All_code a0 a1 n1 c1 z1 _ (w1.past b1) HN.out).mono ?_
  rintro e x2 ⟨rfl, b2⟩
  have b02 := b1.trans (b2.mono b1.size)
  rw [← HK.out]
  go_wp2_with fail
  refine (Err_same k _ (het.below b02)).mono ?_
  rintro e x3 ⟨rfl, b3⟩
  have b03 := b02.trans (b3.mono b02.size)
  go_wp2_with fail
  refine (Rows_none _).mono ?_
  rintro e x4 ⟨rfl, b4⟩
  have b04 := b03.trans (b4.mono b03.size)
  go_wp2_with fail
  refine (Few_code a0 a1 n1 c1 z1 _ (w1.past b04) HN.out).mono ?_
  rintro e x5 ⟨rfl, b5⟩
  have b05 := b04.trans (b5.mono b04.size)
  rw [← HK.out]
  go_wp2_with fail
  refine (Err_same k _ (het.below b05)).mono ?_
  rintro e x6 ⟨rfl, b6⟩
  have b06 := b05.trans (b6.mono b05.size)
  go_wp2_with fail
  refine (Lines_none _).mono ?_
  rintro e x7 ⟨rfl, b7⟩
  go_wp2
  go_ret
  exact ⟨rfl, b06.trans (b7.mono b06.size)⟩

set_option maxRecDepth 100000 in
set_option maxHeartbeats 4000000 in
theorem good (w : World) (het : tld.EtIs w) (m : Nat) (a1 : Option Addr) (n1 c1 : Nat) (z1 : List Gr.Ln) (w1 : RdP w w.heap.size a1 n1 c1 z1) (h0 : Gr.code (m : Int) z1 = 0) :
    Calls Tryd.prog 3 #[.int .i64 (m : Int), .slice a1 n1 c1] w fun e w' => e = .returned (.bool true) ∧ Below w.heap.size w w' := by
  have hm8 : m ≤ 8 := by have := (Gr.code_zero.1 h0).2.1; omega
  have hm1 : 1 ≤ m := by have := (Gr.code_zero.1 h0).1; omega
  have HG := Lib.hid (Gr.code_zero.1 h0).2.2.2
  have H0 := Lib.hid h0
  obtain ⟨o, hs, hk⟩ := To.Step.all m z1
  have HO : Hid (o.length < m ∨ o.length = m) := by
    have := hs.le
    show _ ∨ _
    omega
  clear h0
  go_enter Tryd.func3, Tryd.ntmps3
  go_wp2_with fail
  refine (RefL.Lines_any (m : Int) a1 n1 c1 z1 _ w1).mono ?_
  rintro e x0 ⟨rfl, b0⟩
  rw [H0.out]
  go_wp2_with fail
  refine (RefC.Closed_any m a1 n1 c1 z1 _ (w1.past b0) hm1 hm8).mono ?_
  rintro e x1 ⟨A2, c2, N, rfl, r2, b1'⟩
  have b1 := b0.trans (b1'.mono b0.size)
  obtain ⟨B, hB⟩ : ∃ B, B = x1.heap.size := ⟨_, rfl⟩
  have HB := Lib.hid hB
  have b1s := b1.size
  rw [← hB] at r2 b1s
  have hR0 : OwnR x1 B 26 3 (.slice none 0 0) ((List.range 0).map (Cl.crow m z1)) := OwnR.nil _ _ _ _
  have hb0 : Below B x1 x1 := Below.refl _ _
  clear hB b1' b0
  go_wp2
  go_loopw [6, 10, 11, 12] (fun v iv _ _ wr => ∃ a : Nat, a ≤ m ∧ iv = .int .i64 (a : Int) ∧ OwnR wr B 26 3 v ((List.range a).map (Cl.crow m z1)) ∧ Below B x1 wr) (fun _ iv _ _ _ => m - (intOf iv).toNat)
  case atStart => exact ⟨0, Nat.zero_le _, rfl, hR0, hb0⟩
  case round =>
    clear hR0 hb0
    obtain ⟨a, ha, rfl, hR, hbel⟩ := hrel
    have hsz : B ≤ wr.heap.size := by have := hbel.size; rw [← HB.out] at this; exact this
    by_cases hlt : a < m
    · obtain ⟨y, hy⟩ : ∃ y, y = wr := ⟨_, rfl⟩
      obtain ⟨D, hD⟩ : ∃ D, D = y.heap.size := ⟨_, rfl⟩
      have HD := Lib.hid hD
      rw [← hy] at hR hbel hsz
      have HR := Lib.hid hR
      have HBE := Lib.hid hbel
      have hBD : B ≤ D := by omega
      have hO0 : Own wr D 3 (.slice none 0 0) (rowTo m z1 a 0) := Own.nil _ _ _
      have hby0 : Below D y wr := by rw [hy]; exact Below.refl _ _
      clear hR hbel hD hy hsz
      go_wp2
      go_loopw [11, 12] (fun v iv wr => ∃ b : Nat, b ≤ m ∧ iv = .int .i64 (b : Int) ∧ Own wr D 3 v (rowTo m z1 a b) ∧ Below D y wr) (fun _ iv _ => m - (intOf iv).toNat)
      case atStart => exact ⟨0, Nat.zero_le _, rfl, hO0, hby0⟩
      case round =>
        clear hO0 hby0
        obtain ⟨b, hb, rfl, hown, hby⟩ := hrel
        have hsz : D ≤ wr.heap.size := by have := hby.size; rw [← HD.out] at this; exact this
        have hDB : Below B x1 wr := HBE.out.trans (hby.mono hBD)
        by_cases hlb : b < m
        · have hrl := (r2.below hDB).more (show B ≤ wr.heap.size by omega)
          cases ht : To.comes m z1 a b with
          | false =>
            have HT : Hid (Gr.has (Cl.clos m z1) (a : Int) (b : Int) = false) := by show _ = _; rw [← ht]; exact Cl.has_lst hlt hlb
            have hown2 := hown
            rw [← rowTo_miss ht] at hown2
            clear ht hown
            go_wp2_with fail
            refine (RefL.Goes_any A2 N c2 _ a b false _ hrl HT.out).mono ?_
            rintro e w2 ⟨rfl, rfl⟩
            go_wp2
            go_roundw
            case rel => exact ⟨b + 1, by omega, by go_num, hown2, hby⟩
            case measure => simp [intOf]; omega
          | true =>
            have HT : Hid (Gr.has (Cl.clos m z1) (a : Int) (b : Int) = true) := by show _ = _; rw [← ht]; exact Cl.has_lst hlt hlb
            have HX : Hid (rowTo m z1 a (b + 1) = rowTo m z1 a b ++ [(b : Int)]) := rowTo_hit ht
            have HL := Lib.hid (rowTo_len m z1 a b)
            have hownH := Lib.hid hown
            clear ht hown
            go_wp2_with fail
            refine (RefL.Goes_any A2 N c2 _ a b true _ hrl HT.out).mono ?_
            rintro e w2 ⟨rfl, rfl⟩
            have hown2 := hownH.out.below ((Below.refl wr.heap.size wr).alloc (Nat.le_refl _) (.cells #[.int .i64 (b : Int)] 3))
            have hrd2 := Rd.one wr (b : Int) 3
            have hql : (rowTo m z1 a b).length + 1 ≤ 17592186044416 := by have := HL.out; omega
            have hb2 := hby.alloc hsz (.cells #[.int .i64 (b : Int)] 3)
            clear hrl hDB
            go_wp2_with (at_builtin; refine wpList_app _ rfl (.tmp 42) (.tmp 44) 26 rfl D 3 Tryd.underlying26 intInfo _ _ rfl hown2 (some ⟨wr.heap.size, 0, none⟩) 1 1 [(b : Int)] rfl hrd2 hql (by simp; omega) ?_; intro v3 w3 hown3 hg3 hat3)
            rw [← HX.out] at hown3
            go_roundw
            case rel => exact ⟨b + 1, by omega, by go_num, hown3, hb2.grown hg3 (by simp; omega) (fun k hk => hown2.at_base k hk)⟩
            case measure => simp [intOf]; omega
        · obtain rfl : b = m := by omega
          have hR1 : OwnR wr B 26 3 _ ((List.range a).map (Cl.crow b z1)) := HR.out.below (by rw [← HD.out]; exact hby)
          obtain ⟨Au, cu, rfl, hru⟩ := hown.rd
          have hu1 : Own wr B 3 _ (rowTo b z1 a b) := hown.mono hBD
          obtain ⟨L, hL⟩ : ∃ L, L = (rowTo b z1 a b).length := ⟨_, rfl⟩
          rw [← hL] at hu1 ⊢
          clear hL hru hown
          have hba := (Below.refl wr.heap.size wr).alloc (Nat.le_refl _) (.cells #[.slice Au L cu] 26)
          have hR2 := hR1.below hba
          have hu2 := hu1.below hba
          have hcu : (wr.alloc (.cells #[.slice Au L cu] 26)).cell? ⟨wr.heap.size, 0, none⟩ = some (.slice Au L cu) := by simp
          have hsy2 : B ≤ (wr.alloc (.cells #[.slice Au L cu] 26)).heap.size := by simp; omega
          have hb2 : Below B x1 (wr.alloc (.cells #[.slice Au L cu] 26)) := hDB.trans (hba.mono (by omega))
          have hroom : ((List.range a).map (Cl.crow b z1)).length + 1 ≤ 1000000 := by simp; omega
          clear hR1 hu1 hDB hba
          go_wp2_with (at_builtin; refine wpList_appR _ rfl (.tmp 46) (.tmp 48) 24 rfl B 26 3 (by decide) Tryd.underlying24 rowInfo _ _ rfl hR2 wr.heap.size _ (rowTo b z1 a b) rfl hcu hu2 hroom hsy2 ?_; intro v9 y3 hR3 hg3 hv9)
          obtain ⟨nv, xv, hv9⟩ := hv9
          have hbel3 : Below B x1 y3 := hb2.grown hg3 hsy2 (fun q hq => (World.ownsRow.lt hv9 q hq).1)
          rw [← rows_step] at hR3
          clear hR2 hu2 hb2 hcu hroom hg3 hv9
          go_roundw
          case rel => exact ⟨a + 1, by omega, by go_num, hR3, hbel3⟩
          case measure => simp [intOf]; omega
    · obtain rfl : a = m := by omega
      obtain ⟨A3, c3, rfl, r3⟩ := hR.rd
      have e3 : ((List.range a).map (Cl.crow a z1)).length = a := by simp
      rw [e3] at r3 hR ⊢
      have r3 : RdR wr wr.heap.size A3 a c3 (Cl.crows a z1) := r3
      have b2 := b1.trans (hbel.mono b1s)
      clear hR hbel e3 r2
      rcases HO.out with hl | hl
      · have HL := Lib.hid hl
        clear hl
        go_wp2_with fail
        refine (RefO.MOrder_bad a a1 n1 c1 z1 o _ (w1.past b2) hm8 hs hk HL.out).mono ?_
        rintro e y1 ⟨rfl, d1⟩
        have r3 := r3.past d1
        have b3 := b2.trans (d1.mono b2.size)
        clear d1 b2
        go_wp2_with fail
        refine (All_yes a a1 n1 c1 z1 _ (w1.past b3) H0.out).mono ?_
        rintro e y2 ⟨A4, c4, rfl, r4, d2⟩
        have r3 := r3.past d2
        have b4 := b3.trans (d2.mono b3.size)
        clear d2 b3
        go_wp2_with fail
        refine (Err_none _).mono ?_
        rintro e y3 ⟨rfl, rfl⟩
        go_wp2_with fail
        refine (Rows_any _ _ a a _ _ _ _ true _ r4 r3 (by simp)).mono ?_
        rintro e y3 ⟨rfl, d3⟩
        have b5 := b4.trans (d3.mono b4.size)
        clear d3 b4 r3 r4
        go_wp2_with fail
        refine (Few_none a a1 n1 c1 z1 o _ (w1.past b5) H0.out hs hk HL.out).mono ?_
        rintro e y4 ⟨rfl, d4⟩
        have b6 := b5.trans (d4.mono b5.size)
        clear d4 b5
        go_wp2_with fail
        refine (Err_same 5 _ (het.below b6)).mono ?_
        rintro e y5 ⟨rfl, d5⟩
        have b7 := b6.trans (d5.mono b6.size)
        clear d5 b6
        go_wp2_with fail
        refine (Lines_none _).mono ?_
        rintro e y6 ⟨rfl, d6⟩
        go_wp2
        go_ret
        exact ⟨rfl, b7.trans (d6.mono b7.size)⟩
      · have HL := Lib.hid hl
        clear hl
        go_wp2_with fail
        refine (RefO.MOrder_good a a1 n1 c1 z1 o _ (w1.past b2) hm8 hs HL.out).mono ?_
        rintro e y1 ⟨A5, c5, rfl, _, d1⟩
        have r3 := r3.past d1
        have b3 := b2.trans (d1.mono b2.size)
        clear d1 b2
        go_wp2_with fail
        refine (RefC.Few_any a a1 n1 c1 z1 _ (w1.past b3) hm1 hm8).mono ?_
        rintro e y2 ⟨A6, c6, N6, rfl, r6, d2⟩
        have r3 := r3.past d2
        have b4 := b3.trans (d2.mono b3.size)
        clear d2 b3
        go_wp2_with fail
        refine (All_yes a a1 n1 c1 z1 _ (w1.past b4) H0.out).mono ?_
        rintro e y3 ⟨A4, c4, rfl, r4, d2⟩
        have r3 := r3.past d2
        have r6 := r6.past d2
        have b5 := b4.trans (d2.mono b4.size)
        clear d2 b4
        go_wp2_with fail
        refine (Err_none _).mono ?_
        rintro e y4 ⟨rfl, rfl⟩
        go_wp2_with fail
        refine (Rows_any _ _ a a _ _ _ _ true _ r4 r3 (by simp)).mono ?_
        rintro e y4 ⟨rfl, d3⟩
        have r6 := r6.past d3
        have b6 := b5.trans (d3.mono b5.size)
        clear d3 b5 r3 r4
        go_wp2_with fail
        refine (Few_yes a a1 n1 c1 z1 o _ (w1.past b6) H0.out hs HL.out).mono ?_
        rintro e y5 ⟨A7, c7, N7, rfl, r7, d4⟩
        have r6 := r6.past d4
        have b7 := b6.trans (d4.mono b6.size)
        clear d4 b6
        go_wp2_with fail
        refine (Err_none _).mono ?_
        rintro e y6 ⟨rfl, rfl⟩
        go_wp2_with fail
        refine (Lines_any A7 A6 N7 N6 c7 c6 _ _ true _ r7 r6 (by simp)).mono ?_
        rintro e y7 ⟨rfl, d6⟩
        go_wp2
        go_ret
        exact ⟨rfl, b7.trans (d6.mono b7.size)⟩

theorem walk (w : World) (het : tld.EtIs w) (a0 : Int) (w0 : (Lit.int .i64 a0).wf = true) (a1 : Option Addr) (n1 c1 : Nat) (z1 : List Gr.Ln) (w1 : RdP w w.heap.size a1 n1 c1 z1) :
    Calls Tryd.prog 3 #[.int .i64 a0, .slice a1 n1 c1] w fun e w' => e = .returned (.bool true) ∧ Below w.heap.size w w' := by
  by_cases h : Gr.code a0 z1 = 0
  · obtain ⟨m, rfl⟩ : ∃ m : Nat, a0 = (m : Int) := ⟨a0.toNat, by have := (Gr.code_zero.1 h).1; omega⟩
    exact good w het m a1 n1 c1 z1 w1 h
  · exact bad w het a0 a1 n1 c1 z1 w1 h

end Go.Proofs.YthlgloefeigcbaaDoor.closeSays
