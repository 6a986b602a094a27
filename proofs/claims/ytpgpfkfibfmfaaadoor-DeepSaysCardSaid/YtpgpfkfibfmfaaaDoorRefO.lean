/-
  The contract of the reference's Low: the lowest time that a point comes back to.
-/
import Derived.Test.YtpgpfkfibfmfaaaDoorRefV
import Derived.Test.YtpgpfkfibfmfaaaDoorDeepO
namespace Go.Proofs.YtpgpfkfibfmfaaaDoor.RefV
open Go.RowKit Go.Shelf

set_option linter.unusedSimpArgs false
set_option linter.unusedVariables false

/-- the points beside a below j -/
def rowTo (ls : List Gr.Ln) (a j : Nat) : List Nat := (List.range j).filter fun b => Gr.adj ls (a : Int) (b : Int)
theorem rowTo_yes {ls : List Gr.Ln} {a j : Nat} (h : Gr.adj ls (a : Int) (j : Int) = true) : rowTo ls a (j + 1) = rowTo ls a j ++ [j] := by
  unfold rowTo
  rw [List.range_succ, List.filter_append, List.filter_cons_of_pos (by simpa using h)]
  rfl
theorem rowTo_no {ls : List Gr.Ln} {a j : Nat} (h : Gr.adj ls (a : Int) (j : Int) = false) : rowTo ls a (j + 1) = rowTo ls a j := by
  unfold rowTo
  rw [List.range_succ, List.filter_append, List.filter_cons_of_neg (by simp [h])]
  simp
theorem rowTo_all (m : Nat) (ls : List Gr.Ln) (a : Nat) : rowTo ls a m = Wa.nrow m ls a := rfl

set_option maxRecDepth 100000 in
set_option maxHeartbeats 1000000 in
theorem Low_any (m : Nat) (hm8 : m ≤ 8) (B : Option Addr) (nl cl : Nat) (ls : List Gr.Ln) (L : Nat → Int) (dm dp : List Int) (hL : Dp.LowEq m (Wa.nrow m ls) L dm dp)
    (hup : ∀ i j, i < m → j < m → dp.getD j 0 = (i : Int) → dm.getD i 0 < dm.getD j 0) (htop : ∀ i, i < m → dm.getD i 0 < 2 * (m : Int)) :
    ∀ (f : Nat) (i : Nat), i < m → 2 * (m : Int) ≤ dm.getD i 0 + (f : Int) → ∀ (A1 A2 A3 : Option Addr) (c1 c2 c3 : Nat) (k : Int) (w : World),
      Rd w w.heap.size A1 m c1 dm → Rd w w.heap.size A3 m c3 dp → RdP w w.heap.size B nl cl ls →
      Calls Tryd.prog 6 #[.int .i64 (m : Int), .slice B nl cl, .agg #[.slice A1 m c1, .slice A2 m c2, .slice A3 m c3, .int .i64 k], .int .i64 (i : Int)] w fun e w' => e = .returned (.int .i64 (L i)) ∧ Below w.heap.size w w' := by
  intro f
  induction f with
  | zero => intro i hi h; have := htop i hi; omega
  | succ f ih =>
  intro i hi hf A1 A2 A3 c1 c2 c3 k w hr1 hr3 hrl
  obtain ⟨b, hb⟩ : ∃ b, b = w.heap.size := ⟨_, rfl⟩
  obtain ⟨x0, hx0⟩ : ∃ x0, x0 = w.alloc (.cells #[.slice A1 m c1, .slice A2 m c2, .slice A3 m c3, .int .i64 k] 26) := ⟨_, rfl⟩
  have hB0 : x0.heap[b]? = some (.cells #[.slice A1 m c1, .slice A2 m c2, .slice A3 m c3, .int .i64 k] 26 (0, 0)) := by rw [hx0, hb]; exact World.alloc_heap_new w _
  have hs0 : x0.heap.size = b + 1 := by rw [hx0, hb]; simp
  have hb0 : Below b w x0 := by rw [hx0, hb]; exact (Below.refl _ _).alloc (Nat.le_refl _) _
  rw [← hb] at hr1 hr3 hrl
  have q1 : Rd x0 x0.heap.size A1 m c1 dm := (hr1.below hb0).more (by omega)
  have q3 : Rd x0 x0.heap.size A3 m c3 dp := (hr3.below hb0).more (by omega)
  have ql : RdP x0 x0.heap.size B nl cl ls := (hrl.below hb0).more (by omega)
  have hi1 : (0 : Int) ≤ (i : Int) := by omega
  have hi2 : (i : Int) < (m : Int) := by omega
  have HX0 := Lib.hid hx0
  have HB := Lib.hid hb
  have HIH := Lib.hid ih
  have HL := Lib.hid hL
  have HUp := Lib.hid hup
  have HI0 : Hid (dm.getD i 0 = (rowTo ls i 0).foldl (Dp.lstep L dm dp i) (dm.getD i 0)) := rfl
  have hA1 := q1.at_ (by omega)
  obtain ⟨b1, o1, rfl, hb1, hc1⟩ := hA1
  have hA3 := q3.at_ (by omega)
  obtain ⟨b3, o3, rfl, hb3, hc3⟩ := hA3
  have u0 := cell_of hB0 (i := 0) rfl
  have u1 := hc1 i hi
  rw [HX0.out] at u0 u1
  have HC1 : Hid (∀ wr : World, Below x0.heap.size x0 wr → ∀ j, j < m → wr.cell? ⟨b1, o1 + j, none⟩ = some (.int .i64 (dm.getD j 0)) ∧ wr.cell? ⟨b3, o3 + j, none⟩ = some (.int .i64 (dp.getD j 0))) := fun wr hbel j hj =>
    ⟨(hbel.cell (p := ⟨b1, o1 + j, none⟩) hb1).trans (hc1 j hj), (hbel.cell (p := ⟨b3, o3 + j, none⟩) hb3).trans (hc3 j hj)⟩
  clear hx0 hb ih hL hup htop hc1 hc3 hr1 hr3 hrl
  go_enter Tryd.func6, Tryd.ntmps6
  go_wp2
  rw [← HX0.out, ← HB.out]
  clear u0 u1
  go_loopw [9, 10] (fun ov jv wr => ∃ (j : Nat) (out : Int), j ≤ m ∧ jv = .int .i64 (j : Int) ∧ ov = .int .i64 out ∧ Hid (out = (rowTo ls i j).foldl (Dp.lstep L dm dp i) (dm.getD i 0)) ∧ Below x0.heap.size x0 wr) (fun _ jv _ => m - (intOf jv).toNat)
  case atStart => exact ⟨0, _, Nat.zero_le _, rfl, rfl, HI0, Below.refl _ _⟩
  case round =>
    obtain ⟨j, out, hjm, rfl, rfl, HO, hbel⟩ := hrel
    clear HI0
    have hBx := (hbel.block b (by omega)).trans hB0
    have v0 := cell_of hBx (i := 0) rfl
    have v1 := cell_of hBx (i := 1) rfl
    have v2 := cell_of hBx (i := 2) rfl
    have v3 := cell_of hBx (i := 3) rfl
    have hz := ql.past hbel
    by_cases hlt : j < m
    · have hj1 : (0 : Int) ≤ (j : Int) := by omega
      have hj2 : (j : Int) < (m : Int) := by omega
      obtain ⟨g1, g2⟩ := HC1.out wr hbel j hlt
      obtain ⟨g3, g4⟩ := HC1.out wr hbel i hi
      cases hadj : Gr.adj ls (i : Int) (j : Int) with
      | false =>
        have HA := Lib.hid hadj
        have hn : Hid (out = (rowTo ls i (j + 1)).foldl (Dp.lstep L dm dp i) (dm.getD i 0)) := by show _ = _; rw [rowTo_no hadj]; exact HO.out
        clear hadj HO
        go_wp2_with (go_at_call 13; refine (RefL.Beside_any B nl cl ls (i : Int) (j : Int) false _ hz HA.out).mono ?_; rintro e x3 ⟨rfl, rfl⟩)
        go_roundw
        case rel => exact ⟨j + 1, out, by omega, by go_num, rfl, hn, hbel⟩
        case measure => simp [intOf]; omega
      | true =>
        have HA := Lib.hid hadj
        have hn : Hid ((rowTo ls i (j + 1)).foldl (Dp.lstep L dm dp i) (dm.getD i 0) = Dp.lstep L dm dp i out j) := by
          show _ = _
          rw [rowTo_yes hadj, List.foldl_append, ← HO.out]
          rfl
        clear hadj HO
        by_cases hp : dp.getD j 0 = (i : Int)
        · have hms := HUp.out i j hi hlt hp
          have hst : Dp.lstep L dm dp i out j = if L j < out then L j else out := by unfold Dp.lstep; simp only [if_pos hp]
          have HC2 := Lib.hid (HIH.out j hlt (by omega) _ A2 _ c1 c2 c3 k wr (q1.past hbel) (q3.past hbel) hz)
          rw [hp] at g2
          have d1 : ((i : Int) == (i : Int)) = true := by simp
          have HST := Lib.hid (hn.out.trans hst)
          clear hn hst hp hms
          by_cases hl : L j < out
          · have d2 : decide (L j < out) = true := decide_eq_true hl
            have hfin : Hid ((rowTo ls i (j + 1)).foldl (Dp.lstep L dm dp i) (dm.getD i 0) = L j) := by show _ = _; rw [HST.out, if_pos hl]
            clear HST
            generalize L j = y at hl d2 hfin HC2
            go_wp2_with (go_at_call 13; refine (RefL.Beside_any B nl cl ls (i : Int) (j : Int) true _ hz HA.out).mono ?_; rintro e x3 ⟨rfl, rfl⟩)
            refine HC2.out.mono ?_
            rintro e w3 ⟨rfl, hb3'⟩
            go_wp2
            go_roundw
            case rel => exact ⟨j + 1, _, by omega, by go_num, rfl, hfin.out.symm, hbel.trans (hb3'.mono hbel.size)⟩
            case measure => simp [intOf]; omega
          · have d2 : decide (L j < out) = false := decide_eq_false hl
            have hfin : Hid ((rowTo ls i (j + 1)).foldl (Dp.lstep L dm dp i) (dm.getD i 0) = out) := by show _ = _; rw [HST.out, if_neg hl]
            clear HST
            generalize L j = y at hl d2 HC2
            go_wp2_with (go_at_call 13; refine (RefL.Beside_any B nl cl ls (i : Int) (j : Int) true _ hz HA.out).mono ?_; rintro e x3 ⟨rfl, rfl⟩)
            refine HC2.out.mono ?_
            rintro e w3 ⟨rfl, hb3'⟩
            go_wp2
            go_roundw
            case rel => exact ⟨j + 1, _, by omega, by go_num, rfl, hfin.out.symm, hbel.trans (hb3'.mono hbel.size)⟩
            case measure => simp [intOf]; omega
        · have d1 : (dp.getD j 0 == (i : Int)) = false := by simpa using hp
          by_cases hq : dp.getD i 0 = (j : Int)
          · have hst : Dp.lstep L dm dp i out j = out := by unfold Dp.lstep; simp only [if_neg hp, ne_eq, hq, not_true, if_false]; simp
            have HST := Lib.hid (hn.out.trans hst)
            rw [hq] at g4
            have d2 : ((j : Int) != (j : Int)) = false := by simp
            have d3 : decide (out < out) = false := by simp
            clear hn hst hq
            generalize dp.getD j 0 = pj at g2 d1 hp
            clear hp
            go_wp2_with (go_at_call 13; refine (RefL.Beside_any B nl cl ls (i : Int) (j : Int) true _ hz HA.out).mono ?_; rintro e x3 ⟨rfl, rfl⟩)
            go_roundw
            case rel => exact ⟨j + 1, _, by omega, by go_num, rfl, HST.out.symm, hbel⟩
            case measure => simp [intOf]; omega
          · have hst : Dp.lstep L dm dp i out j = if dm.getD j 0 < out then dm.getD j 0 else out := by unfold Dp.lstep; simp only [if_neg hp, ne_eq, hq, not_false_eq_true, if_true]
            have HST := Lib.hid (hn.out.trans hst)
            have d2 : (dp.getD i 0 != (j : Int)) = true := by simpa using hq
            clear hn hst
            by_cases hl : dm.getD j 0 < out
            · have d3 : decide (dm.getD j 0 < out) = true := decide_eq_true hl
              have hfin : Hid ((rowTo ls i (j + 1)).foldl (Dp.lstep L dm dp i) (dm.getD i 0) = dm.getD j 0) := by show _ = _; rw [HST.out, if_pos hl]
              clear HST
              generalize dp.getD j 0 = pj at g2 d1 hp
              generalize dp.getD i 0 = pi at g4 d2 hq
              generalize dm.getD j 0 = mj at g1 d3 hl hfin
              clear hp hq
              go_wp2_with (go_at_call 13; refine (RefL.Beside_any B nl cl ls (i : Int) (j : Int) true _ hz HA.out).mono ?_; rintro e x3 ⟨rfl, rfl⟩)
              go_roundw
              case rel => exact ⟨j + 1, _, by omega, by go_num, rfl, hfin.out.symm, hbel⟩
              case measure => simp [intOf]; omega
            · have d3 : decide (dm.getD j 0 < out) = false := decide_eq_false hl
              have hfin : Hid ((rowTo ls i (j + 1)).foldl (Dp.lstep L dm dp i) (dm.getD i 0) = out) := by show _ = _; rw [HST.out, if_neg hl]
              clear HST
              generalize dp.getD j 0 = pj at g2 d1 hp
              generalize dp.getD i 0 = pi at g4 d2 hq
              generalize dm.getD j 0 = mj at g1 d3 hl
              clear hp hq
              go_wp2_with (go_at_call 13; refine (RefL.Beside_any B nl cl ls (i : Int) (j : Int) true _ hz HA.out).mono ?_; rintro e x3 ⟨rfl, rfl⟩)
              go_roundw
              case rel => exact ⟨j + 1, _, by omega, by go_num, rfl, hfin.out.symm, hbel⟩
              case measure => simp [intOf]; omega
    · obtain rfl : j = m := by omega
      have hfin : Hid (out = L i) := by show _ = _; rw [HO.out, rowTo_all, ← HL.out i hi]
      clear HO
      go_wp2
      go_ret
      refine ⟨by rw [hfin.out]; rfl, ?_⟩
      rw [← HB.out]
      exact hb0.trans (hbel.mono (by omega))

end Go.Proofs.YtpgpfkfibfmfaaaDoor.RefV
