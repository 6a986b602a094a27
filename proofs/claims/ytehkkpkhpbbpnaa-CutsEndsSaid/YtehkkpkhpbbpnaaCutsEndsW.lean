/-
  The walk of the law CutsEnds: for every number of points and lines it returns true.
-/
import Derived.Test.YtehkkpkhpbbpnaaCutsE
import Derived.Test.YtehkkpkhpbbpnaaCutsH
import Derived.Test.YtehkkpkhpbbpnaaRefL
namespace Go.Proofs.Ytehkkpkhpbbpnaa.cutsEnds
open Go.RowKit

set_option linter.unusedSimpArgs false
set_option linter.unusedVariables false

theorem row_len8 (m : Nat) (ls : List Gr.Ln) (a : Nat) (hm : m ≤ 8) : (Gr.row m ls a).length ≤ 8 := Nat.le_trans (Gr.row_len m ls a) hm

set_option maxRecDepth 100000 in
set_option maxHeartbeats 1000000 in
theorem walk (w : World) (a0 : Int) (_w0 : (Lit.int .i64 a0).wf = true) (a1 : Option Addr) (n1 c1 : Nat) (z1 : List Gr.Ln) (w1 : RdP w w.heap.size a1 n1 c1 z1) :
    Calls Try.prog 4 #[.int .i64 a0, .slice a1 n1 c1] w fun e w' => e = .returned (.bool true) ∧ Below w.heap.size w w' := by
  by_cases hc : Gr.code a0 z1 = 0
  · obtain ⟨m, rfl⟩ : ∃ m : Nat, a0 = (m : Int) := ⟨a0.toNat, by have := (Gr.code_zero.1 hc).1; omega⟩
    have hm8 : m ≤ 8 := by have := (Gr.code_zero.1 hc).2.1; omega
    have hm1 : 1 ≤ m := by have := (Gr.code_zero.1 hc).1; omega
    have H0 := Lib.hid hc
    clear hc
    go_enter Try.func4, Try.ntmps4
    go_wp2_with fail
    refine (cutsFact_any _).mono ?_
    rintro e x1 ⟨rfl, hb1⟩
    go_wp2_with fail
    refine (Bridges_rd m a1 n1 c1 z1 _ (w1.past hb1) H0.out).mono ?_
    rintro e x2 ⟨hb2, B2, n2, c2, rfl, HN2, r2⟩
    go_wp2_with fail
    refine (Points_rd m a1 n1 c1 z1 _ ((w1.past hb1).past hb2) H0.out).mono ?_
    rintro e x3 ⟨hb3, B3, n3, c3, rfl, HN3, r3⟩
    have hb := (hb1.trans (hb2.mono hb1.size)).trans (hb3.mono (Nat.le_trans hb1.size hb2.size))
    have hr := ((w1.past hb1).past hb2).past hb3
    have r23 := r2.past hb3
    have hn64 : n2 ≤ 64 := by
      rw [HN2.out]
      have := Dp.brl_len m z1
      have : m * m ≤ 8 * 8 := Nat.mul_le_mul hm8 hm8
      omega
    have kw : IntKind.i64.wrap ((m : Int) - 1) = (m : Int) - 1 := by rw [IntKind.wrap_i64]; omega
    clear hb1 hb2 hb3 r2
    go_wp2
    go_loopw [9] (fun iv wr => ∃ i : Nat, i ≤ n2 ∧ iv = .int .i64 (i : Int) ∧ Below x3.heap.size x3 wr) (fun iv _ => n2 - (intOf iv).toNat)
    case atStart => exact ⟨0, Nat.zero_le _, rfl, Below.refl _ _⟩
    case round =>
      obtain ⟨i, him, rfl, hbel⟩ := hrel
      by_cases hlt : i < n2
      · obtain ⟨bb, oo, rfl, hbw, hcc⟩ := r23.at_ (by omega)
        obtain ⟨g1, g2⟩ := hcc i hlt
        clear hcc
        have hmem : (Dp.brl m z1).getD i (0, 0) ∈ Dp.brl m z1 := by
          have : i < (Dp.brl m z1).length := by rw [← HN2.out]; exact hlt
          simp [List.getD, this]
        obtain ⟨x, y, hxy, hx, hy, hB⟩ := Dp.of_brl hmem
        clear hmem
        rw [hxy] at g1 g2
        simp only at g1 g2
        have hhx : Hid (1 < (Gr.row m z1 x).length → (upL (Dp.cpts m (Wa.nrow m z1))).contains (x : Int) = true) := fun h => Dp.ends_has H0.out (by omega) hy hB h
        have hhy : Hid (1 < (Gr.row m z1 y).length → (upL (Dp.cpts m (Wa.nrow m z1))).contains (y : Int) = true) := fun h => Dp.ends_has (y := x) H0.out hy (by omega) (by rw [Dp.brB_swap (j := x) hy (by omega)]; exact hB) h
        have hcell : Hid (∀ V, Below x3.heap.size x3 V → V.cell? ⟨bb, oo + i * 2, none⟩ = some (.int .i64 (x : Int)) ∧ V.cell? ⟨bb, oo + i * 2 + 1, none⟩ = some (.int .i64 (y : Int))) := fun V hV => ⟨(hV.cell (p := ⟨bb, oo + i * 2, none⟩) hbw).trans g1, (hV.cell (p := ⟨bb, oo + i * 2 + 1, none⟩) hbw).trans g2⟩
        have HB := Lib.hid hB
        clear hxy hB g1 g2
        obtain ⟨q1, q2⟩ := hcell.out wr hbel
        have k1 : (0 : Int) ≤ (i : Int) := by omega
        have k2 : (i : Int) < (n2 : Int) := by omega
        go_wp2_with (go_at_call 10; refine (in_yes _ _ _ _ (by omega) (by omega)).mono ?_; rintro e y1 ⟨rfl, rfl⟩)
        refine (RefL.Near_any m a1 n1 c1 z1 x _ (hr.past hbel) hm8).mono ?_
        rintro e y2 ⟨v2, rfl, o2, hb2⟩
        obtain ⟨A2, e2, rfl, s2⟩ := o2.rd
        have hbA : Below x3.heap.size x3 y2 := hbel.trans (hb2.mono hbel.size)
        obtain ⟨q3, q4⟩ := hcell.out y2 hbA
        have hrx := row_len8 m z1 x hm8
        have LX := Lib.hid (show 1 < (Gr.row m z1 x).length → _ from hhx.out)
        generalize (Gr.row m z1 x).length = lx at LX hrx ⊢
        clear o2 s2
        by_cases hx1 : 1 < lx
        · have t1 := LX.out hx1
          have d1 : (1 : Int) < (lx : Int) := by omega
          go_wp2_with fail
          refine (Has_any B3 n3 c3 _ (x : Int) true _ (r3.past hbA) t1).mono ?_
          rintro e _ ⟨rfl, rfl⟩
          clear t1
          go_wp2_with fail
          refine (RefL.Near_any m a1 n1 c1 z1 y _ (hr.past hbA) hm8).mono ?_
          rintro e y3 ⟨v3, rfl, o3, hb3⟩
          obtain ⟨A3, e3, rfl, s3⟩ := o3.rd
          have hbB : Below x3.heap.size x3 y3 := hbA.trans (hb3.mono hbA.size)
          obtain ⟨q5, q6⟩ := hcell.out y3 hbB
          have hry := row_len8 m z1 y hm8
          have LY := Lib.hid (show 1 < (Gr.row m z1 y).length → _ from hhy.out)
          generalize (Gr.row m z1 y).length = ly at LY hry ⊢
          clear o3 s3
          by_cases hy1 : 1 < ly
          · have t2 := LY.out hy1
            have d2 : (1 : Int) < (ly : Int) := by omega
            go_wp2_with fail
            refine (Has_any B3 n3 c3 _ (y : Int) true _ (r3.past hbB) t2).mono ?_
            rintro e _ ⟨rfl, rfl⟩
            clear t2
            go_wp2
            go_roundw
            case rel => exact ⟨i + 1, by omega, by go_num, hbB⟩
            case measure => simp [intOf]; omega
          · have d2 : ¬ (1 : Int) < (ly : Int) := by omega
            go_wp2
            go_roundw
            case rel => exact ⟨i + 1, by omega, by go_num, hbB⟩
            case measure => simp [intOf]; omega
        · have d1 : ¬ (1 : Int) < (lx : Int) := by omega
          go_wp2_with fail
          refine (RefL.Near_any m a1 n1 c1 z1 y _ (hr.past hbA) hm8).mono ?_
          rintro e y3 ⟨v3, rfl, o3, hb3⟩
          obtain ⟨A3, e3, rfl, s3⟩ := o3.rd
          have hbB : Below x3.heap.size x3 y3 := hbA.trans (hb3.mono hbA.size)
          obtain ⟨q5, q6⟩ := hcell.out y3 hbB
          have hry := row_len8 m z1 y hm8
          have LY := Lib.hid (show 1 < (Gr.row m z1 y).length → _ from hhy.out)
          generalize (Gr.row m z1 y).length = ly at LY hry ⊢
          clear o3 s3
          by_cases hy1 : 1 < ly
          · have t2 := LY.out hy1
            have d2 : (1 : Int) < (ly : Int) := by omega
            go_wp2_with fail
            refine (Has_any B3 n3 c3 _ (y : Int) true _ (r3.past hbB) t2).mono ?_
            rintro e _ ⟨rfl, rfl⟩
            clear t2
            go_wp2
            go_roundw
            case rel => exact ⟨i + 1, by omega, by go_num, hbB⟩
            case measure => simp [intOf]; omega
          · have d2 : ¬ (1 : Int) < (ly : Int) := by omega
            go_wp2
            go_roundw
            case rel => exact ⟨i + 1, by omega, by go_num, hbB⟩
            case measure => simp [intOf]; omega
      · obtain rfl : i = n2 := by omega
        go_wp2
        go_ret
        exact ⟨rfl, hb.trans (hbel.mono hb.size)⟩
  · have H := Lib.hid hc
    clear hc
    go_enter Try.func4, Try.ntmps4
    go_wp2_with fail
    refine (cutsFact_any _).mono ?_
    rintro e x1 ⟨rfl, hb1⟩
    go_wp2_with fail
    refine (Bridges_err a0 a1 n1 c1 z1 _ (w1.past hb1) H.out).mono ?_
    rintro e x2 ⟨rfl, hb2⟩
    go_wp2
    go_ret
    exact ⟨rfl, hb1.trans (hb2.mono hb1.size)⟩

end Go.Proofs.Ytehkkpkhpbbpnaa.cutsEnds
