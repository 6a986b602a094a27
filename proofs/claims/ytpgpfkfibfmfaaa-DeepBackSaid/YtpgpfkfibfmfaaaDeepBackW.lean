/-
  The walk of the law DeepBack: for every number of points and lines it returns true.
-/
import Derived.Test.YtpgpfkfibfmfaaaDeepE
import Derived.Test.YtpgpfkfibfmfaaaDeepK
namespace Go.Proofs.Ytpgpfkfibfmfaaa.deepBack
open Go.RowKit

set_option linter.unusedSimpArgs false
set_option linter.unusedVariables false

set_option maxRecDepth 100000 in
set_option maxHeartbeats 4000000 in
theorem walk (w : World) (a0 : Int) (_w0 : (Lit.int .i64 a0).wf = true) (a1 : Option Addr) (n1 c1 : Nat) (z1 : List Gr.Ln) (w1 : RdP w w.heap.size a1 n1 c1 z1) :
    Calls Try.prog 4 #[.int .i64 a0, .slice a1 n1 c1] w fun e w' => e = .returned (.bool true) ∧ Below w.heap.size w w' := by
  by_cases hc : Gr.code a0 z1 = 0
  · obtain ⟨m, rfl⟩ : ∃ m : Nat, a0 = (m : Int) := ⟨a0.toNat, by have := (Gr.code_zero.1 hc).1; omega⟩
    have hm8 : m ≤ 8 := by have := (Gr.code_zero.1 hc).2.1; omega
    have hm1 : 1 ≤ m := by have := (Gr.code_zero.1 hc).1; omega
    obtain ⟨F, hF⟩ := Dp.whole_exist (Wa.nrow_ok m z1)
    have H0 := Lib.hid hc
    have HF := Lib.hid hF
    have hnn : ((m : Int) != (m : Int)) = false := by simp
    have hnn2 : (m != m) = false := by simp
    have hbig := w1.big
    have hlz := w1.len
    have HLZ := Lib.hid hlz
    clear hc hF hlz
    go_enter Try.func4, Try.ntmps4
    go_wp2_with (first
      | (go_at_call 6; refine (deepFact_any _).mono ?_; rintro e x1 ⟨rfl, hb1⟩)
      | (go_at_call 7; refine (DWalk_good m a1 n1 c1 z1 F HF.out _ (w1.past hb1) H0.out).mono ?_; rintro e x2 ⟨hb2, ga, gb, gc, rfl, oa, ob, oc⟩))
    have hb := hb1.trans (hb2.mono hb1.size)
    have hl2 := (w1.past hb1).past hb2
    have HC : Hid (∀ wr : World, Below x2.heap.size x2 wr → ∀ j, j < m → wr.cell? ⟨ga, j, none⟩ = some (.int .i64 ((Dp.met F 0 j : Nat) : Int)) ∧ wr.cell? ⟨gb, j, none⟩ = some (.int .i64 ((Dp.left F 0 j : Nat) : Int))) := by
      intro wr hbel j hj
      have c1 := oa.cell j hj
      have c2 := ob.cell j hj
      rw [Dp.mets_at F hj] at c1
      rw [Dp.lefts_at F hj] at c2
      exact ⟨(hbel.cell (p := ⟨ga, j, none⟩) (World.block_lt_of_cell? _ _ c1)).trans c1, (hbel.cell (p := ⟨gb, j, none⟩) (World.block_lt_of_cell? _ _ c2)).trans c2⟩
    clear oa ob oc hb1 hb2 w1
    go_loopw [10] (fun iv wr => ∃ i : Nat, i ≤ n1 ∧ iv = .int .i64 (i : Int) ∧ Below x2.heap.size x2 wr) (fun iv _ => n1 - (intOf iv).toNat)
    case atStart => exact ⟨0, Nat.zero_le _, rfl, Below.refl _ _⟩
    case round =>
      obtain ⟨i, him, rfl, hbel⟩ := hrel
      by_cases hlt : i < n1
      · obtain ⟨x, y, hxy, hx, hy, hne, hadj⟩ := Dp.line_of H0.out (i := i) (by rw [HLZ.out]; exact hlt)
        have hback := HF.out.back (Wa.nrow_ok m z1) (Wa.nrow_sym m z1) hx hy hne hadj
        have hz := hl2.past hbel
        obtain ⟨b1, o1, rfl, hb1, hcs⟩ := hz.at_ (by omega)
        obtain ⟨g1, g2⟩ := hcs i hlt
        rw [hxy] at g1 g2
        obtain ⟨g3, g4⟩ := HC.out wr hbel x hx
        obtain ⟨g5, g6⟩ := HC.out wr hbel y hy
        have hx1 : (0 : Int) ≤ (x : Int) := by omega
        have hx2 : (x : Int) < (m : Int) := by omega
        have hy1 : (0 : Int) ≤ (y : Int) := by omega
        have hy2 : (y : Int) < (m : Int) := by omega
        clear hcs hxy hne hadj hz
        generalize Dp.met F 0 x = p at g3 hback
        generalize Dp.left F 0 x = p' at g4 hback
        generalize Dp.met F 0 y = q at g5 hback
        generalize Dp.left F 0 y = q' at g6 hback
        rcases hback with ⟨e1, e2⟩ | ⟨e1, e2⟩
        · have d1 : decide ((p : Int) < (q : Int)) = true := by simpa using e1
          have d2 : decide ((q' : Int) < (p' : Int)) = true := by simpa using e2
          have d3 : decide (p < q) = true := by simpa using e1
          have d4 : decide (q' < p') = true := by simpa using e2
          go_wp2
          go_quiet (fail)
          go_wp2
          go_roundw
          case rel => exact ⟨i + 1, by omega, by go_num, hbel.trans (Below.drewN' _ _ _)⟩
          case measure => simp [intOf]; omega
        · have d1 : decide ((p : Int) < (q : Int)) = false := by simp; omega
          have d2 : decide ((q : Int) < (p : Int)) = true := by simpa using e1
          have d3 : decide ((p' : Int) < (q' : Int)) = true := by simpa using e2
          have d4 : decide (p < q) = false := by simp; omega
          have d5 : decide (q < p) = true := by simpa using e1
          have d6 : decide (p' < q') = true := by simpa using e2
          go_wp2
          go_quiet (fail)
          go_wp2
          go_roundw
          case rel => exact ⟨i + 1, by omega, by go_num, hbel.trans (Below.drewN' _ _ _)⟩
          case measure => simp [intOf]; omega
      · obtain rfl : i = n1 := by omega
        go_wp2
        go_ret
        exact ⟨rfl, hb.trans (hbel.mono hb.size)⟩
  · have H := Lib.hid hc
    clear hc
    go_enter Try.func4, Try.ntmps4
    go_wp2_with (first
      | (go_at_call 6; refine (deepFact_any _).mono ?_; rintro e x1 ⟨rfl, hb1⟩)
      | (go_at_call 7; refine (DWalk_err a0 a1 n1 c1 z1 _ (w1.past hb1) H.out).mono ?_; rintro e x2 ⟨rfl, hb2⟩))
    go_ret
    exact ⟨rfl, hb1.trans (hb2.mono hb1.size)⟩

end Go.Proofs.Ytpgpfkfibfmfaaa.deepBack
