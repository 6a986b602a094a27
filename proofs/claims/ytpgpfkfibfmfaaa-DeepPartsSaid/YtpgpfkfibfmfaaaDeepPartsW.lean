/-
  The walk of the law DeepParts: for every number of points and lines it returns true.
-/
import Derived.Test.YtpgpfkfibfmfaaaDeepE
import Derived.Test.YtpgpfkfibfmfaaaDeepK
import Derived.Test.YtpgpfkfibfmfaaaWalkB
namespace Go.Proofs.Ytpgpfkfibfmfaaa.deepParts
open Go.RowKit

set_option linter.unusedSimpArgs false
set_option linter.unusedVariables false

theorem Parts_good' (m : Nat) (A : Option Addr) (k c : Nat) (ls : List Gr.Ln) (w : World) (hr : RdP w w.heap.size A k c ls) (h : Gr.code (m : Int) ls = 0) :
    Calls Try.prog 11 #[.int .i64 (m : Int), .slice A k c] w fun e w' => ∃ g, e = .returned (.tuple #[.slice (some ⟨g, 0, none⟩) m m, .nilIface]) ∧ Own w' w.heap.size 3 (.slice (some ⟨g, 0, none⟩) m m) (Wa.labs m (Wa.nrow m ls) m) ∧ Below w.heap.size w w' := by
  refine (Parts_any (m : Int) A k c ls w hr).mono ?_
  rintro e w1 ⟨hb, (⟨h0, _⟩ | ⟨_, g, rfl, ho⟩)⟩
  · exact absurd h h0
  · simp only [Int.toNat_natCast] at ho ⊢
    exact ⟨g, rfl, ho, hb⟩

set_option maxRecDepth 100000 in
set_option maxHeartbeats 4000000 in
theorem walk (w : World) (a0 : Int) (_w0 : (Lit.int .i64 a0).wf = true) (a1 : Option Addr) (n1 c1 : Nat) (z1 : List Gr.Ln) (w1 : RdP w w.heap.size a1 n1 c1 z1) :
    Calls Try.prog 5 #[.int .i64 a0, .slice a1 n1 c1] w fun e w' => e = .returned (.bool true) ∧ Below w.heap.size w w' := by
  by_cases hc : Gr.code a0 z1 = 0
  · obtain ⟨m, rfl⟩ : ∃ m : Nat, a0 = (m : Int) := ⟨a0.toNat, by have := (Gr.code_zero.1 hc).1; omega⟩
    have hm8 : m ≤ 8 := by have := (Gr.code_zero.1 hc).2.1; omega
    have hm1 : 1 ≤ m := by have := (Gr.code_zero.1 hc).1; omega
    obtain ⟨F, hF⟩ := Dp.whole_exist (Wa.nrow_ok m z1)
    have H0 := Lib.hid hc
    have HF := Lib.hid hF
    have hnn : ((m : Int) != (m : Int)) = false := by simp
    have hnn2 : (m != m) = false := by simp
    clear hc hF
    go_enter Try.func5, Try.ntmps5
    go_wp2_with (first
      | (go_at_call 6; refine (deepFact_any _).mono ?_; rintro e x1 ⟨rfl, hb1⟩)
      | (go_at_call 7; refine (DWalk_good m a1 n1 c1 z1 F HF.out _ (w1.past hb1) H0.out).mono ?_; rintro e x2 ⟨hb2, ga, gb, gc, rfl, oa, ob, oc⟩)
      | (go_at_call 11; refine (Parts_good' m a1 n1 c1 z1 _ ((w1.past hb1).past hb2) H0.out).mono ?_; rintro e x3 ⟨gp, rfl, op, hb3⟩))
    have hb := (hb1.trans (hb2.mono hb1.size)).trans (hb3.mono (Nat.le_trans hb1.size hb2.size))
    have oc3 := oc.below hb3
    have HC : Hid (∀ wr : World, Below x3.heap.size x3 wr → ∀ j, j < m → wr.cell? ⟨gc, j, none⟩ = some (.int .i64 (Dp.par F (-1) j)) ∧ wr.cell? ⟨gp, j, none⟩ = some (.int .i64 (Wa.lab m (Wa.nrow m z1) m j))) := by
      intro wr hbel j hj
      have c1 := oc3.cell j hj
      have c2 := op.cell j hj
      rw [Dp.pars_at F hj] at c1
      rw [Wa.labs_at _ _ hj] at c2
      exact ⟨(hbel.cell (p := ⟨gc, j, none⟩) (World.block_lt_of_cell? _ _ c1)).trans c1, (hbel.cell (p := ⟨gp, j, none⟩) (World.block_lt_of_cell? _ _ c2)).trans c2⟩
    clear oa ob oc oc3 op hb1 hb2 hb3
    go_loopw [11] (fun iv wr => ∃ i : Nat, i ≤ m ∧ iv = .int .i64 (i : Int) ∧ Below x3.heap.size x3 wr) (fun iv _ => m - (intOf iv).toNat)
    case atStart => exact ⟨0, Nat.zero_le _, rfl, Below.refl _ _⟩
    case round =>
      obtain ⟨i, him, rfl, hbel⟩ := hrel
      by_cases hlt : i < m
      · have hi1 : (0 : Int) ≤ (i : Int) := by omega
        have hi2 : (i : Int) < (m : Int) := by omega
        obtain ⟨g1, g2⟩ := HC.out wr hbel i hlt
        have hroot := HF.out.root (Wa.nrow_ok m z1) hlt
        generalize Dp.par F (-1) i = p at g1 hroot
        generalize Wa.lab m (Wa.nrow m z1) m i = q at g2 hroot
        by_cases hp : p = -1
        · have d1 : (p == -1) = true := by simpa using hp
          have d2 : (q == (i : Int)) = true := by simpa using hroot.1 hp
          clear hp hroot
          go_wp2
          go_quiet (fail)
          go_wp2
          go_roundw
          case rel => exact ⟨i + 1, by omega, by go_num, hbel.trans (Below.drewN' _ _ _)⟩
          case measure => simp [intOf]; omega
        · have d1 : (p == -1) = false := by simpa using hp
          have d2 : (q == (i : Int)) = false := by simpa using fun h => hp (hroot.2 h)
          clear hp hroot
          go_wp2
          go_quiet (fail)
          go_wp2
          go_roundw
          case rel => exact ⟨i + 1, by omega, by go_num, hbel.trans (Below.drewN' _ _ _)⟩
          case measure => simp [intOf]; omega
      · obtain rfl : i = m := by omega
        go_wp2
        go_ret
        exact ⟨rfl, hb.trans (hbel.mono hb.size)⟩
  · have H := Lib.hid hc
    clear hc
    go_enter Try.func5, Try.ntmps5
    go_wp2_with (first
      | (go_at_call 6; refine (deepFact_any _).mono ?_; rintro e x1 ⟨rfl, hb1⟩)
      | (go_at_call 7; refine (DWalk_err a0 a1 n1 c1 z1 _ (w1.past hb1) H.out).mono ?_; rintro e x2 ⟨rfl, hb2⟩))
    go_ret
    exact ⟨rfl, hb1.trans (hb2.mono hb1.size)⟩

end Go.Proofs.Ytpgpfkfibfmfaaa.deepParts
