/-
  The walk of the law PairsRight: for every names, ors and answer it returns true.
-/
import Derived.Test.YthalopmplekdoaaDoorPairsF
import Derived.Test.YthalopmplekdoaaDoorPairsG
namespace Go.Proofs.YthalopmplekdoaaDoor.pairsRight
open Go.RowKit
set_option linter.unusedSimpArgs false
set_option linter.unusedVariables false

set_option maxRecDepth 100000 in
set_option maxHeartbeats 2000000 in
theorem bad (w : World) (het : tld.EtIs w) (a0 : Int) (a1 : Option Addr) (n1 c1 : Nat) (z1 : List Or2) (w1 : RdO w w.heap.size a1 n1 c1 z1) (a2 : Option Addr) (n2 c2 : Nat) (z2 : List Bool) (w2 : RdB w w.heap.size a2 n2 c2 z2) (q : Int) (hq : Pa.Bad a0 z1 q) :
    Calls Tryd.prog 4 #[.int .i64 a0, .slice a1 n1 c1, .slice a2 n2 c2] w fun e w' => e = .returned (.bool true) ∧ Below w.heap.size w w' := by
  have HQ := Lib.hid hq
  clear hq
  go_enter Tryd.func4, Tryd.ntmps4
  go_wp2_with fail
  refine (pairsFact_any _ het).mono ?_
  rintro e x1 ⟨rfl, hb1⟩
  have r1 := w1.past hb1
  have s1 := w2.past hb1
  clear w1 w2
  go_wp2_with fail
  refine (Solve_bad a0 a1 n1 c1 z1 q _ r1 HQ.out).mono ?_
  rintro e x2 ⟨rfl, hb2⟩
  have r2 := r1.past hb2
  have s2 := s1.past hb2
  have hb02 := hb1.trans (hb2.mono hb1.size)
  clear r1 s1 hb1 hb2
  go_wp2_with fail
  refine (PIs_bad a0 a1 a2 n1 c1 n2 c2 z1 z2 q _ r2 s2 HQ.out).mono ?_
  rintro e x3 ⟨⟨f, rfl⟩, hb3⟩
  have hb03 := hb02.trans (hb3.mono hb02.size)
  clear r2 s2 hb02 hb3
  go_wp2
  go_ret
  exact ⟨rfl, hb03⟩

set_option maxRecDepth 100000 in
set_option maxHeartbeats 4000000 in
theorem good (w : World) (het : tld.EtIs w) (N : Nat) (a1 : Option Addr) (n1 c1 : Nat) (z1 : List Or2) (w1 : RdO w w.heap.size a1 n1 c1 z1) (a2 : Option Addr) (n2 c2 : Nat) (z2 : List Bool) (w2 : RdB w w.heap.size a2 n2 c2 z2) (m : List Bool) (h0 : Pa.code (N : Int) z1 = 0) (hm : Pa.Least z1 N m) :
    Calls Tryd.prog 4 #[.int .i64 (N : Int), .slice a1 n1 c1, .slice a2 n2 c2] w fun e w' => e = .returned (.bool true) ∧ Below w.heap.size w w' := by
  have H0 := Lib.hid h0
  have HM := Lib.hid hm
  have hN4 := (Pa.code_good h0).2.1
  have hNN : ((N : Int) == (N : Int)) = true := by simp
  have hbig := w2.big
  clear h0 hm
  go_enter Tryd.func4, Tryd.ntmps4
  go_wp2_with fail
  refine (pairsFact_any _ het).mono ?_
  rintro e x1 ⟨rfl, hb1⟩
  have r1 := w1.past hb1
  have s1 := w2.past hb1
  clear w1 w2
  go_wp2_with fail
  refine (Solve_rd N a1 n1 c1 z1 m _ r1 H0.out HM.out).mono ?_
  rintro e x2 ⟨⟨g, rfl, hm2⟩, hb2⟩
  have r2 := r1.past hb2
  have s2 := s1.past hb2
  have hb02 := hb1.trans (hb2.mono hb1.size)
  clear r1 s1 hb1 hb2
  by_cases hn2 : n2 = N
  · subst hn2
    obtain ⟨t, ht⟩ : ∃ t, Pa.right z1 z2 = t := ⟨_, rfl⟩
    have HT := Lib.hid ht
    clear ht
    go_wp2_with fail
    refine (PIs_ok n2 a1 a2 n1 c1 c2 z1 z2 t _ r2 s2 H0.out HT.out).mono ?_
    rintro e x3 ⟨rfl, hb3⟩
    have r3 := r2.past hb3
    have s3 := s2.past hb3
    have hm3 := hm2.past hb3
    have hb03 := hb02.trans (hb3.mono hb02.size)
    clear r2 s2 hm2 hb02 hb3
    go_wp2_with fail
    refine (PIs_ok n2 a1 (some ⟨g, 0, none⟩) n1 c1 n2 z1 m true _ r3 hm3 H0.out HM.out.2.1).mono ?_
    rintro e x4 ⟨rfl, hb4⟩
    have s4 := s3.past hb4
    have hm4 := hm3.past hb4
    have hb04 := hb03.trans (hb4.mono hb03.size)
    clear r3 s3 hm3 hb03 hb4
    cases t with
    | false =>
      go_wp2
      go_ret
      exact ⟨rfl, hb04⟩
    | true =>
      have HLX : Hid (Pa.Lx m z2) := HM.out.2.2 z2 s4.len HT.out
      have HML : Hid (m.length = n2) := hm4.len
      have h00 : Hid (∀ i, i < 0 → m.getD i false = z2.getD i false) := fun i hi => by omega
      go_wp2
      go_loopw [14] (fun iv wr => ∃ j : Nat, j ≤ n2 ∧ iv = .int .i64 (j : Int) ∧ Below x4.heap.size x4 wr ∧ Hid (∀ i, i < j → m.getD i false = z2.getD i false)) (fun iv _ => n2 - (intOf iv).toNat)
      case atStart => exact ⟨0, Nat.zero_le _, rfl, Below.refl _ _, h00⟩
      case round =>
        clear h00
        obtain ⟨j, hj, rfl, hbel, H⟩ := hrel
        have hb5 := hb04.trans (hbel.mono hb04.size)
        by_cases hlt : j < n2
        · obtain ⟨b2, o2, rfl, hbb, hc⟩ := (s4.past hbel).at_ (by omega)
          obtain ⟨b3, o3, he3, hbb3, hc3⟩ := (hm4.past hbel).at_ (by omega)
          have k2 := hc j hlt
          have k3 := hc3 j hlt
          simp only [Option.some.injEq, Addr.mk.injEq, and_true] at he3
          obtain ⟨rfl, rfl⟩ := he3
          rw [Nat.zero_add] at k3
          obtain ⟨p, hp⟩ : ∃ p, p = m.getD j false := ⟨_, rfl⟩
          obtain ⟨q, hq⟩ : ∃ q, q = z2.getD j false := ⟨_, rfl⟩
          rw [← hp] at k3
          rw [← hq] at k2
          have j0 : (0 : Int) ≤ (j : Int) := by omega
          have j1 : (j : Int) < (n2 : Int) := by omega
          clear hc hc3 hbb hbb3
          by_cases he : p = q
          · have HN : Hid (∀ i, i < j + 1 → m.getD i false = z2.getD i false) := fun i hi => by
              by_cases e : i = j
              · rw [e, ← hp, ← hq, he]
              · exact H.out i (by omega)
            subst he
            clear hp hq
            go_wp2
            go_quiet (fail)
            go_wp2
            go_roundw
            case rel => exact ⟨j + 1, by omega, by go_num, hbel.trans (Below.drewN' _ _ _), HN⟩
            case measure => simp [intOf]; omega
          · have hqt : q = true := by
              rw [hq]
              exact HLX.out j (by rw [HML.out]; exact hlt) H.out (by rw [← hp, ← hq]; exact he)
            subst hqt
            obtain rfl : p = false := by cases p; rfl; exact absurd rfl he
            clear hp hq he
            go_wp2
            go_quiet (fail)
            obtain ⟨y1, hy1⟩ : ∃ y1, y1 = wr.drewN nq := ⟨_, rfl⟩
            have m2 : y1.cell? ⟨b2, o2 + j, none⟩ = some (.bool true) := by rw [hy1]; exact k2
            have hb6 : Below w.heap.size w y1 := by rw [hy1]; exact hb5.trans (Below.drewN' _ _ _)
            rw [← hy1]
            clear hy1 k2 k3 hb5 hbel
            go_wp2
            go_ret
            exact ⟨rfl, hb6⟩
        · go_wp2
          go_ret
          exact ⟨rfl, hb5⟩
  · go_wp2_with fail
    refine (PIs_shape N a1 a2 n1 c1 n2 c2 z1 z2 _ r2 s2 H0.out hn2).mono ?_
    rintro e x3 ⟨rfl, hb3⟩
    have r3 := r2.past hb3
    have hm3 := hm2.past hb3
    have hb03 := hb02.trans (hb3.mono hb02.size)
    clear r2 s2 hm2 hb02 hb3
    go_wp2_with fail
    refine (PIs_ok N a1 (some ⟨g, 0, none⟩) n1 c1 N z1 m true _ r3 hm3 H0.out HM.out.2.1).mono ?_
    rintro e x4 ⟨rfl, hb4⟩
    have hb04 := hb03.trans (hb4.mono hb03.size)
    clear r3 hm3 hb03 hb4
    go_wp2
    go_ret
    exact ⟨rfl, hb04⟩

theorem walk (w : World) (het : tld.EtIs w) (a0 : Int) (w0 : (Lit.int .i64 a0).wf = true) (a1 : Option Addr) (n1 c1 : Nat) (z1 : List Or2) (w1 : RdO w w.heap.size a1 n1 c1 z1) (a2 : Option Addr) (n2 c2 : Nat) (z2 : List Bool) (w2 : RdB w w.heap.size a2 n2 c2 z2) :
    Calls Tryd.prog 4 #[.int .i64 a0, .slice a1 n1 c1, .slice a2 n2 c2] w fun e w' => e = .returned (.bool true) ∧ Below w.heap.size w w' := by
  rcases Pa.bad_or a0 z1 with ⟨q, hq⟩ | ⟨N, m, rfl, h0, hm⟩
  · exact bad w het a0 a1 n1 c1 z1 w1 a2 n2 c2 z2 w2 q hq
  · exact good w het N a1 n1 c1 z1 w1 a2 n2 c2 z2 w2 m h0 hm

end Go.Proofs.YthalopmplekdoaaDoor.pairsRight
