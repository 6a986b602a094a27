/-
  The walk of the law DomChain: for every number of points, lines and start it returns true.
-/
import Derived.Test.YtjcdnkbandagoaaDomF
import Derived.Test.YtjcdnkbandagoaaIn2
import Derived.BigQuiet
namespace Go.Proofs.Ytjcdnkbandagoaa.domChain
open Go.RowKit
set_option linter.unusedSimpArgs false
set_option linter.unusedVariables false

set_option maxRecDepth 100000 in
set_option maxHeartbeats 1000000 in
/-- something is wrong with the lines, or with the start -/
theorem bad (w : World) (a0 : Int) (a1 : Option Addr) (n1 c1 : Nat) (z1 : List Gr.Ln) (w1 : RdP w w.heap.size a1 n1 c1 z1) (a2 : Int) (hc : Do.fcode a0 z1 a2 ≠ 0) :
    Calls Try.prog 3 #[.int .i64 a0, .slice a1 n1 c1, .int .i64 a2] w fun e w' => e = .returned (.bool true) ∧ Below w.heap.size w w' := by
  have HN := Lib.hid hc
  clear hc
  go_enter Try.func3, Try.ntmps3
  go_wp2_with fail
  refine (domFact_any _).mono ?_
  rintro e x1 ⟨rfl, b1⟩
  go_wp2_with fail
  refine (Of_bad a0 a1 n1 c1 z1 a2 _ (w1.past b1) HN.out).mono ?_
  rintro e x2 ⟨rfl, b2⟩
  go_wp2
  go_ret
  exact ⟨rfl, b1.trans (b2.mono b1.size)⟩

set_option maxRecDepth 100000 in
set_option maxHeartbeats 4000000 in
theorem good (w : World) (m st : Nat) (a1 : Option Addr) (n1 c1 : Nat) (z1 : List Gr.Ln) (w1 : RdP w w.heap.size a1 n1 c1 z1) (hst : st < m) (h0 : Gr.code (m : Int) z1 = 0) :
    Calls Try.prog 3 #[.int .i64 (m : Int), .slice a1 n1 c1, .int .i64 (st : Int)] w fun e w' => e = .returned (.bool true) ∧ Below w.heap.size w w' := by
  have hm8 : m ≤ 8 := by have := (Gr.code_zero.1 h0).2.1; omega
  have H0 := Lib.hid h0
  clear h0
  obtain ⟨q, hq⟩ : ∃ q : Int, q = (m : Int) - 1 := ⟨_, rfl⟩
  have hwr : IntKind.i64.wrap ((m : Int) - 1) = q := by rw [IntKind.wrap_i64] <;> omega
  have HQ : Hid (∀ p : Nat, p < m → (p : Int) ≤ q) := by show ∀ p, _; intro p hp; omega
  clear hq
  go_enter Try.func3, Try.ntmps3
  go_wp2_with fail
  refine (domFact_any _).mono ?_
  rintro e x1 ⟨rfl, b1⟩
  go_wp2_with fail
  refine (Of_yes m st a1 n1 c1 z1 _ (w1.past b1) H0.out hst).mono ?_
  rintro e x2 ⟨A2, c2, rfl, r2, b2⟩
  have b02 := b1.trans (b2.mono b1.size)
  have hbig := r2.big
  obtain ⟨bA, oA, rfl, hbA, hcc⟩ := r2.at_ (by omega)
  have HC : Hid (∀ j, j < m → ∃ A' c', x2.cell? ⟨bA, oA + j, none⟩ = some (.slice A' (Do.dl m z1 st j).length c') ∧ Rd x2 x2.heap.size A' (Do.dl m z1 st j).length c' (Do.dl m z1 st j)) := by
    show ∀ j, _
    intro j hj
    have := hcc j hj
    rw [Do.dls_at hj] at this
    exact this
  have hB0 : Below x2.heap.size x2 x2 := Below.refl _ _
  have HFIN := Lib.hid b02
  clear r2 b1 b2 b02 hcc
  go_wp2
  go_loopw [10, 11, 12, 13, 14, 15] (fun iv _ _ _ _ _ wr => ∃ i : Nat, i ≤ m ∧ iv = .int .i64 (i : Int) ∧ Below x2.heap.size x2 wr) (fun iv _ _ _ _ _ _ => m - (intOf iv).toNat)
  case atStart => exact ⟨0, Nat.zero_le _, rfl, hB0⟩
  case round =>
    clear hB0
    obtain ⟨i, hi, rfl, hbel⟩ := hrel
    by_cases hlt : i < m
    · have i1 : (0 : Int) ≤ (i : Int) := by omega
      have i2 : (i : Int) < (m : Int) := by omega
      obtain ⟨A3, c3, y3, r3⟩ := HC.out i hlt
      obtain ⟨L, hL⟩ : ∃ L, L = (Do.dl m z1 st i).length := ⟨_, rfl⟩
      rw [← hL] at y3 r3
      have HL := Lib.hid hL
      have hLb := r3.big
      clear hL
      go_wp2
      go_loopw [11, 12, 13, 14, 15] (fun av _ _ _ _ wr => ∃ a : Nat, a ≤ L ∧ av = .int .i64 (a : Int) ∧ Below x2.heap.size x2 wr) (fun av _ _ _ _ _ => L - (intOf av).toNat)
      case atStart => exact ⟨0, Nat.zero_le _, rfl, hbel⟩
      case round =>
        clear hbel
        obtain ⟨a, ha, rfl, hbel⟩ := hrel
        have z3 := (hbel.cell (p := ⟨bA, oA + i, none⟩) hbA).trans y3
        by_cases hla : a < L
        · obtain ⟨b3, o3, rfl, hb3, hc3⟩ := r3.at_ (by omega)
          have had : a < (Do.dl m z1 st i).length := by rw [← HL.out]; exact hla
          obtain ⟨p, hp, hpm, hpd⟩ := Do.dl_at hst had
          have y4 := hc3 a hla
          rw [hp] at y4
          have z4 := (hbel.cell (p := ⟨b3, o3 + a, none⟩) hb3).trans y4
          obtain ⟨A5, c5, y5, r5⟩ := HC.out p hpm
          obtain ⟨M, hM⟩ : ∃ M, M = (Do.dl m z1 st p).length := ⟨_, rfl⟩
          rw [← hM] at y5 r5
          have HM := Lib.hid hM
          have hMb := r5.big
          have p1 : (0 : Int) ≤ (p : Int) := by omega
          have p2 : (p : Int) < (m : Int) := by omega
          have HPD := Lib.hid hpd
          have HC3 := Lib.hid hc3
          clear had hp hpd y4 hM hc3
          go_wp2_with fail
          refine (in2_yes (p : Int) 0 q _ (by omega) (HQ.out p hpm)).mono ?_
          rintro e x4 ⟨rfl, rfl⟩
          clear z4
          go_wp2
          go_loopw [13, 14] (fun bv _ wr => ∃ b : Nat, b ≤ L ∧ bv = .int .i64 (b : Int) ∧ Below x2.heap.size x2 wr) (fun bv _ _ => L - (intOf bv).toNat)
          case atStart => exact ⟨0, Nat.zero_le _, rfl, hbel⟩
          case round =>
            clear hbel z3
            obtain ⟨b, hb, rfl, hbel⟩ := hrel
            have z3 := (hbel.cell (p := ⟨bA, oA + i, none⟩) hbA).trans y3
            by_cases hlb : b < L
            · have hbd : b < (Do.dl m z1 st i).length := by rw [← HL.out]; exact hlb
              obtain ⟨r, hr, hrm, hrd⟩ := Do.dl_at hst hbd
              have y6 := HC3.out b hlb
              rw [hr] at y6
              have z6 := (hbel.cell (p := ⟨b3, o3 + b, none⟩) hb3).trans y6
              obtain ⟨A7, c7, y7, r7⟩ := HC.out r hrm
              obtain ⟨N, hN⟩ : ∃ N, N = (Do.dl m z1 st r).length := ⟨_, rfl⟩
              rw [← hN] at y7 r7
              have z5 := (hbel.cell (p := ⟨bA, oA + p, none⟩) hbA).trans y5
              have z7 := (hbel.cell (p := ⟨bA, oA + r, none⟩) hbA).trans y7
              have s5 : Rd wr wr.heap.size A5 M c5 (Do.dl m z1 st p) := (r5.below hbel).more hbel.size
              have s7 : Rd wr wr.heap.size A7 N c7 (Do.dl m z1 st r) := (r7.below hbel).more hbel.size
              have r1 : (0 : Int) ≤ (r : Int) := by omega
              have r2 : (r : Int) < (m : Int) := by omega
              have hch := Do.dom_chain hst HPD.out hrd
              obtain ⟨t1, ht1⟩ : ∃ t, Do.dom m z1 st p r = t := ⟨_, rfl⟩
              have HT1 : Hid ((Do.dl m z1 st p).contains (r : Int) = t1) := by show _ = _; rw [Do.dl_has hst, ht1]
              cases t1 with
              | true =>
                clear hbd hr hrd y6 y7 hN hch ht1 s7
                go_wp2_with fail
                refine (in2_yes (r : Int) 0 q _ (by omega) (HQ.out r hrm)).mono ?_
                rintro e x4 ⟨rfl, rfl⟩
                go_wp2_with fail
                refine (Has_any A5 M c5 (Do.dl m z1 st p) (r : Int) true _ s5 HT1.out).mono ?_
                rintro e x5 ⟨rfl, rfl⟩
                go_wp2
                go_roundw
                case rel => exact ⟨b + 1, by omega, by go_num, hbel⟩
                case measure => simp [intOf]; omega
              | false =>
                have HT2 : Hid ((Do.dl m z1 st r).contains (p : Int) = true) := by
                  show _ = _
                  rw [Do.dl_has hst]
                  rcases hch with h | h
                  · rw [ht1] at h; cases h
                  · exact h
                clear hbd hr hrd y6 y7 hN hch ht1
                go_wp2_with fail
                refine (in2_yes (r : Int) 0 q _ (by omega) (HQ.out r hrm)).mono ?_
                rintro e x4 ⟨rfl, rfl⟩
                go_wp2_with fail
                refine (Has_any A5 M c5 (Do.dl m z1 st p) (r : Int) false _ s5 HT1.out).mono ?_
                rintro e x5 ⟨rfl, rfl⟩
                go_wp2_with fail
                refine (Has_any A7 N c7 (Do.dl m z1 st r) (p : Int) true _ s7 HT2.out).mono ?_
                rintro e x5 ⟨rfl, rfl⟩
                go_wp2
                go_roundw
                case rel => exact ⟨b + 1, by omega, by go_num, hbel⟩
                case measure => simp [intOf]; omega
            · obtain rfl : b = L := by omega
              go_wp2
              clear z3
              go_loopw [15] (fun kv wr => ∃ k : Nat, k ≤ M ∧ kv = .int .i64 (k : Int) ∧ Below x2.heap.size x2 wr) (fun kv _ => M - (intOf kv).toNat)
              case atStart => exact ⟨0, Nat.zero_le _, rfl, hbel⟩
              case round =>
                clear hbel
                obtain ⟨k, hk, rfl, hbel⟩ := hrel
                have z5 := (hbel.cell (p := ⟨bA, oA + p, none⟩) hbA).trans y5
                by_cases hlk : k < M
                · obtain ⟨b8, o8, rfl, hb8, hc8⟩ := r5.at_ (by omega)
                  have hkd : k < (Do.dl m z1 st p).length := by rw [← HM.out]; exact hlk
                  obtain ⟨r, hr, hrm, hrd⟩ := Do.dl_at hst hkd
                  have y8 := hc8 k hlk
                  rw [hr] at y8
                  have z8 := (hbel.cell (p := ⟨b8, o8 + k, none⟩) hb8).trans y8
                  have z3 := (hbel.cell (p := ⟨bA, oA + i, none⟩) hbA).trans y3
                  have s3 : Rd wr wr.heap.size (some ⟨b3, o3, none⟩) b c3 (Do.dl m z1 st i) := (r3.below hbel).more hbel.size
                  have HT : Hid ((Do.dl m z1 st i).contains (r : Int) = true) := by show _ = _; rw [Do.dl_has hst]; exact Do.dom_trans hst HPD.out hrd
                  have k1 : (0 : Int) ≤ (k : Int) := by omega
                  have k2 : (k : Int) < (M : Int) := by omega
                  clear hc8 hkd hr hrd y8
                  go_wp2
                  go_quiet (first | (go_at_call 10; exact Calls.quiet_of_same ((Has_any _ _ _ _ (r : Int) true _ (s3.drewN _) HT.out).mono fun _ _ h => ⟨h.1, h.2.symm⟩)))
                  go_wp2
                  go_roundw
                  case rel => exact ⟨k + 1, by omega, by go_num, hbel.trans (Below.drewN' _ _ _)⟩
                  case measure => simp [intOf]; omega
                · obtain rfl : k = M := by omega
                  go_wp2
                  go_roundw
                  case rel => exact ⟨a + 1, by omega, by go_num, hbel⟩
                  case measure => simp [intOf]; omega
        · obtain rfl : a = L := by omega
          go_wp2
          go_roundw
          case rel => exact ⟨i + 1, by omega, by go_num, hbel⟩
          case measure => simp [intOf]; omega
    · obtain rfl : i = m := by omega
      go_wp2
      go_ret
      exact ⟨rfl, HFIN.out.trans (hbel.mono HFIN.out.size)⟩

theorem walk (w : World) (a0 : Int) (w0 : (Lit.int .i64 a0).wf = true) (a1 : Option Addr) (n1 c1 : Nat) (z1 : List Gr.Ln) (w1 : RdP w w.heap.size a1 n1 c1 z1) (a2 : Int) (w2 : (Lit.int .i64 a2).wf = true) :
    Calls Try.prog 3 #[.int .i64 a0, .slice a1 n1 c1, .int .i64 a2] w fun e w' => e = .returned (.bool true) ∧ Below w.heap.size w w' := by
  by_cases h : Do.fcode a0 z1 a2 = 0
  · obtain ⟨h1, h2, h3⟩ := Do.fcode_zero.1 h
    obtain ⟨m, rfl⟩ : ∃ m : Nat, a0 = (m : Int) := ⟨a0.toNat, by omega⟩
    obtain ⟨st, rfl⟩ : ∃ st : Nat, a2 = (st : Int) := ⟨a2.toNat, by omega⟩
    exact good w m st a1 n1 c1 z1 w1 (by omega) h1
  · exact bad w a0 a1 n1 c1 z1 w1 a2 h

end Go.Proofs.Ytjcdnkbandagoaa.domChain
