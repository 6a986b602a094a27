/-
  The walk of the law WalkRing: for every number of points and lines it returns true.
-/
import Derived.Test.YtghmpdhopdmmiaaWalkE
import Derived.Test.YtghmpdhopdmmiaaWalkS
import Derived.Test.YtghmpdhopdmmiaaRefL
namespace Go.Proofs.Ytghmpdhopdmmiaa.walkRing
open Go.RowKit

set_option linter.unusedSimpArgs false
set_option linter.unusedVariables false

set_option maxRecDepth 100000 in
set_option maxHeartbeats 4000000 in
theorem good (w : World) (m : Nat) (a1 : Option Addr) (n1 c1 : Nat) (z1 : List Gr.Ln) (w1 : RdP w w.heap.size a1 n1 c1 z1) (h0 : Gr.code (m : Int) z1 = 0) :
    Calls Try.prog 5 #[.int .i64 (m : Int), .slice a1 n1 c1] w fun e w' => e = .returned (.bool true) ∧ Below w.heap.size w w' := by
  have hm8 : m ≤ 8 := by have := (Gr.code_zero.1 h0).2.1; omega
  have H0 := Lib.hid h0
  have HG := Lib.hid (Wr.girth_range h0)
  have HR := Lib.hid (Wr.ring_count h0)
  clear h0
  have hnn : ((m : Int) != (m : Int)) = false := by simp
  have hnn2 : (m != m) = false := by simp
  obtain ⟨q, hq⟩ : ∃ q, q = Wa.girth m (Wa.nrow m z1) := ⟨_, rfl⟩
  have HQ := Lib.hid hq
  go_enter Try.func5, Try.ntmps5
  go_wp2_with fail
  refine (walkFact_any _).mono ?_
  rintro e x1 ⟨rfl, k1⟩
  go_wp2_with fail
  refine (Ring_good m a1 n1 c1 z1 _ (w1.past k1) H0.out).mono ?_
  rintro e x2 ⟨rfl, k2⟩
  rw [← hq]
  clear hq
  have k02 := k1.trans (k2.mono k1.size)
  clear k1 k2
  go_wp2_with fail
  refine (Parts_good m a1 n1 c1 z1 _ (w1.past k02) H0.out).mono ?_
  rintro e x3 ⟨g, rfl, op, k3⟩
  have k03 := k02.trans (k3.mono k02.size)
  have hl := w1.past k03
  have hcell : ∀ j, j < m → x3.cell? ⟨g, j, none⟩ = some (.int .i64 (Wa.lab m (Wa.nrow m z1) m j)) := fun j hj => by
    rw [op.cell j hj, Wa.labs_at _ _ hj]
  have HC := Lib.hid hcell
  clear hcell op k3 k02
  have hq3 : q = 0 ∨ (3 ≤ q ∧ q ≤ (m : Int)) := by rw [HQ.out]; exact HG.out
  by_cases hq0 : q = 0
  · have d1 : (q != 0) = false := by simp [hq0]
    have d2 : (q == 0) = true := by simp [hq0]
    have HZ : Hid ((Wr.prs z1 m).length + Wr.partsTo m z1 m = m) := HR.out.2.1 (by rw [← HQ.out]; exact hq0)
    clear hq3 hq0
    go_wp2
    go_loop [9, 10, 11] (fun pv sv av => ∃ (a : Nat) (p s : Int), a ≤ m ∧ av = .int .i64 (a : Int) ∧ pv = .int .i64 p ∧ sv = .int .i64 s ∧ 0 ≤ p ∧ p ≤ 8 ∧ 0 ≤ s ∧ s ≤ 64 ∧ Hid (p = ((Wr.partsTo m z1 a : Nat) : Int)) ∧ Hid (s = (((Wr.prs z1 a).length : Nat) : Int))) (fun _ _ av => m - (intOf av).toNat)
    case atStart => exact ⟨0, 0, 0, Nat.zero_le _, rfl, rfl, rfl, by omega, by omega, by omega, by omega, by show _ = _; simp [Wr.partsTo], by show _ = _; simp [Wr.prs]⟩
    case round =>
      obtain ⟨a, p, s, ham, rfl, rfl, rfl, hp0, hp8, hs0, hs64, HP, HS⟩ := hrel
      by_cases hlt : a < m
      · have hi1 : (0 : Int) ≤ (a : Int) := by omega
        have hi2 : (a : Int) < (m : Int) := by omega
        have g1 := HC.out a hlt
        by_cases hla : Wa.lab m (Wa.nrow m z1) m a = (a : Int)
        · have HPp := Lib.hid (Wr.partsTo_hit hla)
          have hp9 : p + 1 ≤ 8 := by
            have h1 := Wr.partsTo_le (m := m) (ls := z1) (a + 1)
            have h2 := HPp.out
            have h3 := HP.out
            omega
          have HP2 : Hid (p + 1 = ((Wr.partsTo m z1 (a + 1) : Nat) : Int)) := by show _ = _; rw [HP.out, HPp.out]; omega
          have d5 : ((Wa.lab m (Wa.nrow m z1) m a) == (a : Int)) = true := by simp [hla]
          generalize Wa.lab m (Wa.nrow m z1) m a = y at g1 d5
          clear hla
          go_wp2
          clear d5 g1
          go_loop [10, 12] (fun sv bv => ∃ (b : Nat) (s : Int), b ≤ a ∧ bv = .int .i64 (b : Int) ∧ sv = .int .i64 s ∧ 0 ≤ s ∧ s ≤ 64 + 8 ∧ Hid (s = (((Wr.prs z1 a).length + (Wr.prow z1 a b).length : Nat) : Int))) (fun _ bv => a - (intOf bv).toNat)
          case atStart => exact ⟨0, s, Nat.zero_le _, rfl, rfl, hs0, by omega, by show _ = _; rw [HS.out]; simp [Wr.prow]⟩
          case round =>
            clear HS hs0 hs64
            obtain ⟨b, s, hba, rfl, rfl, hs0, hs72, HS⟩ := hrel
            by_cases hlb : b < a
            · have hlbI : (b : Int) < (a : Int) := by omega
              cases hadj : Gr.adj z1 (a : Int) (b : Int) with
              | false =>
                have HA := Lib.hid hadj
                have HM := Lib.hid (Wr.prow_miss hadj)
                clear hadj
                go_wp2_with (go_at_call 10; refine (RefL.Beside_any a1 n1 c1 z1 (a : Int) (b : Int) false _ hl HA.out).mono ?_; rintro e x4 ⟨rfl, rfl⟩)
                go_round
                case rel => exact ⟨b + 1, s, by omega, by go_num, rfl, hs0, hs72, by show _ = _; rw [HS.out, HM.out]⟩
                case measure => simp [intOf]; omega
              | true =>
                have HA := Lib.hid hadj
                have HM := Lib.hid (Wr.prow_hit hadj)
                have hb72 : s + 1 ≤ 64 + 8 := by
                  have h1 := Wr.prs_len z1 a
                  have h2 := Wr.prow_len z1 a (b + 1)
                  have h3 := HS.out
                  have h4 := HM.out
                  have h5 : a * a ≤ 8 * 8 := Nat.mul_le_mul (by omega) (by omega)
                  omega
                clear hadj
                go_wp2_with (go_at_call 10; refine (RefL.Beside_any a1 n1 c1 z1 (a : Int) (b : Int) true _ hl HA.out).mono ?_; rintro e x4 ⟨rfl, rfl⟩)
                go_round
                case rel => exact ⟨b + 1, s + 1, by omega, by go_num, rfl, by omega, hb72, by show _ = _; rw [HS.out, HM.out]; omega⟩
                case measure => simp [intOf]; omega
            · obtain rfl : b = a := by omega
              have HS2 : Hid (s = (((Wr.prs z1 (b + 1)).length : Nat) : Int)) := by
                show _ = _
                rw [HS.out, Wr.prs, List.length_append]
              have hs64' : s ≤ 64 := by
                have h1 := Wr.prs_len z1 (b + 1)
                have h5 : (b + 1) * (b + 1) ≤ 8 * 8 := Nat.mul_le_mul (by omega) (by omega)
                have h3 := HS2.out
                omega
              clear HS
              go_wp2
              go_round
              case rel => exact ⟨b + 1, p + 1, s, by omega, by go_num, rfl, rfl, by omega, by omega, hs0, hs64', HP2, HS2⟩
              case measure => simp [intOf]; omega
        · have HPp := Lib.hid (Wr.partsTo_miss hla)
          have HP2 : Hid (p = ((Wr.partsTo m z1 (a + 1) : Nat) : Int)) := by show _ = _; rw [HP.out, HPp.out]
          have d5 : ((Wa.lab m (Wa.nrow m z1) m a) == (a : Int)) = false := by simpa using hla
          generalize Wa.lab m (Wa.nrow m z1) m a = y at g1 d5
          clear hla
          go_wp2
          clear d5 g1
          go_loop [10, 12] (fun sv bv => ∃ (b : Nat) (s : Int), b ≤ a ∧ bv = .int .i64 (b : Int) ∧ sv = .int .i64 s ∧ 0 ≤ s ∧ s ≤ 64 + 8 ∧ Hid (s = (((Wr.prs z1 a).length + (Wr.prow z1 a b).length : Nat) : Int))) (fun _ bv => a - (intOf bv).toNat)
          case atStart => exact ⟨0, s, Nat.zero_le _, rfl, rfl, hs0, by omega, by show _ = _; rw [HS.out]; simp [Wr.prow]⟩
          case round =>
            clear HS hs0 hs64
            obtain ⟨b, s, hba, rfl, rfl, hs0, hs72, HS⟩ := hrel
            by_cases hlb : b < a
            · have hlbI : (b : Int) < (a : Int) := by omega
              cases hadj : Gr.adj z1 (a : Int) (b : Int) with
              | false =>
                have HA := Lib.hid hadj
                have HM := Lib.hid (Wr.prow_miss hadj)
                clear hadj
                go_wp2_with (go_at_call 10; refine (RefL.Beside_any a1 n1 c1 z1 (a : Int) (b : Int) false _ hl HA.out).mono ?_; rintro e x4 ⟨rfl, rfl⟩)
                go_round
                case rel => exact ⟨b + 1, s, by omega, by go_num, rfl, hs0, hs72, by show _ = _; rw [HS.out, HM.out]⟩
                case measure => simp [intOf]; omega
              | true =>
                have HA := Lib.hid hadj
                have HM := Lib.hid (Wr.prow_hit hadj)
                have hb72 : s + 1 ≤ 64 + 8 := by
                  have h1 := Wr.prs_len z1 a
                  have h2 := Wr.prow_len z1 a (b + 1)
                  have h3 := HS.out
                  have h4 := HM.out
                  have h5 : a * a ≤ 8 * 8 := Nat.mul_le_mul (by omega) (by omega)
                  omega
                clear hadj
                go_wp2_with (go_at_call 10; refine (RefL.Beside_any a1 n1 c1 z1 (a : Int) (b : Int) true _ hl HA.out).mono ?_; rintro e x4 ⟨rfl, rfl⟩)
                go_round
                case rel => exact ⟨b + 1, s + 1, by omega, by go_num, rfl, by omega, hb72, by show _ = _; rw [HS.out, HM.out]; omega⟩
                case measure => simp [intOf]; omega
            · obtain rfl : b = a := by omega
              have HS2 : Hid (s = (((Wr.prs z1 (b + 1)).length : Nat) : Int)) := by
                show _ = _
                rw [HS.out, Wr.prs, List.length_append]
              have hs64' : s ≤ 64 := by
                have h1 := Wr.prs_len z1 (b + 1)
                have h5 : (b + 1) * (b + 1) ≤ 8 * 8 := Nat.mul_le_mul (by omega) (by omega)
                have h3 := HS2.out
                omega
              clear HS
              go_wp2
              go_round
              case rel => exact ⟨b + 1, p, s, by omega, by go_num, rfl, rfl, by omega, by omega, hs0, hs64', HP2, HS2⟩
              case measure => simp [intOf]; omega
      · obtain rfl : a = m := by omega
        have e1 : IntKind.i64.wrap ((a : Int) - p) = (a : Int) - p := by rw [IntKind.wrap_i64]; omega
        have d3 : decide ((a : Int) - p ≤ s) = true := by
          have h1 := HR.out.1
          have h2 := HP.out
          have h3 := HS.out
          simp
          omega
        have d4 : (s == (a : Int) - p) = true := by
          have h1 := HZ.out
          have h2 := HP.out
          have h3 := HS.out
          simp
          omega
        go_wp2
        go_ret
        exact ⟨rfl, k03⟩
  · have d1 : (q != 0) = true := by simpa using hq0
    have d2 : (q == 0) = false := by simpa using hq0
    have HZ : Hid (¬ (Wr.prs z1 m).length + Wr.partsTo m z1 m = m) := fun h => hq0 (by rw [HQ.out]; exact HR.out.2.2 h)
    have hq1 : 3 ≤ q := by omega
    have hq2 : q ≤ (m : Int) := by omega
    clear hq3 hq0
    go_wp2_with (go_at_call 9; refine (in_yes _ _ _ _ (by omega) (by omega)).mono ?_; rintro e x4 ⟨rfl, rfl⟩)
    go_loop [9, 10, 11] (fun pv sv av => ∃ (a : Nat) (p s : Int), a ≤ m ∧ av = .int .i64 (a : Int) ∧ pv = .int .i64 p ∧ sv = .int .i64 s ∧ 0 ≤ p ∧ p ≤ 8 ∧ 0 ≤ s ∧ s ≤ 64 ∧ Hid (p = ((Wr.partsTo m z1 a : Nat) : Int)) ∧ Hid (s = (((Wr.prs z1 a).length : Nat) : Int))) (fun _ _ av => m - (intOf av).toNat)
    case atStart => exact ⟨0, 0, 0, Nat.zero_le _, rfl, rfl, rfl, by omega, by omega, by omega, by omega, by show _ = _; simp [Wr.partsTo], by show _ = _; simp [Wr.prs]⟩
    case round =>
      obtain ⟨a, p, s, ham, rfl, rfl, rfl, hp0, hp8, hs0, hs64, HP, HS⟩ := hrel
      by_cases hlt : a < m
      · have hi1 : (0 : Int) ≤ (a : Int) := by omega
        have hi2 : (a : Int) < (m : Int) := by omega
        have g1 := HC.out a hlt
        by_cases hla : Wa.lab m (Wa.nrow m z1) m a = (a : Int)
        · have HPp := Lib.hid (Wr.partsTo_hit hla)
          have hp9 : p + 1 ≤ 8 := by
            have h1 := Wr.partsTo_le (m := m) (ls := z1) (a + 1)
            have h2 := HPp.out
            have h3 := HP.out
            omega
          have HP2 : Hid (p + 1 = ((Wr.partsTo m z1 (a + 1) : Nat) : Int)) := by show _ = _; rw [HP.out, HPp.out]; omega
          have d5 : ((Wa.lab m (Wa.nrow m z1) m a) == (a : Int)) = true := by simp [hla]
          generalize Wa.lab m (Wa.nrow m z1) m a = y at g1 d5
          clear hla
          go_wp2
          clear d5 g1
          go_loop [10, 12] (fun sv bv => ∃ (b : Nat) (s : Int), b ≤ a ∧ bv = .int .i64 (b : Int) ∧ sv = .int .i64 s ∧ 0 ≤ s ∧ s ≤ 64 + 8 ∧ Hid (s = (((Wr.prs z1 a).length + (Wr.prow z1 a b).length : Nat) : Int))) (fun _ bv => a - (intOf bv).toNat)
          case atStart => exact ⟨0, s, Nat.zero_le _, rfl, rfl, hs0, by omega, by show _ = _; rw [HS.out]; simp [Wr.prow]⟩
          case round =>
            clear HS hs0 hs64
            obtain ⟨b, s, hba, rfl, rfl, hs0, hs72, HS⟩ := hrel
            by_cases hlb : b < a
            · have hlbI : (b : Int) < (a : Int) := by omega
              cases hadj : Gr.adj z1 (a : Int) (b : Int) with
              | false =>
                have HA := Lib.hid hadj
                have HM := Lib.hid (Wr.prow_miss hadj)
                clear hadj
                go_wp2_with (go_at_call 10; refine (RefL.Beside_any a1 n1 c1 z1 (a : Int) (b : Int) false _ hl HA.out).mono ?_; rintro e x4 ⟨rfl, rfl⟩)
                go_round
                case rel => exact ⟨b + 1, s, by omega, by go_num, rfl, hs0, hs72, by show _ = _; rw [HS.out, HM.out]⟩
                case measure => simp [intOf]; omega
              | true =>
                have HA := Lib.hid hadj
                have HM := Lib.hid (Wr.prow_hit hadj)
                have hb72 : s + 1 ≤ 64 + 8 := by
                  have h1 := Wr.prs_len z1 a
                  have h2 := Wr.prow_len z1 a (b + 1)
                  have h3 := HS.out
                  have h4 := HM.out
                  have h5 : a * a ≤ 8 * 8 := Nat.mul_le_mul (by omega) (by omega)
                  omega
                clear hadj
                go_wp2_with (go_at_call 10; refine (RefL.Beside_any a1 n1 c1 z1 (a : Int) (b : Int) true _ hl HA.out).mono ?_; rintro e x4 ⟨rfl, rfl⟩)
                go_round
                case rel => exact ⟨b + 1, s + 1, by omega, by go_num, rfl, by omega, hb72, by show _ = _; rw [HS.out, HM.out]; omega⟩
                case measure => simp [intOf]; omega
            · obtain rfl : b = a := by omega
              have HS2 : Hid (s = (((Wr.prs z1 (b + 1)).length : Nat) : Int)) := by
                show _ = _
                rw [HS.out, Wr.prs, List.length_append]
              have hs64' : s ≤ 64 := by
                have h1 := Wr.prs_len z1 (b + 1)
                have h5 : (b + 1) * (b + 1) ≤ 8 * 8 := Nat.mul_le_mul (by omega) (by omega)
                have h3 := HS2.out
                omega
              clear HS
              go_wp2
              go_round
              case rel => exact ⟨b + 1, p + 1, s, by omega, by go_num, rfl, rfl, by omega, by omega, hs0, hs64', HP2, HS2⟩
              case measure => simp [intOf]; omega
        · have HPp := Lib.hid (Wr.partsTo_miss hla)
          have HP2 : Hid (p = ((Wr.partsTo m z1 (a + 1) : Nat) : Int)) := by show _ = _; rw [HP.out, HPp.out]
          have d5 : ((Wa.lab m (Wa.nrow m z1) m a) == (a : Int)) = false := by simpa using hla
          generalize Wa.lab m (Wa.nrow m z1) m a = y at g1 d5
          clear hla
          go_wp2
          clear d5 g1
          go_loop [10, 12] (fun sv bv => ∃ (b : Nat) (s : Int), b ≤ a ∧ bv = .int .i64 (b : Int) ∧ sv = .int .i64 s ∧ 0 ≤ s ∧ s ≤ 64 + 8 ∧ Hid (s = (((Wr.prs z1 a).length + (Wr.prow z1 a b).length : Nat) : Int))) (fun _ bv => a - (intOf bv).toNat)
          case atStart => exact ⟨0, s, Nat.zero_le _, rfl, rfl, hs0, by omega, by show _ = _; rw [HS.out]; simp [Wr.prow]⟩
          case round =>
            clear HS hs0 hs64
            obtain ⟨b, s, hba, rfl, rfl, hs0, hs72, HS⟩ := hrel
            by_cases hlb : b < a
            · have hlbI : (b : Int) < (a : Int) := by omega
              cases hadj : Gr.adj z1 (a : Int) (b : Int) with
              | false =>
                have HA := Lib.hid hadj
                have HM := Lib.hid (Wr.prow_miss hadj)
                clear hadj
                go_wp2_with (go_at_call 10; refine (RefL.Beside_any a1 n1 c1 z1 (a : Int) (b : Int) false _ hl HA.out).mono ?_; rintro e x4 ⟨rfl, rfl⟩)
                go_round
                case rel => exact ⟨b + 1, s, by omega, by go_num, rfl, hs0, hs72, by show _ = _; rw [HS.out, HM.out]⟩
                case measure => simp [intOf]; omega
              | true =>
                have HA := Lib.hid hadj
                have HM := Lib.hid (Wr.prow_hit hadj)
                have hb72 : s + 1 ≤ 64 + 8 := by
                  have h1 := Wr.prs_len z1 a
                  have h2 := Wr.prow_len z1 a (b + 1)
                  have h3 := HS.out
                  have h4 := HM.out
                  have h5 : a * a ≤ 8 * 8 := Nat.mul_le_mul (by omega) (by omega)
                  omega
                clear hadj
                go_wp2_with (go_at_call 10; refine (RefL.Beside_any a1 n1 c1 z1 (a : Int) (b : Int) true _ hl HA.out).mono ?_; rintro e x4 ⟨rfl, rfl⟩)
                go_round
                case rel => exact ⟨b + 1, s + 1, by omega, by go_num, rfl, by omega, hb72, by show _ = _; rw [HS.out, HM.out]; omega⟩
                case measure => simp [intOf]; omega
            · obtain rfl : b = a := by omega
              have HS2 : Hid (s = (((Wr.prs z1 (b + 1)).length : Nat) : Int)) := by
                show _ = _
                rw [HS.out, Wr.prs, List.length_append]
              have hs64' : s ≤ 64 := by
                have h1 := Wr.prs_len z1 (b + 1)
                have h5 : (b + 1) * (b + 1) ≤ 8 * 8 := Nat.mul_le_mul (by omega) (by omega)
                have h3 := HS2.out
                omega
              clear HS
              go_wp2
              go_round
              case rel => exact ⟨b + 1, p, s, by omega, by go_num, rfl, rfl, by omega, by omega, hs0, hs64', HP2, HS2⟩
              case measure => simp [intOf]; omega
      · obtain rfl : a = m := by omega
        have e1 : IntKind.i64.wrap ((a : Int) - p) = (a : Int) - p := by rw [IntKind.wrap_i64]; omega
        have d3 : decide ((a : Int) - p ≤ s) = true := by
          have h1 := HR.out.1
          have h2 := HP.out
          have h3 := HS.out
          simp
          omega
        have d4 : (s == (a : Int) - p) = false := by
          have h1 := HZ.out
          have h2 := HP.out
          have h3 := HS.out
          simp
          omega
        go_wp2
        go_ret
        exact ⟨rfl, k03⟩

theorem walk (w : World) (a0 : Int) (_w0 : (Lit.int .i64 a0).wf = true) (a1 : Option Addr) (n1 c1 : Nat) (z1 : List Gr.Ln) (w1 : RdP w w.heap.size a1 n1 c1 z1) :
    Calls Try.prog 5 #[.int .i64 a0, .slice a1 n1 c1] w fun e w' => e = .returned (.bool true) ∧ Below w.heap.size w w' := by
  by_cases hc : Gr.code a0 z1 = 0
  · obtain ⟨m, rfl⟩ : ∃ m : Nat, a0 = (m : Int) := ⟨a0.toNat, by have := (Gr.code_zero.1 hc).1; omega⟩
    exact good w m a1 n1 c1 z1 w1 hc
  · have H := Lib.hid hc
    clear hc
    go_enter Try.func5, Try.ntmps5
    go_wp2_with (first
      | (go_at_call 7; refine (walkFact_any _).mono ?_; rintro e x1 ⟨rfl, hb1⟩)
      | (go_at_call 12; refine (Ring_bad a0 a1 n1 c1 z1 _ (w1.past hb1) H.out).mono ?_; rintro e x2 ⟨rfl, hb2⟩))
    go_ret
    exact ⟨rfl, hb1.trans (hb2.mono hb1.size)⟩

end Go.Proofs.Ytghmpdhopdmmiaa.walkRing
