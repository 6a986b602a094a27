/-
  The walk of the law CutsWithout: for every number of points, lines, and a point it returns true.
-/
import Derived.Test.YtehkkpkhpbbpnaaCutsE
import Derived.Test.YtehkkpkhpbbpnaaCutsH
import Derived.Test.YtehkkpkhpbbpnaaRefL
import Derived.Test.YtehkkpkhpbbpnaaWalkB
import Derived.Test.YtehkkpkhpbbpnaaGraphW
namespace Go.Proofs.Ytehkkpkhpbbpnaa.cutsWithout
open Go.RowKit

set_option linter.unusedSimpArgs false
set_option linter.unusedVariables false

theorem Parts_good' (m : Nat) (A : Option Addr) (k c : Nat) (ls : List Gr.Ln) (w : World) (hr : RdP w w.heap.size A k c ls) (h : Gr.code (m : Int) ls = 0) :
    Calls Try.prog 11 #[.int .i64 (m : Int), .slice A k c] w fun e w' => ∃ g, e = .returned (.tuple #[.slice (some ⟨g, 0, none⟩) m m, .nilIface]) ∧ Own w' w.heap.size 3 (.slice (some ⟨g, 0, none⟩) m m) (Wa.labs m (Wa.nrow m ls) m) ∧ Below w.heap.size w w' := by
  refine (Parts_any (m : Int) A k c ls w hr).mono ?_
  rintro e w1 ⟨hb, (⟨h0, _⟩ | ⟨_, g, rfl, ho⟩)⟩
  · exact absurd h h0
  · simp only [Int.toNat_natCast] at ho ⊢
    exact ⟨g, rfl, ho, hb⟩

set_option maxRecDepth 100000 in
set_option maxHeartbeats 1000000 in
theorem walk (w : World) (a0 : Int) (_w0 : (Lit.int .i64 a0).wf = true) (a1 : Option Addr) (n1 c1 : Nat) (z1 : List Gr.Ln) (w1 : RdP w w.heap.size a1 n1 c1 z1) (a2 : Int) (_w2 : (Lit.int .i64 a2).wf = true) :
    Calls Try.prog 5 #[.int .i64 a0, .slice a1 n1 c1, .int .i64 a2] w fun e w' => e = .returned (.bool true) ∧ Below w.heap.size w w' := by
  by_cases hc : Gr.code a0 z1 = 0
  · obtain ⟨m, rfl⟩ : ∃ m : Nat, a0 = (m : Int) := ⟨a0.toNat, by have := (Gr.code_zero.1 hc).1; omega⟩
    have hm8 : m ≤ 8 := by have := (Gr.code_zero.1 hc).2.1; omega
    have hm1 : 1 ≤ m := by have := (Gr.code_zero.1 hc).1; omega
    have H0 := Lib.hid hc
    clear hc
    by_cases hk : (m : Int) ≠ 1 ∧ 0 ≤ a2 ∧ a2 < (m : Int)
    · obtain ⟨hm2, hk0, hk1⟩ := hk
      obtain ⟨i, rfl⟩ : ∃ i : Nat, a2 = (i : Int) := ⟨a2.toNat, by omega⟩
      obtain ⟨m', rfl⟩ : ∃ m', m = m' + 1 := ⟨m - 1, by omega⟩
      have hi : i < m' + 1 := by omega
      have hw0 : Hid (Gr.wcode ((m' + 1 : Nat) : Int) z1 (i : Int) = 0) := Gr.wcode_zero.2 ⟨H0.out, hm2, hk0, hk1⟩
      have hcw : Hid (Gr.code ((m' : Nat) : Int) (Gr.without (i : Int) z1) = 0) := by
        have := Gr.code_without H0.out hm2 hk0 hk1
        rw [show (((m' + 1 : Nat) : Int) - 1) = ((m' : Nat) : Int) by omega] at this
        exact this
      have hhas : Hid ((upL (Dp.cpts (m' + 1) (Wa.nrow (m' + 1) z1))).contains (i : Int) = decide (Dp.parts (m' + 1) (Wa.nrow (m' + 1) z1) < Dp.parts m' (Wa.nrow m' (Gr.without (i : Int) z1)))) := Dp.has_less H0.out hi
      have kw : IntKind.i64.wrap (((m' + 1 : Nat) : Int) - 1) = ((m' : Nat) : Int) := by rw [IntKind.wrap_i64]; omega
      obtain ⟨M, hM⟩ : ∃ M, M = m' + 1 := ⟨_, rfl⟩
      rw [← hM] at H0 hm8 hm1 hm2 hk1 hi hw0 hhas kw ⊢
      have hMm : m' < M := by omega
      have HM := Lib.hid hM
      clear hM
      go_enter Try.func5, Try.ntmps5
      go_wp2_with fail
      refine (cutsFact_any _).mono ?_
      rintro e x1 ⟨rfl, hb1⟩
      go_wp2_with fail
      refine (Points_rd M a1 n1 c1 z1 _ (w1.past hb1) H0.out).mono ?_
      rintro e x2 ⟨hb2, B2, n2, c2, rfl, HN2, r2⟩
      have hr2 := (w1.past hb1).past hb2
      go_wp2_with fail
      refine (Without_any (M : Int) a1 n1 c1 z1 (i : Int) _ hr2).mono ?_
      rintro e x3 ⟨hb3, (⟨hbad, _⟩ | ⟨_, v3, rfl, o3⟩)⟩
      · exact absurd hw0.out hbad
      obtain ⟨A4, e4, rfl, r4⟩ := o3.rd
      have hr3 := hr2.past hb3
      obtain ⟨n4, hn4⟩ : ∃ n4, n4 = (Gr.without (i : Int) z1).length := ⟨_, rfl⟩
      rw [← hn4] at r4 ⊢
      clear hn4
      go_wp2_with fail
      refine (Parts_good' M a1 n1 c1 z1 _ hr3 H0.out).mono ?_
      rintro e x4 ⟨gp, rfl, op, hb4⟩
      have r44 := r4.past hb4
      go_wp2_with fail
      refine (Parts_good' m' A4 n4 e4 (Gr.without (i : Int) z1) _ r44 hcw.out).mono ?_
      rintro e x5 ⟨gq, rfl, oq, hb5⟩
      have r25 := ((r2.past hb3).past hb4).past hb5
      have op5 := op.below hb5
      have hb := (((hb1.trans (hb2.mono hb1.size)).trans (hb3.mono (Nat.le_trans hb1.size hb2.size))).trans (hb4.mono (Nat.le_trans (Nat.le_trans hb1.size hb2.size) hb3.size))).trans (hb5.mono (Nat.le_trans (Nat.le_trans (Nat.le_trans hb1.size hb2.size) hb3.size) hb4.size))
      have hcp : Hid (∀ j, j < M → x5.cell? ⟨gp, j, none⟩ = some (.int .i64 (Wa.lab M (Wa.nrow M z1) M j))) := fun j hj => by
        have q1 := op5.cell j hj
        rw [Wa.labs_at _ _ hj] at q1
        exact q1
      have hcq : Hid (∀ j, j < m' → x5.cell? ⟨gq, j, none⟩ = some (.int .i64 (Wa.lab m' (Wa.nrow m' (Gr.without (i : Int) z1)) m' j))) := fun j hj => by
        have q2 := oq.cell j hj
        rw [Wa.labs_at _ _ hj] at q2
        exact q2
      clear op op5 oq o3 r4 r44 hb1 hb2 hb3 hb4 hb5 hr2 hr3 r2 w1
      have hnn : ((M : Int) != (M : Int)) = false := by simp
      have hnn2 : (M != M) = false := by simp
      have hnn3 : ((m' : Int) != (m' : Int)) = false := by simp
      have hnn4 : (m' != m') = false := by simp
      go_wp2
      go_loop [15, 16, 17] (fun pv qv jv => ∃ j p q : Nat, j ≤ M ∧ jv = .int .i64 (j : Int) ∧ pv = .int .i64 (p : Int) ∧ qv = .int .i64 (q : Int) ∧ p ≤ j ∧ q ≤ j ∧ Hid (p = Dp.rts M (Wa.nrow M z1) j) ∧ Hid (q = Dp.rts m' (Wa.nrow m' (Gr.without (i : Int) z1)) (min j m'))) (fun _ _ jv => M - (intOf jv).toNat)
      case atStart => exact ⟨0, 0, 0, Nat.zero_le _, rfl, rfl, rfl, Nat.le_refl _, Nat.le_refl _, rfl, by show _ = _; rw [Nat.zero_min]; rfl⟩
      case round =>
        obtain ⟨j, p, q, hj, rfl, rfl, rfl, hpj, hqj, HP, HQ⟩ := hrel
        by_cases hlt : j < M
        · have q1 := hcp.out j hlt
          have h1 : Hid (Wa.lab M (Wa.nrow M z1) M j = (j : Int) → p + 1 = Dp.rts M (Wa.nrow M z1) (j + 1)) := fun h => by rw [Dp.rts_hit h, HP.out]
          have h2 : Hid (¬ Wa.lab M (Wa.nrow M z1) M j = (j : Int) → p = Dp.rts M (Wa.nrow M z1) (j + 1)) := fun h => by rw [Dp.rts_miss h, HP.out]
          generalize Wa.lab M (Wa.nrow M z1) M j = lp at q1 h1 h2
          have k1 : (0 : Int) ≤ (j : Int) := by omega
          have k2 : (j : Int) < (M : Int) := by omega
          have w1 : IntKind.i64.wrap ((p : Int) + 1) = ((p + 1 : Nat) : Int) := by rw [IntKind.wrap_i64]; omega
          have w2 : IntKind.i64.wrap ((q : Int) + 1) = ((q + 1 : Nat) : Int) := by rw [IntKind.wrap_i64]; omega
          by_cases hlm : j < m'
          · have q2 := hcq.out j hlm
            have h3 : Hid (Wa.lab m' (Wa.nrow m' (Gr.without (i : Int) z1)) m' j = (j : Int) → q + 1 = Dp.rts m' (Wa.nrow m' (Gr.without (i : Int) z1)) (min (j + 1) m')) := fun h => by
              have := HQ.out; rw [Nat.min_eq_left (by omega)] at this
              rw [Nat.min_eq_left (by omega), Dp.rts_hit h, this]
            have h4 : Hid (¬ Wa.lab m' (Wa.nrow m' (Gr.without (i : Int) z1)) m' j = (j : Int) → q = Dp.rts m' (Wa.nrow m' (Gr.without (i : Int) z1)) (min (j + 1) m')) := fun h => by
              have := HQ.out; rw [Nat.min_eq_left (by omega)] at this
              rw [Nat.min_eq_left (by omega), Dp.rts_miss h, this]
            generalize Wa.lab m' (Wa.nrow m' (Gr.without (i : Int) z1)) m' j = lq at q2 h3 h4
            have k3 : (j : Int) < (m' : Int) := by omega
            by_cases e1 : lp = (j : Int)
            · have d1 : (lp == (j : Int)) = true := by simpa using e1
              have R1 := Lib.hid (h1.out e1)
              clear e1
              by_cases e2 : lq = (j : Int)
              · have d2 : (lq == (j : Int)) = true := by simpa using e2
                have R2 := Lib.hid (h3.out e2)
                clear e2
                go_wp2
                go_round
                case rel => exact ⟨j + 1, p + 1, q + 1, by omega, by go_num, by go_num, by go_num, by omega, by omega, R1, R2⟩
                case measure => simp [intOf]; omega
              · have d2 : (lq == (j : Int)) = false := by simpa using e2
                have R2 := Lib.hid (h4.out e2)
                clear e2
                go_wp2
                go_round
                case rel => exact ⟨j + 1, p + 1, q, by omega, by go_num, by go_num, rfl, by omega, by omega, R1, R2⟩
                case measure => simp [intOf]; omega
            · have d1 : (lp == (j : Int)) = false := by simpa using e1
              have R1 := Lib.hid (h2.out e1)
              clear e1
              by_cases e2 : lq = (j : Int)
              · have d2 : (lq == (j : Int)) = true := by simpa using e2
                have R2 := Lib.hid (h3.out e2)
                clear e2
                go_wp2
                go_round
                case rel => exact ⟨j + 1, p, q + 1, by omega, by go_num, rfl, by go_num, by omega, by omega, R1, R2⟩
                case measure => simp [intOf]; omega
              · have d2 : (lq == (j : Int)) = false := by simpa using e2
                have R2 := Lib.hid (h4.out e2)
                clear e2
                go_wp2
                go_round
                case rel => exact ⟨j + 1, p, q, by omega, by go_num, rfl, rfl, by omega, by omega, R1, R2⟩
                case measure => simp [intOf]; omega
          · have k3 : ¬ (j : Int) < (m' : Int) := by omega
            have R2 : Hid (q = Dp.rts m' (Wa.nrow m' (Gr.without (i : Int) z1)) (min (j + 1) m')) := by
              show _ = _
              have := HQ.out; rw [Nat.min_eq_right (by omega)] at this
              rw [Nat.min_eq_right (by omega)]; exact this
            by_cases e1 : lp = (j : Int)
            · have d1 : (lp == (j : Int)) = true := by simpa using e1
              have R1 := Lib.hid (h1.out e1)
              clear e1
              go_wp2
              go_round
              case rel => exact ⟨j + 1, p + 1, q, by omega, by go_num, by go_num, rfl, by omega, by omega, R1, R2⟩
              case measure => simp [intOf]; omega
            · have d1 : (lp == (j : Int)) = false := by simpa using e1
              have R1 := Lib.hid (h2.out e1)
              clear e1
              go_wp2
              go_round
              case rel => exact ⟨j + 1, p, q, by omega, by go_num, rfl, rfl, by omega, by omega, R1, R2⟩
              case measure => simp [intOf]; omega
        · obtain rfl : j = M := by omega
          have hP : Hid (p = Dp.parts j (Wa.nrow j z1)) := HP.out.trans (Dp.rts_all _ _)
          have hQ : Hid (q = Dp.parts m' (Wa.nrow m' (Gr.without (i : Int) z1))) := by
            show _ = _
            rw [HQ.out, Nat.min_eq_right (by omega), Dp.rts_all]
          have ht : Hid ((upL (Dp.cpts j (Wa.nrow j z1))).contains (i : Int) = decide (p < q)) := by
            show _ = _
            rw [hhas.out, hP.out, hQ.out]
          by_cases hpq : p < q
          · have d1 : decide (p < q) = true := by simpa using hpq
            have d2 : (p : Int) < (q : Int) := by omega
            have T := Lib.hid (ht.out.trans d1)
            go_wp2_with fail
            refine (Has_any B2 n2 c2 _ (i : Int) true _ r25 T.out).mono ?_
            rintro e _ ⟨rfl, rfl⟩
            go_wp2
            go_ret
            exact ⟨rfl, hb⟩
          · have d1 : decide (p < q) = false := by simpa using hpq
            have d2 : ¬ (p : Int) < (q : Int) := by omega
            have T := Lib.hid (ht.out.trans d1)
            go_wp2_with fail
            refine (Has_any B2 n2 c2 _ (i : Int) false _ r25 T.out).mono ?_
            rintro e _ ⟨rfl, rfl⟩
            go_wp2
            go_ret
            exact ⟨rfl, hb⟩
    · have hno : Hid ((m : Int) = 1 ∨ a2 < 0 ∨ (m : Int) - 1 < a2) := by
        show _ ∨ _
        omega
      have hbad : Hid (Gr.wcode (m : Int) z1 a2 ≠ 0) := fun h => by
        have := Gr.wcode_zero.1 h
        exact hk ⟨this.2.1, this.2.2.1, this.2.2.2⟩
      clear hk
      have kw : IntKind.i64.wrap ((m : Int) - 1) = (m : Int) - 1 := by rw [IntKind.wrap_i64]; omega
      go_enter Try.func5, Try.ntmps5
      go_wp2_with fail
      refine (cutsFact_any _).mono ?_
      rintro e x1 ⟨rfl, hb1⟩
      go_wp2_with fail
      refine (Points_rd m a1 n1 c1 z1 _ (w1.past hb1) H0.out).mono ?_
      rintro e x2 ⟨hb2, B2, n2, c2, rfl, HN2, r2⟩
      have hr2 := (w1.past hb1).past hb2
      go_wp2_with fail
      refine (Without_any (m : Int) a1 n1 c1 z1 a2 _ hr2).mono ?_
      rintro e x3 ⟨hb3, (⟨_, rfl⟩ | ⟨hz, _⟩)⟩
      · have hb := (hb1.trans (hb2.mono hb1.size)).trans (hb3.mono (Nat.le_trans hb1.size hb2.size))
        by_cases hm : (m : Int) = 1
        · have d1 : ((m : Int) == 1) = true := by simpa using hm
          have d2 : decide ((m : Int) = 1) = true := by simpa using hm
          clear hm
          go_wp2
          go_ret
          exact ⟨rfl, hb⟩
        · have d1 : ((m : Int) == 1) = false := by simpa using hm
          have d2 : decide ((m : Int) = 1) = false := by simpa using hm
          have h3 : Hid (a2 < 0 ∨ (m : Int) - 1 < a2) := by
            show _ ∨ _
            have := hno.out
            omega
          clear hm
          go_wp2_with fail
          refine (in_no _ _ _ _ h3.out).mono ?_
          rintro e _ ⟨rfl, rfl⟩
          go_wp2
          go_ret
          exact ⟨rfl, hb⟩
      · exact absurd hz hbad.out
  · have H := Lib.hid hc
    clear hc
    go_enter Try.func5, Try.ntmps5
    go_wp2_with fail
    refine (cutsFact_any _).mono ?_
    rintro e x1 ⟨rfl, hb1⟩
    go_wp2_with fail
    refine (Points_err a0 a1 n1 c1 z1 _ (w1.past hb1) H.out).mono ?_
    rintro e x2 ⟨rfl, hb2⟩
    go_wp2
    go_ret
    exact ⟨rfl, hb1.trans (hb2.mono hb1.size)⟩

end Go.Proofs.Ytehkkpkhpbbpnaa.cutsWithout
