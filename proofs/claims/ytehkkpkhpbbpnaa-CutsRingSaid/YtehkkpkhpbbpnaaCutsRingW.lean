/-
  The walk of the law CutsRing: for every number of points, lines, and number of a line it returns true.
-/
import Derived.Test.YtehkkpkhpbbpnaaCutsE
import Derived.Test.YtehkkpkhpbbpnaaCutsH
import Derived.Test.YtehkkpkhpbbpnaaRefL
import Derived.Test.YtehkkpkhpbbpnaaWalkB
import Derived.Test.YtehkkpkhpbbpnaaDeepK
namespace Go.Proofs.Ytehkkpkhpbbpnaa.cutsRing
open Go.RowKit

set_option linter.unusedSimpArgs false
set_option linter.unusedVariables false

theorem Parts_good' (m : Nat) (A : Option Addr) (k c : Nat) (ls : List Gr.Ln) (w : World) (hr : RdP w w.heap.size A k c ls) (h : Gr.code (m : Int) ls = 0) :
    Calls Try.prog 11 #[.int .i64 (m : Int), .slice A k c] w fun e w' => ∃ g, e = .returned (.tuple #[.slice (some ⟨g, 0, none⟩) m m, .nilIface]) ∧ Own w' w.heap.size 3 (.slice (some ⟨g, 0, none⟩) m m) (Wa.labs m (Wa.nrow m ls) m) ∧ Below w.heap.size w w' := by
  refine (Parts_any (m : Int) A k c ls w hr).mono ?_
  rintro e w1 ⟨hb, (⟨h0, _⟩ | ⟨_, g, rfl, ho⟩)⟩
  · exact absurd h h0
  · simp only [Int.toNat_natCast] at ho ⊢
    exact ⟨g, rfl, ho, hb⟩

theorem bes_q (A : Option Addr) (n c : Nat) (ls : List Gr.Ln) (a b : Int) (t : Bool) (w : World) (k : Nat) (hr : RdP w w.heap.size A n c ls) (ht : Gr.adj ls a b = t) :
    Calls Try.prog 13 #[.slice A n c, .int .i64 a, .int .i64 b] (w.drewN k) fun e w' => e = .returned (.bool t) ∧ ∃ m, w' = w.drewN m :=
  Calls.quiet_of_same ((RefL.Beside_any A n c ls a b t _ (hr.drewN k) ht).mono fun _ _ h => ⟨h.1, h.2.symm⟩)

set_option maxRecDepth 100000 in
set_option maxHeartbeats 1000000 in
theorem walk (w : World) (a0 : Int) (_w0 : (Lit.int .i64 a0).wf = true) (a1 : Option Addr) (n1 c1 : Nat) (z1 : List Gr.Ln) (w1 : RdP w w.heap.size a1 n1 c1 z1) (a2 : Int) (_w2 : (Lit.int .i64 a2).wf = true) :
    Calls Try.prog 3 #[.int .i64 a0, .slice a1 n1 c1, .int .i64 a2] w fun e w' => e = .returned (.bool true) ∧ Below w.heap.size w w' := by
  by_cases hc : Gr.code a0 z1 = 0
  · obtain ⟨m, rfl⟩ : ∃ m : Nat, a0 = (m : Int) := ⟨a0.toNat, by have := (Gr.code_zero.1 hc).1; omega⟩
    have hm8 : m ≤ 8 := by have := (Gr.code_zero.1 hc).2.1; omega
    have hm1 : 1 ≤ m := by have := (Gr.code_zero.1 hc).1; omega
    have hl24 : n1 ≤ 24 := by have := (Gr.code_zero.1 hc).2.2.1; have := w1.len; omega
    have H0 := Lib.hid hc
    have kw : IntKind.i64.wrap ((n1 : Int) - 1) = (n1 : Int) - 1 := by rw [IntKind.wrap_i64]; omega
    clear hc
    by_cases hk : 0 ≤ a2 ∧ a2 ≤ (n1 : Int) - 1
    · obtain ⟨hk0, hk1⟩ := hk
      obtain ⟨k, rfl⟩ : ∃ k : Nat, a2 = (k : Int) := ⟨a2.toNat, by omega⟩
      have hkn : k < n1 := by omega
      have hlen := w1.len
      obtain ⟨x, y, hxy, hx, hy, hne, _⟩ := Dp.line_of H0.out (show k < z1.length by omega)
      have hadj : Hid (Gr.adj (Dp.brl m z1) (x : Int) (y : Int) = Dp.brB m z1 x y) := Dp.adj_brl hx hy hne
      have hpar : Hid (Dp.parts m (Wa.nrow m (z1.eraseIdx k)) = Dp.parts m (Wa.nrow m z1) + if Dp.brB m z1 x y = true then 1 else 0) := Dp.but_parts H0.out hx hy (by omega) hxy
      have HC2 := Lib.hid (Dp.code_erase H0.out k)
      have HXY := Lib.hid hxy
      have HL := Lib.hid hlen
      clear hxy hlen
      go_enter Try.func3, Try.ntmps3
      go_wp2_with fail
      refine (cutsFact_any _).mono ?_
      rintro e x1 ⟨rfl, hb1⟩
      go_wp2_with fail
      refine (Bridges_rd m a1 n1 c1 z1 _ (w1.past hb1) H0.out).mono ?_
      rintro e x2 ⟨hb2, B2, n2, c2, rfl, HN2, r2⟩
      have hr2 := (w1.past hb1).past hb2
      go_wp2_with fail
      refine (in_yes _ _ _ _ (by omega) (by omega)).mono ?_
      rintro e _ ⟨rfl, rfl⟩
      go_wp2_with fail
      refine (Parts_good' m a1 n1 c1 z1 _ hr2 H0.out).mono ?_
      rintro e x3 ⟨gp, rfl, op, hb3⟩
      have hr3 := hr2.past hb3
      go_wp2_with fail
      refine (But_any a1 n1 c1 k z1 _ hr3 (by omega)).mono ?_
      rintro e x4 ⟨v4, rfl, o4, hb4⟩
      obtain ⟨A4, e4, rfl, r4⟩ := o4.rd
      have hr4 := hr3.past hb4
      obtain ⟨n4, hn4⟩ : ∃ n4, n4 = (z1.eraseIdx k).length := ⟨_, rfl⟩
      rw [← hn4] at r4 ⊢
      clear hn4
      go_wp2_with fail
      refine (Parts_good' m A4 n4 e4 (z1.eraseIdx k) _ r4 HC2.out).mono ?_
      rintro e x5 ⟨gq, rfl, oq, hb5⟩
      have hr5 := hr4.past hb5
      have r25 := ((r2.past hb3).past hb4).past hb5
      have op5 := (op.below hb4).below hb5
      have hb := (((hb1.trans (hb2.mono hb1.size)).trans (hb3.mono (Nat.le_trans hb1.size hb2.size))).trans (hb4.mono (Nat.le_trans (Nat.le_trans hb1.size hb2.size) hb3.size))).trans (hb5.mono (Nat.le_trans (Nat.le_trans (Nat.le_trans hb1.size hb2.size) hb3.size) hb4.size))
      have hcells : Hid (∀ j, j < m → x5.cell? ⟨gp, j, none⟩ = some (.int .i64 (Wa.lab m (Wa.nrow m z1) m j)) ∧ x5.cell? ⟨gq, j, none⟩ = some (.int .i64 (Wa.lab m (Wa.nrow m (z1.eraseIdx k)) m j))) := fun j hj => by
        have q1 := op5.cell j hj
        have q2 := oq.cell j hj
        rw [Wa.labs_at _ _ hj] at q1 q2
        exact ⟨q1, q2⟩
      obtain ⟨b5, f5, hA5, hbw5, hcc⟩ := hr5.at_ (by omega)
      obtain ⟨s1, s2⟩ := hcc k hkn
      rw [HXY.out] at s1 s2
      simp only at s1 s2
      subst hA5
      have HS := Lib.hid (And.intro s1 s2)
      clear s1 s2 hcc op op5 oq o4 r4 hb1 hb2 hb3 hb4 hb5 hr2 hr3 hr4 r2 w1 hr5
      have hnn : ((m : Int) != (m : Int)) = false := by simp
      have hnn2 : (m != m) = false := by simp
      go_wp2
      go_loop [14, 15, 16] (fun pv qv jv => ∃ j p q : Nat, j ≤ m ∧ jv = .int .i64 (j : Int) ∧ pv = .int .i64 (p : Int) ∧ qv = .int .i64 (q : Int) ∧ p ≤ j ∧ q ≤ j ∧ Hid (p = Dp.rts m (Wa.nrow m z1) j) ∧ Hid (q = Dp.rts m (Wa.nrow m (z1.eraseIdx k)) j)) (fun _ _ jv => m - (intOf jv).toNat)
      case atStart => exact ⟨0, 0, 0, Nat.zero_le _, rfl, rfl, rfl, Nat.le_refl _, Nat.le_refl _, rfl, rfl⟩
      case round =>
        obtain ⟨j, p, q, hj, rfl, rfl, rfl, hpj, hqj, HP, HQ⟩ := hrel
        by_cases hlt : j < m
        · obtain ⟨q1, q2⟩ := hcells.out j hlt
          have h1 : Hid (Wa.lab m (Wa.nrow m z1) m j = (j : Int) → p + 1 = Dp.rts m (Wa.nrow m z1) (j + 1)) := fun h => by rw [Dp.rts_hit h, HP.out]
          have h2 : Hid (¬ Wa.lab m (Wa.nrow m z1) m j = (j : Int) → p = Dp.rts m (Wa.nrow m z1) (j + 1)) := fun h => by rw [Dp.rts_miss h, HP.out]
          have h3 : Hid (Wa.lab m (Wa.nrow m (z1.eraseIdx k)) m j = (j : Int) → q + 1 = Dp.rts m (Wa.nrow m (z1.eraseIdx k)) (j + 1)) := fun h => by rw [Dp.rts_hit h, HQ.out]
          have h4 : Hid (¬ Wa.lab m (Wa.nrow m (z1.eraseIdx k)) m j = (j : Int) → q = Dp.rts m (Wa.nrow m (z1.eraseIdx k)) (j + 1)) := fun h => by rw [Dp.rts_miss h, HQ.out]
          generalize Wa.lab m (Wa.nrow m z1) m j = lp at q1 h1 h2
          generalize Wa.lab m (Wa.nrow m (z1.eraseIdx k)) m j = lq at q2 h3 h4
          have k1 : (0 : Int) ≤ (j : Int) := by omega
          have k2 : (j : Int) < (m : Int) := by omega
          have w1 : IntKind.i64.wrap ((p : Int) + 1) = ((p + 1 : Nat) : Int) := by rw [IntKind.wrap_i64]; omega
          have w2 : IntKind.i64.wrap ((q : Int) + 1) = ((q + 1 : Nat) : Int) := by rw [IntKind.wrap_i64]; omega
          by_cases e1 : lp = (j : Int)
          · have d1 : (lp == (j : Int)) = true := by simpa using e1
            have R1 := Lib.hid (h1.out e1)
            clear e1
            by_cases e2 : lq = (j : Int)
            · have d2 : (lq == (j : Int)) = true := by simpa using e2
              have R2 := Lib.hid (h3.out e2)
              clear e2
              go_wp2
              go_round
              case rel => exact ⟨j + 1, p + 1, q + 1, by omega, by go_num, by go_num, by go_num, by omega, by omega, R1, R2⟩
              case measure => simp [intOf]; omega
            · have d2 : (lq == (j : Int)) = false := by simpa using e2
              have R2 := Lib.hid (h4.out e2)
              clear e2
              go_wp2
              go_round
              case rel => exact ⟨j + 1, p + 1, q, by omega, by go_num, by go_num, rfl, by omega, by omega, R1, R2⟩
              case measure => simp [intOf]; omega
          · have d1 : (lp == (j : Int)) = false := by simpa using e1
            have R1 := Lib.hid (h2.out e1)
            clear e1
            by_cases e2 : lq = (j : Int)
            · have d2 : (lq == (j : Int)) = true := by simpa using e2
              have R2 := Lib.hid (h3.out e2)
              clear e2
              go_wp2
              go_round
              case rel => exact ⟨j + 1, p, q + 1, by omega, by go_num, rfl, by go_num, by omega, by omega, R1, R2⟩
              case measure => simp [intOf]; omega
            · have d2 : (lq == (j : Int)) = false := by simpa using e2
              have R2 := Lib.hid (h4.out e2)
              clear e2
              go_wp2
              go_round
              case rel => exact ⟨j + 1, p, q, by omega, by go_num, rfl, rfl, by omega, by omega, R1, R2⟩
              case measure => simp [intOf]; omega
        · obtain rfl : j = m := by omega
          have hpq : Hid (q = p + if Dp.brB j z1 x y = true then 1 else 0) := by
            show _ = _
            rw [HP.out, HQ.out, Dp.rts_all, Dp.rts_all, hpar.out]
          obtain ⟨s1, s2⟩ := HS.out
          have k1 : (0 : Int) ≤ (k : Int) := by omega
          have k2 : (k : Int) < (n1 : Int) := by omega
          have hwp : IntKind.i64.wrap ((p : Int) + 1) = ((p + 1 : Nat) : Int) := by rw [IntKind.wrap_i64]; omega
          cases hB : Dp.brB j z1 x y
          · have ht : Gr.adj (Dp.brl j z1) (x : Int) (y : Int) = false := hadj.out.trans hB
            have hq : q = p := by have := hpq.out; rw [hB] at this; simpa using this
            subst hq
            have hee : ((q : Int) == (q : Int)) = true := by simp
            have HA := Lib.hid ht
            clear hB ht HP HQ
            go_wp2
            go_quiet (first | (go_at_call 13; exact bes_q _ _ _ _ _ _ _ _ _ r25 HA.out))
            go_wp2
            go_ret
            exact ⟨rfl, hb.trans (Below.drewN' _ _ _)⟩
          · have ht : Gr.adj (Dp.brl j z1) (x : Int) (y : Int) = true := hadj.out.trans hB
            have hq : q = p + 1 := by have := hpq.out; rw [hB] at this; simpa using this
            subst hq
            have hee : (((p + 1 : Nat) : Int) == ((p + 1 : Nat) : Int)) = true := by simp
            have HA := Lib.hid ht
            clear hB ht HP HQ
            go_wp2
            go_quiet (first | (go_at_call 13; exact bes_q _ _ _ _ _ _ _ _ _ r25 HA.out))
            go_wp2
            go_ret
            exact ⟨rfl, hb.trans (Below.drewN' _ _ _)⟩
    · have hno : a2 < 0 ∨ (n1 : Int) - 1 < a2 := by omega
      clear hk
      have HNO := Lib.hid hno
      clear hno
      go_enter Try.func3, Try.ntmps3
      go_wp2_with fail
      refine (cutsFact_any _).mono ?_
      rintro e x1 ⟨rfl, hb1⟩
      go_wp2_with fail
      refine (Bridges_rd m a1 n1 c1 z1 _ (w1.past hb1) H0.out).mono ?_
      rintro e x2 ⟨hb2, B2, n2, c2, rfl, HN2, r2⟩
      go_wp2_with fail
      refine (in_no _ _ _ _ HNO.out).mono ?_
      rintro e _ ⟨rfl, rfl⟩
      go_wp2
      go_ret
      exact ⟨rfl, hb1.trans (hb2.mono hb1.size)⟩
  · have H := Lib.hid hc
    clear hc
    go_enter Try.func3, Try.ntmps3
    go_wp2_with fail
    refine (cutsFact_any _).mono ?_
    rintro e x1 ⟨rfl, hb1⟩
    go_wp2_with fail
    refine (Bridges_err a0 a1 n1 c1 z1 _ (w1.past hb1) H.out).mono ?_
    rintro e x2 ⟨rfl, hb2⟩
    go_wp2
    go_ret
    exact ⟨rfl, hb1.trans (hb2.mono hb1.size)⟩

end Go.Proofs.Ytehkkpkhpbbpnaa.cutsRing
