/-
  The walk of the law MatchHall: for every two sides and lines it returns true.
-/
import Derived.Test.YtbegepdeaeplgaaMatchF
import Derived.Test.YtbegepdeaeplgaaIn2
import Derived.Test.YtbegepdeaeplgaaRefL
import Derived.Test.YtbegepdeaeplgaaMatchH
namespace Go.Proofs.Ytbegepdeaeplgaa.matchHall
open Go.RowKit Go.Shelf
set_option linter.unusedSimpArgs false
set_option linter.unusedVariables false

set_option maxRecDepth 100000 in
set_option maxHeartbeats 1000000 in
/-- something is wrong with the sides, or with the lines -/
theorem bad (w : World) (a0 a1 : Int) (a2 : Option Addr) (n2 c2 : Nat) (z2 : List Gr.Ln) (w2 : RdP w w.heap.size a2 n2 c2 z2)  (hc : Ma.code a0 a1 z2 ≠ 0) :
    Calls Try.prog 4 #[.int .i64 a0, .int .i64 a1, .slice a2 n2 c2] w fun e w' => e = .returned (.bool true) ∧ Below w.heap.size w w' := by
  have HN := Lib.hid hc
  clear hc
  go_enter Try.func4, Try.ntmps4
  go_wp2_with fail
  refine (matchFact_any _).mono ?_
  rintro e x1 ⟨rfl, hb1⟩
  have hb01 := hb1
  go_wp2_with fail
  refine (Most_err a0 a1 a2 n2 c2 z2 _ (w2.past hb01) HN.out).mono ?_
  rintro e x2 ⟨rfl, hb2⟩
  go_wp2
  go_ret
  exact ⟨rfl, hb01.trans (hb2.mono hb01.size)⟩

set_option maxRecDepth 100000 in
set_option maxHeartbeats 4000000 in
/-- nothing is wrong with them -/
theorem good (w : World) (l r : Nat) (a2 : Option Addr) (n2 c2 : Nat) (z2 : List Gr.Ln) (w2 : RdP w w.heap.size a2 n2 c2 z2) (hc : Ma.code (l : Int) (r : Int) z2 = 0) :
    Calls Try.prog 4 #[.int .i64 (l : Int), .int .i64 (r : Int), .slice a2 n2 c2] w fun e w' => e = .returned (.bool true) ∧ Below w.heap.size w w' := by
  have HN := Lib.hid hc
  have hz := Ma.code_zero.1 hc
  have hl6 : l ≤ 6 := by omega
  have hr6 : r ≤ 6 := by omega
  have hml := Ma.nu_le_left (Ma.gl z2) l r
  have HLA := Lib.hid (Ma.lackTo_all (G := Ma.gl z2) (l := l) (r := r))
  have HLB : Hid (∀ k, 0 ≤ Ma.lackTo (Ma.gl z2) l r k ∧ Ma.lackTo (Ma.gl z2) l r k ≤ 6) := fun k => ⟨(Ma.lackTo_spec k).1, by have := Ma.lackTo_le (G := Ma.gl z2) (l := l) (r := r) k; omega⟩
  obtain ⟨G, hG⟩ : ∃ G, G = Ma.gl z2 := ⟨_, rfl⟩
  have HGo : Hid (∀ i j : Nat, Gr.has z2 (i : Int) (j : Int) = G i j) := fun i j => by rw [hG]; rfl
  rw [← hG] at HLA HLB hml
  obtain ⟨mx, hmx⟩ : ∃ mx, mx = Ma.nu G l r := ⟨_, rfl⟩
  rw [← hmx] at HLA hml
  have HMX : Hid (mx = Ma.nu (Ma.gl z2) l r) := by show _ = _; rw [← hG]; exact hmx
  clear hc hz hmx hG
  obtain ⟨i0, hi, hz0, hz1, hz2⟩ := info_parts boolInfo
  have HI := Lib.hid (And.intro hi (And.intro hz0 (And.intro hz1 hz2)))
  clear hi hz0 hz1 hz2
  obtain ⟨N, hN⟩ : ∃ N, N = 2 ^ l := ⟨_, rfl⟩
  have hN64 : N ≤ 64 := by rw [hN]; exact Ma.pow_le l hl6
  have HNN := Lib.hid hN
  clear hN
  go_enter Try.func4, Try.ntmps4
  go_wp2_with fail
  refine (matchFact_any _).mono ?_
  rintro e x1 ⟨rfl, hb1⟩
  go_wp2_with fail
  refine (Most_ok l r a2 n2 c2 z2 _ (w2.past hb1) HN.out).mono ?_
  rintro e x2 ⟨rfl, hb2⟩
  rw [← HMX.out]
  have hb02 : Below w.heap.size w x2 := hb1.trans (hb2.mono hb1.size)
  clear hb1 hb2
  go_wp2_with fail
  refine (in2_yes (l : Int) 0 6 _ (by omega) (by omega)).mono ?_
  rintro e y1 ⟨rfl, rfl⟩
  go_wp2_with fail
  refine (in2_yes (r : Int) 0 6 _ (by omega) (by omega)).mono ?_
  rintro e y1 ⟨rfl, rfl⟩
  go_wp2
  go_loop [11, 12] (fun pv iv => ∃ (k p : Nat), k ≤ l ∧ p ≤ 64 ∧ iv = .int .i64 (k : Int) ∧ pv = .int .i64 (p : Int) ∧ Hid (p = 2 ^ k)) (fun _ iv => l - (intOf iv).toNat)
  case atStart => exact ⟨0, 1, Nat.zero_le _, by omega, rfl, rfl, rfl⟩
  case round =>
    obtain ⟨k, p, hk, hp, rfl, rfl, HP⟩ := hrel
    by_cases hlt : k < l
    · have k2 : (k : Int) < (l : Int) := by omega
      have hp2 : Hid (2 * p = 2 ^ (k + 1)) := by show _ = _; rw [HP.out, Nat.pow_succ, Nat.mul_comm]
      have hp64 : 2 * p ≤ 64 := by rw [hp2.out]; exact Ma.pow_le (k + 1) (by omega)
      go_wp2
      go_round
      case rel => exact ⟨k + 1, 2 * p, by omega, hp64, by go_num, by go_num, hp2⟩
      case measure => simp [intOf]; omega
    · obtain rfl : k = l := by omega
      have hpN : p = N := by rw [HP.out, HNN.out]
      subst hpN
      clear HP
      go_wp2
      go_loopw [10, 13, 14, 15, 16, 17, 18] (fun lv sv _ _ _ _ _ wr => ∃ s : Nat, s ≤ p ∧ sv = .int .i64 (s : Int) ∧ lv = .int .i64 (Ma.lackTo G k r s) ∧ Below w.heap.size w wr) (fun _ sv _ _ _ _ _ _ => p - (intOf sv).toNat)
      case atStart => exact ⟨0, Nat.zero_le _, rfl, rfl, hb02⟩
      case round =>
        obtain ⟨s, hs, rfl, rfl, hbel⟩ := hrel
        by_cases hsp : s < p
        · have k3 : (s : Int) < (p : Int) := by omega
          obtain ⟨g, hg⟩ : ∃ g, g = wr.heap.size := ⟨_, rfl⟩
          have hwg : w.heap.size ≤ g := by rw [hg]; exact hbel.size
          have HGB := Lib.hid hg
          clear hg
          obtain ⟨lk, hlk⟩ : ∃ lk, lk = Ma.lackTo G k r s := ⟨_, rfl⟩
          have HLK : Hid (Ma.lackTo G k r (s + 1) = if lk < Ma.exc G k r s then Ma.exc G k r s else lk) := by show _ = _; rw [hlk]; rfl
          have hlk6 : 0 ≤ lk ∧ lk ≤ 6 := by rw [hlk]; exact HLB.out s
          rw [← hlk]
          clear hlk
          go_wp2_with (at_make; refine wpList_make_full _ rfl (.tmp 53) (.tmp 53) 38 rfl g 4 i0 (.bool false) 1 Try.underlying38 HI.out.1 HI.out.2.1 HI.out.2.2.1 .i64 .i64 _ _ r rfl rfl (by omega) (by omega) (by rw [HI.out.2.2.2]; omega) (by simp only [maxLen]; omega) (by rw [HGB.out]; exact Nat.le_refl _) ?_; intro w3 hown3 hg3; rw [← HGB.out] at hown3; rw [← HGB.out]; have hS3 := SeenAt.made hown3; rw [← Ma.mrk_none (G := G) r s] at hS3; have hbel3 : Below w.heap.size w w3 := hbel.grown hg3 hbel.size (fun _ e => by cases e); clear hown3 hg3)
          go_loopw [14, 16, 17, 18] (fun zv rv iv _ wv => ∃ (i z x : Nat), i ≤ k ∧ z ≤ i ∧ x ≤ 64 ∧ iv = .int .i64 (i : Int) ∧ zv = .int .i64 (z : Int) ∧ rv = .int .i64 (x : Int) ∧ Hid (z = Ma.cnt i (Ma.bit s)) ∧ Hid (x = s / 2 ^ i) ∧ SeenAt wv g r (Ma.mrk G r s i 0) ∧ Below w.heap.size w wv) (fun _ _ iv _ _ => k - (intOf iv).toNat)
          case atStart => exact ⟨0, 0, s, Nat.zero_le _, Nat.le_refl _, by omega, rfl, rfl, rfl, rfl, by show _ = _; simp, hS3, hbel3⟩
          case round =>
            clear hS3 hbel3 hbel
            obtain ⟨i, z, x, hik, hzi, hx64, rfl, rfl, rfl, HZ, HXX, hS, hbel⟩ := hrel
            by_cases hil : i < k
            · have k4 : (i : Int) < (k : Int) := by omega
              have hx2 : Hid (x / 2 = s / 2 ^ (i + 1)) := by show _ = _; rw [HXX.out, Nat.div_div_eq_div_mul, Nat.pow_succ]
              have hq : (x : Int).tdiv 2 = ((x / 2 : Nat) : Int) := rfl
              have hqw : IntKind.i64.wrap ((x : Int).tdiv 2) = ((x / 2 : Nat) : Int) := by rw [hq, IntKind.wrap_i64]; omega
              have hmod : (x : Int).tmod 2 = ((x % 2 : Nat) : Int) := rfl
              have hbit : Hid (Ma.bit s i = decide (x % 2 = 1)) := by show _ = _; unfold Ma.bit; rw [← HXX.out]
              obtain ⟨xi, hxi⟩ : ∃ xi : Int, xi = (x : Int) := ⟨_, rfl⟩
              rw [← hxi] at hqw hmod
              rw [← hxi]
              clear hq hxi
              by_cases hb1 : x % 2 = 1
              · have hb2 : Hid (Ma.bit s i = true) := by show _ = _; rw [hbit.out]; exact decide_eq_true hb1
                have hm1 : (xi.tmod 2 == 1) = true := by rw [hmod, hb1]; rfl
                have hz1 : Hid (z + 1 = Ma.cnt (i + 1) (Ma.bit s)) := by show _ = _; rw [Ma.cnt_succ, hb2.out, ← HZ.out]; rfl
                clear hbit hb1 hmod
                go_wp2
                go_loopw [18] (fun jv wv => ∃ b : Nat, b ≤ r ∧ jv = .int .i64 (b : Int) ∧ SeenAt wv g r (Ma.mrk G r s i b) ∧ Below w.heap.size w wv) (fun jv _ => r - (intOf jv).toNat)
                case atStart => exact ⟨0, Nat.zero_le _, rfl, hS, hbel⟩
                case round =>
                  clear hS hbel
                  obtain ⟨b, hbr, rfl, hS, hbel⟩ := hrel
                  by_cases hbl : b < r
                  · have k5 : (0 : Int) ≤ (b : Int) := by omega
                    have k6 : (b : Int) < (r : Int) := by omega
                    have c1 := hS.cell hbl
                    have f1 := World.ownsRow.frozenAt hS b
                    have hset := hS.set b true
                    have hset2 := hS.set b (G i b)
                    have hstep := Ma.mrk_step (G := G) (r := r) (s := s) (k := i) hbl hb2.out
                    rw [Ma.mrk_at s i b hbl, if_neg (by omega)] at c1
                    generalize Ma.nbr G i (Ma.bit s) b = t at c1 hstep
                    have hbel1 : Below w.heap.size w (wr.setCell ⟨g, b, none⟩ (.bool true)) := hbel.setCell (p := ⟨g, b, none⟩) hwg _
                    have hbel2 : Below w.heap.size w (wr.setCell ⟨g, b, none⟩ (.bool (G i b))) := hbel.setCell (p := ⟨g, b, none⟩) hwg _
                    cases t with
                    | true =>
                      rw [Bool.true_or] at hstep
                      have HN1 : SeenAt (wr.setCell ⟨g, b, none⟩ (.bool true)) g r (Ma.mrk G r s i (b + 1)) := by rw [← hstep]; exact hset.1
                      clear hstep hset hset2 hbel2 hS
                      go_wp2
                      go_roundw
                      case rel => exact ⟨b + 1, by omega, by go_num, HN1, hbel1⟩
                      case measure => simp [intOf]; omega
                    | false =>
                      rw [Bool.false_or] at hstep
                      have HN1 : SeenAt (wr.setCell ⟨g, b, none⟩ (.bool (G i b))) g r (Ma.mrk G r s i (b + 1)) := by rw [← hstep]; exact hset2.1
                      clear hstep hset hset2 hbel1 hS
                      have hgo := HGo.out i b
                      generalize G i b = t2 at HN1 hbel2 hgo
                      have HG2 := Lib.hid hgo
                      clear hgo
                      go_wp2_with fail
                      refine (RefL.Goes_any a2 n2 c2 z2 (i : Int) (b : Int) t2 _ (w2.past hbel) HG2.out).mono ?_
                      rintro e y1 ⟨rfl, rfl⟩
                      go_wp2
                      go_roundw
                      case rel => exact ⟨b + 1, by omega, by go_num, HN1, hbel2⟩
                      case measure => simp [intOf]; omega
                  · obtain rfl : b = r := by omega
                    rw [Ma.mrk_all] at hS
                    go_wp2
                    go_roundw
                    case rel => exact ⟨i + 1, z + 1, x / 2, by omega, by omega, by omega, by go_num, by go_num, rfl, hz1, hx2, hS, hbel⟩
                    case measure => simp [intOf]; omega
              · have hb2 : Hid (Ma.bit s i = false) := by show _ = _; rw [hbit.out]; exact decide_eq_false hb1
                have hm1 : (xi.tmod 2 == 1) = false := by rw [hmod]; simp; omega
                have hz1 : Hid (z = Ma.cnt (i + 1) (Ma.bit s)) := by show _ = _; rw [Ma.cnt_succ, hb2.out, ← HZ.out]; rfl
                have HS1 : SeenAt wr g r (Ma.mrk G r s (i + 1) 0) := by rw [Ma.mrk_skip hb2.out]; exact hS
                clear hbit hb1 hmod hS
                go_wp2
                go_roundw
                case rel => exact ⟨i + 1, z, x / 2, by omega, by omega, by omega, by go_num, rfl, rfl, hz1, hx2, HS1, hbel⟩
                case measure => simp [intOf]; omega
            · obtain rfl : i = k := by omega
              have hms := Ma.mrk_miss (G := G) (l := i) (r := r) s
              have hex : Hid (Ma.exc G i r s = (z : Int) - (Ma.cnt r (Ma.nbr G i (Ma.bit s)) : Int)) := by show _ = _; unfold Ma.exc; rw [← HZ.out]
              have HMs := Lib.hid (Misses_any g r hr6 (Ma.mrk G r s i 0))
              generalize ((Ma.mrk G r s i 0).countP fun b => !b) = ms at hms HMs
              have hexI : Ma.exc G i r s = (z : Int) - (r : Int) + (ms : Int) := by rw [hex.out]; omega
              have hms6 : ms ≤ 6 := by omega
              obtain ⟨ex, hexx⟩ : ∃ ex, ex = Ma.exc G i r s := ⟨_, rfl⟩
              rw [← hexx] at HLK hexI
              have hz6 : z ≤ 6 := by omega
              have s1 : IntKind.i64.wrap ((z : Int) - (r : Int)) = (z : Int) - (r : Int) := by rw [IntKind.wrap_i64]; omega
              have s2 : IntKind.i64.wrap ((z : Int) - (r : Int) + (ms : Int)) = (z : Int) - (r : Int) + (ms : Int) := by rw [IntKind.wrap_i64]; omega
              have HEX := Lib.hid hexI
              clear hex hms hexx hexI HZ HXX
              by_cases hgt : lk < ex
              · have q1 : lk < (z : Int) - (r : Int) + (ms : Int) := by rw [← HEX.out]; exact hgt
                have hnx : Hid (Ma.lackTo G i r (s + 1) = (z : Int) - (r : Int) + (ms : Int)) := by show _ = _; rw [HLK.out, if_pos hgt, HEX.out]
                clear hgt
                go_wp2_with fail
                refine (HMs.out _ hS).mono ?_
                rintro e y1 ⟨rfl, rfl⟩
                go_wp2_with fail
                refine (HMs.out _ hS).mono ?_
                rintro e y1 ⟨rfl, rfl⟩
                go_wp2
                go_roundw
                case rel => exact ⟨s + 1, by omega, by go_num, by rw [hnx.out], hbel⟩
                case measure => simp [intOf]; omega
              · have q1 : ¬ lk < (z : Int) - (r : Int) + (ms : Int) := by rw [← HEX.out]; exact hgt
                have q2 : (z : Int) - (r : Int) + (ms : Int) ≤ lk := by omega
                have hnx : Hid (Ma.lackTo G i r (s + 1) = lk) := by show _ = _; rw [HLK.out, if_neg hgt]
                clear hgt q1
                go_wp2_with fail
                refine (HMs.out _ hS).mono ?_
                rintro e y1 ⟨rfl, rfl⟩
                go_wp2
                go_roundw
                case rel => exact ⟨s + 1, by omega, by go_num, by rw [hnx.out], hbel⟩
                case measure => simp [intOf]; omega
        · obtain rfl : s = p := by omega
          have hla : Ma.lackTo G k r s = (k : Int) - (mx : Int) := by rw [HNN.out]; exact HLA.out
          rw [hla]
          have s1 : IntKind.i64.wrap ((k : Int) - ((k : Int) - (mx : Int))) = (mx : Int) := by rw [IntKind.wrap_i64]; omega
          have s2 : (k : Int) - ((k : Int) - (mx : Int)) = (mx : Int) := by omega
          have s3 : IntKind.i64.wrap (mx : Int) = (mx : Int) := by rw [IntKind.wrap_i64]; omega
          clear hla
          go_wp2
          go_ret
          exact ⟨by simp, hbel⟩

theorem walk (w : World) (a0 : Int) (_w0 : (Lit.int .i64 a0).wf = true) (a1 : Int) (_w1 : (Lit.int .i64 a1).wf = true) (a2 : Option Addr) (n2 c2 : Nat) (z2 : List Gr.Ln) (w2 : RdP w w.heap.size a2 n2 c2 z2) :
    Calls Try.prog 4 #[.int .i64 a0, .int .i64 a1, .slice a2 n2 c2] w fun e w' => e = .returned (.bool true) ∧ Below w.heap.size w w' := by
  by_cases hc : Ma.code a0 a1 z2 = 0
  · obtain ⟨l, r, rfl, rfl, _, _⟩ := Ma.code_nat hc
    exact good w l r a2 n2 c2 z2 w2 hc
  · exact bad w a0 a1 a2 n2 c2 z2 w2 hc

end Go.Proofs.Ytbegepdeaeplgaa.matchHall
