/-
  The walk of the law CutsSays: for every number of points and lines it returns true, where the library's variable errors.errorType holds what its initialiser lays.
-/
import Derived.Test.YtehkkpkhpbbpnaaDoorCutsE
import Derived.Test.YtehkkpkhpbbpnaaDoorTold
import Derived.Test.YtehkkpkhpbbpnaaDoorRefL
import Derived.Test.YtehkkpkhpbbpnaaDoorRefY
import Derived.Test.YtehkkpkhpbbpnaaDoorDeepK
namespace Go.Proofs.YtehkkpkhpbbpnaaDoor.cutsSays
open Go.RowKit
set_option linter.unusedSimpArgs false
set_option linter.unusedVariables false

theorem Err_same (k : Int) (w : World) (het : tld.EtIs w) : Calls Tryd.prog 9 #[errv k, .int .i64 k] w fun e w' => e = .returned (.bool true) ∧ Below w.heap.size w w' :=
  (Error_err k k w het).mono fun _ _ h => ⟨h.1.trans (by simp), h.2⟩
theorem Err_ok (w : World) : Calls Tryd.prog 9 #[.nilIface, .int .i64 0] w fun e w' => e = .returned (.bool true) ∧ w = w' :=
  (Error_nil 0 w).mono fun _ _ h => ⟨h.1.trans (by simp), h.2⟩

/-! ### by trying all -/
def fAt (m : Nat) (R : Nat → List Nat) (v a b : Nat) : Bool := !decide (a = v) && (!decide (b = v) && (Wa.rch m R a b && !Wa.rch m (Dp.rmv R v) a b))
def anyTo (m : Nat) (R : Nat → List Nat) (v a b : Nat) : Bool := ((List.range a).any fun a => (List.range m).any fun b => fAt m R v a b) || (List.range b).any fun b => fAt m R v a b
theorem anyTo_zero (m : Nat) (R : Nat → List Nat) (v : Nat) : anyTo m R v 0 0 = false := rfl
theorem anyTo_step (m : Nat) (R : Nat → List Nat) (v a b : Nat) : anyTo m R v a (b + 1) = (anyTo m R v a b || fAt m R v a b) := by
  unfold anyTo; rw [List.range_succ, List.any_append, Bool.or_assoc]; simp
theorem anyTo_row (m : Nat) (R : Nat → List Nat) (v a : Nat) : anyTo m R v a m = anyTo m R v (a + 1) 0 := by
  unfold anyTo; rw [List.range_succ, List.any_append]; simp
theorem anyTo_all (m : Nat) (R : Nat → List Nat) (v : Nat) : anyTo m R v m 0 = Dp.cutB m R v := by
  unfold anyTo Dp.cutB fAt; simp
theorem rch_dist (m : Nat) (R : Nat → List Nat) (a b : Nat) : Wa.rch m R a b = decide (0 ≤ Wa.dist m R a b) := rfl
/-- the points up to v -/
def cpTo (m : Nat) (R : Nat → List Nat) (v : Nat) : List Int := upL ((List.range v).filter (Dp.cutB m R))
theorem cpTo_yes {m : Nat} {R : Nat → List Nat} {v : Nat} (h : Dp.cutB m R v = true) : cpTo m R (v + 1) = cpTo m R v ++ [(v : Int)] := by
  unfold cpTo; rw [List.range_succ, List.filter_append, ← upL_snoc]; simp [h]
theorem cpTo_no {m : Nat} {R : Nat → List Nat} {v : Nat} (h : Dp.cutB m R v = false) : cpTo m R (v + 1) = cpTo m R v := by
  unfold cpTo; rw [List.range_succ, List.filter_append]; simp [h]
theorem cpTo_len (m : Nat) (R : Nat → List Nat) (v : Nat) : (cpTo m R v).length ≤ v := by
  unfold cpTo; rw [upL_len]
  have := List.length_filter_le (Dp.cutB m R) (List.range v)
  simpa using this
theorem cpTo_all (m : Nat) (R : Nat → List Nat) : cpTo m R m = upL (Dp.cpts m R) := rfl

set_option maxRecDepth 100000 in
set_option maxHeartbeats 1000000 in
/-- something is wrong with the lines -/
theorem bad (w : World) (het : tld.EtIs w) (a0 : Int) (a1 : Option Addr) (n1 c1 : Nat) (z1 : List Gr.Ln) (w1 : RdP w w.heap.size a1 n1 c1 z1) (k : Int) (hk : Gr.code a0 z1 = k) (hc : k ≠ 0) :
    Calls Tryd.prog 3 #[.int .i64 a0, .slice a1 n1 c1] w fun e w' => e = .returned (.bool true) ∧ Below w.heap.size w w' := by
  have HK := Lib.hid hk
  have HN : Hid (Gr.code a0 z1 ≠ 0) := by show _; rw [hk]; exact hc
  have d1 : (k == 0) = false := by simpa using hc
  clear hk hc
  go_enter Tryd.func3, Tryd.ntmps3
  go_wp2_with fail
  refine (RefL.Lines_any a0 a1 n1 c1 z1 _ w1).mono ?_
  rw [HK.out]
  rintro e x1 ⟨rfl, b1⟩
  go_wp2
  go_loopw [6, 7, 8] (fun pv lv iv wr => pv = .slice none 0 0 ∧ lv = .slice none 0 0 ∧ iv = .int .i64 0 ∧ wr = x1) (fun _ _ _ _ => 0)
  case atStart => exact ⟨rfl, rfl, rfl, rfl⟩
  case round =>
    obtain ⟨rfl, rfl, rfl, rfl⟩ := hrel
    by_cases hn : (0 : Int) < a0
    all_goals
      go_wp2_with fail
      refine (Points_err a0 a1 n1 c1 z1 _ (w1.past b1) HN.out).mono ?_
      rw [HK.out]
      rintro e x2 ⟨rfl, b2⟩
      have b02 := b1.trans (b2.mono b1.size)
      go_wp2_with fail
      refine (Err_same k _ (het.below b02)).mono ?_
      rintro e x3 ⟨rfl, b3⟩
      have b03 := b02.trans (b3.mono b02.size)
      go_wp2_with fail
      refine (Ints_t none none 0 0 0 0 [] [] true _ (Rd.nil _ _) (Rd.nil _ _) rfl).mono ?_
      rintro e x4 ⟨rfl, b4⟩
      have b04 := b03.trans (b4.mono b03.size)
      go_wp2_with fail
      refine (Bridges_err a0 a1 n1 c1 z1 _ (w1.past b04) HN.out).mono ?_
      rw [HK.out]
      rintro e x5 ⟨rfl, b5⟩
      have b05 := b04.trans (b5.mono b04.size)
      go_wp2_with fail
      refine (Err_same k _ (het.below b05)).mono ?_
      rintro e x6 ⟨rfl, b6⟩
      have b06 := b05.trans (b6.mono b05.size)
      go_wp2_with fail
      refine (Lines_any none none 0 0 0 0 [] [] true _ (RdP.nil _ _) (RdP.nil _ _) rfl).mono ?_
      rintro e x7 ⟨rfl, b7⟩
      have b07 := b06.trans (b7.mono b06.size)
      go_wp2
      go_ret
      exact ⟨rfl, b07⟩

set_option maxRecDepth 100000 in
set_option maxHeartbeats 2000000 in
/-- nothing is wrong with the lines -/
theorem good (w : World) (het : tld.EtIs w) (m : Nat) (a1 : Option Addr) (n1 c1 : Nat) (z1 : List Gr.Ln) (w1 : RdP w w.heap.size a1 n1 c1 z1) (h0 : Gr.code (m : Int) z1 = 0) :
    Calls Tryd.prog 3 #[.int .i64 (m : Int), .slice a1 n1 c1] w fun e w' => e = .returned (.bool true) ∧ Below w.heap.size w w' := by
  have hm8 : m ≤ 8 := by have := (Gr.code_zero.1 h0).2.1; omega
  have hm1 : 1 ≤ m := by have := (Gr.code_zero.1 h0).1; omega
  have hl24 : n1 ≤ 24 := by have := (Gr.code_zero.1 h0).2.2.1; have := w1.len; omega
  have H0 := Lib.hid h0
  have HL := Lib.hid w1.len
  have hcap := w1.le
  have hcap2 := w1.cap
  clear h0
  go_enter Tryd.func3, Tryd.ntmps3
  go_wp2_with fail
  refine (RefL.Lines_any (m : Int) a1 n1 c1 z1 _ w1).mono ?_
  rw [H0.out]
  rintro e x1 ⟨rfl, b1⟩
  have hr1 := w1.past b1
  clear w1
  go_wp2
  go_loopw [6, 7, 8] (fun pv lv iv wr => ∃ i : Nat, i ≤ m ∧ iv = .int .i64 (i : Int) ∧ Own wr x1.heap.size 3 pv (cpTo m (Wa.nrow m z1) i) ∧ OwnP wr x1.heap.size 30 lv (Dp.lawTo m z1 i (i + 1)) ∧ Below x1.heap.size x1 wr) (fun _ _ iv _ => m - (intOf iv).toNat)
  case atStart => exact ⟨0, Nat.zero_le _, rfl, Own.nil _ _ _, by rw [Dp.lawTo_start]; exact OwnP.nil _ _ _, Below.refl _ _⟩
  case round =>
    obtain ⟨i, hi, rfl, hP, hQ, hbel⟩ := hrel
    by_cases hlt : i < m
    · have ki1 : (0 : Int) ≤ (i : Int) := by omega
      have ki2 : (i : Int) < (m : Int) := by omega
      obtain ⟨W, hW⟩ : ∃ W, W = wr := ⟨_, rfl⟩
      subst hW
      have hrW := hr1.past hbel
      go_wp2_with fail
      refine (RefF.Far_either m a1 n1 c1 z1 _ hrW hm1 hm8).mono ?_
      rintro e y1 ⟨gb, cb, rfl, hd1, bb1⟩
      have hry1 := hrW.past bb1
      go_wp2_with fail
      refine (RefF.Far_over m a1 n1 c1 z1 i _ hry1 hm1 hm8).mono ?_
      rintro e y2 ⟨gb', cb', rfl, hd2, bb2⟩
      have hd12 := hd1.past bb2
      have HCELL : Hid (∀ a b, a < m → b < m → ∃ g o c g' o' c', y2.cell? ⟨gb, a, none⟩ = some (.slice (some ⟨g, o, none⟩) m c) ∧ y2.cell? ⟨g, o + b, none⟩ = some (.int .i64 (Wa.dist m (Wa.nrow m z1) a b)) ∧ y2.cell? ⟨gb', a, none⟩ = some (.slice (some ⟨g', o', none⟩) m c') ∧ y2.cell? ⟨g', o' + b, none⟩ = some (.int .i64 (Wa.dist m (Dp.rmv (Wa.nrow m z1) i) a b))) := fun a b ha hb => by
        obtain ⟨g, o, c, h1, h2⟩ := RefF.far_cell hd12 ha hb
        obtain ⟨g', o', c', h3, h4⟩ := RefF.far_cell hd2 ha hb
        exact ⟨g, o, c, g', o', c', h1, h2, h3, h4⟩
      have bW : Below W.heap.size W y2 := bb1.trans (bb2.mono bb1.size)
      have hP2 := hP.below bW
      have hQ2 := hQ.below bW
      have hbel2 : Below x1.heap.size x1 y2 := hbel.trans (bW.mono hbel.size)
      have HP2 := Lib.hid hP2
      have HQ2 := Lib.hid hQ2
      clear hP hQ hd1 hd2 hd12 bb1 bb2 hry1 hrW bW hP2 hQ2
      go_wp2
      go_loop [11, 12] (fun hv av => ∃ (a : Nat) (h : Bool), a ≤ m ∧ av = .int .i64 (a : Int) ∧ hv = .bool h ∧ Hid (h = anyTo m (Wa.nrow m z1) i a 0)) (fun _ av => m - (intOf av).toNat)
      case atStart => exact ⟨0, false, Nat.zero_le _, rfl, rfl, rfl⟩
      case round =>
        obtain ⟨a, h9, ha, rfl, rfl, HH9⟩ := hrel
        by_cases hla : a < m
        · have ka1 : (0 : Int) ≤ (a : Int) := by omega
          have ka2 : (a : Int) < (m : Int) := by omega
          go_wp2
          go_loop [11, 13] (fun hv bv => ∃ (b : Nat) (h : Bool), b ≤ m ∧ bv = .int .i64 (b : Int) ∧ hv = .bool h ∧ Hid (h = anyTo m (Wa.nrow m z1) i a b)) (fun _ bv => m - (intOf bv).toNat)
          case atStart => exact ⟨0, h9, Nat.zero_le _, rfl, rfl, HH9⟩
          case round =>
            obtain ⟨b, h, hb, rfl, rfl, HH⟩ := hrel
            by_cases hlb : b < m
            · have kb1 : (0 : Int) ≤ (b : Int) := by omega
              have kb2 : (b : Int) < (m : Int) := by omega
              obtain ⟨g, o, c, g', o', c', q1, q2, q3, q4⟩ := HCELL.out a b hla hlb
              have hst : Hid (anyTo m (Wa.nrow m z1) i a (b + 1) = (h || (!decide (a = i) && (!decide (b = i) && (decide (0 ≤ Wa.dist m (Wa.nrow m z1) a b) && !decide (0 ≤ Wa.dist m (Dp.rmv (Wa.nrow m z1) i) a b)))))) := by
                show _ = _
                rw [anyTo_step, HH.out]
                rfl
              generalize Wa.dist m (Wa.nrow m z1) a b = d1 at q2 hst
              generalize Wa.dist m (Dp.rmv (Wa.nrow m z1) i) a b = d2 at q4 hst
              cases h
              · by_cases e1 : a = i
                · have R : Hid (false = anyTo m (Wa.nrow m z1) i a (b + 1)) := by show _ = _; rw [hst.out]; simp [e1]
                  have f1 : ((a : Int) == (i : Int)) = true := by simp; omega
                  have f2 : ((a : Int) != (i : Int)) = false := by simp; omega
                  have f3 : (a == i) = true := by simp; omega
                  have f4 : (a != i) = false := by simp; omega
                  have f5 : decide (a = i) = true := by simp; omega
                  have E1 := Lib.hid e1
                  clear e1
                  go_wp2
                  go_round
                  case rel => exact ⟨b + 1, false, by omega, by go_num, rfl, R⟩
                  case measure => simp [intOf]; omega
                · have f1 : ((a : Int) == (i : Int)) = false := by simp; omega
                  have f2 : ((a : Int) != (i : Int)) = true := by simp; omega
                  have f3 : (a == i) = false := by simp; omega
                  have f4 : (a != i) = true := by simp; omega
                  have f5 : decide (a = i) = false := by simp; omega
                  by_cases e2 : b = i
                  · have R : Hid (false = anyTo m (Wa.nrow m z1) i a (b + 1)) := by show _ = _; rw [hst.out]; simp [e2]
                    have g1 : ((b : Int) == (i : Int)) = true := by simp; omega
                    have g2 : ((b : Int) != (i : Int)) = false := by simp; omega
                    have g3 : (b == i) = true := by simp; omega
                    have g4 : (b != i) = false := by simp; omega
                    have g5 : decide (b = i) = true := by simp; omega
                    have E1 := Lib.hid e1
                    have E2 := Lib.hid e2
                    clear e1 e2
                    go_wp2
                    go_round
                    case rel => exact ⟨b + 1, false, by omega, by go_num, rfl, R⟩
                    case measure => simp [intOf]; omega
                  · have g1 : ((b : Int) == (i : Int)) = false := by simp; omega
                    have g2 : ((b : Int) != (i : Int)) = true := by simp; omega
                    have g3 : (b == i) = false := by simp; omega
                    have g4 : (b != i) = true := by simp; omega
                    have g5 : decide (b = i) = false := by simp; omega
                    by_cases e3 : 0 ≤ d1
                    · by_cases e4 : d2 < 0
                      · have R : Hid (true = anyTo m (Wa.nrow m z1) i a (b + 1)) := by
                          show _ = _
                          have : ¬ 0 ≤ d2 := by omega
                          rw [hst.out]; simp [e1, e2, e3, this]
                        have E1 := Lib.hid e1
                        have E2 := Lib.hid e2
                        clear e1 e2
                        go_wp2
                        go_round
                        case rel => exact ⟨b + 1, true, by omega, by go_num, rfl, R⟩
                        case measure => simp [intOf]; omega
                      · have R : Hid (false = anyTo m (Wa.nrow m z1) i a (b + 1)) := by
                          show _ = _
                          have : 0 ≤ d2 := by omega
                          rw [hst.out]; simp [e1, e2, e3, this]
                        have E1 := Lib.hid e1
                        have E2 := Lib.hid e2
                        clear e1 e2
                        go_wp2
                        go_round
                        case rel => exact ⟨b + 1, false, by omega, by go_num, rfl, R⟩
                        case measure => simp [intOf]; omega
                    · have R : Hid (false = anyTo m (Wa.nrow m z1) i a (b + 1)) := by show _ = _; rw [hst.out]; simp [e1, e2, e3]
                      have E1 := Lib.hid e1
                      have E2 := Lib.hid e2
                      clear e1 e2
                      go_wp2
                      go_round
                      case rel => exact ⟨b + 1, false, by omega, by go_num, rfl, R⟩
                      case measure => simp [intOf]; omega
              · have R : Hid (true = anyTo m (Wa.nrow m z1) i a (b + 1)) := by show _ = _; rw [hst.out]; simp
                go_wp2
                go_round
                case rel => exact ⟨b + 1, true, by omega, by go_num, rfl, R⟩
                case measure => simp [intOf]; omega
            · obtain rfl : b = m := by omega
              have R : Hid (h = anyTo b (Wa.nrow b z1) i (a + 1) 0) := by show _ = _; rw [← anyTo_row]; exact HH.out
              go_wp2
              go_round
              case rel => exact ⟨a + 1, h, by omega, by go_num, rfl, R⟩
              case measure => simp [intOf]; omega
        · obtain rfl : a = m := by omega
          have hB : Hid (h9 = Dp.cutB a (Wa.nrow a z1) i) := by show _ = _; rw [← anyTo_all]; exact HH9.out
          have kw1 : IntKind.i64.wrap ((i : Int) + 1) = ((i + 1 : Nat) : Int) := by rw [IntKind.wrap_i64]; omega
          have hcl := cpTo_len a (Wa.nrow a z1) i
          cases h9
          · have hnext : Hid (cpTo a (Wa.nrow a z1) (i + 1) = cpTo a (Wa.nrow a z1) i) := cpTo_no hB.out.symm
            go_wp2
            go_loopw [7, 14] (fun lv jv wr => ∃ j : Nat, i + 1 ≤ j ∧ j ≤ a ∧ jv = .int .i64 (j : Int) ∧ OwnP wr x1.heap.size 30 lv (Dp.lawTo a z1 i j) ∧ Own wr x1.heap.size 3 u6 (cpTo a (Wa.nrow a z1) (i + 1)) ∧ Below x1.heap.size x1 wr) (fun _ jv _ => a - (intOf jv).toNat)
            case atStart => exact ⟨i + 1, Nat.le_refl _, by omega, by go_num, HQ2.out, by rw [hnext.out]; exact HP2.out, hbel2⟩
            case round =>
              obtain ⟨j, hij, hj, rfl, hQ4, hP4, hbel4⟩ := hrel
              by_cases hlj : j < a
              · have kj1 : (0 : Int) ≤ (j : Int) := by omega
                have kj2 : (j : Int) < (a : Int) := by omega
                obtain ⟨W4, hW4⟩ : ∃ W4, W4 = wr := ⟨_, rfl⟩
                subst hW4
                go_wp2
                go_loopw [7, 15] (fun lv kv wr => ∃ k : Nat, k ≤ n1 ∧ kv = .int .i64 (k : Int) ∧ OwnP wr x1.heap.size 30 lv (Dp.lawAt a z1 i j k) ∧ Own wr x1.heap.size 3 u6 (cpTo a (Wa.nrow a z1) (i + 1)) ∧ Below x1.heap.size x1 wr) (fun _ kv _ => n1 - (intOf kv).toNat)
                case atStart => exact ⟨0, Nat.zero_le _, rfl, by rw [Dp.lawAt_zero]; exact hQ4, hP4, hbel4⟩
                case round =>
                  obtain ⟨k, hk, rfl, hQ5, hP5, hbel5⟩ := hrel
                  by_cases hlk : k < n1
                  · have kk1 : (0 : Int) ≤ (k : Int) := by omega
                    have kk2 : (k : Int) < (n1 : Int) := by omega
                    have kk3 : (k : Int) + 1 ≤ (c1 : Int) := by omega
                    have kw : IntKind.i64.wrap ((k : Int) + 1) = (k : Int) + 1 := by rw [IntKind.wrap_i64]; omega
                    have hr5 := hr1.past hbel5
                    obtain ⟨bb, oo, rfl, hbw, hcc⟩ := hr5.at_ (by omega)
                    obtain ⟨q1, q2⟩ := hcc k hlk
                    clear hcc
                    have hkl : k < z1.length := by rw [HL.out]; exact hlk
                    obtain ⟨x, y, hxy, hx, hy, hne, _⟩ := Dp.line_of H0.out hkl
                    rw [hxy] at q1 q2
                    have q1 : wr.cell? ⟨bb, oo + k * 2, none⟩ = some (.int .i64 (x : Int)) := q1
                    have q2 : wr.cell? ⟨bb, oo + k * 2 + 1, none⟩ = some (.int .i64 (y : Int)) := q2
                    have hone : RdP wr wr.heap.size (some ⟨bb, oo + k * 2, none⟩) 1 (c1 - k) [((x : Int), (y : Int))] := by
                      refine ⟨rfl, by omega, by omega, fun h => (by cases h), fun _ => ⟨bb, oo + k * 2, rfl, hbw, fun t ht => ?_⟩⟩
                      obtain rfl : t = 0 := by omega
                      rw [Nat.zero_mul, Nat.add_zero]
                      exact ⟨q1, q2⟩
                    have hhit : Hid (Dp.jn (i : Int) (j : Int) ((x : Int), (y : Int)) = true → Dp.brB a z1 i j = true → Dp.lawAt a z1 i j (k + 1) = Dp.lawAt a z1 i j k ++ [((i : Int), (j : Int))]) := fun h1 h2 => Dp.lawAt_hit hkl (by rw [hxy]; exact h1) h2
                    have hmiss : Hid (Dp.jn (i : Int) (j : Int) ((x : Int), (y : Int)) = false ∨ Dp.brB a z1 i j = false → Dp.lawAt a z1 i j (k + 1) = Dp.lawAt a z1 i j k) := fun h => Dp.lawAt_miss hkl (by rw [hxy]; exact h)
                    have hbut : Hid (Dp.jn (i : Int) (j : Int) ((x : Int), (y : Int)) = true → (!decide (0 ≤ Wa.dist a (Wa.nrow a (z1.eraseIdx k)) i j)) = Dp.brB a z1 i j) := fun h1 => Dp.but_rch H0.out hlt hlj hkl (by rw [hxy]; exact h1)
                    have hlen5 : Hid ((Dp.lawAt a z1 i j k).length ≤ 88) := by
                      show _ ≤ _
                      have := Dp.lawAt_len (m := a) (ls := z1) (i := i) (j := j) (k := k) hlt hlj
                      have : a * a ≤ 8 * 8 := Nat.mul_le_mul hm8 hm8
                      have := HL.out
                      omega
                    have HXY := Lib.hid hxy
                    have HKL := Lib.hid hkl
                    clear hxy hkl
                    cases hjn : Dp.jn (i : Int) (j : Int) ((x : Int), (y : Int))
                    · have hbt := RefF.Between_one _ (c1 - k) (x : Int) (y : Int) (i : Int) (j : Int) wr hone
                      rw [if_neg (by rw [hjn]; simp)] at hbt
                      have HBT := Lib.hid hbt
                      have hnx := Lib.hid (hmiss.out (.inl hjn))
                      clear hbt hjn
                      go_wp2_with fail
                      refine HBT.out.mono ?_
                      rintro e _ ⟨rfl, rfl⟩
                      go_wp2
                      go_roundw
                      case rel => exact ⟨k + 1, by omega, by go_num, by rw [hnx.out]; exact hQ5, hP5, hbel5⟩
                      case measure => simp [intOf]; omega
                    · have hbt := RefF.Between_one _ (c1 - k) (x : Int) (y : Int) (i : Int) (j : Int) wr hone
                      rw [if_pos hjn] at hbt
                      have HBT := Lib.hid hbt
                      have hbB := Lib.hid (hbut.out hjn)
                      have hhB := Lib.hid (hhit.out hjn)
                      clear hbt hjn hbut hhit
                      go_wp2_with fail
                      refine HBT.out.mono ?_
                      rintro e _ ⟨rfl, rfl⟩
                      go_wp2_with fail
                      refine (But_any _ n1 c1 k z1 _ hr5 (by omega)).mono ?_
                      rintro e y5 ⟨v5, rfl, o5, bb5⟩
                      obtain ⟨A5, e5, rfl, r5⟩ := o5.rd
                      obtain ⟨n5, hn5⟩ : ∃ n5, n5 = (z1.eraseIdx k).length := ⟨_, rfl⟩
                      rw [← hn5] at r5 ⊢
                      clear hn5 o5
                      go_wp2_with fail
                      refine (RefF.Far_either a A5 n5 e5 (z1.eraseIdx k) _ r5 hm1 hm8).mono ?_
                      rintro e y6 ⟨gb6, cb6, rfl, hd6, bb6⟩
                      obtain ⟨g6, o6, c6, t1, t2⟩ := RefF.far_cell hd6 hlt hlj
                      generalize Wa.dist a (Wa.nrow a (z1.eraseIdx k)) i j = d6 at t2 hbB
                      have b56 : Below wr.heap.size wr y6 := bb5.trans (bb6.mono bb5.size)
                      have hQ6 := hQ5.below b56
                      have hP6 := hP5.below b56
                      have hbel6 : Below x1.heap.size x1 y6 := hbel5.trans (b56.mono hbel5.size)
                      clear hQ5 hP5 r5 hd6 bb5 bb6 hone b56 HBT
                      by_cases e6 : d6 < 0
                      · have hbt : Dp.brB a z1 i j = true := by
                          rw [← hbB.out]
                          have : ¬ 0 ≤ d6 := by omega
                          simp [this]
                        have hnx := Lib.hid (hhB.out hbt)
                        clear hbt
                        have hl := hlen5.out
                        have hQ7 := hQ6.below ((Below.refl _ y6).alloc (Nat.le_refl _) (.cells #[.int .i64 (i : Int), .int .i64 (j : Int)] 30))
                        have hP7 := hP6.below ((Below.refl _ y6).alloc (Nat.le_refl _) (.cells #[.int .i64 (i : Int), .int .i64 (j : Int)] 30))
                        have hsz6 := hbel6.size
                        have hbel7 := hbel6.alloc hsz6 (.cells #[.int .i64 (i : Int), .int .i64 (j : Int)] 30)
                        go_wp2_with (at_builtin; refine wpList_appP _ rfl (.tmp 121) (.tmp 125) _ rfl x1.heap.size 30 Tryd.underlying22 lineInfo _ _ rfl hQ7 _ 1 1 [((i : Int), (j : Int))] rfl (RdP.one y6 _ _) (by omega) (by simp; omega) ?_; intro v8 w8 hown8 hg8 hat8)
                        have hb8 := below_appP hbel7 hQ7 hg8 (by simp; omega)
                        have hP8 := hP7.grown hg8 (fun k hk e => own_ne (by decide) hQ7 hP7 k e hk)
                        go_wp2
                        go_roundw
                        case rel => exact ⟨k + 1, by omega, by go_num, by rw [hnx.out]; exact hown8, hP8, hb8⟩
                        case measure => simp [intOf]; omega
                      · have hbt : Dp.brB a z1 i j = false := by
                          rw [← hbB.out]
                          have : 0 ≤ d6 := by omega
                          simp [this]
                        have hnx := Lib.hid (hmiss.out (.inr hbt))
                        clear hbt
                        go_wp2
                        go_roundw
                        case rel => exact ⟨k + 1, by omega, by go_num, by rw [hnx.out]; exact hQ6, hP6, hbel6⟩
                        case measure => simp [intOf]; omega
                  · obtain rfl : k = n1 := by omega
                    have hnx : Hid (Dp.lawAt a z1 i j k = Dp.lawTo a z1 i (j + 1)) := by
                      show _ = _
                      have := Dp.lawAt_end (m := a) (ls := z1) (i := i) (j := j) (by omega)
                      rw [HL.out] at this
                      exact this
                    go_wp2
                    go_roundw
                    case rel => exact ⟨j + 1, by omega, by omega, by go_num, by rw [← hnx.out]; exact hQ5, hP5, hbel5⟩
                    case measure => simp [intOf]; omega
              · obtain rfl : j = a := by omega
                have hnx := Lib.hid (Dp.lawTo_row j z1 i)
                go_wp2
                go_roundw
                case rel => exact ⟨i + 1, by omega, by go_num, hP4, by rw [← hnx.out]; exact hQ4, hbel4⟩
                case measure => simp [intOf]; omega
          · have hnext : Hid (cpTo a (Wa.nrow a z1) (i + 1) = cpTo a (Wa.nrow a z1) i ++ [(i : Int)]) := cpTo_yes hB.out.symm
            have hown2 := HP2.out.below ((Below.refl _ y2).alloc (Nat.le_refl _) (.cells #[.int .i64 (i : Int)] 3))
            have hQ2 := HQ2.out.below ((Below.refl _ y2).alloc (Nat.le_refl _) (.cells #[.int .i64 (i : Int)] 3))
            have hsz := hbel2.size
            have hbel3 := hbel2.alloc hsz (.cells #[.int .i64 (i : Int)] 3)
            go_wp2_with (at_builtin; refine wpList_app _ rfl (.tmp 81) (.tmp 83) _ rfl x1.heap.size 3 Tryd.underlying24 intInfo _ _ rfl hown2 _ 1 1 [(i : Int)] rfl (Rd.one y2 _ _) (by omega) (by simp; omega) ?_; intro v3 w3 hown3 hg3 hat3)
            have hb3 := below_app hbel3 hown2 hg3 (by simp; omega)
            have hQ3 := hQ2.grown hg3 (fun k hk e => own_ne (by decide) hown2 hQ2 k e hk)
            go_wp2
            go_loopw [7, 14] (fun lv jv wr => ∃ j : Nat, i + 1 ≤ j ∧ j ≤ a ∧ jv = .int .i64 (j : Int) ∧ OwnP wr x1.heap.size 30 lv (Dp.lawTo a z1 i j) ∧ Own wr x1.heap.size 3 v3 (cpTo a (Wa.nrow a z1) (i + 1)) ∧ Below x1.heap.size x1 wr) (fun _ jv _ => a - (intOf jv).toNat)
            case atStart => exact ⟨i + 1, Nat.le_refl _, by omega, by go_num, hQ3, by rw [hnext.out]; exact hown3, hb3⟩
            case round =>
              obtain ⟨j, hij, hj, rfl, hQ4, hP4, hbel4⟩ := hrel
              by_cases hlj : j < a
              · have kj1 : (0 : Int) ≤ (j : Int) := by omega
                have kj2 : (j : Int) < (a : Int) := by omega
                obtain ⟨W4, hW4⟩ : ∃ W4, W4 = wr := ⟨_, rfl⟩
                subst hW4
                go_wp2
                go_loopw [7, 15] (fun lv kv wr => ∃ k : Nat, k ≤ n1 ∧ kv = .int .i64 (k : Int) ∧ OwnP wr x1.heap.size 30 lv (Dp.lawAt a z1 i j k) ∧ Own wr x1.heap.size 3 v3 (cpTo a (Wa.nrow a z1) (i + 1)) ∧ Below x1.heap.size x1 wr) (fun _ kv _ => n1 - (intOf kv).toNat)
                case atStart => exact ⟨0, Nat.zero_le _, rfl, by rw [Dp.lawAt_zero]; exact hQ4, hP4, hbel4⟩
                case round =>
                  obtain ⟨k, hk, rfl, hQ5, hP5, hbel5⟩ := hrel
                  by_cases hlk : k < n1
                  · have kk1 : (0 : Int) ≤ (k : Int) := by omega
                    have kk2 : (k : Int) < (n1 : Int) := by omega
                    have kk3 : (k : Int) + 1 ≤ (c1 : Int) := by omega
                    have kw : IntKind.i64.wrap ((k : Int) + 1) = (k : Int) + 1 := by rw [IntKind.wrap_i64]; omega
                    have hr5 := hr1.past hbel5
                    obtain ⟨bb, oo, rfl, hbw, hcc⟩ := hr5.at_ (by omega)
                    obtain ⟨q1, q2⟩ := hcc k hlk
                    clear hcc
                    have hkl : k < z1.length := by rw [HL.out]; exact hlk
                    obtain ⟨x, y, hxy, hx, hy, hne, _⟩ := Dp.line_of H0.out hkl
                    rw [hxy] at q1 q2
                    have q1 : wr.cell? ⟨bb, oo + k * 2, none⟩ = some (.int .i64 (x : Int)) := q1
                    have q2 : wr.cell? ⟨bb, oo + k * 2 + 1, none⟩ = some (.int .i64 (y : Int)) := q2
                    have hone : RdP wr wr.heap.size (some ⟨bb, oo + k * 2, none⟩) 1 (c1 - k) [((x : Int), (y : Int))] := by
                      refine ⟨rfl, by omega, by omega, fun h => (by cases h), fun _ => ⟨bb, oo + k * 2, rfl, hbw, fun t ht => ?_⟩⟩
                      obtain rfl : t = 0 := by omega
                      rw [Nat.zero_mul, Nat.add_zero]
                      exact ⟨q1, q2⟩
                    have hhit : Hid (Dp.jn (i : Int) (j : Int) ((x : Int), (y : Int)) = true → Dp.brB a z1 i j = true → Dp.lawAt a z1 i j (k + 1) = Dp.lawAt a z1 i j k ++ [((i : Int), (j : Int))]) := fun h1 h2 => Dp.lawAt_hit hkl (by rw [hxy]; exact h1) h2
                    have hmiss : Hid (Dp.jn (i : Int) (j : Int) ((x : Int), (y : Int)) = false ∨ Dp.brB a z1 i j = false → Dp.lawAt a z1 i j (k + 1) = Dp.lawAt a z1 i j k) := fun h => Dp.lawAt_miss hkl (by rw [hxy]; exact h)
                    have hbut : Hid (Dp.jn (i : Int) (j : Int) ((x : Int), (y : Int)) = true → (!decide (0 ≤ Wa.dist a (Wa.nrow a (z1.eraseIdx k)) i j)) = Dp.brB a z1 i j) := fun h1 => Dp.but_rch H0.out hlt hlj hkl (by rw [hxy]; exact h1)
                    have hlen5 : Hid ((Dp.lawAt a z1 i j k).length ≤ 88) := by
                      show _ ≤ _
                      have := Dp.lawAt_len (m := a) (ls := z1) (i := i) (j := j) (k := k) hlt hlj
                      have : a * a ≤ 8 * 8 := Nat.mul_le_mul hm8 hm8
                      have := HL.out
                      omega
                    have HXY := Lib.hid hxy
                    have HKL := Lib.hid hkl
                    clear hxy hkl
                    cases hjn : Dp.jn (i : Int) (j : Int) ((x : Int), (y : Int))
                    · have hbt := RefF.Between_one _ (c1 - k) (x : Int) (y : Int) (i : Int) (j : Int) wr hone
                      rw [if_neg (by rw [hjn]; simp)] at hbt
                      have HBT := Lib.hid hbt
                      have hnx := Lib.hid (hmiss.out (.inl hjn))
                      clear hbt hjn
                      go_wp2_with fail
                      refine HBT.out.mono ?_
                      rintro e _ ⟨rfl, rfl⟩
                      go_wp2
                      go_roundw
                      case rel => exact ⟨k + 1, by omega, by go_num, by rw [hnx.out]; exact hQ5, hP5, hbel5⟩
                      case measure => simp [intOf]; omega
                    · have hbt := RefF.Between_one _ (c1 - k) (x : Int) (y : Int) (i : Int) (j : Int) wr hone
                      rw [if_pos hjn] at hbt
                      have HBT := Lib.hid hbt
                      have hbB := Lib.hid (hbut.out hjn)
                      have hhB := Lib.hid (hhit.out hjn)
                      clear hbt hjn hbut hhit
                      go_wp2_with fail
                      refine HBT.out.mono ?_
                      rintro e _ ⟨rfl, rfl⟩
                      go_wp2_with fail
                      refine (But_any _ n1 c1 k z1 _ hr5 (by omega)).mono ?_
                      rintro e y5 ⟨v5, rfl, o5, bb5⟩
                      obtain ⟨A5, e5, rfl, r5⟩ := o5.rd
                      obtain ⟨n5, hn5⟩ : ∃ n5, n5 = (z1.eraseIdx k).length := ⟨_, rfl⟩
                      rw [← hn5] at r5 ⊢
                      clear hn5 o5
                      go_wp2_with fail
                      refine (RefF.Far_either a A5 n5 e5 (z1.eraseIdx k) _ r5 hm1 hm8).mono ?_
                      rintro e y6 ⟨gb6, cb6, rfl, hd6, bb6⟩
                      obtain ⟨g6, o6, c6, t1, t2⟩ := RefF.far_cell hd6 hlt hlj
                      generalize Wa.dist a (Wa.nrow a (z1.eraseIdx k)) i j = d6 at t2 hbB
                      have b56 : Below wr.heap.size wr y6 := bb5.trans (bb6.mono bb5.size)
                      have hQ6 := hQ5.below b56
                      have hP6 := hP5.below b56
                      have hbel6 : Below x1.heap.size x1 y6 := hbel5.trans (b56.mono hbel5.size)
                      clear hQ5 hP5 r5 hd6 bb5 bb6 hone b56 HBT
                      by_cases e6 : d6 < 0
                      · have hbt : Dp.brB a z1 i j = true := by
                          rw [← hbB.out]
                          have : ¬ 0 ≤ d6 := by omega
                          simp [this]
                        have hnx := Lib.hid (hhB.out hbt)
                        clear hbt
                        have hl := hlen5.out
                        have hQ7 := hQ6.below ((Below.refl _ y6).alloc (Nat.le_refl _) (.cells #[.int .i64 (i : Int), .int .i64 (j : Int)] 30))
                        have hP7 := hP6.below ((Below.refl _ y6).alloc (Nat.le_refl _) (.cells #[.int .i64 (i : Int), .int .i64 (j : Int)] 30))
                        have hsz6 := hbel6.size
                        have hbel7 := hbel6.alloc hsz6 (.cells #[.int .i64 (i : Int), .int .i64 (j : Int)] 30)
                        go_wp2_with (at_builtin; refine wpList_appP _ rfl (.tmp 121) (.tmp 125) _ rfl x1.heap.size 30 Tryd.underlying22 lineInfo _ _ rfl hQ7 _ 1 1 [((i : Int), (j : Int))] rfl (RdP.one y6 _ _) (by omega) (by simp; omega) ?_; intro v8 w8 hown8 hg8 hat8)
                        have hb8 := below_appP hbel7 hQ7 hg8 (by simp; omega)
                        have hP8 := hP7.grown hg8 (fun k hk e => own_ne (by decide) hQ7 hP7 k e hk)
                        go_wp2
                        go_roundw
                        case rel => exact ⟨k + 1, by omega, by go_num, by rw [hnx.out]; exact hown8, hP8, hb8⟩
                        case measure => simp [intOf]; omega
                      · have hbt : Dp.brB a z1 i j = false := by
                          rw [← hbB.out]
                          have : 0 ≤ d6 := by omega
                          simp [this]
                        have hnx := Lib.hid (hmiss.out (.inr hbt))
                        clear hbt
                        go_wp2
                        go_roundw
                        case rel => exact ⟨k + 1, by omega, by go_num, by rw [hnx.out]; exact hQ6, hP6, hbel6⟩
                        case measure => simp [intOf]; omega
                  · obtain rfl : k = n1 := by omega
                    have hnx : Hid (Dp.lawAt a z1 i j k = Dp.lawTo a z1 i (j + 1)) := by
                      show _ = _
                      have := Dp.lawAt_end (m := a) (ls := z1) (i := i) (j := j) (by omega)
                      rw [HL.out] at this
                      exact this
                    go_wp2
                    go_roundw
                    case rel => exact ⟨j + 1, by omega, by omega, by go_num, by rw [← hnx.out]; exact hQ5, hP5, hbel5⟩
                    case measure => simp [intOf]; omega
              · obtain rfl : j = a := by omega
                have hnx := Lib.hid (Dp.lawTo_row j z1 i)
                go_wp2
                go_roundw
                case rel => exact ⟨i + 1, by omega, by go_num, hP4, by rw [← hnx.out]; exact hQ4, hbel4⟩
                case measure => simp [intOf]; omega
    · obtain rfl : i = m := by omega
      have hfin : Hid (Dp.lawTo i z1 i (i + 1) = Dp.brl i z1) := by
        show _ = _
        have h1 := Dp.lawTo_row i z1 (i - 1)
        rw [show i - 1 + 1 = i by omega, show i - 1 + 2 = i + 1 by omega] at h1
        rw [← h1]
        exact Dp.lawTo_done i z1 hm1
      rw [hfin.out] at hQ
      rw [cpTo_all] at hP
      obtain ⟨A6, c6, rfl, r6⟩ := hP.rd
      obtain ⟨A7, c7, rfl, r7⟩ := hQ.rd
      obtain ⟨n6, hn6⟩ : ∃ n6, n6 = (upL (Dp.cpts i (Wa.nrow i z1))).length := ⟨_, rfl⟩
      obtain ⟨n7, hn7⟩ : ∃ n7, n7 = (Dp.brl i z1).length := ⟨_, rfl⟩
      rw [← hn6] at r6 ⊢
      rw [← hn7] at r7 ⊢
      have hrW := hr1.past hbel
      clear hn6 hn7 hP hQ
      go_wp2_with fail
      refine (Points_rd i a1 n1 c1 z1 _ hrW H0.out).mono ?_
      rintro e x2 ⟨bb2, B2, n2, c2, rfl, _, s2⟩
      have b02 := hbel.trans (bb2.mono hbel.size)
      go_wp2_with fail
      refine (Err_ok _).mono ?_
      rintro e _ ⟨rfl, rfl⟩
      go_wp2_with fail
      refine (Ints_t B2 A6 n2 n6 c2 c6 _ _ true _ s2 (r6.past bb2) (by simp)).mono ?_
      rintro e x3 ⟨rfl, bb3⟩
      have b03 := b02.trans (bb3.mono b02.size)
      go_wp2_with fail
      refine (Bridges_rd i a1 n1 c1 z1 _ (hr1.past b03) H0.out).mono ?_
      rintro e x4 ⟨bb4, B4, n4, c4, rfl, _, s4⟩
      have b04 := b03.trans (bb4.mono b03.size)
      go_wp2_with fail
      refine (Err_ok _).mono ?_
      rintro e _ ⟨rfl, rfl⟩
      go_wp2_with fail
      refine (Lines_any B4 A7 n4 n7 c4 c7 _ _ true _ s4 (((r7.past bb2).past bb3).past bb4) (by simp)).mono ?_
      rintro e x5 ⟨rfl, bb5⟩
      have b05 := b04.trans (bb5.mono b04.size)
      go_wp2
      go_ret
      exact ⟨rfl, b1.trans (b05.mono b1.size)⟩

theorem walk (w : World) (het : tld.EtIs w) (a0 : Int) (_w0 : (Lit.int .i64 a0).wf = true) (a1 : Option Addr) (n1 c1 : Nat) (z1 : List Gr.Ln) (w1 : RdP w w.heap.size a1 n1 c1 z1) :
    Calls Tryd.prog 3 #[.int .i64 a0, .slice a1 n1 c1] w fun e w' => e = .returned (.bool true) ∧ Below w.heap.size w w' := by
  by_cases hc : Gr.code a0 z1 = 0
  · obtain ⟨m, rfl⟩ : ∃ m : Nat, a0 = (m : Int) := ⟨a0.toNat, by have := (Gr.code_zero.1 hc).1; omega⟩
    exact good w het m a1 n1 c1 z1 w1 hc
  · exact bad w het a0 a1 n1 c1 z1 w1 _ rfl hc

end Go.Proofs.YtehkkpkhpbbpnaaDoor.cutsSays
