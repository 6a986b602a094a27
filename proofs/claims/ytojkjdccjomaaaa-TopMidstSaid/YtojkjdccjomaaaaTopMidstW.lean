/-
  The walk of the law TopMidst: for every number of points, lines and two points it returns true.
-/
import Derived.Test.YtojkjdccjomaaaaCommonC
import Derived.Test.YtojkjdccjomaaaaTreeB
import Derived.Test.YtojkjdccjomaaaaMidstN
import Derived.BigQuiet
namespace Go.Proofs.Ytojkjdccjomaaaa.topMidst
open Go.RowKit
set_option linter.unusedSimpArgs false
set_option linter.unusedVariables false

theorem mfact1 : Tr.tcode 2 [(0, 1)] = 0 := by kernel_rfl
theorem mfact2 : Tr.mx (Tr.ecc 2 (Tr.far 2 [(0, 1)])) 2 = 1 := by kernel_rfl
theorem Long_f (A : Option Addr) (c : Nat) (w : World) (hr : RdP w w.heap.size A 1 c [(0, 1)]) :
    Calls Try.prog 17 #[.int .i64 2, .slice A 1 c] w fun e w' => e = .returned (.tuple #[.int .i64 1, .nilIface]) ∧ Below w.heap.size w w' := by
  refine (Long_ok 2 A 1 c _ w hr mfact1).mono ?_
  rintro e w1 ⟨rfl, hb⟩
  rw [mfact2]
  exact ⟨rfl, hb⟩

set_option maxHeartbeats 1000000 in
theorem bad (w : World) (a0 : Int) (a1 : Option Addr) (n1 c1 : Nat) (z1 : List Gr.Ln) (w1 : RdP w w.heap.size a1 n1 c1 z1) (a2 a3 : Int) (hc : Tr.tcode a0 z1 ≠ 0) :
    Calls Try.prog 6 #[.int .i64 a0, .slice a1 n1 c1, .int .i64 a2, .int .i64 a3] w fun e w' => e = .returned (.bool true) ∧ Below w.heap.size w w' := by
  have H := Lib.hid hc
  clear hc
  go_enter Try.func6, Try.ntmps6
  go_wp2_with fail
  refine (Long_bad a0 a1 n1 c1 z1 _ w1 H.out).mono ?_
  rintro e x1 ⟨rfl, b1⟩
  obtain ⟨x2, hx2⟩ : ∃ x2, x2 = x1.alloc (.cells #[.int .i64 0, .int .i64 1] 41) := ⟨_, rfl⟩
  have hbx : Below x1.heap.size x1 x2 := by rw [hx2]; exact (Below.refl _ _).alloc (Nat.le_refl _) _
  have r2 : RdP x2 x2.heap.size (some ⟨x1.heap.size, 0, none⟩) 1 1 [(0, 1)] := by rw [hx2]; exact (RdP.one x1 (0, 1) _).more (by simp)
  have HX2 := Lib.hid hx2
  clear hx2
  go_wp2_with fail
  rw [← HX2.out]
  clear HX2
  refine (Long_f _ _ _ r2).mono ?_
  rintro e x3 ⟨rfl, b3⟩
  go_wp2
  go_ret
  exact ⟨rfl, b1.trans ((hbx.trans (b3.mono hbx.size)).mono b1.size)⟩

set_option maxHeartbeats 1000000 in
theorem bad2 (w : World) (m : Nat) (a1 : Option Addr) (n1 c1 : Nat) (z1 : List Gr.Ln) (w1 : RdP w w.heap.size a1 n1 c1 z1) (a2 a3 : Int) (hc : Tr.tcode (m : Int) z1 = 0) (hy : Co.ycode (m : Int) z1 a2 a3 ≠ 0) :
    Calls Try.prog 6 #[.int .i64 (m : Int), .slice a1 n1 c1, .int .i64 a2, .int .i64 a3] w fun e w' => e = .returned (.bool true) ∧ Below w.heap.size w w' := by
  have H := Lib.hid hc
  have HY := Lib.hid hy
  clear hc hy
  go_enter Try.func6, Try.ntmps6
  go_wp2_with fail
  refine (Long_ok m a1 n1 c1 z1 _ w1 H.out).mono ?_
  rintro e x1 ⟨rfl, b1⟩
  obtain ⟨x2, hx2⟩ : ∃ x2, x2 = x1.alloc (.cells #[.int .i64 0, .int .i64 1] 41) := ⟨_, rfl⟩
  have hbx : Below x1.heap.size x1 x2 := by rw [hx2]; exact (Below.refl _ _).alloc (Nat.le_refl _) _
  have r2 : RdP x2 x2.heap.size (some ⟨x1.heap.size, 0, none⟩) 1 1 [(0, 1)] := by rw [hx2]; exact (RdP.one x1 (0, 1) _).more (by simp)
  have HX2 := Lib.hid hx2
  clear hx2
  go_wp2_with fail
  rw [← HX2.out]
  clear HX2
  refine (Long_f _ _ _ r2).mono ?_
  rintro e x3 ⟨rfl, b3⟩
  have b03 := b1.trans ((hbx.trans (b3.mono hbx.size)).mono b1.size)
  clear b1 b3 hbx r2
  go_wp2_with fail
  refine (Way_bad (m : Int) a2 a3 a1 n1 c1 z1 _ (w1.past b03) HY.out).mono ?_
  rintro e x4 ⟨rfl, b4⟩
  go_wp2
  go_ret
  exact ⟨rfl, b03.trans (b4.mono b03.size)⟩

/-- the way is not as long as the tree -/
theorem short (w : World) (m a b : Nat) (a1 : Option Addr) (n1 c1 : Nat) (z1 : List Gr.Ln) (w1 : RdP w w.heap.size a1 n1 c1 z1) (hc : Tr.tcode (m : Int) z1 = 0) (ham : a < m) (hbm : b < m) (hlt : Tr.far m z1 a b < Tr.mx (Tr.ecc m (Tr.far m z1)) m) (hX16 : Tr.mx (Tr.ecc m (Tr.far m z1)) m ≤ 16) :
    Calls Try.prog 6 #[.int .i64 (m : Int), .slice a1 n1 c1, .int .i64 (a : Int), .int .i64 (b : Int)] w fun e w' => e = .returned (.bool true) ∧ Below w.heap.size w w' := by
  obtain ⟨X, hX⟩ : ∃ X, X = Tr.mx (Tr.ecc m (Tr.far m z1)) m := ⟨_, rfl⟩
  obtain ⟨N, hN⟩ : ∃ N, N = Tr.far m z1 a b + 1 := ⟨_, rfl⟩
  rw [← hX] at hlt hX16
  have hNX : N ≤ X := by omega
  have hN1 : 1 ≤ N := by omega
  obtain ⟨X1, hX1⟩ : ∃ X1 : Int, X1 = (X : Int) + 1 := ⟨_, rfl⟩
  have hwx : IntKind.i64.wrap ((X : Int) + 1) = X1 := by rw [IntKind.wrap_i64]; omega
  have d1 : decide (X1 < (N : Int)) = false := by simp; omega
  have d2 : ((N : Int) == 0) = false := by rw [beq_eq_false_iff_ne]; omega
  have d3 : decide ((N : Int) ≤ (X : Int)) = true := by simp; omega
  have H := Lib.hid hc
  have HX := Lib.hid hX
  have HNN := Lib.hid hN
  clear hc hX hN hlt hX1
  go_enter Try.func6, Try.ntmps6
  go_wp2_with fail
  refine (Long_ok m a1 n1 c1 z1 _ w1 H.out).mono ?_
  rw [← HX.out]
  rintro e x1 ⟨rfl, b1⟩
  obtain ⟨x2, hx2⟩ : ∃ x2, x2 = x1.alloc (.cells #[.int .i64 0, .int .i64 1] 41) := ⟨_, rfl⟩
  have hbx : Below x1.heap.size x1 x2 := by rw [hx2]; exact (Below.refl _ _).alloc (Nat.le_refl _) _
  have r2 : RdP x2 x2.heap.size (some ⟨x1.heap.size, 0, none⟩) 1 1 [(0, 1)] := by rw [hx2]; exact (RdP.one x1 (0, 1) _).more (by simp)
  have HX2 := Lib.hid hx2
  clear hx2
  go_wp2_with fail
  rw [← HX2.out]
  clear HX2
  refine (Long_f _ _ _ r2).mono ?_
  rintro e x3 ⟨rfl, b3⟩
  have b03 := b1.trans ((hbx.trans (b3.mono hbx.size)).mono b1.size)
  clear b1 b3 hbx r2
  go_wp2_with fail
  refine (Way_ok m a b a1 n1 c1 z1 _ (w1.past b03) H.out ham hbm).mono ?_
  rw [← HNN.out]
  rintro e x4 ⟨A4, d4, rfl, r4, b4⟩
  go_wp2
  go_ret
  exact ⟨rfl, b03.trans (b4.mono b03.size)⟩

set_option maxRecDepth 100000 in
set_option maxHeartbeats 2000000 in
theorem one (w : World) (m a b : Nat) (a1 : Option Addr) (n1 c1 : Nat) (z1 : List Gr.Ln) (w1 : RdP w w.heap.size a1 n1 c1 z1) (hc : Tr.tcode (m : Int) z1 = 0) (ham : a < m) (hbm : b < m) (hlt : Tr.far m z1 a b = Tr.mx (Tr.ecc m (Tr.far m z1)) m) (hX16 : Tr.mx (Tr.ecc m (Tr.far m z1)) m ≤ 16)
    (c : Nat) (hm : Tr.midI m z1 m = [(c : Int)]) (hX2 : Tr.mx (Tr.ecc m (Tr.far m z1)) m = 2 * Tr.best m (Tr.far m z1)) (hcw : (Co.way m z1 a b).getD (Tr.best m (Tr.far m z1)) 0 = c) :
    Calls Try.prog 6 #[.int .i64 (m : Int), .slice a1 n1 c1, .int .i64 (a : Int), .int .i64 (b : Int)] w fun e w' => e = .returned (.bool true) ∧ Below w.heap.size w w' := by
  obtain ⟨hg, hT⟩ := Tr.tcode_zero.1 hc
  obtain ⟨X, hX⟩ : ∃ X, X = Tr.mx (Tr.ecc m (Tr.far m z1)) m := ⟨_, rfl⟩
  obtain ⟨K, hK⟩ : ∃ K, K = Tr.best m (Tr.far m z1) := ⟨_, rfl⟩
  obtain ⟨N, hN⟩ : ∃ N, N = Tr.far m z1 a b + 1 := ⟨_, rfl⟩
  have hgw := Co.wayI_at hT ham hbm (k := K) (by omega)
  rw [← hX] at hlt hX16 hX2
  rw [← hK] at hX2 hcw
  rw [hcw] at hgw
  have hNX : N = X + 1 := by omega
  have hKN : K < N := by omega
  obtain ⟨X1, hX1⟩ : ∃ X1 : Int, X1 = (X : Int) + 1 := ⟨_, rfl⟩
  have hwx : IntKind.i64.wrap ((X : Int) + 1) = X1 := by rw [IntKind.wrap_i64]; omega
  obtain ⟨N1, hN1⟩ : ∃ N1 : Int, N1 = (N : Int) - 1 := ⟨_, rfl⟩
  have hwn : IntKind.i64.wrap ((N : Int) - 1) = N1 := by rw [IntKind.wrap_i64]; omega
  have d1 : decide (X1 < (N : Int)) = false := by simp; omega
  have d2 : ((N : Int) == 0) = false := by rw [beq_eq_false_iff_ne]; omega
  have d3 : decide ((N : Int) ≤ (X : Int)) = false := by simp; omega
  have d4 : decide (N ≤ X) = false := by simp; omega
  have d5 : ¬ (N ≤ X) := by omega
  have k0 : (0 : Int) ≤ (K : Int) := by omega
  have k1 : (K : Int) ≤ N1 := by omega
  have k2 : (K : Int) < (N : Int) := by omega
  have hcc : ((c : Int) == (c : Int)) = true := by simp
  have H := Lib.hid hc
  have HX := Lib.hid hX
  have HK := Lib.hid hK
  have HNN := Lib.hid hN
  have HM := Lib.hid hm
  have HGW := Lib.hid hgw
  clear hc hX hN hlt hX1 hN1 hNX hX2 hK hm hgw hcw hg hT
  go_enter Try.func6, Try.ntmps6
  go_wp2_with fail
  refine (Long_ok m a1 n1 c1 z1 _ w1 H.out).mono ?_
  rw [← HX.out]
  rintro e x1 ⟨rfl, b1⟩
  obtain ⟨x2, hx2⟩ : ∃ x2, x2 = x1.alloc (.cells #[.int .i64 0, .int .i64 1] 41) := ⟨_, rfl⟩
  have hbx : Below x1.heap.size x1 x2 := by rw [hx2]; exact (Below.refl _ _).alloc (Nat.le_refl _) _
  have r2 : RdP x2 x2.heap.size (some ⟨x1.heap.size, 0, none⟩) 1 1 [(0, 1)] := by rw [hx2]; exact (RdP.one x1 (0, 1) _).more (by simp)
  have HX2 := Lib.hid hx2
  clear hx2
  go_wp2_with fail
  rw [← HX2.out]
  clear HX2
  refine (Long_f _ _ _ r2).mono ?_
  rintro e x3 ⟨rfl, b3⟩
  have b03 := b1.trans ((hbx.trans (b3.mono hbx.size)).mono b1.size)
  clear b1 b3 hbx r2
  go_wp2_with fail
  refine (Way_ok m a b a1 n1 c1 z1 _ (w1.past b03) H.out ham hbm).mono ?_
  rw [← HNN.out]
  rintro e x4 ⟨A4, d4, rfl, r4, b4⟩
  have b04 := b03.trans (b4.mono b03.size)
  clear b03 b4
  go_wp2_with fail
  refine (Middle_ok m a1 n1 c1 z1 _ (w1.past b04) H.out).mono ?_
  rw [← HK.out]
  rintro e x5 ⟨v5, rfl, hown, b5⟩
  rw [HM.out] at hown
  obtain ⟨A5, d5, rfl, r5⟩ := hown.rd
  simp only [List.length_cons, List.length_nil, Nat.zero_add] at r5 ⊢
  have b05 := b04.trans (b5.mono b04.size)
  obtain ⟨bw, ow, rfl, hbw, hcw⟩ := (r4.past b5).at_ (by omega)
  have g1 := hcw K hKN
  rw [HGW.out] at g1
  obtain ⟨bm, om, rfl, hbm2, hcm⟩ := r5.at_ (by omega)
  have g2 := hcm 0 (by omega)
  rw [Nat.add_zero, List.getD_cons_zero] at g2
  have hbg4 := r4.big
  clear hown b5 b04 r4 r5 hcw hcm
  go_wp2_with fail
  refine (topIn_yes _ _ _ _ k0 k1).mono ?_
  rintro e x6 ⟨rfl, rfl⟩
  go_wp2
  go_quiet (fail)
  go_wp2
  go_ret
  exact ⟨rfl, b05.trans (Below.drewN' _ _ _)⟩

set_option maxRecDepth 100000 in
set_option maxHeartbeats 4000000 in
theorem two (w : World) (m a b : Nat) (a1 : Option Addr) (n1 c1 : Nat) (z1 : List Gr.Ln) (w1 : RdP w w.heap.size a1 n1 c1 z1) (hc : Tr.tcode (m : Int) z1 = 0) (ham : a < m) (hbm : b < m) (hlt : Tr.far m z1 a b = Tr.mx (Tr.ecc m (Tr.far m z1)) m) (hX16 : Tr.mx (Tr.ecc m (Tr.far m z1)) m ≤ 16)
    (c d : Nat) (hm : Tr.midI m z1 m = [(c : Int), (d : Int)]) (hcd : c ≠ d) (hX2 : Tr.mx (Tr.ecc m (Tr.far m z1)) m + 1 = 2 * Tr.best m (Tr.far m z1)) (hcw : (Co.way m z1 a b).getD (Tr.best m (Tr.far m z1)) 0 = c ∧ (Co.way m z1 a b).getD (Tr.best m (Tr.far m z1) - 1) 0 = d ∨ (Co.way m z1 a b).getD (Tr.best m (Tr.far m z1)) 0 = d ∧ (Co.way m z1 a b).getD (Tr.best m (Tr.far m z1) - 1) 0 = c) :
    Calls Try.prog 6 #[.int .i64 (m : Int), .slice a1 n1 c1, .int .i64 (a : Int), .int .i64 (b : Int)] w fun e w' => e = .returned (.bool true) ∧ Below w.heap.size w w' := by
  obtain ⟨hg, hT⟩ := Tr.tcode_zero.1 hc
  obtain ⟨X, hX⟩ : ∃ X, X = Tr.mx (Tr.ecc m (Tr.far m z1)) m := ⟨_, rfl⟩
  obtain ⟨K, hK⟩ : ∃ K, K = Tr.best m (Tr.far m z1) := ⟨_, rfl⟩
  obtain ⟨J, hJ⟩ : ∃ J, J = K - 1 := ⟨_, rfl⟩
  obtain ⟨N, hN⟩ : ∃ N, N = Tr.far m z1 a b + 1 := ⟨_, rfl⟩
  have hgw := Co.wayI_at hT ham hbm (k := K) (by omega)
  have hgv := Co.wayI_at hT ham hbm (k := J) (by omega)
  rw [← hX] at hlt hX16 hX2
  rw [← hK, ← hJ] at hcw
  rw [← hK] at hX2
  have hNX : N = X + 1 := by omega
  have hKN : K < N := by omega
  have hJK : J + 1 = K := by omega
  have hJN : J < N := by omega
  obtain ⟨X1, hX1⟩ : ∃ X1 : Int, X1 = (X : Int) + 1 := ⟨_, rfl⟩
  have hwx : IntKind.i64.wrap ((X : Int) + 1) = X1 := by rw [IntKind.wrap_i64]; omega
  obtain ⟨N1, hN1⟩ : ∃ N1 : Int, N1 = (N : Int) - 1 := ⟨_, rfl⟩
  have hwn : IntKind.i64.wrap ((N : Int) - 1) = N1 := by rw [IntKind.wrap_i64]; omega
  have hwk : IntKind.i64.wrap ((K : Int) - 1) = (J : Int) := by rw [IntKind.wrap_i64]; omega
  have d1 : decide (X1 < (N : Int)) = false := by simp; omega
  have d2 : ((N : Int) == 0) = false := by rw [beq_eq_false_iff_ne]; omega
  have d3 : decide ((N : Int) ≤ (X : Int)) = false := by simp; omega
  have d4 : decide (N ≤ X) = false := by simp; omega
  have d5 : ¬ (N ≤ X) := by omega
  have k0 : (0 : Int) ≤ (K : Int) := by omega
  have k1 : (K : Int) ≤ N1 := by omega
  have k2 : (K : Int) < (N : Int) := by omega
  have k3 : decide ((0 : Int) < (K : Int)) = true := by simp; omega
  have k4 : decide (0 < K) = true := by simp; omega
  have k5 : 0 < K := by omega
  have j0 : (0 : Int) ≤ (J : Int) := by omega
  have j2 : (J : Int) < (N : Int) := by omega
  have hcc : ((c : Int) == (c : Int)) = true := by simp
  have hdd : ((d : Int) == (d : Int)) = true := by simp
  have hdc : ((d : Int) == (c : Int)) = false := by rw [beq_eq_false_iff_ne]; omega
  have H := Lib.hid hc
  have HX := Lib.hid hX
  have HK := Lib.hid hK
  have HNN := Lib.hid hN
  have HM := Lib.hid hm
  have HGW := Lib.hid hgw
  have HGV := Lib.hid hgv
  have HCW := Lib.hid hcw
  clear hc hX hN hlt hX1 hN1 hNX hX2 hK hm hgw hgv hcw hg hT hJ hJK hcd
  go_enter Try.func6, Try.ntmps6
  go_wp2_with fail
  refine (Long_ok m a1 n1 c1 z1 _ w1 H.out).mono ?_
  rw [← HX.out]
  rintro e x1 ⟨rfl, b1⟩
  obtain ⟨x2, hx2⟩ : ∃ x2, x2 = x1.alloc (.cells #[.int .i64 0, .int .i64 1] 41) := ⟨_, rfl⟩
  have hbx : Below x1.heap.size x1 x2 := by rw [hx2]; exact (Below.refl _ _).alloc (Nat.le_refl _) _
  have r2 : RdP x2 x2.heap.size (some ⟨x1.heap.size, 0, none⟩) 1 1 [(0, 1)] := by rw [hx2]; exact (RdP.one x1 (0, 1) _).more (by simp)
  have HX2 := Lib.hid hx2
  clear hx2
  go_wp2_with fail
  rw [← HX2.out]
  clear HX2
  refine (Long_f _ _ _ r2).mono ?_
  rintro e x3 ⟨rfl, b3⟩
  have b03 := b1.trans ((hbx.trans (b3.mono hbx.size)).mono b1.size)
  clear b1 b3 hbx r2
  go_wp2_with fail
  refine (Way_ok m a b a1 n1 c1 z1 _ (w1.past b03) H.out ham hbm).mono ?_
  rw [← HNN.out]
  rintro e x4 ⟨A4, d4, rfl, r4, b4⟩
  have b04 := b03.trans (b4.mono b03.size)
  clear b03 b4
  go_wp2_with fail
  refine (Middle_ok m a1 n1 c1 z1 _ (w1.past b04) H.out).mono ?_
  rw [← HK.out]
  rintro e x5 ⟨v5, rfl, hown, b5⟩
  rw [HM.out] at hown
  obtain ⟨A5, d5, rfl, r5⟩ := hown.rd
  simp only [List.length_cons, List.length_nil, Nat.zero_add, Nat.reduceAdd] at r5 ⊢
  have b05 := b04.trans (b5.mono b04.size)
  obtain ⟨bw, ow, rfl, hbw, hcw⟩ := (r4.past b5).at_ (by omega)
  have g1 := hcw K hKN
  rw [HGW.out] at g1
  have g0 := hcw J hJN
  rw [HGV.out] at g0
  obtain ⟨bm, om, rfl, hbm2, hcm⟩ := r5.at_ (by omega)
  have g2 := hcm 0 (by omega)
  rw [Nat.add_zero, List.getD_cons_zero] at g2
  have g3 := hcm 1 (by omega)
  rw [List.getD_cons_succ, List.getD_cons_zero] at g3
  have hbg4 := r4.big
  clear hown b5 b04 r4 r5 hcw hcm
  rcases HCW.out with ⟨e1, e2⟩ | ⟨e1, e2⟩
  · rw [e1] at g1
    rw [e2] at g0
    clear e1 e2
    go_wp2_with fail
    refine (topIn_yes _ _ _ _ k0 k1).mono ?_
    rintro e x6 ⟨rfl, rfl⟩
    go_wp2
    go_quiet (fail)
    go_wp2
    go_ret
    exact ⟨rfl, b05.trans (Below.drewN' _ _ _)⟩
  · rw [e1] at g1
    rw [e2] at g0
    clear e1 e2
    go_wp2_with fail
    refine (topIn_yes _ _ _ _ k0 k1).mono ?_
    rintro e x6 ⟨rfl, rfl⟩
    go_wp2
    go_quiet (fail)
    go_wp2
    go_ret
    exact ⟨rfl, b05.trans (Below.drewN' _ _ _)⟩

theorem walk (w : World) (a0 : Int) (w0 : (Lit.int .i64 a0).wf = true) (a1 : Option Addr) (n1 c1 : Nat) (z1 : List Gr.Ln) (w1 : RdP w w.heap.size a1 n1 c1 z1) (a2 : Int) (w2 : (Lit.int .i64 a2).wf = true) (a3 : Int) (w3 : (Lit.int .i64 a3).wf = true) :
    Calls Try.prog 6 #[.int .i64 a0, .slice a1 n1 c1, .int .i64 a2, .int .i64 a3] w fun e w' => e = .returned (.bool true) ∧ Below w.heap.size w w' := by
  rcases Tr.tcode_cases a0 z1 with ⟨m, rfl, h, hc, hT⟩ | h
  · by_cases hy : Co.ycode (m : Int) z1 a2 a3 = 0
    · obtain ⟨_, ha, hb⟩ := Co.ycode_zero.1 hy
      obtain ⟨a, rfl⟩ : ∃ b' : Nat, a2 = (b' : Int) := ⟨a2.toNat, by omega⟩
      obtain ⟨b, rfl⟩ : ∃ b' : Nat, a3 = (b' : Int) := ⟨a3.toNat, by omega⟩
      have ham : a < m := by omega
      have hbm : b < m := by omega
      have hm8 : m ≤ 8 := by have := (Gr.code_zero.1 hc).2.1; omega
      have hbt : Tr.best m (Tr.far m z1) ≤ m := Tr.mn_top _ _ _
      have hle : Tr.far m z1 a b ≤ Tr.mx (Tr.ecc m (Tr.far m z1)) m := Nat.le_trans (Tr.ecc_ge hbm) (Tr.mx_ge (Tr.ecc m (Tr.far m z1)) m a ham)
      rcases hT.met.mids_jordan (by omega) with ⟨c, h1, h2⟩ | ⟨c, d, h1, h2, h3, h4, h5⟩
      · by_cases he : Tr.far m z1 a b = Tr.mx (Tr.ecc m (Tr.far m z1)) m
        · have hmid : Tr.Mid m (Tr.far m z1) (Tr.best m (Tr.far m z1)) c := Tr.mem_mids.1 (show c ∈ Tr.mids m (Tr.far m z1) by rw [h1]; simp)
          exact one w m a b a1 n1 c1 z1 w1 h ham hbm he (by omega) c (by show (Tr.mids m (Tr.far m z1)).map _ = _; rw [h1]; rfl) h2 (Co.midst_one hT.met hmid ham hbm (by omega))
        · exact short w m a b a1 n1 c1 z1 w1 h ham hbm (by omega) (by omega)
      · by_cases he : Tr.far m z1 a b = Tr.mx (Tr.ecc m (Tr.far m z1)) m
        · have hmc : Tr.Mid m (Tr.far m z1) (Tr.best m (Tr.far m z1)) c := Tr.mem_mids.1 (show c ∈ Tr.mids m (Tr.far m z1) by rw [h1]; simp)
          have hmd : Tr.Mid m (Tr.far m z1) (Tr.best m (Tr.far m z1)) d := Tr.mem_mids.1 (show d ∈ Tr.mids m (Tr.far m z1) by rw [h1]; simp)
          have hcd : c ≠ d := fun e => by
            have := hT.met.beside h2 h3 h4
            rw [e, (hT.met.zero d d h3 h3).2 rfl] at this
            omega
          exact two w m a b a1 n1 c1 z1 w1 h ham hbm he (by omega) c d (by show (Tr.mids m (Tr.far m z1)).map _ = _; rw [h1]; rfl) hcd h5 (Co.midst_two hT.met hmc hmd h4 ham hbm (by omega)).2
        · exact short w m a b a1 n1 c1 z1 w1 h ham hbm (by omega) (by omega)
    · exact bad2 w m a1 n1 c1 z1 w1 a2 a3 h hy
  · exact bad w a0 a1 n1 c1 z1 w1 a2 a3 h

end Go.Proofs.Ytojkjdccjomaaaa.topMidst
