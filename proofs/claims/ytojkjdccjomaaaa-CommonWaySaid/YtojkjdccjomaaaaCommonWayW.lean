/-
  The walk of the law CommonWay: for every number of points, lines, root and two points it returns true.
-/
import Derived.Test.YtojkjdccjomaaaaCommonF
import Derived.Test.YtojkjdccjomaaaaIn3
import Derived.Test.YtojkjdccjomaaaaTurnedE
import Derived.BigQuiet
import Derived.Deep.RegionHeld3
namespace Go.Proofs.Ytojkjdccjomaaaa.commonWay
open Go.RowKit
set_option linter.unusedSimpArgs false
set_option linter.unusedVariables false

theorem way_turn {m : Nat} {ls : List Gr.Ln} (hT : Tr.Tree m ls) {a b : Nat} (ha : a < m) (hb : b < m) : (Co.wayI m ls a b).reverse = Co.wayI m ls b a := by
  unfold Co.wayI Co.way
  rw [← List.map_reverse, Co.wy_back hT.met ha hb]
theorem Turned_way (m a b N : Nat) (ls : List Gr.Ln) (hT : Tr.Tree m ls) (ha : a < m) (hb : b < m) (hN : N = Tr.far m ls b a + 1) (h8 : N ≤ 8) (A : Option Addr) (c : Nat) (w : World) (hr : Rd w w.heap.size A N c (Co.wayI m ls a b)) :
    Calls Try.prog 14 #[.slice A N c] w fun e w' => ∃ A1 c1, e = .returned (.slice A1 N c1) ∧ Rd w' w'.heap.size A1 N c1 (Co.wayI m ls b a) ∧ Below w.heap.size w w' := by
  refine (Turned_any A N c _ w hr (by omega)).mono ?_
  rintro e w1 ⟨v, rfl, hown, hb1⟩
  rw [way_turn hT ha hb] at hown
  obtain ⟨A1, c1, rfl, r1⟩ := hown.rd
  rw [Co.wayI_len hT hb ha, ← hN] at r1 ⊢
  exact ⟨A1, c1, rfl, r1, hb1⟩

set_option maxHeartbeats 1000000 in
theorem bad (w : World) (a0 : Int) (a1 : Option Addr) (n1 c1 : Nat) (z1 : List Gr.Ln) (w1 : RdP w w.heap.size a1 n1 c1 z1) (a2 a3 a4 : Int) (hc : Co.ocode a0 z1 a2 a3 a4 ≠ 0) :
    Calls Try.prog 3 #[.int .i64 a0, .slice a1 n1 c1, .int .i64 a2, .int .i64 a3, .int .i64 a4] w fun e w' => e = .returned (.bool true) ∧ Below w.heap.size w w' := by
  have H := Lib.hid hc
  clear hc
  go_enter Try.func3, Try.ntmps3
  go_wp2_with fail
  refine (commonFact_any _).mono ?_
  rintro e x1 ⟨rfl, b1⟩
  go_wp2_with fail
  refine (COf_bad a0 a2 a3 a4 a1 n1 c1 z1 _ (w1.past b1) H.out).mono ?_
  rintro e x2 ⟨rfl, b2⟩
  go_wp2
  go_ret
  exact ⟨rfl, b1.trans (b2.mono b1.size)⟩

set_option maxRecDepth 100000 in
set_option maxHeartbeats 4000000 in
theorem good (w : World) (m r a b : Nat) (a1 : Option Addr) (n1 c1 : Nat) (z1 : List Gr.Ln) (w1 : RdP w w.heap.size a1 n1 c1 z1) (hc : Tr.tcode (m : Int) z1 = 0) (hrm : r < m) (ham : a < m) (hbm : b < m) :
    Calls Try.prog 3 #[.int .i64 (m : Int), .slice a1 n1 c1, .int .i64 (r : Int), .int .i64 (a : Int), .int .i64 (b : Int)] w fun e w' => e = .returned (.bool true) ∧ Below w.heap.size w w' := by
  obtain ⟨hg, hT⟩ := Tr.tcode_zero.1 hc
  have hm8 : m ≤ 8 := by have := (Gr.code_zero.1 hg).2.1; omega
  have hlow := Co.low_is hT hrm ham hbm
  have hbt := hlow.between hT.met hrm ham hbm
  have hswap := Co.low_swap hT hrm ham hbm
  obtain ⟨v, hv⟩ : ∃ v, v = Co.lowN m z1 r a b := ⟨_, rfl⟩
  rw [← hv] at hlow hbt hswap
  have hvm : v < m := hlow.1
  have hsum := hbt
  unfold Co.On at hsum
  rw [hT.met.sym a v ham hvm] at hsum
  obtain ⟨N, hN⟩ : ∃ N, N = Tr.far m z1 a b + 1 := ⟨_, rfl⟩
  have hN2 : N = Tr.far m z1 b a + 1 := by rw [hN, hT.met.sym a b ham hbm]
  have hN8 : N ≤ 8 := by have := Co.far_lt hT ham hbm; omega
  have hhas : (Co.wayI m z1 a b).contains (v : Int) = true := by
    rw [Co.wayI_has, decide_eq_true_eq]
    exact (Co.mem_wy hT.met ham hbm).2 ⟨hvm, hbt⟩
  obtain ⟨x, hx⟩ : ∃ x, x = Tr.far m z1 v a := ⟨_, rfl⟩
  obtain ⟨y, hy⟩ : ∃ y, y = Tr.far m z1 v b := ⟨_, rfl⟩
  rw [← hx, ← hy] at hsum
  obtain ⟨S, hS⟩ : ∃ S, S = x + y := ⟨_, rfl⟩
  have hw1 : IntKind.i64.wrap ((x : Int) + (y : Int)) = (S : Int) := by rw [IntKind.wrap_i64]; omega
  have hw2 : IntKind.i64.wrap ((S : Int) + 1) = (N : Int) := by rw [IntKind.wrap_i64]; omega
  obtain ⟨q, hq⟩ : ∃ q : Int, q = (m : Int) - 1 := ⟨_, rfl⟩
  have hwq : IntKind.i64.wrap ((m : Int) - 1) = q := by rw [IntKind.wrap_i64]; omega
  have H := Lib.hid hc
  have HG := Lib.hid hg
  have HT := Lib.hid hT
  have HV := Lib.hid hv
  have HSW := Lib.hid hswap
  have HN := Lib.hid hN
  have HN2 := Lib.hid hN2
  have HX := Lib.hid hx
  have HY := Lib.hid hy
  have HH := Lib.hid hhas
  have ha0 : (0 : Int) ≤ (a : Int) := by omega
  have ha1 : (a : Int) ≤ q := by omega
  have ha2 : (a : Int) < (m : Int) := by omega
  have hb0 : (0 : Int) ≤ (b : Int) := by omega
  have hb1' : (b : Int) ≤ q := by omega
  have hb2' : (b : Int) < (m : Int) := by omega
  clear hc hg hT hv hswap hN hN2 hx hy hhas hlow hbt hsum hS hq
  go_enter Try.func3, Try.ntmps3
  go_wp2_with fail
  refine (commonFact_any _).mono ?_
  rintro e x1 ⟨rfl, b1⟩
  go_wp2_with fail
  refine (COf_ok m r a b a1 n1 c1 z1 _ (w1.past b1) H.out hrm ham hbm).mono ?_
  rw [← HV.out]
  rintro e x2 ⟨rfl, b2⟩
  have b02 := b1.trans (b2.mono b1.size)
  clear b1 b2
  go_wp2_with fail
  refine (Way_ok m a b a1 n1 c1 z1 _ (w1.past b02) H.out ham hbm).mono ?_
  rw [← HN.out]
  rintro e x3 ⟨A3, d3, rfl, r3, b3⟩
  have b03 := b02.trans (b3.mono b02.size)
  clear b02 b3
  go_wp2_with fail
  refine (Way_ok m b a a1 n1 c1 z1 _ (w1.past b03) H.out hbm ham).mono ?_
  rw [← HN2.out]
  rintro e x4 ⟨A4, d4, rfl, r4, b4⟩
  have b04 := b03.trans (b4.mono b03.size)
  have r3 := r3.past b4
  clear b03 b4
  go_wp2_with fail
  refine (From_fine m v a1 n1 c1 z1 _ (w1.past b04) HG.out hvm).mono ?_
  rintro e x5 ⟨gd, rfl, hown, b5⟩
  have b05 := b04.trans (b5.mono b04.size)
  have r3 := r3.past b5
  have r4 := r4.past b5
  have r5 := hown.rd'
  clear b04 b5 hown
  go_wp2_with fail
  refine (COf_ok m r b a a1 n1 c1 z1 _ (w1.past b05) H.out hrm hbm ham).mono ?_
  rw [HSW.out]
  rintro e x6 ⟨rfl, b6⟩
  have b06 := b05.trans (b6.mono b05.size)
  have r3 := r3.past b6
  have r4 := r4.past b6
  have r5 := r5.past b6
  clear b05 b6
  obtain ⟨bd, od, e5, hbd, hcd⟩ := r5.at_ (by omega)
  simp only [Option.some.injEq, Addr.mk.injEq, and_true] at e5
  obtain ⟨rfl, rfl⟩ := e5
  have g1 := hcd a ham
  rw [Nat.zero_add, Co.far_eq HT.out hvm ham, ← HX.out] at g1
  have g2 := hcd b hbm
  rw [Nat.zero_add, Co.far_eq HT.out hvm hbm, ← HY.out] at g2
  have hmm : ((m : Int) != (m : Int)) = false := by simp
  have hvv : ((v : Int) == (v : Int)) = true := by simp
  have hNN : ((N : Int) == (N : Int)) = true := by simp
  clear hcd r5
  go_wp2_with fail
  refine (in3_yes _ _ _ _ ha0 ha1).mono ?_
  rintro e y1 ⟨rfl, rfl⟩
  go_wp2_with fail
  refine (in3_yes _ _ _ _ hb0 hb1').mono ?_
  rintro e y1 ⟨rfl, rfl⟩
  have e1 : x6.drew.cell? ⟨gd, a, none⟩ = some (.int .i64 (x : Int)) := g1
  have e2 : x6.drew.cell? ⟨gd, b, none⟩ = some (.int .i64 (y : Int)) := g2
  have q3 : Rd x6.drew x6.drew.heap.size A3 N d3 (Co.wayI m z1 a b) := r3
  have q4 : Rd x6.drew x6.drew.heap.size A4 N d4 (Co.wayI m z1 b a) := r4
  have b06d : Below w.heap.size w x6.drew := b06.drew
  have HTU := Lib.hid (Turned_way m a b N z1 HT.out ham hbm HN2.out hN8 A3 d3 x6.drew q3)
  clear r3 r4
  go_wp2
  go_region_held3 (fun w' : World => w'.cell? ⟨gd, a, none⟩ = some (.int .i64 (x : Int)) ∧ w'.cell? ⟨gd, b, none⟩ = some (.int .i64 (y : Int))) (first | exact ⟨g1, g2⟩ | exact ⟨e1, e2⟩ | assumption)
    (first
      | (go_at_call 12; refine (Has_any A3 N d3 _ (v : Int) true _ q3 HH.out).mono ?_; rintro e w7 ⟨rfl, rfl⟩)
      | (go_at_call 14; refine HTU.out.mono ?_; rintro e w8 ⟨A8, d8, rfl, r8, b8⟩; have q48 := q4.past b8; have hk8 := And.intro ((b8.cell (World.block_lt_of_cell? _ _ e1)).trans e1) ((b8.cell (World.block_lt_of_cell? _ _ e2)).trans e2))
      | (go_at_call 13; refine (Ints_t A8 A4 N N d8 d4 _ _ true _ r8 q48 (by simp)).mono ?_; rintro e w9 ⟨rfl, b9⟩; have hk9 := And.intro ((b9.cell (World.block_lt_of_cell? _ _ hk8.1)).trans hk8.1) ((b9.cell (World.block_lt_of_cell? _ _ hk8.2)).trans hk8.2)))
  go_wp2
  go_ret
  exact ⟨rfl, b06d.trans ((b8.trans (b9.mono b8.size)).mono b06d.size)⟩

theorem walk (w : World) (a0 : Int) (w0 : (Lit.int .i64 a0).wf = true) (a1 : Option Addr) (n1 c1 : Nat) (z1 : List Gr.Ln) (w1 : RdP w w.heap.size a1 n1 c1 z1) (a2 : Int) (w2 : (Lit.int .i64 a2).wf = true) (a3 : Int) (w3 : (Lit.int .i64 a3).wf = true) (a4 : Int) (w4 : (Lit.int .i64 a4).wf = true) :
    Calls Try.prog 3 #[.int .i64 a0, .slice a1 n1 c1, .int .i64 a2, .int .i64 a3, .int .i64 a4] w fun e w' => e = .returned (.bool true) ∧ Below w.heap.size w w' := by
  by_cases h1 : Co.ocode a0 z1 a2 a3 a4 = 0
  · obtain ⟨hcc, ha, hb⟩ := Co.ocode_zero.1 h1
    obtain ⟨ht, hr0, hr1⟩ := Co.ccode_zero.1 hcc
    obtain ⟨m, rfl⟩ : ∃ m : Nat, a0 = (m : Int) := ⟨a0.toNat, by omega⟩
    obtain ⟨r, rfl⟩ : ∃ b' : Nat, a2 = (b' : Int) := ⟨a2.toNat, by omega⟩
    obtain ⟨a, rfl⟩ : ∃ b' : Nat, a3 = (b' : Int) := ⟨a3.toNat, by omega⟩
    obtain ⟨b, rfl⟩ : ∃ b' : Nat, a4 = (b' : Int) := ⟨a4.toNat, by omega⟩
    exact good w m r a b a1 n1 c1 z1 w1 ht (by omega) (by omega) (by omega)
  · exact bad w a0 a1 n1 c1 z1 w1 a2 a3 a4 h1

end Go.Proofs.Ytojkjdccjomaaaa.commonWay
