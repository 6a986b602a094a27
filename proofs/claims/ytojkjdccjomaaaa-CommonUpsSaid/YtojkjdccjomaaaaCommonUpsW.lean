/-
  The walk of the law CommonUps: for every number of points, lines and root it returns true.
-/
import Derived.Test.YtojkjdccjomaaaaCommonF
import Derived.Test.YtojkjdccjomaaaaRefL
import Derived.Test.YtojkjdccjomaaaaIn3
import Derived.Test.YtojkjdccjomaaaaBesQ
import Derived.BigQuiet
namespace Go.Proofs.Ytojkjdccjomaaaa.commonUps
open Go.RowKit
set_option linter.unusedSimpArgs false
set_option linter.unusedVariables false

theorem in_q (x a b : Int) (w : World) (k : Nat) (h1 : a ≤ x) (h2 : x ≤ b) :
    Calls Try.prog 11 #[.int .i64 x, .int .i64 a, .int .i64 b] (w.drewN k) fun e w' => e = .returned (.bool true) ∧ ∃ m, w' = w.drewN m :=
  Calls.quiet_of_same ((in3_yes x a b _ h1 h2).mono fun _ _ h => ⟨h.1, h.2.symm⟩)

set_option maxHeartbeats 1000000 in
theorem bad (w : World) (a0 : Int) (a1 : Option Addr) (n1 c1 : Nat) (z1 : List Gr.Ln) (w1 : RdP w w.heap.size a1 n1 c1 z1) (a2 : Int) (hc : Co.ccode a0 z1 a2 ≠ 0) :
    Calls Try.prog 5 #[.int .i64 a0, .slice a1 n1 c1, .int .i64 a2] w fun e w' => e = .returned (.bool true) ∧ Below w.heap.size w w' := by
  have H := Lib.hid hc
  clear hc
  go_enter Try.func5, Try.ntmps5
  go_wp2_with fail
  refine (commonFact_any _).mono ?_
  rintro e x1 ⟨rfl, hb1⟩
  go_wp2_with fail
  refine (Ups_bad a0 a2 a1 n1 c1 z1 _ (w1.past hb1) H.out).mono ?_
  rintro e x2 ⟨rfl, hb2⟩
  go_wp2
  go_ret
  exact ⟨rfl, hb1.trans (hb2.mono hb1.size)⟩

set_option maxRecDepth 100000 in
set_option maxHeartbeats 4000000 in
theorem good (w : World) (m r : Nat) (a1 : Option Addr) (n1 c1 : Nat) (z1 : List Gr.Ln) (w1 : RdP w w.heap.size a1 n1 c1 z1) (hc : Tr.tcode (m : Int) z1 = 0) (hrm : r < m) :
    Calls Try.prog 5 #[.int .i64 (m : Int), .slice a1 n1 c1, .int .i64 (r : Int)] w fun e w' => e = .returned (.bool true) ∧ Below w.heap.size w w' := by
  obtain ⟨hg, hT⟩ := Tr.tcode_zero.1 hc
  have hm8 : m ≤ 8 := by have := (Gr.code_zero.1 hg).2.1; omega
  obtain ⟨q, hq⟩ : ∃ q : Int, q = (m : Int) - 1 := ⟨_, rfl⟩
  have hwq : IntKind.i64.wrap ((m : Int) - 1) = q := by rw [IntKind.wrap_i64]; omega
  have H := Lib.hid hc
  have HG := Lib.hid hg
  have HT := Lib.hid hT
  have HQ := Lib.hid hq
  clear hc hg hT hq
  go_enter Try.func5, Try.ntmps5
  go_wp2_with fail
  refine (commonFact_any _).mono ?_
  rintro e x1 ⟨rfl, hb1⟩
  have hr1 := w1.past hb1
  go_wp2_with fail
  refine (Ups_ok m r a1 n1 c1 z1 _ hr1 H.out hrm).mono ?_
  rintro e x2 ⟨gu, rfl, hown2, hb2⟩
  have hu2 := hown2.rd'
  have hb02 := hb1.trans (hb2.mono hb1.size)
  have hr2 := hr1.past hb2
  clear hown2 hr1 hb1 hb2
  go_wp2_with fail
  refine (From_fine m r a1 n1 c1 z1 _ hr2 HG.out hrm).mono ?_
  rintro e x3 ⟨gd, rfl, hown3, hb3⟩
  have hd3 := hown3.rd'
  have hu3 := hu2.past hb3
  have hb03 := hb02.trans (hb3.mono hb02.size)
  have hr3 := hr2.past hb3
  clear hown3 hu2 hb02 hb3 hr2
  have hmm : ((m : Int) != (m : Int)) = false := by simp
  go_wp2
  go_loopw [11] (fun iv wr => ∃ i : Nat, i ≤ m ∧ iv = .int .i64 (i : Int) ∧ Below x3.heap.size x3 wr) (fun iv _ => m - (intOf iv).toNat)
  case atStart => exact ⟨0, Nat.zero_le _, rfl, Below.refl _ _⟩
  case round =>
    obtain ⟨i, hi, rfl, hbw⟩ := hrel
    by_cases hlt : i < m
    · obtain ⟨b1, o1, e1, hbb1, hc1⟩ := (hu3.past hbw).at_ (by omega)
      simp only [Option.some.injEq, Addr.mk.injEq, and_true] at e1
      obtain ⟨rfl, rfl⟩ := e1
      obtain ⟨b2, o2, e2, hbb2, hc2⟩ := (hd3.past hbw).at_ (by omega)
      simp only [Option.some.injEq, Addr.mk.injEq, and_true] at e2
      obtain ⟨rfl, rfl⟩ := e2
      have g1 := hc1 i hlt
      rw [Nat.zero_add, Co.ups_at z1 r hlt] at g1
      have i1 : (0 : Int) ≤ (i : Int) := by omega
      have i2 : (i : Int) < (m : Int) := by omega
      by_cases he : i = r
      · subst he
        rw [Co.upI_root] at g1
        have hii : ((i : Int) == (i : Int)) = true := by simp
        have hin : ((i : Int) != (i : Int)) = false := by simp
        clear hc1 hc2
        go_wp2
        go_quiet (fail)
        go_wp2
        go_roundw
        case rel => exact ⟨i + 1, by omega, by go_num, hbw.trans (Below.drewN' _ _ _)⟩
        case measure => simp [intOf]; omega
      · obtain ⟨n1', n2', n3'⟩ := Co.nx_spec HT.out.met hlt hrm he
        rw [Co.upI_ne z1 he] at g1
        obtain ⟨u, hu⟩ : ∃ u, u = Co.nx m (Tr.ad z1) (Tr.far m z1) r i := ⟨_, rfl⟩
        rw [← hu] at n1' n2' n3' g1
        have g2 := hc2 i hlt
        rw [Nat.zero_add, Co.far_eq HT.out hrm hlt] at g2
        have g3 := hc2 u n1'
        rw [Nat.zero_add, Co.far_eq HT.out hrm n1'] at g3
        obtain ⟨x, hx⟩ : ∃ x, x = Tr.far m z1 r i := ⟨_, rfl⟩
        obtain ⟨y, hy⟩ : ∃ y, y = Tr.far m z1 r u := ⟨_, rfl⟩
        rw [← hx] at g2 n3'
        rw [← hy] at g3 n3'
        have hxm : x < m := by rw [hx]; exact Co.far_lt HT.out hrm hlt
        have hwx : IntKind.i64.wrap ((x : Int) - 1) = (y : Int) := by rw [IntKind.wrap_i64]; omega
        have hyy : ((y : Int) != (y : Int)) = false := by simp
        have hne1 : ((u : Int) == -1) = false := by rw [beq_eq_false_iff_ne]; omega
        have hir : ((i : Int) == (r : Int)) = false := by simp; omega
        have hir2 : ((i : Int) != (r : Int)) = true := by simp; omega
        have u0 : (0 : Int) ≤ (u : Int) := by omega
        have u1 : (u : Int) < (m : Int) := by omega
        have u2 : (u : Int) ≤ q := by rw [HQ.out]; omega
        have hrw := hr3.past hbw
        have HA := Lib.hid n2'
        clear hc1 hc2 hx hy hu n2' n3' he
        go_wp2
        go_quiet (first
          | (go_at_call 11; exact in_q _ _ _ _ _ u0 u2)
          | (go_at_call 16; exact RefL.bes_q a1 n1 c1 z1 (i : Int) (u : Int) true _ _ hrw HA.out))
        go_wp2
        go_roundw
        case rel => exact ⟨i + 1, by omega, by go_num, hbw.trans (Below.drewN' _ _ _)⟩
        case measure => simp [intOf]; omega
    · obtain rfl : i = m := by omega
      go_wp2
      go_ret
      exact ⟨rfl, hb03.trans (hbw.mono hb03.size)⟩

theorem walk (w : World) (a0 : Int) (w0 : (Lit.int .i64 a0).wf = true) (a1 : Option Addr) (n1 c1 : Nat) (z1 : List Gr.Ln) (w1 : RdP w w.heap.size a1 n1 c1 z1) (a2 : Int) (w2 : (Lit.int .i64 a2).wf = true) :
    Calls Try.prog 5 #[.int .i64 a0, .slice a1 n1 c1, .int .i64 a2] w fun e w' => e = .returned (.bool true) ∧ Below w.heap.size w w' := by
  by_cases hc : Co.ccode a0 z1 a2 = 0
  · obtain ⟨ht, h0, h1⟩ := Co.ccode_zero.1 hc
    obtain ⟨m, rfl⟩ : ∃ m : Nat, a0 = (m : Int) := ⟨a0.toNat, by omega⟩
    obtain ⟨r, rfl⟩ : ∃ b' : Nat, a2 = (b' : Int) := ⟨a2.toNat, by omega⟩
    exact good w m r a1 n1 c1 z1 w1 ht (by omega)
  · exact bad w a0 a1 n1 c1 z1 w1 a2 hc

end Go.Proofs.Ytojkjdccjomaaaa.commonUps
