/-
  The walk of the law PruferOften: for every number of points and lines it returns true.
-/
import Derived.Test.YtnekbgeablhgiaaPruferF
import Derived.Test.YtnekbgeablhgiaaRefTr
namespace Go.Proofs.Ytnekbgeablhgiaa.pruferOften
open Go.RowKit

set_option linter.unusedSimpArgs false
set_option linter.unusedVariables false

theorem often_succ {xs : List Nat} {k : Nat} (i : Nat) (hk : k < xs.length) : (xs.take (k + 1)).count i = (xs.take k).count i + if xs.getD k 0 = i then 1 else 0 := by
  rw [List.take_succ_eq_append_getElem hk, List.count_append, List.count_singleton]
  by_cases e : xs[k] = i <;> simp [List.getD, hk, e]
theorem often_at {xs : List Nat} {k : Nat} (hk : k < xs.length) : (upN xs).getD k 0 = ((xs.getD k 0 : Nat) : Int) := by simp [upN, List.getD, hk]

set_option maxHeartbeats 1000000 in
theorem bad (w : World) (a0 : Int) (a1 : Option Addr) (n1 c1 : Nat) (z1 : List Gr.Ln) (w1 : RdP w w.heap.size a1 n1 c1 z1) (hc : Pf.wcode a0 z1 ≠ 0) :
    Calls Try.prog 4 #[.int .i64 a0, .slice a1 n1 c1] w fun e w' => e = .returned (.bool true) ∧ Below w.heap.size w w' := by
  have H := Lib.hid hc
  clear hc
  go_enter Try.func4, Try.ntmps4
  go_wp2_with fail
  refine (pruferFact_any _).mono ?_
  rintro e x1 ⟨rfl, hb1⟩
  have hr1 := w1.past hb1
  go_wp2_with fail
  refine (Write_bad a0 a1 n1 c1 z1 _ hr1 H.out).mono ?_
  rintro e x2 ⟨rfl, hb2⟩
  have hb02 := hb1.trans (hb2.mono hb1.size)
  clear hr1
  go_wp2
  go_ret
  exact ⟨rfl, hb02⟩

set_option maxRecDepth 100000 in
set_option maxHeartbeats 4000000 in
theorem good (w : World) (m : Nat) (a1 : Option Addr) (n1 c1 : Nat) (z1 : List Gr.Ln) (w1 : RdP w w.heap.size a1 n1 c1 z1) (hc : Tr.tcode (m : Int) z1 = 0) (hm2 : 2 ≤ m) :
    Calls Try.prog 4 #[.int .i64 (m : Int), .slice a1 n1 c1] w fun e w' => e = .returned (.bool true) ∧ Below w.heap.size w w' := by
  obtain ⟨hg, hT⟩ := Tr.tcode_zero.1 hc
  have hm8 : m ≤ 8 := by have := (Gr.code_zero.1 hg).2.1; omega
  have H := Lib.hid hc
  obtain ⟨xs, hxs⟩ : ∃ xs, xs = Pf.wr m z1 := ⟨_, rfl⟩
  have hxl : xs.length = m - 2 := by rw [hxs]; exact Pf.wr_len m z1
  have HOF : Hid (∀ i, i < m → (Gr.row m z1 i).length = 1 + xs.count i) := by
    show ∀ i, _
    intro i hi
    rw [hxs]
    exact Pf.wr_often hT hm2 hi
  obtain ⟨r, hr⟩ : ∃ r, r = m - 2 := ⟨_, rfl⟩
  have hr8 : r ≤ 8 := by omega
  have HR := Lib.hid hr
  have HXS := Lib.hid hxs
  have HXL := Lib.hid hxl
  clear hc hg hT hxs hr hxl
  go_enter Try.func4, Try.ntmps4
  go_wp2_with fail
  refine (pruferFact_any _).mono ?_
  rintro e x1 ⟨rfl, hb1⟩
  have hr1 := w1.past hb1
  go_wp2_with fail
  refine (Write_yes m a1 n1 c1 z1 _ hr1 H.out hm2).mono ?_
  rintro e x2 ⟨A2, c2, rfl, hrd2, hb2⟩
  rw [← HXS.out, ← HR.out] at hrd2
  rw [← HR.out]
  have hb02 := hb1.trans (hb2.mono hb1.size)
  have hr2 := hr1.past hb2
  clear hb1 hb2 hr1
  go_wp2_with fail
  refine (RefTr.Tree_any (m : Int) a1 n1 c1 z1 _ hr2).mono ?_
  rintro e x3 ⟨rfl, hb3⟩
  rw [H.out]
  have hb03 := hb02.trans (hb3.mono hb02.size)
  have hrd3 := hrd2.past hb3
  have hs3 := hb03.size
  clear hb02 hb3 hr2 hrd2
  go_wp2
  go_loopw [8, 9, 10] (fun kv _ _ wr => ∃ k : Nat, k ≤ m ∧ kv = .int .i64 (k : Int) ∧ Below x3.heap.size x3 wr) (fun kv _ _ _ => m - (intOf kv).toNat)
  case atStart => exact ⟨0, Nat.zero_le _, rfl, Below.refl _ _⟩
  case round =>
    obtain ⟨i, hi, rfl, hbw⟩ := hrel
    by_cases hlt : i < m
    · have hrw := hrd3.past hbw
      have hrn := w1.past (hb03.trans (hbw.mono hs3))
      have HO := Lib.hid (HOF.out i hlt)
      have i1 : (i : Int) < (m : Int) := by omega
      go_wp2
      go_loop [9, 10] (fun mv kv => ∃ k q : Nat, k ≤ r ∧ kv = .int .i64 (k : Int) ∧ mv = .int .i64 (q : Int) ∧ q ≤ 1 + k ∧ Hid (q = 1 + (xs.take k).count i)) (fun _ kv => r - (intOf kv).toNat)
      case atStart => exact ⟨0, 1, Nat.zero_le _, rfl, rfl, by omega, by show _ = _; simp⟩
      case round =>
        obtain ⟨k, q, hk, rfl, rfl, hqk, HQ⟩ := hrel
        by_cases hkr : k < r
        · obtain ⟨b4, o4, rfl, hb4, hc4⟩ := hrw.at_ (by omega)
          have g4 := hc4 k hkr
          have hkx : k < xs.length := by rw [HXL.out, ← HR.out]; exact hkr
          rw [often_at hkx] at g4
          obtain ⟨p, hp⟩ : ∃ p, p = xs.getD k 0 := ⟨_, rfl⟩
          rw [← hp] at g4
          have hstep := often_succ i hkx
          rw [← hp] at hstep
          have k0 : (0 : Int) ≤ (k : Int) := by omega
          have k1 : (k : Int) < (r : Int) := by omega
          clear hc4 hp
          by_cases he : p = i
          · have hd : ((p : Int) == (i : Int)) = true := by simp [he]
            have HN : Hid (q + 1 = 1 + (xs.take (k + 1)).count i) := by show _ = _; rw [hstep, if_pos he, HQ.out]; omega
            clear he hstep
            go_wp2
            go_round
            case rel => exact ⟨k + 1, q + 1, by omega, by go_num, by go_num, by omega, HN⟩
            case measure => simp [intOf]; omega
          · have hd : ((p : Int) == (i : Int)) = false := by simp; omega
            have HN : Hid (q = 1 + (xs.take (k + 1)).count i) := by show _ = _; rw [hstep, if_neg he, HQ.out]; rfl
            clear he hstep
            go_wp2
            go_round
            case rel => exact ⟨k + 1, q, by omega, by go_num, rfl, by omega, HN⟩
            case measure => simp [intOf]; omega
        · obtain rfl : k = r := by omega
          have hq : q = (Gr.row m z1 i).length := by
            rw [HQ.out, HO.out, List.take_of_length_le (by rw [HXL.out, ← HR.out]; exact Nat.le_refl _)]
          clear hqk
          go_wp2_with fail
          refine (RefL.Near_any m a1 n1 c1 z1 i _ hrn hm8).mono ?_
          rintro e x4 ⟨v, rfl, hown, hb4⟩
          obtain ⟨A4, c4, rfl, hrd⟩ := hown.rd
          rw [← hq]
          have hdq : ((q : Int) != (q : Int)) = false := by simp
          have hbw4 := hbw.trans (hb4.mono hbw.size)
          clear hown hrd hq
          go_wp2
          go_roundw
          case rel => exact ⟨i + 1, by omega, by go_num, hbw4⟩
          case measure => simp [intOf]; omega
    · obtain rfl : i = m := by omega
      go_wp2
      go_ret
      exact ⟨rfl, hb03.trans (hbw.mono hs3)⟩

theorem walk (w : World) (a0 : Int) (w0 : (Lit.int .i64 a0).wf = true) (a1 : Option Addr) (n1 c1 : Nat) (z1 : List Gr.Ln) (w1 : RdP w w.heap.size a1 n1 c1 z1) :
    Calls Try.prog 4 #[.int .i64 a0, .slice a1 n1 c1] w fun e w' => e = .returned (.bool true) ∧ Below w.heap.size w w' := by
  by_cases hc : Pf.wcode a0 z1 = 0
  · obtain ⟨m, rfl, h2, h8, ht, _⟩ := Pf.wcode_tree hc
    exact good w m a1 n1 c1 z1 w1 ht h2
  · exact bad w a0 a1 n1 c1 z1 w1 hc
end Go.Proofs.Ytnekbgeablhgiaa.pruferOften
