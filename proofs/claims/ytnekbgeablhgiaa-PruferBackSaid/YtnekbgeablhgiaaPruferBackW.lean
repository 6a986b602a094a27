/-
  The walk of the law PruferBack: for every number of points, lines and row it returns true.
-/
import Derived.Test.YtnekbgeablhgiaaPruferF
import Derived.Test.YtnekbgeablhgiaaRefTr
import Derived.Test.YtnekbgeablhgiaaBesQ
namespace Go.Proofs.Ytnekbgeablhgiaa.pruferBack
open Go.RowKit

set_option linter.unusedSimpArgs false
set_option linter.unusedVariables false

theorem write_rd (n : Nat) (row : List Int) (h : Pf.rcode row = 0) (hn : row.length = n) (A : Option Addr) (c : Nat) (w : World) (hr : RdP w w.heap.size A (n + 1) c (Pf.rdL (Pf.nrow row))) :
    Calls Try.prog 8 #[.int .i64 ((n : Int) + 2), .slice A (n + 1) c] w fun e w' => ∃ A1 c1, e = .returned (.tuple #[.slice A1 n c1, .nilIface]) ∧ Rd w' w'.heap.size A1 n c1 row ∧ Below w.heap.size w w' := by
  obtain ⟨h1, h2⟩ := Pf.rcode_zero.1 h
  have hl := Pf.nrow_len row
  have ht := Pf.rd_code (Pf.nrow_lt h2) (by omega)
  have hw := Pf.wr_rd (Pf.nrow_lt h2)
  rw [hl, hn] at ht hw
  have key := Write_yes (n + 2) A (n + 1) c _ w hr ht (by omega)
  rw [show ((n + 2 : Nat) : Int) = (n : Int) + 2 by omega, show n + 2 - 2 = n by omega, hw, upN_nrow h2] at key
  exact key
theorem read_wr (m r : Nat) (ls : List Gr.Ln) (hc : Tr.tcode (m : Int) ls = 0) (hr2 : r + 2 = m) (A : Option Addr) (c : Nat) (w : World) (hr : Rd w w.heap.size A r c (upN (Pf.wr m ls))) :
    Calls Try.prog 7 #[.slice A r c] w fun e w' => ∃ A1 c1, e = .returned (.tuple #[.slice A1 (r + 1) c1, .nilIface]) ∧ RdP w' w'.heap.size A1 (r + 1) c1 (Pf.rdL (Pf.wr m ls)) ∧ Below w.heap.size w w' := by
  obtain ⟨hg, hT⟩ := Tr.tcode_zero.1 hc
  have hm8 : m ≤ 8 := by have := (Gr.code_zero.1 hg).2.1; omega
  have hl : (Pf.wr m ls).length = r := by rw [Pf.wr_len]; omega
  have hok : Pf.rcode (upN (Pf.wr m ls)) = 0 := by
    refine Pf.rcode_zero.2 ⟨by rw [upN_len]; omega, fun x hx => ?_⟩
    unfold upN at hx
    obtain ⟨y, hy, rfl⟩ := List.mem_map.1 hx
    have := Pf.wr_lt hT (by omega) y hy
    rw [upN_len]
    omega
  have key := Read_yes A r c _ w hr hok
  rwa [nrow_upN] at key
/-- each line of the tree is there again -/
theorem line_back {m : Nat} {ls : List Gr.Ln} (hT : Tr.Tree m ls) (hm2 : 2 ≤ m) {i : Nat} (hi : i < ls.length) : Gr.adj (Pf.rdL (Pf.wr m ls)) (ls.getD i (0, 0)).1 (ls.getD i (0, 0)).2 = true := by
  have hm : ls.getD i (0, 0) ∈ ls := by simp [List.getD, hi]
  have hg := hT.good _ hm
  obtain ⟨⟨p, s⟩, hp⟩ : ∃ p, p = ls.getD i (0, 0) := ⟨_, rfl⟩
  rw [← hp] at hm hg ⊢
  unfold Gr.Good at hg
  simp only at hg ⊢
  obtain ⟨a, rfl⟩ : ∃ a : Nat, p = (a : Int) := ⟨p.toNat, by omega⟩
  obtain ⟨b, rfl⟩ : ∃ b : Nat, s = (b : Int) := ⟨s.toNat, by omega⟩
  have h := Pf.rd_wr hT hm2 (a := a) (b := b) (by omega) (by omega)
  have h2 : Tr.ad ls a b = true := Gr.adj_iff.2 (.inl hm)
  rw [h2] at h
  exact h

set_option maxRecDepth 100000 in
set_option maxHeartbeats 4000000 in
theorem gg (w : World) (m : Nat) (a1 : Option Addr) (n1 c1 : Nat) (z1 : List Gr.Ln) (w1 : RdP w w.heap.size a1 n1 c1 z1) (a2 : Option Addr) (n2 c2 : Nat) (z2 : List Int) (w2 : Rd w w.heap.size a2 n2 c2 z2) (hc : Tr.tcode (m : Int) z1 = 0) (hm2 : 2 ≤ m) (hrc : Pf.rcode z2 = 0) :
    Calls Try.prog 3 #[.int .i64 (m : Int), .slice a1 n1 c1, .slice a2 n2 c2] w fun e w' => e = .returned (.bool true) ∧ Below w.heap.size w w' := by
  obtain ⟨hg, hT⟩ := Tr.tcode_zero.1 hc
  have hm8 : m ≤ 8 := by have := (Gr.code_zero.1 hg).2.1; omega
  obtain ⟨xs, hxs⟩ : ∃ xs, xs = Pf.wr m z1 := ⟨_, rfl⟩
  obtain ⟨r, hr⟩ : ∃ r, r = m - 2 := ⟨_, rfl⟩
  have hr8 : r + 2 = m := by omega
  have hrr : r ≤ 6 := by omega
  have hn1 : n1 = r + 1 := by have := hT.len; have := w1.len; omega
  obtain ⟨q, hq⟩ : ∃ q : Int, q = (m : Int) - 2 := ⟨_, rfl⟩
  have hw : IntKind.i64.wrap ((m : Int) - 2) = q := by rw [IntKind.wrap_i64]; omega
  have hdq : ((r : Int) != q) = false := by simp; omega
  have HRD := Lib.hid (fun (A : Option Addr) (c : Nat) (w : World) (h : Rd w w.heap.size A r c (upN xs)) => read_wr m r z1 hc hr8 A c w (by rw [← hxs]; exact h))
  rw [← hxs] at HRD
  have HAD : Hid (∀ i, i < n1 → Gr.adj (Pf.rdL xs) (z1.getD i (0, 0)).1 (z1.getD i (0, 0)).2 = true) := by
    show ∀ i, _
    intro i hi
    rw [hxs]
    exact line_back hT hm2 (by rw [w1.len]; exact hi)
  have H := Lib.hid hc
  have HR := Lib.hid hr
  have HXS := Lib.hid hxs
  have HX1 := Lib.hid w1.len
  clear hc hg hT hxs hr hq
  subst hn1
  have HRC := Lib.hid hrc
  have HWR := Lib.hid (fun (A : Option Addr) (c : Nat) (w : World) (h : RdP w w.heap.size A (n2 + 1) c (Pf.rdL (Pf.nrow z2))) => write_rd n2 z2 hrc w2.len A c w h)
  have hn6 : n2 ≤ 6 := by have := (Pf.rcode_zero.1 hrc).1; have := w2.len; omega
  clear hrc
  go_enter Try.func3, Try.ntmps3
  go_wp2_with fail
  refine (pruferFact_any _).mono ?_
  rintro e x1 ⟨rfl, hb1⟩
  go_wp2_with fail
  refine (Read_yes a2 n2 c2 z2 _ (w2.past hb1) HRC.out).mono ?_
  rintro e x2 ⟨A2, d2, rfl, hrd2, hb2⟩
  have hb02 := hb1.trans (hb2.mono hb1.size)
  clear hb1 hb2
  go_wp2_with fail
  refine (HWR.out _ _ _ hrd2).mono ?_
  rintro e x3 ⟨A3, d3, rfl, hrd3, hb3⟩
  have hb03 := hb02.trans (hb3.mono hb02.size)
  have hr3 := w2.past hb03
  clear hb02 hb3 hrd2
  go_wp2_with fail
  refine (Ints_t _ _ n2 n2 _ _ _ _ true _ hrd3 hr3 (by simp)).mono ?_
  rintro e x4 ⟨rfl, hb4⟩
  have hb04 := hb03.trans (hb4.mono hb03.size)
  have hr4 := w1.past hb04
  clear hb03 hb4 hrd3 hr3
  go_wp2_with fail
  refine (Write_yes m a1 (r + 1) c1 z1 _ hr4 H.out hm2).mono ?_
  rintro e x5 ⟨A5, d5, rfl, hrd5, hb5⟩
  rw [← HXS.out, ← HR.out] at hrd5
  rw [← HR.out]
  have hb05 := hb04.trans (hb5.mono hb04.size)
  have hr5 := w1.past hb05
  clear hb04 hb5 hr4
  go_wp2_with fail
  refine (RefTr.Tree_any (m : Int) a1 (r + 1) c1 z1 _ hr5).mono ?_
  rintro e x6 ⟨rfl, hb6⟩
  rw [H.out]
  have hb06 := hb05.trans (hb6.mono hb05.size)
  have hrd6 := hrd5.past hb6
  clear hb05 hb6 hr5 hrd5
  go_wp2_with fail
  refine (HRD.out _ _ _ hrd6).mono ?_
  rintro e x7 ⟨A7, d7, rfl, hrd7, hb7⟩
  have hb07 := hb06.trans (hb7.mono hb06.size)
  have hs7 := hb07.size
  clear hb06 hb7 hrd6
  go_wp2
  go_loopw [13] (fun iv wr => ∃ i : Nat, i ≤ r + 1 ∧ iv = .int .i64 (i : Int) ∧ Below x7.heap.size x7 wr) (fun iv _ => r + 1 - (intOf iv).toNat)
  case atStart => exact ⟨0, Nat.zero_le _, rfl, Below.refl _ _⟩
  case round =>
    obtain ⟨i, hi, rfl, hbw⟩ := hrel
    have hr8' := w1.past (hb07.trans (hbw.mono hs7))
    have hrd8 := hrd7.past hbw
    by_cases hlt : i < r + 1
    · obtain ⟨b8, o8, rfl, hb8, hc8⟩ := hr8'.at_ (by omega)
      obtain ⟨g1, g2⟩ := hc8 i hlt
      have HA := Lib.hid (HAD.out i hlt)
      obtain ⟨⟨p, s⟩, hp⟩ : ∃ p, p = z1.getD i (0, 0) := ⟨_, rfl⟩
      rw [← hp] at g1 g2 HA
      simp only at g1 g2 HA
      have i0 : (0 : Int) ≤ (i : Int) := by omega
      have i1 : (i : Int) < (r : Int) + 1 := by omega
      clear hc8 hp hr8'
      go_wp2_with fail
      go_quiet (first | (go_at_call 11; with_reducible exact RefL.bes_q A7 (r + 1) d7 (Pf.rdL xs) p s true _ _ hrd8 HA.out))
      go_wp2
      go_roundw
      case rel => exact ⟨i + 1, by omega, by go_num, hbw.trans (Below.drewN' _ _ _)⟩
      case measure => simp [intOf]; omega
    · obtain rfl : i = r + 1 := by omega
      go_wp2
      go_ret
      exact ⟨rfl, hb07.trans (hbw.mono hs7)⟩

set_option maxRecDepth 100000 in
set_option maxHeartbeats 4000000 in
theorem gb (w : World) (a0 : Int) (a1 : Option Addr) (n1 c1 : Nat) (z1 : List Gr.Ln) (w1 : RdP w w.heap.size a1 n1 c1 z1) (a2 : Option Addr) (n2 c2 : Nat) (z2 : List Int) (w2 : Rd w w.heap.size a2 n2 c2 z2) (hc : Pf.wcode a0 z1 ≠ 0) (hrc : Pf.rcode z2 = 0) :
    Calls Try.prog 3 #[.int .i64 a0, .slice a1 n1 c1, .slice a2 n2 c2] w fun e w' => e = .returned (.bool true) ∧ Below w.heap.size w w' := by
  have H := Lib.hid hc
  clear hc
  have HRC := Lib.hid hrc
  have HWR := Lib.hid (fun (A : Option Addr) (c : Nat) (w : World) (h : RdP w w.heap.size A (n2 + 1) c (Pf.rdL (Pf.nrow z2))) => write_rd n2 z2 hrc w2.len A c w h)
  have hn6 : n2 ≤ 6 := by have := (Pf.rcode_zero.1 hrc).1; have := w2.len; omega
  clear hrc
  go_enter Try.func3, Try.ntmps3
  go_wp2_with fail
  refine (pruferFact_any _).mono ?_
  rintro e x1 ⟨rfl, hb1⟩
  go_wp2_with fail
  refine (Read_yes a2 n2 c2 z2 _ (w2.past hb1) HRC.out).mono ?_
  rintro e x2 ⟨A2, d2, rfl, hrd2, hb2⟩
  have hb02 := hb1.trans (hb2.mono hb1.size)
  clear hb1 hb2
  go_wp2_with fail
  refine (HWR.out _ _ _ hrd2).mono ?_
  rintro e x3 ⟨A3, d3, rfl, hrd3, hb3⟩
  have hb03 := hb02.trans (hb3.mono hb02.size)
  have hr3 := w2.past hb03
  clear hb02 hb3 hrd2
  go_wp2_with fail
  refine (Ints_t _ _ n2 n2 _ _ _ _ true _ hrd3 hr3 (by simp)).mono ?_
  rintro e x4 ⟨rfl, hb4⟩
  have hb04 := hb03.trans (hb4.mono hb03.size)
  have hr4 := w1.past hb04
  clear hb03 hb4 hrd3 hr3
  go_wp2_with fail
  refine (Write_bad a0 a1 n1 c1 z1 _ hr4 H.out).mono ?_
  rintro e x5 ⟨rfl, hb5⟩
  go_wp2
  go_ret
  exact ⟨rfl, hb04.trans (hb5.mono hb04.size)⟩

set_option maxRecDepth 100000 in
set_option maxHeartbeats 4000000 in
theorem bg (w : World) (m : Nat) (a1 : Option Addr) (n1 c1 : Nat) (z1 : List Gr.Ln) (w1 : RdP w w.heap.size a1 n1 c1 z1) (a2 : Option Addr) (n2 c2 : Nat) (z2 : List Int) (w2 : Rd w w.heap.size a2 n2 c2 z2) (hc : Tr.tcode (m : Int) z1 = 0) (hm2 : 2 ≤ m) (hrc : Pf.rcode z2 ≠ 0) :
    Calls Try.prog 3 #[.int .i64 (m : Int), .slice a1 n1 c1, .slice a2 n2 c2] w fun e w' => e = .returned (.bool true) ∧ Below w.heap.size w w' := by
  obtain ⟨hg, hT⟩ := Tr.tcode_zero.1 hc
  have hm8 : m ≤ 8 := by have := (Gr.code_zero.1 hg).2.1; omega
  obtain ⟨xs, hxs⟩ : ∃ xs, xs = Pf.wr m z1 := ⟨_, rfl⟩
  obtain ⟨r, hr⟩ : ∃ r, r = m - 2 := ⟨_, rfl⟩
  have hr8 : r + 2 = m := by omega
  have hrr : r ≤ 6 := by omega
  have hn1 : n1 = r + 1 := by have := hT.len; have := w1.len; omega
  obtain ⟨q, hq⟩ : ∃ q : Int, q = (m : Int) - 2 := ⟨_, rfl⟩
  have hw : IntKind.i64.wrap ((m : Int) - 2) = q := by rw [IntKind.wrap_i64]; omega
  have hdq : ((r : Int) != q) = false := by simp; omega
  have HRD := Lib.hid (fun (A : Option Addr) (c : Nat) (w : World) (h : Rd w w.heap.size A r c (upN xs)) => read_wr m r z1 hc hr8 A c w (by rw [← hxs]; exact h))
  rw [← hxs] at HRD
  have HAD : Hid (∀ i, i < n1 → Gr.adj (Pf.rdL xs) (z1.getD i (0, 0)).1 (z1.getD i (0, 0)).2 = true) := by
    show ∀ i, _
    intro i hi
    rw [hxs]
    exact line_back hT hm2 (by rw [w1.len]; exact hi)
  have H := Lib.hid hc
  have HR := Lib.hid hr
  have HXS := Lib.hid hxs
  have HX1 := Lib.hid w1.len
  clear hc hg hT hxs hr hq
  subst hn1
  have HRC := Lib.hid hrc
  clear hrc
  go_enter Try.func3, Try.ntmps3
  go_wp2_with fail
  refine (pruferFact_any _).mono ?_
  rintro e x1 ⟨rfl, hb1⟩
  go_wp2_with fail
  refine (Read_bad a2 n2 c2 z2 _ (w2.past hb1) HRC.out).mono ?_
  rintro e x4 ⟨rfl, hb2⟩
  have hb04 := hb1.trans (hb2.mono hb1.size)
  have hr4 := w1.past hb04
  clear hb1 hb2
  go_wp2_with fail
  refine (Write_yes m a1 (r + 1) c1 z1 _ hr4 H.out hm2).mono ?_
  rintro e x5 ⟨A5, d5, rfl, hrd5, hb5⟩
  rw [← HXS.out, ← HR.out] at hrd5
  rw [← HR.out]
  have hb05 := hb04.trans (hb5.mono hb04.size)
  have hr5 := w1.past hb05
  clear hb04 hb5 hr4
  go_wp2_with fail
  refine (RefTr.Tree_any (m : Int) a1 (r + 1) c1 z1 _ hr5).mono ?_
  rintro e x6 ⟨rfl, hb6⟩
  rw [H.out]
  have hb06 := hb05.trans (hb6.mono hb05.size)
  have hrd6 := hrd5.past hb6
  clear hb05 hb6 hr5 hrd5
  go_wp2_with fail
  refine (HRD.out _ _ _ hrd6).mono ?_
  rintro e x7 ⟨A7, d7, rfl, hrd7, hb7⟩
  have hb07 := hb06.trans (hb7.mono hb06.size)
  have hs7 := hb07.size
  clear hb06 hb7 hrd6
  go_wp2
  go_loopw [13] (fun iv wr => ∃ i : Nat, i ≤ r + 1 ∧ iv = .int .i64 (i : Int) ∧ Below x7.heap.size x7 wr) (fun iv _ => r + 1 - (intOf iv).toNat)
  case atStart => exact ⟨0, Nat.zero_le _, rfl, Below.refl _ _⟩
  case round =>
    obtain ⟨i, hi, rfl, hbw⟩ := hrel
    have hr8' := w1.past (hb07.trans (hbw.mono hs7))
    have hrd8 := hrd7.past hbw
    by_cases hlt : i < r + 1
    · obtain ⟨b8, o8, rfl, hb8, hc8⟩ := hr8'.at_ (by omega)
      obtain ⟨g1, g2⟩ := hc8 i hlt
      have HA := Lib.hid (HAD.out i hlt)
      obtain ⟨⟨p, s⟩, hp⟩ : ∃ p, p = z1.getD i (0, 0) := ⟨_, rfl⟩
      rw [← hp] at g1 g2 HA
      simp only at g1 g2 HA
      have i0 : (0 : Int) ≤ (i : Int) := by omega
      have i1 : (i : Int) < (r : Int) + 1 := by omega
      clear hc8 hp hr8'
      go_wp2_with fail
      go_quiet (first | (go_at_call 11; with_reducible exact RefL.bes_q A7 (r + 1) d7 (Pf.rdL xs) p s true _ _ hrd8 HA.out))
      go_wp2
      go_roundw
      case rel => exact ⟨i + 1, by omega, by go_num, hbw.trans (Below.drewN' _ _ _)⟩
      case measure => simp [intOf]; omega
    · obtain rfl : i = r + 1 := by omega
      go_wp2
      go_ret
      exact ⟨rfl, hb07.trans (hbw.mono hs7)⟩

set_option maxRecDepth 100000 in
set_option maxHeartbeats 4000000 in
theorem bb (w : World) (a0 : Int) (a1 : Option Addr) (n1 c1 : Nat) (z1 : List Gr.Ln) (w1 : RdP w w.heap.size a1 n1 c1 z1) (a2 : Option Addr) (n2 c2 : Nat) (z2 : List Int) (w2 : Rd w w.heap.size a2 n2 c2 z2) (hc : Pf.wcode a0 z1 ≠ 0) (hrc : Pf.rcode z2 ≠ 0) :
    Calls Try.prog 3 #[.int .i64 a0, .slice a1 n1 c1, .slice a2 n2 c2] w fun e w' => e = .returned (.bool true) ∧ Below w.heap.size w w' := by
  have H := Lib.hid hc
  clear hc
  have HRC := Lib.hid hrc
  clear hrc
  go_enter Try.func3, Try.ntmps3
  go_wp2_with fail
  refine (pruferFact_any _).mono ?_
  rintro e x1 ⟨rfl, hb1⟩
  go_wp2_with fail
  refine (Read_bad a2 n2 c2 z2 _ (w2.past hb1) HRC.out).mono ?_
  rintro e x4 ⟨rfl, hb2⟩
  have hb04 := hb1.trans (hb2.mono hb1.size)
  have hr4 := w1.past hb04
  clear hb1 hb2
  go_wp2_with fail
  refine (Write_bad a0 a1 n1 c1 z1 _ hr4 H.out).mono ?_
  rintro e x5 ⟨rfl, hb5⟩
  go_wp2
  go_ret
  exact ⟨rfl, hb04.trans (hb5.mono hb04.size)⟩

theorem walk (w : World) (a0 : Int) (w0 : (Lit.int .i64 a0).wf = true) (a1 : Option Addr) (n1 c1 : Nat) (z1 : List Gr.Ln) (w1 : RdP w w.heap.size a1 n1 c1 z1) (a2 : Option Addr) (n2 c2 : Nat) (z2 : List Int) (w2 : Rd w w.heap.size a2 n2 c2 z2) :
    Calls Try.prog 3 #[.int .i64 a0, .slice a1 n1 c1, .slice a2 n2 c2] w fun e w' => e = .returned (.bool true) ∧ Below w.heap.size w w' := by
  by_cases hc : Pf.wcode a0 z1 = 0
  · obtain ⟨m, rfl, h2, h8, ht, _⟩ := Pf.wcode_tree hc
    by_cases hr : Pf.rcode z2 = 0
    · exact gg w m a1 n1 c1 z1 w1 a2 n2 c2 z2 w2 ht h2 hr
    · exact bg w m a1 n1 c1 z1 w1 a2 n2 c2 z2 w2 ht h2 hr
  · by_cases hr : Pf.rcode z2 = 0
    · exact gb w a0 a1 n1 c1 z1 w1 a2 n2 c2 z2 w2 hc hr
    · exact bb w a0 a1 n1 c1 z1 w1 a2 n2 c2 z2 w2 hc hr

end Go.Proofs.Ytnekbgeablhgiaa.pruferBack
