/-
  The walk of the law WalkParts: for every number of points, lines and three points it returns true.
-/
import Derived.Test.YtghmpdhopdmmiaaWalkE
import Derived.Test.YtghmpdhopdmmiaaWalkQ
namespace Go.Proofs.Ytghmpdhopdmmiaa.walkParts
open Go.RowKit

set_option linter.unusedSimpArgs false
set_option linter.unusedVariables false

theorem in_q (x a b : Int) (w : World) (n : Nat) (h1 : a ≤ x) (h2 : x ≤ b) : Calls Try.prog 9 #[.int .i64 x, .int .i64 a, .int .i64 b] (w.drewN n) fun e w' => e = .returned (.bool true) ∧ ∃ m, w' = w.drewN m :=
  Calls.quiet_of_same ((in_yes x a b _ h1 h2).mono fun _ _ h => ⟨h.1, h.2.symm⟩)

set_option maxRecDepth 100000 in
set_option maxHeartbeats 4000000 in
/-- one of the points is none -/
theorem out (w : World) (m : Nat) (a1 : Option Addr) (n1 c1 : Nat) (z1 : List Gr.Ln) (w1 : RdP w w.heap.size a1 n1 c1 z1) (a2 a3 a4 : Int) (h0 : Gr.code (m : Int) z1 = 0) (hout : ¬ (0 ≤ a2 ∧ a2 < m ∧ 0 ≤ a3 ∧ a3 < m ∧ 0 ≤ a4 ∧ a4 < m)) :
    Calls Try.prog 4 #[.int .i64 (m : Int), .slice a1 n1 c1, .int .i64 a2, .int .i64 a3, .int .i64 a4] w fun e w' => e = .returned (.bool true) ∧ Below w.heap.size w w' := by
  have hm8 : m ≤ 8 := by have := (Gr.code_zero.1 h0).2.1; omega
  have hm1 : 1 ≤ m := by have := (Gr.code_zero.1 h0).1; omega
  have H0 := Lib.hid h0
  clear h0
  have hwr : IntKind.i64.wrap ((m : Int) - 1) = (m : Int) - 1 := by rw [IntKind.wrap_i64]; omega
  have hee : ((m : Int) == (m : Int)) = true := by simp
  have hee2 : (m == m) = true := by simp
  by_cases ha : 0 ≤ a2 ∧ a2 < m
  · obtain ⟨ha1, ha2⟩ := ha
    by_cases hb : 0 ≤ a3 ∧ a3 < m
    · obtain ⟨hb1, hb2⟩ := hb
      have hc : a4 < 0 ∨ (m : Int) - 1 < a4 := by
        by_cases h : 0 ≤ a4 ∧ a4 < m
        · exact absurd ⟨ha1, ha2, hb1, hb2, h.1, h.2⟩ hout
        · omega
      have HC := Lib.hid hc
      clear hout hc
      go_enter Try.func4, Try.ntmps4
      go_wp2_with (first
        | (go_at_call 7; refine (walkFact_any _).mono ?_; rintro e x1 ⟨rfl, hb1'⟩)
        | (go_at_call 11; refine (Parts_good m a1 n1 c1 z1 _ (w1.past hb1') H0.out).mono ?_; rintro e x2 ⟨g, rfl, hown, hb2'⟩)
        | (go_at_call 9; first
            | (refine (in_yes _ _ _ _ (by omega) (by omega)).mono ?_; rintro e x3 ⟨rfl, rfl⟩)
            | (refine (in_no _ _ _ _ (by have := HC.out; omega)).mono ?_; rintro e x3 ⟨rfl, rfl⟩)))
      go_ret
      exact ⟨rfl, hb1'.trans (hb2'.mono hb1'.size)⟩
    · have hc : a3 < 0 ∨ (m : Int) - 1 < a3 := by omega
      have HC := Lib.hid hc
      clear hout hc hb
      go_enter Try.func4, Try.ntmps4
      go_wp2_with (first
        | (go_at_call 7; refine (walkFact_any _).mono ?_; rintro e x1 ⟨rfl, hb1'⟩)
        | (go_at_call 11; refine (Parts_good m a1 n1 c1 z1 _ (w1.past hb1') H0.out).mono ?_; rintro e x2 ⟨g, rfl, hown, hb2'⟩)
        | (go_at_call 9; first
            | (refine (in_yes _ _ _ _ (by omega) (by omega)).mono ?_; rintro e x3 ⟨rfl, rfl⟩)
            | (refine (in_no _ _ _ _ (by have := HC.out; omega)).mono ?_; rintro e x3 ⟨rfl, rfl⟩)))
      go_ret
      exact ⟨rfl, hb1'.trans (hb2'.mono hb1'.size)⟩
  · have hc : a2 < 0 ∨ (m : Int) - 1 < a2 := by omega
    have HC := Lib.hid hc
    clear hout hc ha
    go_enter Try.func4, Try.ntmps4
    go_wp2_with (first
      | (go_at_call 7; refine (walkFact_any _).mono ?_; rintro e x1 ⟨rfl, hb1'⟩)
      | (go_at_call 11; refine (Parts_good m a1 n1 c1 z1 _ (w1.past hb1') H0.out).mono ?_; rintro e x2 ⟨g, rfl, hown, hb2'⟩)
      | (go_at_call 9; refine (in_no _ _ _ _ (by have := HC.out; omega)).mono ?_; rintro e x3 ⟨rfl, rfl⟩))
    go_ret
    exact ⟨rfl, hb1'.trans (hb2'.mono hb1'.size)⟩

set_option maxRecDepth 100000 in
set_option maxHeartbeats 4000000 in
/-- all three are points -/
theorem within (w : World) (m a b c : Nat) (a1 : Option Addr) (n1 c1 : Nat) (z1 : List Gr.Ln) (w1 : RdP w w.heap.size a1 n1 c1 z1) (h0 : Gr.code (m : Int) z1 = 0) (ha : a < m) (hb : b < m) (hc : c < m) :
    Calls Try.prog 4 #[.int .i64 (m : Int), .slice a1 n1 c1, .int .i64 (a : Int), .int .i64 (b : Int), .int .i64 (c : Int)] w fun e w' => e = .returned (.bool true) ∧ Below w.heap.size w w' := by
  have hm8 : m ≤ 8 := by have := (Gr.code_zero.1 h0).2.1; omega
  have H0 := Lib.hid h0
  clear h0
  have hwr : IntKind.i64.wrap ((m : Int) - 1) = (m : Int) - 1 := by rw [IntKind.wrap_i64]; omega
  have hnn : ((m : Int) != (m : Int)) = false := by simp
  have hnn2 : (m != m) = false := by simp
  have ha1 : (0 : Int) ≤ (a : Int) := by omega
  have ha2 : (a : Int) < (m : Int) := by omega
  have hb1 : (0 : Int) ≤ (b : Int) := by omega
  have hb2 : (b : Int) < (m : Int) := by omega
  have hc1 : (0 : Int) ≤ (c : Int) := by omega
  have hc2 : (c : Int) < (m : Int) := by omega
  go_enter Try.func4, Try.ntmps4
  go_wp2_with fail
  refine (walkFact_any _).mono ?_
  rintro e x1 ⟨rfl, k1⟩
  go_wp2_with fail
  refine (Parts_good m a1 n1 c1 z1 _ (w1.past k1) H0.out).mono ?_
  rintro e x2 ⟨gp, rfl, op, k2⟩
  have k02 := k1.trans (k2.mono k1.size)
  go_wp2_with (go_at_call 9; refine (in_yes _ _ _ _ (by omega) (by omega)).mono ?_; rintro e x3 ⟨rfl, rfl⟩)
  refine (From_good m a a1 n1 c1 z1 _ (w1.past k02) H0.out ha).mono ?_
  rintro e x4 ⟨gx, rfl, ox, k4⟩
  have k04 := k02.trans (k4.mono k02.size)
  go_wp2_with fail
  refine (From_good m b a1 n1 c1 z1 _ (w1.past k04) H0.out hb).mono ?_
  rintro e x5 ⟨gy, rfl, oy, k5⟩
  have k05 := k04.trans (k5.mono k04.size)
  have op5 := (op.below k4).below k5
  have ox5 := ox.below k5
  have p1 := op5.cell a ha
  have p2 := op5.cell b hb
  have p3 := ox5.cell b hb
  have p4 := ox5.cell c hc
  have p5 := oy.cell a ha
  have p6 := oy.cell c hc
  rw [Wa.labs_at _ _ ha] at p1
  rw [Wa.labs_at _ _ hb] at p2
  rw [Wa.dists_at _ _ hb] at p3
  rw [Wa.dists_at _ _ hc] at p4 p6
  rw [Wa.dists_at _ _ ha, Wa.dist_sym (Wa.nrow_ok m z1) (Wa.nrow_sym m z1) hb ha] at p5
  have q1 := Wa.lab_range (Wa.nrow_ok m z1) ha
  have q2 := Wa.lab_eq (Wa.nrow_ok m z1) (Wa.nrow_sym m z1) ha hb
  have q3 := fun h1 h2 => Wa.dist_tri (Wa.nrow_ok m z1) ha hb (c := c) h1 h2
  have q4 := Wa.dist_ge (Wa.nrow_ok m z1) ha (b := b)
  have q5 := Wa.dist_ge (Wa.nrow_ok m z1) hb (b := c)
  have q6 := Wa.dist_ge (Wa.nrow_ok m z1) ha (b := c)
  unfold Wa.rch at q2
  rw [decide_eq_true_iff] at q2
  generalize Wa.lab m (Wa.nrow m z1) m a = pa at p1 q1 q2
  generalize Wa.lab m (Wa.nrow m z1) m b = pb at p2 q2
  generalize Wa.dist m (Wa.nrow m z1) a b = u at p3 p5 q2 q3 q4
  generalize Wa.dist m (Wa.nrow m z1) b c = v at p6 q3 q5
  generalize Wa.dist m (Wa.nrow m z1) a c = t at p4 q3 q6
  clear op ox op5 ox5 oy k1 k2 k02 k4 k04 k5
  have e1 : IntKind.i64.wrap (u + v) = u + v := by rw [IntKind.wrap_i64]; omega
  have e2 : (u != u) = false := by simp
  by_cases hu : 0 ≤ u
  · have d1 : (pa == pb) = true := by simpa using q2.2 hu
    have d2 : decide (0 ≤ u) = true := by simpa using hu
    have d3 : decide (u < 0) = false := by simp; omega
    clear q2
    by_cases hv : 0 ≤ v
    · have d4 : decide (v < 0) = false := by simp; omega
      obtain ⟨q7, q8⟩ := q3 hu hv
      have d5 : decide (0 ≤ t) = true := by simpa using q7
      have d6 : decide (t ≤ u + v) = true := by simpa using q8
      clear q3
      go_wp2
      go_quiet (first | (go_at_call 9; exact in_q _ _ _ _ _ (by omega) (by omega)))
      go_wp2
      go_quiet (fail)
      go_wp2
      go_ret
      exact ⟨rfl, (k05.trans (Below.drewN' _ _ _)).trans (Below.drewN' _ _ _)⟩
    · have d4 : decide (v < 0) = true := by simp; omega
      clear q3
      go_wp2
      go_quiet (first | (go_at_call 9; exact in_q _ _ _ _ _ (by omega) (by omega)))
      go_wp2
      go_quiet (fail)
      go_wp2
      go_ret
      exact ⟨rfl, (k05.trans (Below.drewN' _ _ _)).trans (Below.drewN' _ _ _)⟩
  · have d1 : (pa == pb) = false := by simpa using fun h => hu (q2.1 h)
    have d2 : decide (0 ≤ u) = false := by simpa using hu
    have d3 : decide (u < 0) = true := by simp; omega
    clear q2 q3
    go_wp2
    go_quiet (first | (go_at_call 9; exact in_q _ _ _ _ _ (by omega) (by omega)))
    go_wp2
    go_quiet (fail)
    go_wp2
    go_ret
    exact ⟨rfl, (k05.trans (Below.drewN' _ _ _)).trans (Below.drewN' _ _ _)⟩

set_option maxRecDepth 100000 in
set_option maxHeartbeats 4000000 in
theorem walk (w : World) (a0 : Int) (_w0 : (Lit.int .i64 a0).wf = true) (a1 : Option Addr) (n1 c1 : Nat) (z1 : List Gr.Ln) (w1 : RdP w w.heap.size a1 n1 c1 z1) (a2 : Int) (_w2 : (Lit.int .i64 a2).wf = true) (a3 : Int) (_w3 : (Lit.int .i64 a3).wf = true) (a4 : Int) (_w4 : (Lit.int .i64 a4).wf = true) :
    Calls Try.prog 4 #[.int .i64 a0, .slice a1 n1 c1, .int .i64 a2, .int .i64 a3, .int .i64 a4] w fun e w' => e = .returned (.bool true) ∧ Below w.heap.size w w' := by
  by_cases hc : Gr.code a0 z1 = 0
  · obtain ⟨m, rfl⟩ : ∃ m : Nat, a0 = (m : Int) := ⟨a0.toNat, by have := (Gr.code_zero.1 hc).1; omega⟩
    by_cases hin : 0 ≤ a2 ∧ a2 < m ∧ 0 ≤ a3 ∧ a3 < m ∧ 0 ≤ a4 ∧ a4 < m
    · obtain ⟨h1, h2, h3, h4, h5, h6⟩ := hin
      obtain ⟨a, rfl⟩ : ∃ a : Nat, a2 = (a : Int) := ⟨a2.toNat, by omega⟩
      obtain ⟨b, rfl⟩ : ∃ b : Nat, a3 = (b : Int) := ⟨a3.toNat, by omega⟩
      obtain ⟨c, rfl⟩ : ∃ c : Nat, a4 = (c : Int) := ⟨a4.toNat, by omega⟩
      exact within w m a b c a1 n1 c1 z1 w1 hc (by omega) (by omega) (by omega)
    · exact out w m a1 n1 c1 z1 w1 a2 a3 a4 hc hin
  · have H := Lib.hid hc
    clear hc
    go_enter Try.func4, Try.ntmps4
    go_wp2_with (first
      | (go_at_call 7; refine (walkFact_any _).mono ?_; rintro e x1 ⟨rfl, hb1⟩)
      | (go_at_call 11; refine (Parts_bad a0 a1 n1 c1 z1 _ (w1.past hb1) H.out).mono ?_; rintro e x2 ⟨rfl, hb2⟩))
    go_ret
    exact ⟨rfl, hb1.trans (hb2.mono hb1.size)⟩

end Go.Proofs.Ytghmpdhopdmmiaa.walkParts
