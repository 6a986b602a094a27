/-
  The walk of the law TopHalf: for every two sides it returns true.
-/
import Derived.Test.YthdibdghnfkoeaaStableH
import Derived.Test.YthdibdghnfkoeaaTopHalfN
import Derived.Test.YthdibdghnfkoeaaRowsNew
import Derived.Test.YthdibdghnfkoeaaGraphE
import Derived.Test.YthdibdghnfkoeaaMatchL
namespace Go.Proofs.Ythdibdghnfkoeaa.topHalf
open Go.RowKit Go.Shelf
set_option linter.unusedSimpArgs false
set_option linter.unusedVariables false

theorem one1 : St.code [[0]] [[0]] = 0 := by decide
theorem one2 {g : List Nat} (h : St.Opt 1 (St.pl [[0]]) (St.pl [[0]]) g) : g = [0] := by
  have hc := St.code_zero.1 one1
  rw [← St.stbs_opt hc.2.1 hc.2.2 h]
  decide

theorem one_laid (w : World) : RdR ((((w.alloc (.cells #[.int .i64 0] 3)).alloc (.cells #[.slice (some ⟨w.heap.size, 0, none⟩) 1 1] 24)).alloc (.cells #[.int .i64 0] 3)).alloc (.cells #[.slice (some ⟨w.heap.size + 1 + 1, 0, none⟩) 1 1] 24)) ((((w.alloc (.cells #[.int .i64 0] 3)).alloc (.cells #[.slice (some ⟨w.heap.size, 0, none⟩) 1 1] 24)).alloc (.cells #[.int .i64 0] 3)).alloc (.cells #[.slice (some ⟨w.heap.size + 1 + 1, 0, none⟩) 1 1] 24)).heap.size (some ⟨w.heap.size + 1, 0, none⟩) 1 1 [[0]] ∧ RdR ((((w.alloc (.cells #[.int .i64 0] 3)).alloc (.cells #[.slice (some ⟨w.heap.size, 0, none⟩) 1 1] 24)).alloc (.cells #[.int .i64 0] 3)).alloc (.cells #[.slice (some ⟨w.heap.size + 1 + 1, 0, none⟩) 1 1] 24)) ((((w.alloc (.cells #[.int .i64 0] 3)).alloc (.cells #[.slice (some ⟨w.heap.size, 0, none⟩) 1 1] 24)).alloc (.cells #[.int .i64 0] 3)).alloc (.cells #[.slice (some ⟨w.heap.size + 1 + 1, 0, none⟩) 1 1] 24)).heap.size (some ⟨w.heap.size + 1 + 1 + 1, 0, none⟩) 1 1 [[0]] ∧ Below w.heap.size w ((((w.alloc (.cells #[.int .i64 0] 3)).alloc (.cells #[.slice (some ⟨w.heap.size, 0, none⟩) 1 1] 24)).alloc (.cells #[.int .i64 0] 3)).alloc (.cells #[.slice (some ⟨w.heap.size + 1 + 1, 0, none⟩) 1 1] 24)) := by
  obtain ⟨w2, hw2⟩ : ∃ w2, w2 = (w.alloc (.cells #[.int .i64 0] 3)).alloc (.cells #[.slice (some ⟨w.heap.size, 0, none⟩) 1 1] 24) := ⟨_, rfl⟩
  have s2 : w2.heap.size = w.heap.size + 1 + 1 := by rw [hw2]; simp
  have hA := RdR.single w 0 3 24
  have hB := RdR.single w2 0 3 24
  have b2 : Below w.heap.size w w2 := by rw [hw2]; exact ((Below.refl _ _).alloc (Nat.le_refl _) _).alloc (by simp) _
  have b4 : Below w2.heap.size w2 ((w2.alloc (.cells #[.int .i64 0] 3)).alloc (.cells #[.slice (some ⟨w2.heap.size, 0, none⟩) 1 1] 24)) := ((Below.refl _ _).alloc (Nat.le_refl _) _).alloc (by simp) _
  rw [← hw2, ← s2] at hA
  rw [← hw2, ← s2]
  have s4 : ((w2.alloc (.cells #[.int .i64 0] 3)).alloc (.cells #[.slice (some ⟨w2.heap.size, 0, none⟩) 1 1] 24)).heap.size = w2.heap.size + 1 + 1 := by simp
  refine ⟨(hA.below b4).more b4.size, ?_, b2.trans (b4.mono b2.size)⟩
  rw [s4]
  exact hB

set_option maxRecDepth 100000 in
set_option maxHeartbeats 2000000 in
/-- something is wrong with the rankings -/
theorem bad (w : World) (a0 : Option Addr) (n0 c0 : Nat) (z0 : List (List Int)) (w0 : RdR w w.heap.size a0 n0 c0 z0) (a1 : Option Addr) (n1 c1 : Nat) (z1 : List (List Int)) (w1 : RdR w w.heap.size a1 n1 c1 z1) (hc : St.code z0 z1 ≠ 0) :
    Calls Try.prog 6 #[.slice a0 n0 c0, .slice a1 n1 c1] w fun e w' => e = .returned (.bool true) ∧ Below w.heap.size w w' := by
  have HN := Lib.hid hc
  clear hc
  go_enter Try.func6, Try.ntmps6
  go_wp2_with fail
  refine (Pairs_err a0 a1 n0 n1 c0 c1 z0 z1 _ w0 w1 HN.out).mono ?_
  rintro e x1 ⟨rfl, b1⟩
  go_wp2_with fail
  have hlay := one_laid x1
  revert hlay
  generalize ((((x1.alloc (.cells #[.int .i64 0] 3)).alloc (.cells #[.slice (some ⟨x1.heap.size, 0, none⟩) 1 1] 24)).alloc (.cells #[.int .i64 0] 3)).alloc (.cells #[.slice (some ⟨x1.heap.size + 1 + 1, 0, none⟩) 1 1] 24)) = x2
  generalize x1.heap.size + 1 + 1 + 1 = q2
  generalize x1.heap.size + 1 = q1
  rintro ⟨hA, hB, b2⟩
  have b02 := b1.trans (b2.mono b1.size)
  refine (Pairs_rd 1 _ _ 1 1 _ _ _ hA hB one1).mono ?_
  rintro e x3 ⟨A3, c3, g3, rfl, hopt3, hr3, b3⟩
  have hg3 := one2 hopt3
  subst hg3
  have b03 := b02.trans (b3.mono b02.size)
  have hn := Rd.one x3 0 3
  have b4 : Below x3.heap.size x3 (x3.alloc (.cells #[.int .i64 0] 3)) := (Below.refl _ _).alloc (Nat.le_refl _) _
  have b04 := b03.trans (b4.mono b03.size)
  clear hopt3 hA hB b2 b02 b3 b03 b1
  go_wp2_with fail
  refine (Ints_t A3 _ 1 1 c3 1 (St.up [0]) [0] true _ (hr3.past b4) (hn.more (by simp)) (by decide)).mono ?_
  rintro e x5 ⟨rfl, b5⟩
  go_wp2
  go_ret
  exact ⟨rfl, b04.trans (b5.mono b04.size)⟩

set_option maxRecDepth 100000 in
set_option maxHeartbeats 2000000 in
/-- nothing is wrong with them -/
theorem good (w : World) (n : Nat) (a0 : Option Addr) (c0 : Nat) (z0 : List (List Int)) (w0 : RdR w w.heap.size a0 n c0 z0) (a1 : Option Addr) (c1 : Nat) (z1 : List (List Int)) (w1 : RdR w w.heap.size a1 n c1 z1) (hc : St.code z0 z1 = 0) :
    Calls Try.prog 6 #[.slice a0 n c0, .slice a1 n c1] w fun e w' => e = .returned (.bool true) ∧ Below w.heap.size w w' := by
  have HN := Lib.hid hc
  have hcz := St.code_zero.1 hc
  rw [w0.len] at hcz
  have h6 := hcz.1
  clear hc hcz
  have s2 : ((n : Int) != (n : Int)) = false := by simp
  have s3 : (n != n) = false := by simp
  have s4 : ((n : Int) == (n : Int)) = true := by simp
  have s5 : (n == n) = true := by simp
  have s6 : decide ((6 : Int) < (n : Int)) = false := by simp; omega
  have s7 : decide (6 < n) = false := by simp; omega
  go_enter Try.func6, Try.ntmps6
  go_wp2_with fail
  refine (Pairs_rd n a0 a1 c0 c1 z0 z1 _ w0 w1 HN.out).mono ?_
  rintro e x1 ⟨A1, d1, g, rfl, hopt, hr1, b1⟩
  have HP := Lib.hid hopt.1
  clear hopt
  go_wp2_with fail
  have hlay := one_laid x1
  revert hlay
  generalize ((((x1.alloc (.cells #[.int .i64 0] 3)).alloc (.cells #[.slice (some ⟨x1.heap.size, 0, none⟩) 1 1] 24)).alloc (.cells #[.int .i64 0] 3)).alloc (.cells #[.slice (some ⟨x1.heap.size + 1 + 1, 0, none⟩) 1 1] 24)) = x2
  generalize x1.heap.size + 1 + 1 + 1 = q2
  generalize x1.heap.size + 1 = q1
  rintro ⟨hA, hB, b2⟩
  have b02 := b1.trans (b2.mono b1.size)
  have hr2 := hr1.past b2
  refine (Pairs_rd 1 _ _ 1 1 _ _ _ hA hB one1).mono ?_
  rintro e x3 ⟨A3, c3, g3, rfl, hopt3, hr3, b3⟩
  have hg3 := one2 hopt3
  subst hg3
  have b03 := b02.trans (b3.mono b02.size)
  have hn := Rd.one x3 0 3
  have b4 : Below x3.heap.size x3 (x3.alloc (.cells #[.int .i64 0] 3)) := (Below.refl _ _).alloc (Nat.le_refl _) _
  have b04 := b03.trans (b4.mono b03.size)
  have hr4 := (hr2.past b3).past b4
  clear hopt3 hA hB b2 b02 b3 b03 b1 hr1 hr2
  go_wp2_with fail
  refine (Ints_t A3 _ 1 1 c3 1 (St.up [0]) [0] true _ (hr3.past b4) (hn.more (by simp)) (by decide)).mono ?_
  rintro e x5 ⟨rfl, b5⟩
  have b05 := b04.trans (b5.mono b04.size)
  have hr5 := hr4.past b5
  clear hr3 hr4 hn b4 b04 b5 w0 w1
  go_wp2
  go_loopw [10, 11] (fun lv iv wr => ∃ k : Nat, k ≤ n ∧ iv = .int .i64 (k : Int) ∧ OwnP wr x5.heap.size 40 lv (St.pln g k) ∧ Below x5.heap.size x5 wr) (fun _ iv _ => n - (intOf iv).toNat)
  case atStart => exact ⟨0, Nat.zero_le _, rfl, OwnP.nil _ _ _, Below.refl _ _⟩
  case round =>
    obtain ⟨k, hk, rfl, hown, hbel⟩ := hrel
    have hsz := hbel.size
    by_cases hlt : k < n
    · obtain ⟨b1, o1, rfl, hb1, hc1⟩ := (hr5.below hbel).at_ (by omega)
      have f1 := hc1 k hlt
      rw [St.up_at] at f1
      have HF := Lib.hid (St.pln_succ g k)
      generalize g.getD k 0 = u at f1 HF
      clear hc1
      have k1 : (0 : Int) ≤ (k : Int) := by omega
      have k2 : (k : Int) < (n : Int) := by omega
      have hlen : (St.pln g k).length + 1 ≤ 8796093022208 := by rw [St.pln_len]; omega
      have hownA := hown.below ((Below.refl wr.heap.size wr).alloc (Nat.le_refl _) (.cells #[.int .i64 (k : Int), .int .i64 (u : Int)] 40))
      have hbA := hbel.alloc hsz (.cells #[.int .i64 (k : Int), .int .i64 (u : Int)] 40)
      go_wp2_with (at_builtin; refine wpList_appP _ rfl (.tmp 55) (.tmp 62) 38 rfl x5.heap.size 40 Try.underlying38 lineInfo _ (St.pln g k) rfl hownA (some ⟨wr.heap.size, 0, none⟩) 1 1 [((k : Int), (u : Int))] rfl (RdP.one _ _ _) hlen hbA.size ?_; intro v3 y3 hown3 hg3 hat3; have hb3 := below_appP hbA hownA hg3 hbA.size)
      go_roundw
      case rel => exact ⟨k + 1, by omega, by go_num, by rw [HF.out]; exact hown3, hb3⟩
      case measure => simp [intOf]; omega
    · obtain rfl : k = n := by omega
      obtain ⟨A5, c5, rfl, r5⟩ := hown.rd
      rw [St.pln_len] at r5 ⊢
      have b06 := b05.trans (hbel.mono b05.size)
      clear hown hbel hsz hr5 b05
      go_wp2_with fail
      refine (Most_ok k k A5 k c5 (St.pln g k) _ r5 (St.pln_code HP.out h6)).mono ?_
      rw [St.pln_nu HP.out]
      rintro e x7 ⟨rfl, b7⟩
      go_wp2
      go_ret
      exact ⟨rfl, b06.trans (b7.mono b06.size)⟩

theorem walk (w : World) (a0 : Option Addr) (n0 c0 : Nat) (z0 : List (List Int)) (w0 : RdR w w.heap.size a0 n0 c0 z0) (a1 : Option Addr) (n1 c1 : Nat) (z1 : List (List Int)) (w1 : RdR w w.heap.size a1 n1 c1 z1) :
    Calls Try.prog 6 #[.slice a0 n0 c0, .slice a1 n1 c1] w fun e w' => e = .returned (.bool true) ∧ Below w.heap.size w w' := by
  by_cases hc : St.code z0 z1 = 0
  · have e := St.code_len hc
    rw [w0.len, w1.len] at e
    subst e
    exact good w n1 a0 c0 z0 w0 a1 c1 z1 w1 hc
  · exact bad w a0 n0 c0 z0 w0 a1 n1 c1 z1 w1 hc

end Go.Proofs.Ythdibdghnfkoeaa.topHalf
