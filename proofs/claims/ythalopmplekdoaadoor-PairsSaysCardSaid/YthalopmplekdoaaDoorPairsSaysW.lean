/-
  The walk of the law PairsSays: for every names, ors and answer it returns true, where the library's variable errors.errorType holds what its initialiser lays.
-/
import Derived.Test.YthalopmplekdoaaDoorPairsG
import Derived.Test.YthalopmplekdoaaDoorRefPa
import Derived.Test.YthalopmplekdoaaDoorBoolsE
import Derived.Test.YthalopmplekdoaaDoorErrS
namespace Go.Proofs.YthalopmplekdoaaDoor.pairsSays
open Go.RowKit
set_option linter.unusedSimpArgs false
set_option linter.unusedVariables false

set_option maxRecDepth 100000 in
set_option maxHeartbeats 4000000 in
/-- something is wrong with the ors -/
theorem bad (w : World) (het : tld.EtIs w) (a0 : Int) (a1 : Option Addr) (n1 c1 : Nat) (z1 : List Or2) (w1 : RdO w w.heap.size a1 n1 c1 z1) (a2 : Option Addr) (n2 c2 : Nat) (z2 : List Bool) (w2 : RdB w w.heap.size a2 n2 c2 z2) (hc : Pa.code a0 z1 ≠ 0) :
    Calls Tryd.prog 3 #[.int .i64 a0, .slice a1 n1 c1, .slice a2 n2 c2] w fun e w' => e = .returned (.bool true) ∧ Below w.heap.size w w' := by
  obtain ⟨k, hk⟩ : ∃ k, Pa.code a0 z1 = k := ⟨_, rfl⟩
  have HK := Lib.hid hk
  have HN : Hid (Pa.code a0 z1 ≠ 0) := hc
  have d1 : (k == 0) = false := by rw [← hk]; simpa using hc
  clear hk hc
  go_enter Tryd.func3, Tryd.ntmps3
  go_wp2_with fail
  refine (RefPa.Ors_any a0 a1 n1 c1 z1 _ w1).mono ?_
  rw [HK.out]
  rintro e x' ⟨rfl, rfl⟩
  go_wp2_with fail
  refine (PCheck_err a0 a1 n1 c1 z1 _ w1 HN.out).mono ?_
  rw [HK.out]
  rintro e x1 ⟨rfl, b1⟩
  have h1 := b1
  go_wp2_with fail
  refine (Err_same k _ (het.below h1)).mono ?_
  rintro e x2 ⟨rfl, b2⟩
  have h2 := h1.trans (b2.mono h1.size)
  go_wp2_with fail
  refine (Solve_err a0 a1 n1 c1 z1 _ (w1.past h2) HN.out).mono ?_
  rw [HK.out]
  rintro e x3 ⟨rfl, b3⟩
  have h3 := h2.trans (b3.mono h2.size)
  go_wp2_with fail
  refine (Err_same k _ (het.below h3)).mono ?_
  rintro e x4 ⟨rfl, b4⟩
  have h4 := h3.trans (b4.mono h3.size)
  go_wp2_with fail
  refine (Bools_t none none 0 0 0 0 [] [] true _ (RdB.nil _ _) (RdB.nil _ _) rfl).mono ?_
  rintro e x5 ⟨rfl, b5⟩
  have h5 := h4.trans (b5.mono h4.size)
  go_wp2_with fail
  refine (PIs_err a0 a1 a2 n1 c1 n2 c2 z1 _ (w1.past h5) HN.out).mono ?_
  rw [HK.out]
  rintro e x6 ⟨rfl, b6⟩
  have h6 := h5.trans (b6.mono h5.size)
  go_wp2_with fail
  refine (Err_same k _ (het.below h6)).mono ?_
  rintro e x7 ⟨rfl, b7⟩
  have h7 := h6.trans (b7.mono h6.size)
  go_wp2
  go_ret
  exact ⟨rfl, h7⟩

set_option maxRecDepth 100000 in
set_option maxHeartbeats 4000000 in
/-- there is an answer -/
theorem good (w : World) (het : tld.EtIs w) (N : Nat) (a1 : Option Addr) (n1 c1 : Nat) (z1 : List Or2) (w1 : RdO w w.heap.size a1 n1 c1 z1) (a2 : Option Addr) (n2 c2 : Nat) (z2 : List Bool) (w2 : RdB w w.heap.size a2 n2 c2 z2) (h0 : Pa.code (N : Int) z1 = 0) (m : List Bool) (hle : Pa.Least z1 N m) :
    Calls Tryd.prog 3 #[.int .i64 (N : Int), .slice a1 n1 c1, .slice a2 n2 c2] w fun e w' => e = .returned (.bool true) ∧ Below w.heap.size w w' := by
  have H0 := Lib.hid h0
  have hN4 := (Pa.code_good h0).2.1
  have HG := Lib.hid (Pa.code_good h0).2.2.2
  have hbig := w2.big
  have HA : Hid (Pa.ans (Pa.right z1) N [] = some m) := hle.ans
  have HLE := Lib.hid hle
  have HL : Hid (m.length = N) := hle.1
  clear h0 hle
  go_enter Tryd.func3, Tryd.ntmps3
  go_wp2_with fail
  refine (RefPa.Ors_any (N : Int) a1 n1 c1 z1 _ w1).mono ?_
  rw [H0.out]
  rintro e x' ⟨rfl, rfl⟩
  go_wp2_with fail
  refine (PCheck_nil (N : Int) a1 n1 c1 z1 _ w1 H0.out).mono ?_
  rintro e x1 ⟨rfl, b1⟩
  have h1 := b1
  go_wp2_with fail
  refine (Err_none _).mono ?_
  rintro e x' ⟨rfl, rfl⟩
  go_wp2_with fail
  refine (RefPa.Answer_any N hN4 a1 n1 c1 _ z1 HG.out N [] none 0 0 _ (Nat.zero_add _) (w1.past h1) (Nat.le_refl _) (RdB.nil _ _)).mono ?_
  unfold RefPa.AnPost
  rintro e x2 ⟨b2, (⟨o, A3, c3, hn, rfl, hrd⟩ | ⟨hn, _⟩)⟩
  case inr => rw [HA.out] at hn; cases hn
  obtain rfl : o = m := by rw [HA.out] at hn; exact (Option.some.inj hn).symm
  rw [HL.out] at hrd ⊢
  clear hn
  have h2 := h1.trans (b2.mono h1.size)
  go_wp2_with fail
  refine (Solve_rd N a1 n1 c1 z1 o _ (w1.past h2) H0.out HLE.out).mono ?_
  rintro e x3 ⟨⟨g4, rfl, hm4⟩, b3⟩
  have h3 := h2.trans (b3.mono h2.size)
  have hrd4 := hrd.past b3
  go_wp2_with fail
  refine (Err_none _).mono ?_
  rintro e x' ⟨rfl, rfl⟩
  go_wp2_with fail
  refine (Bools_t _ _ N N _ _ o o true _ hm4 hrd4 (by simp)).mono ?_
  rintro e x4 ⟨rfl, b4⟩
  have h4 := h3.trans (b4.mono h3.size)
  by_cases hn2 : n2 = N
  · subst hn2
    obtain ⟨t, ht⟩ : ∃ t, Pa.right z1 z2 = t := ⟨_, rfl⟩
    have HT := Lib.hid ht
    clear ht
    have dnn : ((n2 : Int) == (n2 : Int)) = true := by simp
    go_wp2_with fail
    refine (PIs_ok n2 a1 a2 n1 c1 c2 z1 z2 t _ (w1.past h4) (w2.past h4) H0.out HT.out).mono ?_
    rintro e x5 ⟨rfl, b5⟩
    have h5 := h4.trans (b5.mono h4.size)
    go_wp2_with fail
    refine (Err_none _).mono ?_
    rintro e x' ⟨rfl, rfl⟩
    go_wp2_with fail
    refine (RefPa.Right_any n2 a1 a2 n1 c1 c2 z1 z2 t _ (w1.past h5) (w2.past h5) HG.out HT.out).mono ?_
    rintro e x6 ⟨rfl, b6⟩
    have h6 := h5.trans (b6.mono h5.size)
    cases t
    all_goals
      go_wp2
      go_ret
      exact ⟨rfl, h6⟩
  · have dnn : ((n2 : Int) == (N : Int)) = false := by simp; omega
    go_wp2_with fail
    refine (PIs_shape N a1 a2 n1 c1 n2 c2 z1 z2 _ (w1.past h4) (w2.past h4) H0.out hn2).mono ?_
    rintro e x5 ⟨rfl, b5⟩
    have h5 := h4.trans (b5.mono h4.size)
    go_wp2_with fail
    refine (Err_same 3 _ (het.below h5)).mono ?_
    rintro e x6 ⟨rfl, b6⟩
    have h6 := h5.trans (b6.mono h5.size)
    go_wp2
    go_ret
    exact ⟨rfl, h6⟩

set_option maxRecDepth 100000 in
set_option maxHeartbeats 4000000 in
/-- nothing is right -/
theorem none_ (w : World) (het : tld.EtIs w) (N : Nat) (a1 : Option Addr) (n1 c1 : Nat) (z1 : List Or2) (w1 : RdO w w.heap.size a1 n1 c1 z1) (a2 : Option Addr) (n2 c2 : Nat) (z2 : List Bool) (w2 : RdB w w.heap.size a2 n2 c2 z2) (h0 : Pa.code (N : Int) z1 = 0) (hn : Pa.ans (Pa.right z1) N [] = none) :
    Calls Tryd.prog 3 #[.int .i64 (N : Int), .slice a1 n1 c1, .slice a2 n2 c2] w fun e w' => e = .returned (.bool true) ∧ Below w.heap.size w w' := by
  have H0 := Lib.hid h0
  have hN4 := (Pa.code_good h0).2.1
  have HG := Lib.hid (Pa.code_good h0).2.2.2
  have hbig := w2.big
  have HA := Lib.hid hn
  clear h0 hn
  go_enter Tryd.func3, Tryd.ntmps3
  go_wp2_with fail
  refine (RefPa.Ors_any (N : Int) a1 n1 c1 z1 _ w1).mono ?_
  rw [H0.out]
  rintro e x' ⟨rfl, rfl⟩
  go_wp2_with fail
  refine (PCheck_nil (N : Int) a1 n1 c1 z1 _ w1 H0.out).mono ?_
  rintro e x1 ⟨rfl, b1⟩
  have h1 := b1
  go_wp2_with fail
  refine (Err_none _).mono ?_
  rintro e x' ⟨rfl, rfl⟩
  go_wp2_with fail
  refine (RefPa.Answer_any N hN4 a1 n1 c1 _ z1 HG.out N [] none 0 0 _ (Nat.zero_add _) (w1.past h1) (Nat.le_refl _) (RdB.nil _ _)).mono ?_
  unfold RefPa.AnPost
  rintro e x2 ⟨b2, (⟨o, A3, c3, hn, rfl, hrd⟩ | ⟨hn, v3, rfl⟩)⟩
  case inl => rw [HA.out] at hn; cases hn
  clear hn
  have h2 := h1.trans (b2.mono h1.size)
  go_wp2_with fail
  refine (Solve_no N a1 n1 c1 z1 _ (w1.past h2) H0.out HA.out).mono ?_
  rintro e x3 ⟨rfl, b3⟩
  have h3 := h2.trans (b3.mono h2.size)
  go_wp2_with fail
  refine (Err_same 5 _ (het.below h3)).mono ?_
  rintro e x4 ⟨rfl, b4⟩
  have h4 := h3.trans (b4.mono h3.size)
  go_wp2_with fail
  refine (Bools_t none none 0 0 0 0 [] [] true _ (RdB.nil _ _) (RdB.nil _ _) rfl).mono ?_
  rintro e x5 ⟨rfl, b5⟩
  have h5 := h4.trans (b5.mono h4.size)
  by_cases hn2 : n2 = N
  · subst hn2
    obtain ⟨t, ht⟩ : ∃ t, Pa.right z1 z2 = t := ⟨_, rfl⟩
    have HT := Lib.hid ht
    clear ht
    have dnn : ((n2 : Int) == (n2 : Int)) = true := by simp
    go_wp2_with fail
    refine (PIs_ok n2 a1 a2 n1 c1 c2 z1 z2 t _ (w1.past h5) (w2.past h5) H0.out HT.out).mono ?_
    rintro e x6 ⟨rfl, b6⟩
    have h6 := h5.trans (b6.mono h5.size)
    go_wp2_with fail
    refine (Err_none _).mono ?_
    rintro e x' ⟨rfl, rfl⟩
    go_wp2_with fail
    refine (RefPa.Right_any n2 a1 a2 n1 c1 c2 z1 z2 t _ (w1.past h6) (w2.past h6) HG.out HT.out).mono ?_
    rintro e x7 ⟨rfl, b7⟩
    have h7 := h6.trans (b7.mono h6.size)
    cases t
    all_goals
      go_wp2
      go_ret
      exact ⟨rfl, h7⟩
  · have dnn : ((n2 : Int) == (N : Int)) = false := by simp; omega
    go_wp2_with fail
    refine (PIs_shape N a1 a2 n1 c1 n2 c2 z1 z2 _ (w1.past h5) (w2.past h5) H0.out hn2).mono ?_
    rintro e x6 ⟨rfl, b6⟩
    have h6 := h5.trans (b6.mono h5.size)
    go_wp2_with fail
    refine (Err_same 3 _ (het.below h6)).mono ?_
    rintro e x7 ⟨rfl, b7⟩
    have h7 := h6.trans (b7.mono h6.size)
    go_wp2
    go_ret
    exact ⟨rfl, h7⟩

theorem walk (w : World) (het : tld.EtIs w) (a0 : Int) (w0 : (Lit.int .i64 a0).wf = true) (a1 : Option Addr) (n1 c1 : Nat) (z1 : List Or2) (w1 : RdO w w.heap.size a1 n1 c1 z1) (a2 : Option Addr) (n2 c2 : Nat) (z2 : List Bool) (w2 : RdB w w.heap.size a2 n2 c2 z2) :
    Calls Tryd.prog 3 #[.int .i64 a0, .slice a1 n1 c1, .slice a2 n2 c2] w fun e w' => e = .returned (.bool true) ∧ Below w.heap.size w w' := by
  by_cases h : Pa.code a0 z1 = 0
  · obtain ⟨N, rfl⟩ : ∃ N : Nat, a0 = (N : Int) := ⟨a0.toNat, by have := (Pa.code_zero.1 h).1; omega⟩
    rcases Pa.outcome z1 N with ⟨m, _, hm⟩ | ⟨hm, _⟩
    · exact good w het N a1 n1 c1 z1 w1 a2 n2 c2 z2 w2 h m hm
    · exact none_ w het N a1 n1 c1 z1 w1 a2 n2 c2 z2 w2 h hm
  · exact bad w het a0 a1 n1 c1 z1 w1 a2 n2 c2 z2 w2 h

end Go.Proofs.YthalopmplekdoaaDoor.pairsSays
