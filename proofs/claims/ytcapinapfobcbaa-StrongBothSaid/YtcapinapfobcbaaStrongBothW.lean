/-
  The walk of the law StrongBoth: for every number of points, lines and two points it returns true.
-/
import Derived.Test.YtcapinapfobcbaaStrongF
import Derived.Test.YtcapinapfobcbaaRefL
import Derived.Test.YtcapinapfobcbaaIn2
import Derived.BigQuiet
namespace Go.Proofs.Ytcapinapfobcbaa.strongBoth
open Go.RowKit
set_option linter.unusedSimpArgs false
set_option linter.unusedVariables false

set_option maxRecDepth 100000 in
set_option maxHeartbeats 1000000 in
/-- something is wrong with the lines -/
theorem bad (w : World) (a0 : Int) (a1 : Option Addr) (n1 c1 : Nat) (z1 : List Gr.Ln) (w1 : RdP w w.heap.size a1 n1 c1 z1) (a2 a3 : Int) (hc : Gr.code a0 z1 ≠ 0) :
    Calls Try.prog 3 #[.int .i64 a0, .slice a1 n1 c1, .int .i64 a2, .int .i64 a3] w fun e w' => e = .returned (.bool true) ∧ Below w.heap.size w w' := by
  have HN := Lib.hid hc
  clear hc
  go_enter Try.func3, Try.ntmps3
  go_wp2_with fail
  refine (strongFact_any _).mono ?_
  rintro e x1 ⟨rfl, b1⟩
  go_wp2_with fail
  refine (Parts_code a0 a1 n1 c1 z1 _ (w1.past b1) HN.out).mono ?_
  rintro e x2 ⟨rfl, b2⟩
  go_wp2
  go_ret
  exact ⟨rfl, b1.trans (b2.mono b1.size)⟩

set_option maxRecDepth 100000 in
set_option maxHeartbeats 2000000 in
/-- one of the two is no point -/
theorem out (w : World) (m : Nat) (a1 : Option Addr) (n1 c1 : Nat) (z1 : List Gr.Ln) (w1 : RdP w w.heap.size a1 n1 c1 z1) (a2 a3 : Int) (h0 : Gr.code (m : Int) z1 = 0) (hout : (a2 < 0 ∨ (m : Int) ≤ a2) ∨ (0 ≤ a2 ∧ a2 < (m : Int) ∧ (a3 < 0 ∨ (m : Int) ≤ a3))) :
    Calls Try.prog 3 #[.int .i64 (m : Int), .slice a1 n1 c1, .int .i64 a2, .int .i64 a3] w fun e w' => e = .returned (.bool true) ∧ Below w.heap.size w w' := by
  have hm8 : m ≤ 8 := by have := (Gr.code_zero.1 h0).2.1; omega
  have hm1 : 1 ≤ m := by have := (Gr.code_zero.1 h0).1; omega
  have H0 := Lib.hid h0
  have HO := Lib.hid hout
  clear h0 hout
  obtain ⟨q, hq⟩ : ∃ q : Int, q = (m : Int) - 1 := ⟨_, rfl⟩
  have hwr : IntKind.i64.wrap ((m : Int) - 1) = q := by rw [IntKind.wrap_i64] <;> omega
  have HQ := Lib.hid hq
  clear hq
  go_enter Try.func3, Try.ntmps3
  go_wp2_with fail
  refine (strongFact_any _).mono ?_
  rintro e x1 ⟨rfl, b1⟩
  go_wp2_with fail
  refine (Parts_yes m a1 n1 c1 z1 _ (w1.past b1) H0.out).mono ?_
  rintro e x2 ⟨A2, c2, rfl, r2, b2⟩
  have b02 := b1.trans (b2.mono b1.size)
  go_wp2_with fail
  refine (All_yes m a1 n1 c1 z1 _ (w1.past b02) H0.out).mono ?_
  rintro e x3 ⟨A3, c3, rfl, r3, b3⟩
  have b03 := b02.trans (b3.mono b02.size)
  clear r2 r3 b1 b2 b3 b02
  rcases HO.out with h | ⟨h1, h2, h⟩
  · have HH : Hid (a2 < 0 ∨ q < a2) := by
      show _ ∨ _
      have := HQ.out
      omega
    clear h
    go_wp2_with fail
    refine (in2_no a2 0 q _ HH.out).mono ?_
    rintro e x4 ⟨rfl, rfl⟩
    go_wp2
    go_ret
    exact ⟨rfl, b03⟩
  · have HH : Hid (a3 < 0 ∨ q < a3) := by
      show _ ∨ _
      have := HQ.out
      omega
    have HH2 : Hid (0 ≤ a2 ∧ a2 ≤ q) := by
      show _ ∧ _
      have := HQ.out
      omega
    clear h h1 h2
    go_wp2_with fail
    refine (in2_yes a2 0 q _ HH2.out.1 HH2.out.2).mono ?_
    rintro e x4 ⟨rfl, rfl⟩
    go_wp2_with fail
    refine (in2_no a3 0 q _ HH.out).mono ?_
    rintro e x4 ⟨rfl, rfl⟩
    go_wp2
    go_ret
    exact ⟨rfl, b03⟩

set_option maxRecDepth 100000 in
set_option maxHeartbeats 4000000 in
theorem good (w : World) (m : Nat) (a1 : Option Addr) (n1 c1 : Nat) (z1 : List Gr.Ln) (w1 : RdP w w.heap.size a1 n1 c1 z1) (a b : Nat) (ha : a < m) (hb : b < m) (h0 : Gr.code (m : Int) z1 = 0) :
    Calls Try.prog 3 #[.int .i64 (m : Int), .slice a1 n1 c1, .int .i64 (a : Int), .int .i64 (b : Int)] w fun e w' => e = .returned (.bool true) ∧ Below w.heap.size w w' := by
  have hm8 : m ≤ 8 := by have := (Gr.code_zero.1 h0).2.1; omega
  have HG := Lib.hid (Gr.code_zero.1 h0).2.2.2
  have H0 := Lib.hid h0
  have HPA := Lib.hid (Sg.pt_spec (ls := z1) ha).1
  have HPE := Lib.hid (Sg.pt_eq (ls := z1) ha hb)
  have HBI := Lib.hid (Sg.both_iff HG.out ha hb)
  clear h0
  obtain ⟨q, hq⟩ : ∃ q : Int, q = (m : Int) - 1 := ⟨_, rfl⟩
  have hwr : IntKind.i64.wrap ((m : Int) - 1) = q := by rw [IntKind.wrap_i64] <;> omega
  have HQ := Lib.hid hq
  clear hq
  have HI1 : Hid ((0 : Int) ≤ (a : Int) ∧ (a : Int) ≤ q) := by show _ ∧ _; have := HQ.out; omega
  have HI2 : Hid ((0 : Int) ≤ (b : Int) ∧ (b : Int) ≤ q) := by show _ ∧ _; have := HQ.out; omega
  have k1 : (0 : Int) ≤ (a : Int) := by omega
  have k2 : (a : Int) < (m : Int) := by omega
  have k3 : (0 : Int) ≤ (b : Int) := by omega
  have k4 : (b : Int) < (m : Int) := by omega
  obtain ⟨pa, hpa⟩ : ∃ pa, pa = Sg.pt m z1 a := ⟨_, rfl⟩
  obtain ⟨pb, hpb⟩ : ∃ pb, pb = Sg.pt m z1 b := ⟨_, rfl⟩
  rw [← hpa] at HPA
  rw [← hpa, ← hpb] at HPE
  have HPA1 := Lib.hid hpa
  have HPB1 := Lib.hid hpb
  have HIN : Hid ((0 : Int) ≤ (pa : Int) ∧ (pa : Int) ≤ (a : Int)) := by show _ ∧ _; have := HPA.out; omega
  clear hpa hpb
  go_enter Try.func3, Try.ntmps3
  go_wp2_with fail
  refine (strongFact_any _).mono ?_
  rintro e x1 ⟨rfl, b1⟩
  go_wp2_with fail
  refine (Parts_yes m a1 n1 c1 z1 _ (w1.past b1) H0.out).mono ?_
  rintro e x2 ⟨A2, c2, rfl, r2, b2⟩
  have b02 := b1.trans (b2.mono b1.size)
  go_wp2_with fail
  refine (All_yes m a1 n1 c1 z1 _ (w1.past b02) H0.out).mono ?_
  rintro e x3 ⟨A3, c3, rfl, r3, b3⟩
  have b03 := b02.trans (b3.mono b02.size)
  have r2 := r2.past b3
  obtain ⟨bP, oP, rfl, _, hcP⟩ := r2.at_ (by omega)
  obtain ⟨bR, oR, rfl, _, hcR⟩ := r3.at_ (by omega)
  have p1 := hcP a ha
  have p2 := hcP b hb
  rw [Sg.parts_at ha, ← HPA1.out] at p1
  rw [Sg.parts_at hb, ← HPB1.out] at p2
  obtain ⟨A5, c5, g5, r5⟩ := hcR a ha
  obtain ⟨A6, c6, g6, r6⟩ := hcR b hb
  rw [Cl.crows_at z1 ha] at g5 r5
  rw [Cl.crows_at z1 hb] at g6 r6
  obtain ⟨N5, hN5⟩ : ∃ N, N = (Cl.crow m z1 a).length := ⟨_, rfl⟩
  obtain ⟨N6, hN6⟩ : ∃ N, N = (Cl.crow m z1 b).length := ⟨_, rfl⟩
  rw [← hN5] at g5 r5
  rw [← hN6] at g6 r6
  clear hN5 hN6 hcP hcR r2 r3 b1 b2 b3 b02
  go_wp2_with fail
  refine (in2_yes (a : Int) 0 q _ HI1.out.1 HI1.out.2).mono ?_
  rintro e x4 ⟨rfl, rfl⟩
  go_wp2_with fail
  refine (in2_yes (b : Int) 0 q _ HI2.out.1 HI2.out.2).mono ?_
  rintro e x4 ⟨rfl, rfl⟩
  by_cases he : a = b
  · subst he
    have hd : ((a : Int) == (a : Int)) = true := by simp
    have hpe : pa = pb := HPE.out.2 (HBI.out.2 (.inl rfl))
    clear hd
    subst hpe
    go_wp2
    go_quiet (first | (go_at_call 10; exact Calls.quiet_of_same ((in2_yes (pa : Int) 0 (a : Int) _ HIN.out.1 HIN.out.2).mono fun _ _ h => ⟨h.1, h.2.symm⟩)))
    go_wp2
    go_ret
    exact ⟨rfl, b03.trans (Below.drewN' _ _ _)⟩
  · have hd : ((a : Int) == (b : Int)) = false := by simp; omega
    cases t1 : To.comes m z1 a b with
    | false =>
      have HT1 : Hid ((Cl.crow m z1 a).contains (b : Int) = false) := by show _ = _; rw [Cl.crow_has hb]; exact t1
      have hpe : ¬ pa = pb := fun e => by rcases HBI.out.1 (HPE.out.1 e) with h | ⟨h, _⟩; exact he h; rw [t1] at h; cases h
      have hd2 : ((pa : Int) == (pb : Int)) = false := by simp; omega
      clear t1 he hpe
      go_wp2_with fail
      refine (Has_any A5 N5 c5 (Cl.crow m z1 a) (b : Int) false _ r5 HT1.out).mono ?_
      rintro e x5 ⟨rfl, rfl⟩
      go_wp2
      go_quiet (first | (go_at_call 10; exact Calls.quiet_of_same ((in2_yes (pa : Int) 0 (a : Int) _ HIN.out.1 HIN.out.2).mono fun _ _ h => ⟨h.1, h.2.symm⟩)))
      go_wp2
      go_ret
      exact ⟨rfl, b03.trans (Below.drewN' _ _ _)⟩
    | true =>
      have HT1 : Hid ((Cl.crow m z1 a).contains (b : Int) = true) := by show _ = _; rw [Cl.crow_has hb]; exact t1
      cases t2 : To.comes m z1 b a with
      | false =>
        have HT2 : Hid ((Cl.crow m z1 b).contains (a : Int) = false) := by show _ = _; rw [Cl.crow_has ha]; exact t2
        have hpe : ¬ pa = pb := fun e => by rcases HBI.out.1 (HPE.out.1 e) with h | ⟨_, h⟩; exact he h; rw [t2] at h; cases h
        have hd2 : ((pa : Int) == (pb : Int)) = false := by simp; omega
        clear t1 t2 he hpe
        go_wp2_with fail
        refine (Has_any A5 N5 c5 (Cl.crow m z1 a) (b : Int) true _ r5 HT1.out).mono ?_
        rintro e x5 ⟨rfl, rfl⟩
        go_wp2_with fail
        refine (Has_any A6 N6 c6 (Cl.crow m z1 b) (a : Int) false _ r6 HT2.out).mono ?_
        rintro e x5 ⟨rfl, rfl⟩
        go_wp2
        go_quiet (first | (go_at_call 10; exact Calls.quiet_of_same ((in2_yes (pa : Int) 0 (a : Int) _ HIN.out.1 HIN.out.2).mono fun _ _ h => ⟨h.1, h.2.symm⟩)))
        go_wp2
        go_ret
        exact ⟨rfl, b03.trans (Below.drewN' _ _ _)⟩
      | true =>
        have HT2 : Hid ((Cl.crow m z1 b).contains (a : Int) = true) := by show _ = _; rw [Cl.crow_has ha]; exact t2
        have hpe : pa = pb := HPE.out.2 (HBI.out.2 (.inr ⟨t1, t2⟩))
        clear t1 t2 he
        subst hpe
        go_wp2_with fail
        refine (Has_any A5 N5 c5 (Cl.crow m z1 a) (b : Int) true _ r5 HT1.out).mono ?_
        rintro e x5 ⟨rfl, rfl⟩
        go_wp2_with fail
        refine (Has_any A6 N6 c6 (Cl.crow m z1 b) (a : Int) true _ r6 HT2.out).mono ?_
        rintro e x5 ⟨rfl, rfl⟩
        go_wp2
        go_quiet (first | (go_at_call 10; exact Calls.quiet_of_same ((in2_yes (pa : Int) 0 (a : Int) _ HIN.out.1 HIN.out.2).mono fun _ _ h => ⟨h.1, h.2.symm⟩)))
        go_wp2
        go_ret
        exact ⟨rfl, b03.trans (Below.drewN' _ _ _)⟩

theorem walk (w : World) (a0 : Int) (w0 : (Lit.int .i64 a0).wf = true) (a1 : Option Addr) (n1 c1 : Nat) (z1 : List Gr.Ln) (w1 : RdP w w.heap.size a1 n1 c1 z1) (a2 : Int) (w2 : (Lit.int .i64 a2).wf = true) (a3 : Int) (w3 : (Lit.int .i64 a3).wf = true) :
    Calls Try.prog 3 #[.int .i64 a0, .slice a1 n1 c1, .int .i64 a2, .int .i64 a3] w fun e w' => e = .returned (.bool true) ∧ Below w.heap.size w w' := by
  by_cases h : Gr.code a0 z1 = 0
  · obtain ⟨m, rfl⟩ : ∃ m : Nat, a0 = (m : Int) := ⟨a0.toNat, by have := (Gr.code_zero.1 h).1; omega⟩
    by_cases h2 : 0 ≤ a2 ∧ a2 < (m : Int)
    · by_cases h3 : 0 ≤ a3 ∧ a3 < (m : Int)
      · obtain ⟨a, rfl⟩ : ∃ a : Nat, a2 = (a : Int) := ⟨a2.toNat, by omega⟩
        obtain ⟨b, rfl⟩ : ∃ b : Nat, a3 = (b : Int) := ⟨a3.toNat, by omega⟩
        exact good w m a1 n1 c1 z1 w1 a b (by omega) (by omega) h
      · exact out w m a1 n1 c1 z1 w1 a2 a3 h (.inr ⟨h2.1, h2.2, by omega⟩)
    · exact out w m a1 n1 c1 z1 w1 a2 a3 h (.inl (by omega))
  · exact bad w a0 a1 n1 c1 z1 w1 a2 a3 h

end Go.Proofs.Ytcapinapfobcbaa.strongBoth
