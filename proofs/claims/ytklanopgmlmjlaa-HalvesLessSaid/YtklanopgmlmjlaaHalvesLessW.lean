/-
  The walk of the law HalvesLess: for every number of points, lines, number and one line more it returns true.
-/
import Derived.Test.YtklanopgmlmjlaaHalvesC
import Derived.Test.YtklanopgmlmjlaaIn2
import Derived.Test.YtklanopgmlmjlaaRefBut
import Derived.BigQuiet
namespace Go.Proofs.Ytklanopgmlmjlaa.halvesLess
open Go.RowKit
set_option linter.unusedSimpArgs false
set_option linter.unusedVariables false

set_option maxRecDepth 100000 in
set_option maxHeartbeats 1000000 in
/-- something is wrong with the lines -/
theorem bad (w : World) (a0 : Int) (a1 : Option Addr) (n1 c1 : Nat) (z1 : List Gr.Ln) (w1 : RdP w w.heap.size a1 n1 c1 z1) (a2 p q : Int) (hc : Gr.code a0 z1 ≠ 0) :
    Calls Try.prog 3 #[.int .i64 a0, .slice a1 n1 c1, .int .i64 a2, .agg #[.int .i64 p, .int .i64 q]] w fun e w' => e = .returned (.bool true) ∧ Below w.heap.size w w' := by
  have HN := Lib.hid hc
  clear hc
  obtain ⟨x0, hx0⟩ : ∃ x0, x0 = w.alloc (.cells #[.int .i64 p, .int .i64 q] 24) := ⟨_, rfl⟩
  have hb0 : Below w.heap.size w x0 := by rw [hx0]; exact (Below.refl _ _).alloc (Nat.le_refl _) _
  go_enter Try.func3, Try.ntmps3
  go_wp2_with fail
  rw [← hx0]
  clear hx0
  refine (halvesFact_any _).mono ?_
  rintro e x1 ⟨rfl, hb1⟩
  have hb01 := hb0.trans (hb1.mono hb0.size)
  go_wp2_with fail
  refine (Part_err a0 a1 n1 c1 z1 _ (w1.past hb01) HN.out).mono ?_
  rintro e x2 ⟨rfl, hb2⟩
  go_wp2
  go_ret
  exact ⟨rfl, hb01.trans (hb2.mono hb01.size)⟩

set_option maxRecDepth 100000 in
set_option maxHeartbeats 1000000 in
/-- the points can not be parted -/
theorem none_ (w : World) (m : Nat) (a1 : Option Addr) (n1 c1 : Nat) (z1 : List Gr.Ln) (w1 : RdP w w.heap.size a1 n1 c1 z1) (a2 p q : Int) (h0 : Gr.code (m : Int) z1 = 0) (hk : Ha.okB m z1 = false) :
    Calls Try.prog 3 #[.int .i64 (m : Int), .slice a1 n1 c1, .int .i64 a2, .agg #[.int .i64 p, .int .i64 q]] w fun e w' => e = .returned (.bool true) ∧ Below w.heap.size w w' := by
  have H0 := Lib.hid h0
  have HK := Lib.hid hk
  clear h0 hk
  obtain ⟨x0, hx0⟩ : ∃ x0, x0 = w.alloc (.cells #[.int .i64 p, .int .i64 q] 24) := ⟨_, rfl⟩
  have hb0 : Below w.heap.size w x0 := by rw [hx0]; exact (Below.refl _ _).alloc (Nat.le_refl _) _
  go_enter Try.func3, Try.ntmps3
  go_wp2_with fail
  rw [← hx0]
  clear hx0
  refine (halvesFact_any _).mono ?_
  rintro e x1 ⟨rfl, hb1⟩
  have hb01 := hb0.trans (hb1.mono hb0.size)
  go_wp2_with fail
  refine (Part_no m a1 n1 c1 z1 _ (w1.past hb01) H0.out HK.out).mono ?_
  rintro e x2 ⟨rfl, hb2⟩
  go_wp2
  go_ret
  exact ⟨rfl, hb01.trans (hb2.mono hb01.size)⟩

set_option maxRecDepth 100000 in
set_option maxHeartbeats 2000000 in
/-- the points can be parted -/
theorem good (w : World) (m : Nat) (a1 : Option Addr) (n1 c1 : Nat) (z1 : List Gr.Ln) (w1 : RdP w w.heap.size a1 n1 c1 z1) (a2 p q : Int) (h0 : Gr.code (m : Int) z1 = 0) (hk : Ha.okB m z1 = true) :
    Calls Try.prog 3 #[.int .i64 (m : Int), .slice a1 n1 c1, .int .i64 a2, .agg #[.int .i64 p, .int .i64 q]] w fun e w' => e = .returned (.bool true) ∧ Below w.heap.size w w' := by
  have hm8 : m ≤ 8 := by have := (Gr.code_zero.1 h0).2.1; omega
  have hm1 : 1 ≤ m := by have := (Gr.code_zero.1 h0).1; omega
  have hl24 : n1 ≤ 24 := by have := (Gr.code_zero.1 h0).2.2.1; have := w1.len; omega
  have H0 := Lib.hid h0
  have HK := Lib.hid hk
  have HL := Lib.hid w1.len
  clear h0 hk
  have r1 : IntKind.i64.wrap ((n1 : Int) - 1) = (n1 : Int) - 1 := by rw [IntKind.wrap_i64]; omega
  have r2 : IntKind.i64.wrap ((m : Int) - 1) = (m : Int) - 1 := by rw [IntKind.wrap_i64]; omega
  have s1 : ((m : Int) == (m : Int)) = true := by simp
  have s2 : ((m : Int) != (m : Int)) = false := by simp
  have s3 : (m == m) = true := by simp
  have s4 : (m != m) = false := by simp
  obtain ⟨x0, hx0⟩ : ∃ x0, x0 = w.alloc (.cells #[.int .i64 p, .int .i64 q] 24) := ⟨_, rfl⟩
  have hb0 : Below w.heap.size w x0 := by rw [hx0]; exact (Below.refl _ _).alloc (Nat.le_refl _) _
  have hbl0 : w.heap.size < x0.heap.size := by rw [hx0]; simp
  have g0 : x0.cell? ⟨w.heap.size, 0, none⟩ = some (.int .i64 p) := by rw [hx0]; simp
  have g1 : x0.cell? ⟨w.heap.size, 1, none⟩ = some (.int .i64 q) := by rw [hx0]; simp
  obtain ⟨u, hu⟩ : ∃ u, u = w.heap.size := ⟨_, rfl⟩
  rw [← hu] at hbl0 g0 g1
  go_enter Try.func3, Try.ntmps3
  go_wp2_with fail
  rw [← hx0, ← hu]
  have HU := Lib.hid hu
  clear hx0 hu
  refine (halvesFact_any _).mono ?_
  rintro e x1 ⟨rfl, hb1⟩
  have hb01 := hb0.trans (hb1.mono hb0.size)
  go_wp2_with fail
  refine (Part_yes m a1 n1 c1 z1 _ (w1.past hb01) H0.out HK.out).mono ?_
  rintro e x2 ⟨g, rfl, hop, hb2⟩
  have hb02 := hb01.trans (hb2.mono hb01.size)
  have hb12 := hb1.trans (hb2.mono hb1.size)
  replace g0 := (hb12.cell (p := ⟨u, 0, none⟩) hbl0).trans g0
  replace g1 := (hb12.cell (p := ⟨u, 1, none⟩) hbl0).trans g1
  have hr2 := w1.past hb02
  have hbl2 : u < x2.heap.size := Nat.lt_of_lt_of_le hbl0 hb12.size
  have hrp2 := hop.rd'
  clear hb0 hb1 hb01 hb2 hb12 hbl0 w1 hop
  by_cases hin : 0 ≤ a2 ∧ a2 < n1
  · obtain ⟨k, hkk⟩ : ∃ k : Nat, a2 = (k : Int) := ⟨a2.toNat, by omega⟩
    subst hkk
    have hk1 : (0 : Int) ≤ (k : Int) := hin.1
    have hk2 : (k : Int) ≤ (n1 : Int) - 1 := by omega
    clear hin
    go_wp2_with fail
    refine (in2_yes _ _ _ _ hk1 hk2).mono ?_
    rintro e _ ⟨rfl, rfl⟩
    go_wp2_with fail
    refine (But_any a1 n1 c1 k z1 _ hr2 (by omega)).mono ?_
    rintro e x3 ⟨v3, rfl, ho3, hb3⟩
    obtain ⟨A3, c3, rfl, hr3⟩ := ho3.rd
    obtain ⟨n3, hn3⟩ : ∃ n3, n3 = (z1.eraseIdx k).length := ⟨_, rfl⟩
    rw [← hn3] at hr3 ⊢
    clear hn3 ho3
    go_wp2_with fail
    refine (Part_yes m A3 n3 c3 (z1.eraseIdx k) _ hr3 (Ha.code_erase H0.out k) (Ha.okB_erase H0.out HK.out k)).mono ?_
    rintro e x4 ⟨g4, rfl, _, hb4⟩
    have hb24 := hb3.trans (hb4.mono hb3.size)
    have hb04 := hb02.trans (hb24.mono hb02.size)
    have f0 := (hb24.cell (p := ⟨u, 0, none⟩) hbl2).trans g0
    have f1 := (hb24.cell (p := ⟨u, 1, none⟩) hbl2).trans g1
    have hr4 := hr2.past hb24
    have hrp4 := hrp2.past hb24
    have hbl4 : u < x4.heap.size := Nat.lt_of_lt_of_le hbl2 hb24.size
    clear hb3 hb4 hb24 hb02 g0 g1 hr2 hrp2 hbl2 hr3 hk1 hk2
    by_cases h24 : n1 = 24
    · have e1 : ((n1 : Int) == 24) = true := by simp; omega
      have e2 : (n1 == 24) = true := by simp; omega
      have e3 : decide (n1 = 24) = true := by simp; omega
      have H24 := Lib.hid h24
      clear h24 hl24
      go_wp2
      go_ret
      exact ⟨rfl, hb04⟩
    · have e1 : ((n1 : Int) == 24) = false := by simp; omega
      have e2 : (n1 == 24) = false := by simp; omega
      have e3 : decide (n1 = 24) = false := by simp; omega
      have hn24 : n1 < 24 := by omega
      clear h24
      by_cases hA : 0 ≤ p ∧ p < m
      · by_cases hB : 0 ≤ q ∧ q < m
        · obtain ⟨P, hP⟩ : ∃ P : Nat, p = (P : Int) := ⟨p.toNat, by omega⟩
          obtain ⟨Q, hQ⟩ : ∃ Q : Nat, q = (Q : Int) := ⟨q.toNat, by omega⟩
          subst hP hQ
          have hPm : P < m := by omega
          have hQm : Q < m := by omega
          have i1 : (0 : Int) ≤ (P : Int) := by omega
          have i2 : (P : Int) ≤ (m : Int) - 1 := by omega
          have i3 : (0 : Int) ≤ (Q : Int) := by omega
          have i4 : (Q : Int) ≤ (m : Int) - 1 := by omega
          have i5 : (P : Int) < (m : Int) := by omega
          have i6 : (Q : Int) < (m : Int) := by omega
          clear hA hB
          obtain ⟨bp, op, he, hbp, hcp⟩ := hrp4.at_ (by omega)
          simp only [Option.some.injEq, Addr.mk.injEq, and_true] at he
          obtain ⟨rfl, rfl⟩ := he
          have kc1 := hcp P hPm
          have kc2 := hcp Q hQm
          rw [Nat.zero_add, Ha.parts_at _ hPm] at kc1
          rw [Nat.zero_add, Ha.parts_at _ hQm] at kc2
          have HM := Lib.hid (fun h => Ha.okB_more H0.out HK.out (by rw [HL.out]; exact hn24) hPm hQm h)
          generalize Ha.pt m (Wa.nrow m z1) P = dp at kc1 HM
          generalize Ha.pt m (Wa.nrow m z1) Q = dq at kc2 HM
          clear hcp hbp
          go_wp2_with fail
          refine (in2_yes _ _ _ _ i1 i2).mono ?_
          rintro e _ ⟨rfl, rfl⟩
          go_wp2_with fail
          refine (in2_yes _ _ _ _ i3 i4).mono ?_
          rintro e _ ⟨rfl, rfl⟩
          by_cases heq : dp = dq
          · have j1 : (dp == dq) = true := by simpa using heq
            clear heq
            go_wp2
            go_quiet (fail)
            go_wp2
            go_ret
            exact ⟨rfl, hb04.trans (Below.drewN' _ _ _)⟩
          · have j1 : (dp == dq) = false := by simpa using heq
            have HM1 := Lib.hid (HM.out heq).1
            have HM2 := Lib.hid (HM.out heq).2
            clear heq HM
            obtain ⟨N4, hN4⟩ : ∃ N4, N4 = n1 + 1 := ⟨_, rfl⟩
            have HN4 := Lib.hid hN4
            clear hN4
            go_wp2
            go_quiet (fail)
            have hrq := hr4.drewN nq
            have q0 : (x4.drewN nq).cell? ⟨u, 0, none⟩ = some (.int .i64 (P : Int)) := f0
            have q1 : (x4.drewN nq).cell? ⟨u, 1, none⟩ = some (.int .i64 (Q : Int)) := f1
            have hbq := hb04.trans (Below.drewN' _ x4 nq)
            have hblq : u < (x4.drewN nq).heap.size := hbl4
            replace hrq : RdP (x4.drewN nq) (x4.drewN nq).heap.size a1 n1 c1 z1 := hrq
            obtain ⟨y, hy⟩ : ∃ y, y = x4.drewN nq := ⟨_, rfl⟩
            rw [← hy] at hrq q0 q1 hbq hblq ⊢
            clear hy f0 f1 hr4 hrp4 hbl4 kc1 kc2
            have hnil := OwnP.nil y y.heap.size 24
            have hroom : ([] : List (Int × Int)).length + n1 ≤ 8796093022208 := by simp; omega
            have hroom2 : z1.length + 1 ≤ 8796093022208 := by rw [HL.out]; omega
            go_wp2_with (first
              | (at_builtin; refine wpList_appP _ rfl (.tmp 84) (.tmp 85) 22 rfl y.heap.size 24 Try.underlying22 lineInfo (.slice none 0 0) _ rfl hnil _ n1 c1 z1 rfl hrq hroom (Nat.le_refl _) ?_; intro v5 y5 ho5 hg5 _
                 have hb5 := below_appP (Below.refl y.heap.size y) hnil hg5 (Nat.le_refl _)
                 have q0' := (hb5.cell (p := ⟨u, 0, none⟩) hblq).trans q0
                 have q1' := (hb5.cell (p := ⟨u, 1, none⟩) hblq).trans q1
                 rw [List.nil_append] at ho5
                 have hba := (Below.refl y5.heap.size y5).alloc (Nat.le_refl _) (.cells #[.int .i64 (P : Int), .int .i64 (Q : Int)] 24)
                 have ho5' := ho5.below hba
                 have hs5 : y.heap.size ≤ (y5.alloc (.cells #[.int .i64 (P : Int), .int .i64 (Q : Int)] 24)).heap.size := Nat.le_trans hb5.size hba.size
                 clear hg5)
              | (at_builtin; refine wpList_appP _ rfl (.tmp 87) (.tmp 89) 22 rfl y.heap.size 24 Try.underlying22 lineInfo v5 _ rfl ho5' _ 1 1 [((P : Int), (Q : Int))] rfl (RdP.one y5 _ _) hroom2 hs5 ?_; intro v6 y6 ho6 hg6 _
                 have hb6 := below_appP (hb5.trans (hba.mono hb5.size)) ho5' hg6 hs5
                 obtain ⟨A6, c6, rfl, hr6⟩ := ho6.rd
                 have hl6 : Hid ((z1 ++ [((P : Int), (Q : Int))]).length = N4) := (by show _ = _; rw [List.length_append, HL.out, HN4.out]; rfl)
                 rw [hl6.out] at hr6
                 rw [hl6.out]
                 clear hg6 ho6 ho5 ho5' hba hs5 hb5 q0' q1'))
            refine (Part_yes m A6 N4 c6 _ _ hr6 HM1.out HM2.out).mono ?_
            rintro e x6 ⟨g6, rfl, _, hb7⟩
            have hbf := hbq.trans ((hb6.trans (hb7.mono hb6.size)).mono hbq.size)
            go_wp2
            go_ret
            exact ⟨rfl, hbf⟩
        · obtain ⟨P, hP⟩ : ∃ P : Nat, p = (P : Int) := ⟨p.toNat, by omega⟩
          subst hP
          have i1 : (0 : Int) ≤ (P : Int) := by omega
          have i2 : (P : Int) ≤ (m : Int) - 1 := by omega
          have HO : Hid (q < 0 ∨ (m : Int) - 1 < q) := by show _ ∨ _; omega
          clear hA hB
          go_wp2_with fail
          refine (in2_yes _ _ _ _ i1 i2).mono ?_
          rintro e _ ⟨rfl, rfl⟩
          go_wp2_with fail
          refine (in2_no _ _ _ _ HO.out).mono ?_
          rintro e _ ⟨rfl, rfl⟩
          go_wp2
          go_ret
          exact ⟨rfl, hb04⟩
      · have HO : Hid (p < 0 ∨ (m : Int) - 1 < p) := by show _ ∨ _; omega
        clear hA
        go_wp2_with fail
        refine (in2_no _ _ _ _ HO.out).mono ?_
        rintro e _ ⟨rfl, rfl⟩
        go_wp2
        go_ret
        exact ⟨rfl, hb04⟩
  · have HO2 : Hid (a2 < 0 ∨ (n1 : Int) - 1 < a2) := by show _ ∨ _; omega
    clear hin
    go_wp2_with fail
    refine (in2_no _ _ _ _ HO2.out).mono ?_
    rintro e _ ⟨rfl, rfl⟩
    by_cases h24 : n1 = 24
    · have e1 : ((n1 : Int) == 24) = true := by simp; omega
      have e2 : (n1 == 24) = true := by simp; omega
      have e3 : decide (n1 = 24) = true := by simp; omega
      have H24 := Lib.hid h24
      clear h24 hl24
      go_wp2
      go_ret
      exact ⟨rfl, hb02⟩
    · have e1 : ((n1 : Int) == 24) = false := by simp; omega
      have e2 : (n1 == 24) = false := by simp; omega
      have e3 : decide (n1 = 24) = false := by simp; omega
      have hn24 : n1 < 24 := by omega
      clear h24
      by_cases hA : 0 ≤ p ∧ p < m
      · by_cases hB : 0 ≤ q ∧ q < m
        · obtain ⟨P, hP⟩ : ∃ P : Nat, p = (P : Int) := ⟨p.toNat, by omega⟩
          obtain ⟨Q, hQ⟩ : ∃ Q : Nat, q = (Q : Int) := ⟨q.toNat, by omega⟩
          subst hP hQ
          have hPm : P < m := by omega
          have hQm : Q < m := by omega
          have i1 : (0 : Int) ≤ (P : Int) := by omega
          have i2 : (P : Int) ≤ (m : Int) - 1 := by omega
          have i3 : (0 : Int) ≤ (Q : Int) := by omega
          have i4 : (Q : Int) ≤ (m : Int) - 1 := by omega
          have i5 : (P : Int) < (m : Int) := by omega
          have i6 : (Q : Int) < (m : Int) := by omega
          clear hA hB
          obtain ⟨bp, op, he, hbp, hcp⟩ := hrp2.at_ (by omega)
          simp only [Option.some.injEq, Addr.mk.injEq, and_true] at he
          obtain ⟨rfl, rfl⟩ := he
          have kc1 := hcp P hPm
          have kc2 := hcp Q hQm
          rw [Nat.zero_add, Ha.parts_at _ hPm] at kc1
          rw [Nat.zero_add, Ha.parts_at _ hQm] at kc2
          have HM := Lib.hid (fun h => Ha.okB_more H0.out HK.out (by rw [HL.out]; exact hn24) hPm hQm h)
          generalize Ha.pt m (Wa.nrow m z1) P = dp at kc1 HM
          generalize Ha.pt m (Wa.nrow m z1) Q = dq at kc2 HM
          clear hcp hbp
          go_wp2_with fail
          refine (in2_yes _ _ _ _ i1 i2).mono ?_
          rintro e _ ⟨rfl, rfl⟩
          go_wp2_with fail
          refine (in2_yes _ _ _ _ i3 i4).mono ?_
          rintro e _ ⟨rfl, rfl⟩
          by_cases heq : dp = dq
          · have j1 : (dp == dq) = true := by simpa using heq
            clear heq
            go_wp2
            go_quiet (fail)
            go_wp2
            go_ret
            exact ⟨rfl, hb02.trans (Below.drewN' _ _ _)⟩
          · have j1 : (dp == dq) = false := by simpa using heq
            have HM1 := Lib.hid (HM.out heq).1
            have HM2 := Lib.hid (HM.out heq).2
            clear heq HM
            obtain ⟨N4, hN4⟩ : ∃ N4, N4 = n1 + 1 := ⟨_, rfl⟩
            have HN4 := Lib.hid hN4
            clear hN4
            go_wp2
            go_quiet (fail)
            have hrq := hr2.drewN nq
            have q0 : (x2.drewN nq).cell? ⟨u, 0, none⟩ = some (.int .i64 (P : Int)) := g0
            have q1 : (x2.drewN nq).cell? ⟨u, 1, none⟩ = some (.int .i64 (Q : Int)) := g1
            have hbq := hb02.trans (Below.drewN' _ x2 nq)
            have hblq : u < (x2.drewN nq).heap.size := hbl2
            replace hrq : RdP (x2.drewN nq) (x2.drewN nq).heap.size a1 n1 c1 z1 := hrq
            obtain ⟨y, hy⟩ : ∃ y, y = x2.drewN nq := ⟨_, rfl⟩
            rw [← hy] at hrq q0 q1 hbq hblq ⊢
            clear hy g0 g1 hr2 hrp2 hbl2 kc1 kc2
            have hnil := OwnP.nil y y.heap.size 24
            have hroom : ([] : List (Int × Int)).length + n1 ≤ 8796093022208 := by simp; omega
            have hroom2 : z1.length + 1 ≤ 8796093022208 := by rw [HL.out]; omega
            go_wp2_with (first
              | (at_builtin; refine wpList_appP _ rfl (.tmp 84) (.tmp 85) 22 rfl y.heap.size 24 Try.underlying22 lineInfo (.slice none 0 0) _ rfl hnil _ n1 c1 z1 rfl hrq hroom (Nat.le_refl _) ?_; intro v5 y5 ho5 hg5 _
                 have hb5 := below_appP (Below.refl y.heap.size y) hnil hg5 (Nat.le_refl _)
                 have q0' := (hb5.cell (p := ⟨u, 0, none⟩) hblq).trans q0
                 have q1' := (hb5.cell (p := ⟨u, 1, none⟩) hblq).trans q1
                 rw [List.nil_append] at ho5
                 have hba := (Below.refl y5.heap.size y5).alloc (Nat.le_refl _) (.cells #[.int .i64 (P : Int), .int .i64 (Q : Int)] 24)
                 have ho5' := ho5.below hba
                 have hs5 : y.heap.size ≤ (y5.alloc (.cells #[.int .i64 (P : Int), .int .i64 (Q : Int)] 24)).heap.size := Nat.le_trans hb5.size hba.size
                 clear hg5)
              | (at_builtin; refine wpList_appP _ rfl (.tmp 87) (.tmp 89) 22 rfl y.heap.size 24 Try.underlying22 lineInfo v5 _ rfl ho5' _ 1 1 [((P : Int), (Q : Int))] rfl (RdP.one y5 _ _) hroom2 hs5 ?_; intro v6 y6 ho6 hg6 _
                 have hb6 := below_appP (hb5.trans (hba.mono hb5.size)) ho5' hg6 hs5
                 obtain ⟨A6, c6, rfl, hr6⟩ := ho6.rd
                 have hl6 : Hid ((z1 ++ [((P : Int), (Q : Int))]).length = N4) := (by show _ = _; rw [List.length_append, HL.out, HN4.out]; rfl)
                 rw [hl6.out] at hr6
                 rw [hl6.out]
                 clear hg6 ho6 ho5 ho5' hba hs5 hb5 q0' q1'))
            refine (Part_yes m A6 N4 c6 _ _ hr6 HM1.out HM2.out).mono ?_
            rintro e x6 ⟨g6, rfl, _, hb7⟩
            have hbf := hbq.trans ((hb6.trans (hb7.mono hb6.size)).mono hbq.size)
            go_wp2
            go_ret
            exact ⟨rfl, hbf⟩
        · obtain ⟨P, hP⟩ : ∃ P : Nat, p = (P : Int) := ⟨p.toNat, by omega⟩
          subst hP
          have i1 : (0 : Int) ≤ (P : Int) := by omega
          have i2 : (P : Int) ≤ (m : Int) - 1 := by omega
          have HO : Hid (q < 0 ∨ (m : Int) - 1 < q) := by show _ ∨ _; omega
          clear hA hB
          go_wp2_with fail
          refine (in2_yes _ _ _ _ i1 i2).mono ?_
          rintro e _ ⟨rfl, rfl⟩
          go_wp2_with fail
          refine (in2_no _ _ _ _ HO.out).mono ?_
          rintro e _ ⟨rfl, rfl⟩
          go_wp2
          go_ret
          exact ⟨rfl, hb02⟩
      · have HO : Hid (p < 0 ∨ (m : Int) - 1 < p) := by show _ ∨ _; omega
        clear hA
        go_wp2_with fail
        refine (in2_no _ _ _ _ HO.out).mono ?_
        rintro e _ ⟨rfl, rfl⟩
        go_wp2
        go_ret
        exact ⟨rfl, hb02⟩

theorem walk (w : World) (a0 : Int) (_w0 : (Lit.int .i64 a0).wf = true) (a1 : Option Addr) (n1 c1 : Nat) (z1 : List Gr.Ln) (w1 : RdP w w.heap.size a1 n1 c1 z1) (a2 : Int) (_w2 : (Lit.int .i64 a2).wf = true) (p q : Int) :
    Calls Try.prog 3 #[.int .i64 a0, .slice a1 n1 c1, .int .i64 a2, .agg #[.int .i64 p, .int .i64 q]] w fun e w' => e = .returned (.bool true) ∧ Below w.heap.size w w' := by
  by_cases hc : Gr.code a0 z1 = 0
  · obtain ⟨m, rfl⟩ : ∃ m : Nat, a0 = (m : Int) := ⟨a0.toNat, by have := (Gr.code_zero.1 hc).1; omega⟩
    cases hb : Ha.okB m z1 with
    | false => exact none_ w m a1 n1 c1 z1 w1 a2 p q hc hb
    | true => exact good w m a1 n1 c1 z1 w1 a2 p q hc hb
  · exact bad w a0 a1 n1 c1 z1 w1 a2 p q hc

end Go.Proofs.Ytklanopgmlmjlaa.halvesLess
