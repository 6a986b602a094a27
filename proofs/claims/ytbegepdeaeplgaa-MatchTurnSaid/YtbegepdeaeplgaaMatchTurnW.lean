/-
  The walk of the law MatchTurn: for every two sides, lines and one line more it returns true.
-/
import Derived.Test.YtbegepdeaeplgaaMatchF
import Derived.Test.YtbegepdeaeplgaaIn2
namespace Go.Proofs.Ytbegepdeaeplgaa.matchTurn
open Go.RowKit Go.Shelf
set_option linter.unusedSimpArgs false
set_option linter.unusedVariables false

set_option maxRecDepth 100000 in
set_option maxHeartbeats 1000000 in
/-- something is wrong with the sides, or with the lines -/
theorem bad (w : World) (a0 a1 : Int) (a2 : Option Addr) (n2 c2 : Nat) (z2 : List Gr.Ln) (w2 : RdP w w.heap.size a2 n2 c2 z2) (p q : Int) (hc : Ma.code a0 a1 z2 ≠ 0) :
    Calls Try.prog 5 #[.int .i64 a0, .int .i64 a1, .slice a2 n2 c2, .agg #[.int .i64 p, .int .i64 q]] w fun e w' => e = .returned (.bool true) ∧ Below w.heap.size w w' := by
  have HN := Lib.hid hc
  clear hc
  obtain ⟨x0, hx0⟩ : ∃ x0, x0 = w.alloc (.cells #[.int .i64 p, .int .i64 q] 35) := ⟨_, rfl⟩
  have hb0 : Below w.heap.size w x0 := by rw [hx0]; exact (Below.refl _ _).alloc (Nat.le_refl _) _
  go_enter Try.func5, Try.ntmps5
  go_wp2_with fail
  rw [← hx0]
  clear hx0
  refine (matchFact_any _).mono ?_
  rintro e x1 ⟨rfl, hb1⟩
  have hb01 := hb0.trans (hb1.mono hb0.size)
  go_wp2_with fail
  refine (Most_err a0 a1 a2 n2 c2 z2 _ (w2.past hb01) HN.out).mono ?_
  rintro e x2 ⟨rfl, hb2⟩
  go_wp2
  go_ret
  exact ⟨rfl, hb01.trans (hb2.mono hb01.size)⟩

/-- one line more, as the lines say it -/
theorem gl_more (z : List Gr.Ln) (a b : Nat) : Ma.gl (z ++ [((a : Int), (b : Int))]) = fun i j => Ma.gl z i j || (decide (i = a) && decide (j = b)) := by
  funext i j
  unfold Ma.gl Gr.has
  rw [Bool.eq_iff_iff]
  simp only [List.contains_iff_mem, List.mem_append, List.mem_singleton, Prod.mk.injEq, Bool.or_eq_true, Bool.and_eq_true, decide_eq_true_eq]
  constructor
  · rintro (h | ⟨h1, h2⟩)
    · exact .inl h
    · exact .inr ⟨by omega, by omega⟩
  · rintro (h | ⟨h1, h2⟩)
    · exact .inl h
    · exact .inr ⟨by omega, by omega⟩
theorem gl_back (z : List Gr.Ln) : Ma.gl (Gr.back z) = fun j i => Ma.gl z i j := by
  funext j i
  unfold Ma.gl Gr.has
  rw [Bool.eq_iff_iff, List.contains_iff_mem, List.contains_iff_mem]
  exact Gr.mem_back
theorem code_back {l r : Int} {z : List Gr.Ln} (h : Ma.code l r z = 0) : Ma.code r l (Gr.back z) = 0 := by
  have := Ma.code_zero.1 h
  refine Ma.code_zero.2 ⟨this.2.2.1, this.2.2.2.1, this.1, this.2.1, by rw [Gr.back_len]; exact this.2.2.2.2.1, fun p hp => ?_⟩
  obtain ⟨x, y⟩ := p
  have g := this.2.2.2.2.2 _ (Gr.mem_back.1 hp)
  unfold Ma.Good at *
  exact ⟨g.2.2.1, g.2.2.2, g.1, g.2.1⟩
/-- when one line more is wrong -/
theorem code_more {l r : Int} {z : List Gr.Ln} (h : Ma.code l r z = 0) (p q : Int) : Ma.code l r (z ++ [(p, q)]) = 0 ↔ z.length < 24 ∧ 0 ≤ p ∧ p < l ∧ 0 ≤ q ∧ q < r := by
  have hz := Ma.code_zero.1 h
  rw [Ma.code_zero]
  constructor
  · intro hh
    have g := hh.2.2.2.2.2 (p, q) (by simp)
    have := hh.2.2.2.2.1
    rw [List.length_append] at this
    unfold Ma.Good at g
    simp only [List.length_cons, List.length_nil] at this
    exact ⟨by omega, g⟩
  · rintro ⟨h1, h2⟩
    refine ⟨hz.1, hz.2.1, hz.2.2.1, hz.2.2.2.1, by simp; omega, fun x hx => ?_⟩
    rcases List.mem_append.1 hx with hx | hx
    · exact hz.2.2.2.2.2 x hx
    · obtain rfl : x = (p, q) := by simpa using hx
      exact h2

set_option maxRecDepth 100000 in
set_option maxHeartbeats 2000000 in
/-- nothing is wrong with them -/
theorem good (w : World) (l r : Nat) (a2 : Option Addr) (n2 c2 : Nat) (z2 : List Gr.Ln) (w2 : RdP w w.heap.size a2 n2 c2 z2) (p q : Int) (hc : Ma.code (l : Int) (r : Int) z2 = 0) :
    Calls Try.prog 5 #[.int .i64 (l : Int), .int .i64 (r : Int), .slice a2 n2 c2, .agg #[.int .i64 p, .int .i64 q]] w fun e w' => e = .returned (.bool true) ∧ Below w.heap.size w w' := by
  have HN := Lib.hid hc
  have HB := Lib.hid (code_back hc)
  have HM := Lib.hid (code_more hc p q)
  have HL := Lib.hid w2.len
  have hz := Ma.code_zero.1 hc
  have hl6 : l ≤ 6 := by omega
  have hr6 : r ≤ 6 := by omega
  have hn24 : n2 ≤ 24 := by have := hz.2.2.2.2.1; rw [w2.len] at this; exact this
  have htn : Hid (Ma.nu (Ma.gl (Gr.back z2)) r l = Ma.nu (Ma.gl z2) l r) := by show _ = _; rw [gl_back, Ma.nu_turn]
  have hx1 := Ma.nu_le_left (Ma.gl z2) l r
  have hx2 := Ma.nu_le_right (Ma.gl z2) l r
  have hmr : Hid (∀ a b : Nat, p = (a : Int) → q = (b : Int) → Ma.nu (Ma.gl (z2 ++ [(p, q)])) l r = Ma.nu (Ma.gl z2) l r ∨ Ma.nu (Ma.gl (z2 ++ [(p, q)])) l r = Ma.nu (Ma.gl z2) l r + 1) := by
    intro a b ha hb
    subst ha hb
    have h1 := Ma.nu_more (G := Ma.gl z2) (l := l) (r := r) a b
    have h2 : Ma.nu (Ma.gl z2) l r ≤ Ma.nu (Ma.gl (z2 ++ [((a : Int), (b : Int))])) l r := Ma.nu_mono fun i _ j _ h => by rw [gl_more]; simp [h]
    rw [← gl_more] at h1
    omega
  obtain ⟨mx, hmx⟩ : ∃ mx, mx = Ma.nu (Ma.gl z2) l r := ⟨_, rfl⟩
  rw [← hmx] at htn hx1 hx2 hmr
  have HMX := Lib.hid hmx
  clear hc hz hmx
  obtain ⟨x0, hx0⟩ : ∃ x0, x0 = w.alloc (.cells #[.int .i64 p, .int .i64 q] 35) := ⟨_, rfl⟩
  have hb0 : Below w.heap.size w x0 := by rw [hx0]; exact (Below.refl _ _).alloc (Nat.le_refl _) _
  have hs0 : x0.heap.size = w.heap.size + 1 := by rw [hx0]; simp
  have cp : x0.cell? ⟨w.heap.size, 0, none⟩ = some (.int .i64 p) := by rw [hx0]; simp
  have cq : x0.cell? ⟨w.heap.size, 1, none⟩ = some (.int .i64 q) := by rw [hx0]; simp
  have HP : Hid (∀ V : World, Below x0.heap.size x0 V → V.cell? ⟨w.heap.size, 0, none⟩ = some (.int .i64 p) ∧ V.cell? ⟨w.heap.size, 1, none⟩ = some (.int .i64 q)) := fun V hV =>
    ⟨(hV.cell (p := ⟨w.heap.size, 0, none⟩) (by rw [hs0]; exact Nat.lt_succ_self _)).trans cp, (hV.cell (p := ⟨w.heap.size, 1, none⟩) (by rw [hs0]; exact Nat.lt_succ_self _)).trans cq⟩
  have HX0 := Lib.hid hx0
  clear hx0 cp cq
  go_enter Try.func5, Try.ntmps5
  go_wp2_with fail
  rw [← HX0.out]
  clear HX0
  refine (matchFact_any _).mono ?_
  rintro e x1 ⟨rfl, hb1⟩
  go_wp2_with fail
  refine (Most_ok l r a2 n2 c2 z2 _ ((w2.past hb0).past hb1) HN.out).mono ?_
  rintro e x2 ⟨rfl, hb2⟩
  rw [← HMX.out]
  have hb02 : Below x0.heap.size x0 x2 := hb1.trans (hb2.mono hb1.size)
  have r2 := (w2.past hb0).past hb02
  clear hb1 hb2
  go_wp2_with fail
  refine (Back_any a2 n2 c2 z2 _ r2 hn24).mono ?_
  rintro e x3 ⟨v3, rfl, ho3, hb3⟩
  obtain ⟨A3, c3, rfl, r3⟩ := ho3.rd
  obtain ⟨n3, hn3⟩ : ∃ n3, n3 = (Gr.back z2).length := ⟨_, rfl⟩
  rw [← hn3] at r3 ⊢
  clear ho3 hn3
  go_wp2_with fail
  refine (Most_ok r l A3 n3 c3 (Gr.back z2) _ r3 HB.out).mono ?_
  rintro e x4 ⟨rfl, hb4⟩
  rw [htn.out]
  have hb04 : Below x0.heap.size x0 x4 := hb02.trans ((hb3.trans (hb4.mono hb3.size)).mono hb02.size)
  clear r3 hb3 hb4 hb02 r2
  have d0 : ((mx : Int) != (mx : Int)) = false := by simp
  have d1 : decide ((r : Int) < (mx : Int)) = false := by simp; omega
  have hp4 := HP.out x4 hb04
  have g1 := hp4.1
  have g2 := hp4.2
  have r4 := (w2.past hb0).past hb04
  have hw4 : Below w.heap.size w x4 := hb0.trans (hb04.mono hb0.size)
  have hrm : ([] : List Gr.Ln).length + n2 ≤ 8796093022208 := by simp; omega
  have hrm2 : z2.length + 1 ≤ 8796093022208 := by rw [HL.out]; omega
  go_wp2_with (first
    | (go_at_call 13; refine (in2_yes _ _ _ _ (by omega) (by omega)).mono ?_; rintro e y1 ⟨rfl, rfl⟩)
    | (at_builtin; refine wpList_appP _ rfl (.tmp 55) (.tmp 56) 22 rfl x4.heap.size 35 Try.underlying22 lineInfo _ [] rfl (OwnP.nil x4 x4.heap.size 35) a2 n2 c2 z2 rfl r4 hrm (Nat.le_refl _) ?_; intro v5 x5 ho5 hg5 hat5; rw [List.nil_append] at ho5; have hb5 : Below x4.heap.size x4 x5 := (Below.refl _ _).grown hg5 (Nat.le_refl _) (fun _ h => by cases h); have hp5 := HP.out x5 (hb04.trans (hb5.mono hb04.size)); have g3 := hp5.1; have g4 := hp5.2)
    | (at_builtin; refine wpList_appP _ rfl (.tmp 58) (.tmp 60) 22 rfl x4.heap.size 35 Try.underlying22 lineInfo _ z2 rfl (ho5.below ((Below.refl _ _).alloc (Nat.le_refl _) _)) _ 1 1 [(p, q)] rfl (RdP.one _ _ _) hrm2 (by have := hb5.size; simp; omega) ?_; intro v6 x6 ho6 hg6 hat6))
  have hb6 : Below x4.heap.size x4 x6 := below_appP (hb5.alloc hb5.size (.cells #[.int .i64 p, .int .i64 q] 35)) (ho5.below ((Below.refl _ _).alloc (Nat.le_refl _) (.cells #[.int .i64 p, .int .i64 q] 35))) hg6 (by have := hb5.size; simp; omega)
  have hb06 : Below x0.heap.size x0 x6 := hb04.trans (hb6.mono hb04.size)
  obtain ⟨A6, c6, rfl, r6⟩ := ho6.rd
  obtain ⟨n6, hn6⟩ : ∃ n6, n6 = (z2 ++ [(p, q)]).length := ⟨_, rfl⟩
  rw [← hn6] at r6 ⊢
  clear ho6 ho5 hb5 hg5 hg6 hat5 hat6 hp4 hp5 g1 g2 g3 g4 hn6 r4 hw4 hb04
  by_cases hm : Ma.code (l : Int) (r : Int) (z2 ++ [(p, q)]) = 0
  · obtain ⟨hm1, hm2, hm3, hm4, hm5⟩ := HM.out.1 hm
    have hx := hmr.out p.toNat q.toNat (by omega) (by omega)
    have HMM := Lib.hid hm
    clear hm hm1 hm2 hm3 hm4 hm5
    go_wp2_with fail
    refine (Most_ok l r A6 n6 c6 (z2 ++ [(p, q)]) _ r6 HMM.out).mono ?_
    rintro e x7 ⟨rfl, hb7⟩
    generalize Ma.nu (Ma.gl (z2 ++ [(p, q)])) l r = y at hx
    have hb07 : Below w.heap.size w x7 := hb0.trans ((hb06.trans (hb7.mono hb06.size)).mono hb0.size)
    by_cases hy : y = mx
    · have e1 : ((y : Int) == (mx : Int)) = true := by simp [hy]
      have e2 : (y == mx) = true := by simp [hy]
      clear hx hy
      go_wp2
      go_ret
      exact ⟨rfl, hb07⟩
    · have hy2 : (y : Int) = (mx : Int) + 1 := by omega
      have e1 : ((y : Int) == (mx : Int)) = false := by simp; omega
      have e2 : (y == mx) = false := by simpa using hy
      have e3 : ((y : Int) == (mx : Int) + 1) = true := by simpa using hy2
      clear hx hy hy2
      go_wp2
      go_ret
      exact ⟨rfl, hb07⟩
  · have hm' : ¬ (n2 < 24 ∧ 0 ≤ p ∧ p < (l : Int) ∧ 0 ≤ q ∧ q < (r : Int)) := fun hh => hm (HM.out.2 (by rw [HL.out]; exact hh))
    have HMM := Lib.hid hm
    clear hm
    go_wp2_with fail
    refine (Most_err (l : Int) (r : Int) A6 n6 c6 (z2 ++ [(p, q)]) _ r6 HMM.out).mono ?_
    rintro e x7 ⟨rfl, hb7⟩
    have hb07 : Below x0.heap.size x0 x7 := hb06.trans (hb7.mono hb06.size)
    have hw7 : Below w.heap.size w x7 := hb0.trans (hb07.mono hb0.size)
    have hp7 := HP.out x7 hb07
    have g1 := hp7.1
    have g2 := hp7.2
    have l1 : IntKind.i64.wrap ((l : Int) - 1) = (l : Int) - 1 := by rw [IntKind.wrap_i64]; omega
    have l2 : IntKind.i64.wrap ((r : Int) - 1) = (r : Int) - 1 := by rw [IntKind.wrap_i64]; omega
    clear hp7 r6 hb7 hb07 hb06
    by_cases h24 : n2 = 24
    · have e1 : ((n2 : Int) == 24) = true := by simp; omega
      clear hm'
      go_wp2
      go_ret
      exact ⟨rfl, hw7⟩
    · have e1 : ((n2 : Int) == 24) = false := by simp; omega
      by_cases hpp : 0 ≤ p ∧ p < (l : Int)
      · go_wp2_with fail
        refine (in2_yes p 0 ((l : Int) - 1) _ (by omega) (by omega)).mono ?_
        rintro e y1 ⟨rfl, rfl⟩
        go_wp2_with fail
        refine (in2_no q 0 ((r : Int) - 1) _ (by omega)).mono ?_
        rintro e y1 ⟨rfl, rfl⟩
        go_wp2
        go_ret
        exact ⟨rfl, hw7⟩
      · go_wp2_with fail
        refine (in2_no p 0 ((l : Int) - 1) _ (by omega)).mono ?_
        rintro e y1 ⟨rfl, rfl⟩
        go_wp2
        go_ret
        exact ⟨rfl, hw7⟩

theorem walk (w : World) (a0 : Int) (_w0 : (Lit.int .i64 a0).wf = true) (a1 : Int) (_w1 : (Lit.int .i64 a1).wf = true) (a2 : Option Addr) (n2 c2 : Nat) (z2 : List Gr.Ln) (w2 : RdP w w.heap.size a2 n2 c2 z2) (p q : Int) :
    Calls Try.prog 5 #[.int .i64 a0, .int .i64 a1, .slice a2 n2 c2, .agg #[.int .i64 p, .int .i64 q]] w fun e w' => e = .returned (.bool true) ∧ Below w.heap.size w w' := by
  by_cases hc : Ma.code a0 a1 z2 = 0
  · obtain ⟨l, r, rfl, rfl, _, _⟩ := Ma.code_nat hc
    exact good w l r a2 n2 c2 z2 w2 p q hc
  · exact bad w a0 a1 a2 n2 c2 z2 w2 p q hc

end Go.Proofs.Ytbegepdeaeplgaa.matchTurn
