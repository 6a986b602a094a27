/-
  The walk of the law TrailMore: for every number of points and lines it returns true, where the library's variable errors.errorType holds what its initialiser lays.
-/
import Derived.Test.YtibphofiaodnmaaDoorTrailX
import Derived.BigQuiet
namespace Go.Proofs.YtibphofiaodnmaaDoor.trailMore
open Go.RowKit
set_option linter.unusedSimpArgs false
set_option linter.unusedVariables false

set_option maxRecDepth 100000 in
set_option maxHeartbeats 1000000 in
/-- something is wrong with the lines -/
theorem bad (w : World) (het : tld.EtIs w) (a0 : Int) (a1 : Option Addr) (n1 c1 : Nat) (z1 : List Gr.Ln) (w1 : RdP w w.heap.size a1 n1 c1 z1) (hc : Gr.code a0 z1 ≠ 0) :
    Calls Tryd.prog 6 #[.int .i64 a0, .slice a1 n1 c1] w fun e w' => e = .returned (.bool true) ∧ Below w.heap.size w w' := by
  have HN := Lib.hid hc
  clear hc
  go_enter Tryd.func6, Tryd.ntmps6
  go_wp2_with fail
  refine (trailFact_any _ het).mono ?_
  rintro e x1 ⟨rfl, b1⟩
  go_wp2_with fail
  refine (Find_err a0 a1 n1 c1 z1 _ (w1.past b1) HN.out).mono ?_
  rintro e x2 ⟨rfl, b2⟩
  go_wp2
  go_ret
  exact ⟨rfl, b1.trans (b2.mono b1.size)⟩

set_option maxRecDepth 100000 in
set_option maxHeartbeats 1000000 in
/-- there is no way -/
theorem none_ (w : World) (het : tld.EtIs w) (m : Nat) (a1 : Option Addr) (n1 c1 : Nat) (z1 : List Gr.Ln) (w1 : RdP w w.heap.size a1 n1 c1 z1) (h0 : Gr.code (m : Int) z1 = 0) (hc : Tl.canB m z1 = false) :
    Calls Tryd.prog 6 #[.int .i64 (m : Int), .slice a1 n1 c1] w fun e w' => e = .returned (.bool true) ∧ Below w.heap.size w w' := by
  have H0 := Lib.hid h0
  have HC := Lib.hid hc
  clear h0 hc
  go_enter Tryd.func6, Tryd.ntmps6
  go_wp2_with fail
  refine (trailFact_any _ het).mono ?_
  rintro e x1 ⟨rfl, b1⟩
  go_wp2_with fail
  refine (Find_no m a1 n1 c1 z1 _ (w1.past b1) H0.out HC.out).mono ?_
  rintro e x2 ⟨rfl, b2⟩
  go_wp2
  go_ret
  exact ⟨rfl, b1.trans (b2.mono b1.size)⟩

set_option maxRecDepth 100000 in
set_option maxHeartbeats 2000000 in
/-- there is a way -/
theorem good (w : World) (het : tld.EtIs w) (m : Nat) (a1 : Option Addr) (n1 c1 : Nat) (z1 : List Gr.Ln) (w1 : RdP w w.heap.size a1 n1 c1 z1) (h0 : Gr.code (m : Int) z1 = 0) (hc : Tl.canB m z1 = true) :
    Calls Tryd.prog 6 #[.int .i64 (m : Int), .slice a1 n1 c1] w fun e w' => e = .returned (.bool true) ∧ Below w.heap.size w w' := by
  have hl24 : n1 ≤ 24 := by have := (Gr.code_zero.1 h0).2.2.1; have := w1.len; omega
  have H0 := Lib.hid h0
  have HC := Lib.hid hc
  have HL := Lib.hid w1.len
  have hcap := w1.le
  have hcap2 := w1.cap
  clear h0 hc
  go_enter Tryd.func6, Tryd.ntmps6
  go_wp2_with fail
  refine (trailFact_any _ het).mono ?_
  rintro e x1 ⟨rfl, b1⟩
  have hr1 := w1.past b1
  go_wp2_with fail
  refine (Find_yes m a1 n1 c1 z1 _ hr1 H0.out HC.out).mono ?_
  rintro e x2 ⟨b2, B2, k2, d2, rfl, hk2, s2⟩
  have b02 := b1.trans (b2.mono b1.size)
  have hr2 := hr1.past b2
  clear hr1 w1 b1 b2
  by_cases h24 : n1 = 24
  · have e1 : ((n1 : Int) == 24) = true := by simp; omega
    have e2 : (n1 == 24) = true := by simp; omega
    have e3 : decide (n1 = 24) = true := by simp; omega
    have H24 := Lib.hid h24
    clear h24
    go_wp2
    go_ret
    exact ⟨rfl, b02⟩
  · have e1 : ((n1 : Int) == 24) = false := by simp; omega
    have e2 : (n1 == 24) = false := by simp; omega
    have e3 : decide (n1 = 24) = false := by simp; omega
    have hn24 : n1 < 24 := by omega
    clear h24
    have hk1 : 0 < k2 := by have := hk2.out; omega
    have hk25 : k2 ≤ 25 := by have := hk2.out; omega
    have f1 : ((k2 : Int) == 0) = false := by simp; omega
    have f2 : (k2 == 0) = false := by simp; omega
    have f3 : decide (k2 = 0) = false := by simp; omega
    obtain ⟨b, o, rfl, hbb, hcc⟩ := s2.at_ hk1
    obtain ⟨L, hL⟩ : ∃ L, L = k2 - 1 := ⟨_, rfl⟩
    have g1 := hcc 0 hk1
    have g2 := hcc L (by omega)
    have kL : IntKind.i64.wrap ((k2 : Int) - 1) = (L : Int) := by rw [IntKind.wrap_i64]; omega
    have kL2 : wrap64 ((k2 : Int) - 1) = (L : Int) := by unfold wrap64; omega
    have hLn : Hid (L = z1.length) := by show _ = _; rw [HL.out, hL]; have := hk2.out; omega
    rw [upL_at, Nat.add_zero] at g1
    rw [upL_at] at g2
    obtain ⟨f, hf⟩ : ∃ f, f = (Tl.way m z1).getD 0 0 := ⟨_, rfl⟩
    obtain ⟨t, ht⟩ : ∃ t, t = (Tl.way m z1).getD L 0 := ⟨_, rfl⟩
    rw [← hf] at g1
    rw [← ht] at g2
    have HF := Lib.hid hf
    have HT := Lib.hid ht
    have q1 : (0 : Int) ≤ (L : Int) := by omega
    have q2 : (L : Int) < (k2 : Int) := by omega
    have q3 : (0 : Int) < (k2 : Int) := by omega
    clear hcc hf ht hL
    by_cases hft : f = t
    · have u1 : ((f : Int) == (t : Int)) = true := by simp; omega
      have u2 : (f == t) = true := by simp; omega
      have u3 : decide (f = t) = true := by simp; omega
      have HFT := Lib.hid hft
      clear hft
      go_wp2
      go_ret
      exact ⟨rfl, b02⟩
    · have u1 : ((f : Int) == (t : Int)) = false := by simp; omega
      have u2 : (f == t) = false := by simp; omega
      have u3 : decide (f = t) = false := by simp; omega
      obtain ⟨m1, m2, m3⟩ := Tl.more_all H0.out HC.out (by rw [HL.out]; exact hn24) (a := f) (b := t) HF.out.symm (by rw [← hLn.out]; exact HT.out.symm) hft
      have M1 := Lib.hid m1
      have M2 := Lib.hid m2
      have M3 := Lib.hid m3
      have MO := Lib.hid (Tl.once_none m1 m3 m2)
      clear m1 m2 m3 hft
      obtain ⟨N4, hN4⟩ : ∃ N4, N4 = n1 + 1 := ⟨_, rfl⟩
      have hN25 : N4 ≤ 24 := by omega
      have HN4 := Lib.hid hN4
      clear hN4
      have hnil := OwnP.nil x2 x2.heap.size 37
      go_wp2_with (first
        | (at_builtin; refine wpList_appP _ rfl (.tmp 53) (.tmp 54) _ rfl x2.heap.size 37 Tryd.underlying22 lineInfo _ _ rfl hnil a1 n1 c1 z1 rfl hr2 (by simp; omega) (Nat.le_refl _) ?_; intro v3 x3 ho3 hg3 ha3; rw [List.nil_append] at ho3; have b3 : Below x2.heap.size x2 x3 := (Below.refl _ _).grown hg3 (Nat.le_refl _) (fun _ h => by cases h); have hs3 := b3.size)
        | (at_builtin; refine wpList_appP _ rfl (.tmp 56) (.tmp 60) _ rfl x2.heap.size 37 Tryd.underlying22 lineInfo _ z1 rfl (ho3.below ((Below.refl _ _).alloc (Nat.le_refl _) _)) (some ⟨x3.heap.size, 0, none⟩) 1 1 [((f : Int), (t : Int))] rfl (RdP.one _ _ _) (by rw [HL.out]; omega) (by simp; omega) ?_; intro v4 x4 ho4 hg4 ha4; have b4 : Below x2.heap.size x2 x4 := below_appP (b3.alloc hs3 _) (ho3.below ((Below.refl _ _).alloc (Nat.le_refl _) _)) hg4 (by simp; omega); obtain ⟨A4, c4, rfl, hr4⟩ := ho4.rd; have hl4 : Hid ((z1 ++ [((f : Int), (t : Int))]).length = N4) := (by show _ = _; rw [List.length_append, HL.out, HN4.out]; rfl); rw [hl4.out] at hr4; rw [hl4.out]; clear ho3 hg3 ha3 ho4 hg4 ha4))
      refine (Ends_rd m A4 N4 c4 _ _ hr4 M1.out).mono ?_
      rintro e x5 ⟨b5, B5, k5, d5, rfl, hk5, s5⟩
      obtain rfl : k5 = 0 := by have := hk5.out; rw [M2.out] at this; exact this
      have hr5 := hr4.past b5
      have hb5 := b4.trans (b5.mono b4.size)
      clear hr4 b4 b5 hk5 s5 hnil b3 hs3
      go_wp2_with fail
      refine (Find_yes m A4 N4 c4 _ _ hr5 M1.out M3.out).mono ?_
      rintro e x6 ⟨b6, B6, k6, d6, rfl, hk6, s6⟩
      have hbf := b02.trans ((hb5.trans (b6.mono hb5.size)).mono b02.size)
      have hk6a : Hid (k6 = k2 + 1) := by show _ = _; have h1 := hk6.out; have h2 := hk2.out; have h3 := HN4.out; omega
      have hk6p : 0 < k6 := by have := hk6.out; omega
      have hk6b : k6 ≤ 26 := by have := hk6.out; omega
      obtain ⟨b', o', rfl, hbb', hcc'⟩ := s6.at_ hk6p
      obtain ⟨L6, hL6⟩ : ∃ L6, L6 = k6 - 1 := ⟨_, rfl⟩
      have r56 : L6 < k6 := Nat.lt_of_le_of_lt (Nat.le_of_eq hL6) (Nat.sub_lt hk6p Nat.one_pos)
      have r5 : (0 : Int) ≤ (L6 : Int) := Int.natCast_nonneg _
      have r6 : (L6 : Int) < (k6 : Int) := Int.ofNat_lt.2 r56
      have r7 : (0 : Int) < (k6 : Int) := Int.ofNat_lt.2 hk6p
      have p1 := hcc' 0 hk6p
      have p2 := hcc' L6 r56
      rw [upL_at, Nat.add_zero] at p1
      rw [upL_at] at p2
      have hL6n : (z1 ++ [((f : Int), (t : Int))]).length = L6 := by rw [hl4.out, hL6]; have := hk6.out; omega
      have hMO := MO.out
      rw [hL6n] at hMO
      rw [← hMO] at p2
      generalize (Tl.way m (z1 ++ [((f : Int), (t : Int))])).getD 0 0 = y at p1 p2
      have r1 : IntKind.i64.wrap ((k6 : Int) - 1) = (L6 : Int) := by rw [IntKind.wrap_i64]; omega
      have r2 : wrap64 ((k6 : Int) - 1) = (L6 : Int) := by unfold wrap64; omega
      have r3 : IntKind.i64.wrap ((k2 : Int) + 1) = (k6 : Int) := by rw [IntKind.wrap_i64]; have := hk6a.out; omega
      have r4 : wrap64 ((k2 : Int) + 1) = (k6 : Int) := by unfold wrap64; have := hk6a.out; omega
      clear hcc' hMO hL6n hL6 s6 b6 hr5
      go_wp2
      go_quiet (fail)
      go_wp2
      go_ret
      exact ⟨rfl, hbf.trans (Below.drewN' _ _ _)⟩

theorem walk (w : World) (het : tld.EtIs w) (a0 : Int) (_w0 : (Lit.int .i64 a0).wf = true) (a1 : Option Addr) (n1 c1 : Nat) (z1 : List Gr.Ln) (w1 : RdP w w.heap.size a1 n1 c1 z1) :
    Calls Tryd.prog 6 #[.int .i64 a0, .slice a1 n1 c1] w fun e w' => e = .returned (.bool true) ∧ Below w.heap.size w w' := by
  by_cases hc : Gr.code a0 z1 = 0
  · obtain ⟨m, rfl⟩ : ∃ m : Nat, a0 = (m : Int) := ⟨a0.toNat, by have := (Gr.code_zero.1 hc).1; omega⟩
    cases hb : Tl.canB m z1 with
    | false => exact none_ w het m a1 n1 c1 z1 w1 hc hb
    | true => exact good w het m a1 n1 c1 z1 w1 hc hb
  · exact bad w het a0 a1 n1 c1 z1 w1 hc

end Go.Proofs.YtibphofiaodnmaaDoor.trailMore
