/-
  The walk of the law TrailSays: for every number of points and lines it returns true, where the library's variable errors.errorType holds what its initialiser lays.
-/
import Derived.Test.YtibphofiaodnmaaDoorTrailX
import Derived.Test.YtibphofiaodnmaaDoorRefU
namespace Go.Proofs.YtibphofiaodnmaaDoor.trailSays
open Go.RowKit
set_option linter.unusedSimpArgs false
set_option linter.unusedVariables false

theorem Err_same (k : Int) (w : World) (het : tld.EtIs w) : Calls Tryd.prog 10 #[errv k, .int .i64 k] w fun e w' => e = .returned (.bool true) ∧ Below w.heap.size w w' :=
  (Error_err k k w het).mono fun _ _ h => ⟨h.1.trans (by simp), h.2⟩
theorem Err_ok (w : World) : Calls Tryd.prog 10 #[.nilIface, .int .i64 0] w fun e w' => e = .returned (.bool true) ∧ w = w' :=
  (Error_nil 0 w).mono fun _ _ h => ⟨h.1.trans (by simp), h.2⟩

set_option maxRecDepth 100000 in
set_option maxHeartbeats 1000000 in
/-- something is wrong with the lines -/
theorem bad (w : World) (het : tld.EtIs w) (a0 : Int) (a1 : Option Addr) (n1 c1 : Nat) (z1 : List Gr.Ln) (w1 : RdP w w.heap.size a1 n1 c1 z1) (k : Int) (hk : Gr.code a0 z1 = k) (hc : k ≠ 0) :
    Calls Tryd.prog 3 #[.int .i64 a0, .slice a1 n1 c1] w fun e w' => e = .returned (.bool true) ∧ Below w.heap.size w w' := by
  have HK := Lib.hid hk
  have HN : Hid (Gr.code a0 z1 ≠ 0) := by show _; rw [hk]; exact hc
  have d1 : (k == 0) = false := by simpa using hc
  clear hk hc
  go_enter Tryd.func3, Tryd.ntmps3
  go_wp2_with fail
  refine (RefL.Lines_any a0 a1 n1 c1 z1 _ w1).mono ?_
  rw [HK.out]
  rintro e x1 ⟨rfl, b1⟩
  go_wp2_with fail
  refine (Ends_err a0 a1 n1 c1 z1 _ (w1.past b1) HN.out).mono ?_
  rw [HK.out]
  rintro e x2 ⟨rfl, b2⟩
  have b02 := b1.trans (b2.mono b1.size)
  go_wp2_with fail
  refine (Err_same k _ (het.below b02)).mono ?_
  rintro e x3 ⟨rfl, b3⟩
  have b03 := b02.trans (b3.mono b02.size)
  go_wp2_with fail
  refine (Ints_t none none 0 0 0 0 [] [] true _ (Rd.nil _ _) (Rd.nil _ _) rfl).mono ?_
  rintro e x4 ⟨rfl, b4⟩
  have b04 := b03.trans (b4.mono b03.size)
  go_wp2_with fail
  refine (Find_err a0 a1 n1 c1 z1 _ (w1.past b04) HN.out).mono ?_
  rw [HK.out]
  rintro e x5 ⟨rfl, b5⟩
  have b05 := b04.trans (b5.mono b04.size)
  go_wp2_with fail
  refine (Err_same k _ (het.below b05)).mono ?_
  rintro e x6 ⟨rfl, b6⟩
  have b06 := b05.trans (b6.mono b05.size)
  go_wp2_with fail
  refine (Ints_t none none 0 0 0 0 [] [] true _ (Rd.nil _ _) (Rd.nil _ _) rfl).mono ?_
  rintro e x7 ⟨rfl, b7⟩
  have b07 := b06.trans (b7.mono b06.size)
  go_wp2
  go_ret
  exact ⟨rfl, b07⟩

set_option maxRecDepth 100000 in
set_option maxHeartbeats 1000000 in
/-- nothing is wrong with the lines -/
theorem good (w : World) (het : tld.EtIs w) (m : Nat) (a1 : Option Addr) (n1 c1 : Nat) (z1 : List Gr.Ln) (w1 : RdP w w.heap.size a1 n1 c1 z1) (h0 : Gr.code (m : Int) z1 = 0) :
    Calls Tryd.prog 3 #[.int .i64 (m : Int), .slice a1 n1 c1] w fun e w' => e = .returned (.bool true) ∧ Below w.heap.size w w' := by
  have hm8 : m ≤ 8 := by have := (Gr.code_zero.1 h0).2.1; omega
  have hl24 : n1 ≤ 24 := by have := (Gr.code_zero.1 h0).2.2.1; have := w1.len; omega
  have H0 := Lib.hid h0
  clear h0
  go_enter Tryd.func3, Tryd.ntmps3
  go_wp2_with fail
  refine (RefL.Lines_any (m : Int) a1 n1 c1 z1 _ w1).mono ?_
  rw [H0.out]
  rintro e x1 ⟨rfl, b1⟩
  go_wp2_with fail
  refine (RefT.Ends_any m a1 n1 c1 z1 _ (w1.past b1) hm8 hl24).mono ?_
  rintro e x2 ⟨v2, rfl, o2, b2⟩
  have b02 := b1.trans (b2.mono b1.size)
  obtain ⟨B2, d2, rfl, r2⟩ := o2.rd
  obtain ⟨k2, hk2⟩ : ∃ k2, k2 = (upL (Tl.ends m z1)).length := ⟨_, rfl⟩
  rw [← hk2] at r2 ⊢
  clear hk2 o2
  go_wp2_with fail
  refine (Ends_rd m a1 n1 c1 z1 _ (w1.past b02) H0.out).mono ?_
  rintro e x3 ⟨b3, B3, k3, d3, rfl, _, r3⟩
  have b03 := b02.trans (b3.mono b02.size)
  go_wp2_with fail
  refine (Err_ok _).mono ?_
  rintro e _ ⟨rfl, rfl⟩
  go_wp2_with fail
  refine (Ints_t B3 B2 k3 k2 d3 d2 _ _ true _ r3 (r2.past b3) (by simp)).mono ?_
  rintro e x4 ⟨rfl, b4⟩
  have b04 := b03.trans (b4.mono b03.size)
  go_wp2_with fail
  refine (RefT.Trail_any m a1 n1 c1 z1 _ (w1.past b04) H0.out).mono ?_
  rintro e x5 ⟨b5, (⟨hc, rfl⟩ | ⟨hc, v5, rfl, o5⟩)⟩
  · have b05 := b04.trans (b5.mono b04.size)
    have HC := Lib.hid hc
    clear hc
    go_wp2_with fail
    refine (Find_no m a1 n1 c1 z1 _ (w1.past b05) H0.out HC.out).mono ?_
    rintro e x6 ⟨rfl, b6⟩
    have b06 := b05.trans (b6.mono b05.size)
    go_wp2_with fail
    refine (Err_same 5 _ (het.below b06)).mono ?_
    rintro e x7 ⟨rfl, b7⟩
    have b07 := b06.trans (b7.mono b06.size)
    go_wp2_with fail
    refine (Ints_t none none 0 0 0 0 [] [] true _ (Rd.nil _ _) (Rd.nil _ _) rfl).mono ?_
    rintro e x8 ⟨rfl, b8⟩
    have b08 := b07.trans (b8.mono b07.size)
    go_wp2
    go_ret
    exact ⟨rfl, b08⟩
  · have b05 := b04.trans (b5.mono b04.size)
    have HC := Lib.hid hc
    obtain ⟨B5, d5, rfl, r5⟩ := o5.rd
    obtain ⟨k5, hk5⟩ : ∃ k5, k5 = (upL (Tl.way m z1)).length := ⟨_, rfl⟩
    rw [← hk5] at r5 ⊢
    clear hc hk5 o5
    go_wp2_with fail
    refine (Find_yes m a1 n1 c1 z1 _ (w1.past b05) H0.out HC.out).mono ?_
    rintro e x6 ⟨b6, B6, k6, d6, rfl, _, r6⟩
    have b06 := b05.trans (b6.mono b05.size)
    go_wp2_with fail
    refine (Err_ok _).mono ?_
    rintro e _ ⟨rfl, rfl⟩
    go_wp2_with fail
    refine (Ints_t B6 B5 k6 k5 d6 d5 _ _ true _ r6 (r5.past b6) (by simp)).mono ?_
    rintro e x8 ⟨rfl, b8⟩
    have b08 := b06.trans (b8.mono b06.size)
    go_wp2
    go_ret
    exact ⟨rfl, b08⟩

theorem walk (w : World) (het : tld.EtIs w) (a0 : Int) (_w0 : (Lit.int .i64 a0).wf = true) (a1 : Option Addr) (n1 c1 : Nat) (z1 : List Gr.Ln) (w1 : RdP w w.heap.size a1 n1 c1 z1) :
    Calls Tryd.prog 3 #[.int .i64 a0, .slice a1 n1 c1] w fun e w' => e = .returned (.bool true) ∧ Below w.heap.size w w' := by
  by_cases hc : Gr.code a0 z1 = 0
  · obtain ⟨m, rfl⟩ : ∃ m : Nat, a0 = (m : Int) := ⟨a0.toNat, by have := (Gr.code_zero.1 hc).1; omega⟩
    exact good w het m a1 n1 c1 z1 w1 hc
  · exact bad w het a0 a1 n1 c1 z1 w1 _ rfl hc

end Go.Proofs.YtibphofiaodnmaaDoor.trailSays
