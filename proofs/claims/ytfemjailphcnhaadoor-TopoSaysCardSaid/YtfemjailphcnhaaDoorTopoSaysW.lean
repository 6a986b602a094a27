/-
  The walk of the law TopoSays: for every number of points and lines it returns true, where the library's variable errors.errorType holds what its initialiser lays.
-/
import Derived.Test.YtfemjailphcnhaaDoorTopoF
import Derived.Test.YtfemjailphcnhaaDoorRefOrd
import Derived.Test.YtfemjailphcnhaaDoorRefL
namespace Go.Proofs.YtfemjailphcnhaaDoor.topoSays
open Go.RowKit
set_option linter.unusedSimpArgs false
set_option linter.unusedVariables false

theorem Nil_same (w : World) : Calls Tryd.prog 12 #[.slice none 0 0, .slice none 0 0] w fun e w' => e = .returned (.bool true) ∧ Below w.heap.size w w' :=
  Ints_t none none 0 0 0 0 [] [] true w (Rd.nil _ _) (Rd.nil _ _) (by decide)

set_option maxRecDepth 100000 in
set_option maxHeartbeats 1000000 in
/-- something is wrong with the lines -/
theorem bad (w : World) (het : tld.EtIs w) (a0 : Int) (a1 : Option Addr) (n1 c1 : Nat) (z1 : List Gr.Ln) (w1 : RdP w w.heap.size a1 n1 c1 z1) (hc : Gr.code a0 z1 ≠ 0) :
    Calls Tryd.prog 3 #[.int .i64 a0, .slice a1 n1 c1] w fun e w' => e = .returned (.bool true) ∧ Below w.heap.size w w' := by
  have HN := Lib.hid hc
  obtain ⟨k, hk⟩ : ∃ k, k = Gr.code a0 z1 := ⟨_, rfl⟩
  have d1 : (k == 0) = false := by simpa [hk] using hc
  have HK := Lib.hid hk
  clear hc hk
  go_enter Tryd.func3, Tryd.ntmps3
  go_wp2_with fail
  refine (RefL.Lines_any a0 a1 n1 c1 z1 _ w1).mono ?_
  rintro e x1 ⟨rfl, b1⟩
  rw [← HK.out]
  go_wp2
  go_loopw [7, 10] (fun dv iv wr => dv = .slice none 0 0 ∧ iv = .int .i64 0 ∧ x1 = wr) (fun _ _ _ => 0)
  case atStart => exact ⟨rfl, rfl, rfl⟩
  case round =>
    obtain ⟨rfl, rfl, rfl⟩ := hrel
    have key : ∀ t : Bool, decide ((0 : Int) < a0) = t → True := fun _ _ => trivial
    obtain ⟨t, ht⟩ : ∃ t : Bool, decide ((0 : Int) < a0) = t := ⟨_, rfl⟩
    clear key
    have fin : True := trivial
    cases t with
    | true =>
      go_wp2_with fail
      refine (Order_code a0 a1 n1 c1 z1 _ (w1.past b1) HN.out).mono ?_
      rintro e x2 ⟨rfl, b2⟩
      have b02 := b1.trans (b2.mono b1.size)
      rw [← HK.out]
      go_wp2_with fail
      refine (Err_same k _ (het.below b02)).mono ?_
      rintro e x3 ⟨rfl, b3⟩
      have b03 := b02.trans (b3.mono b02.size)
      go_wp2_with fail
      refine (Nil_same _).mono ?_
      rintro e x4 ⟨rfl, b4⟩
      have b04 := b03.trans (b4.mono b03.size)
      go_wp2_with fail
      refine (Deep_code a0 a1 n1 c1 z1 _ (w1.past b04) HN.out).mono ?_
      rintro e x5 ⟨rfl, b5⟩
      have b05 := b04.trans (b5.mono b04.size)
      rw [← HK.out]
      go_wp2_with fail
      refine (Err_same k _ (het.below b05)).mono ?_
      rintro e x6 ⟨rfl, b6⟩
      have b06 := b05.trans (b6.mono b05.size)
      go_wp2_with fail
      refine (Nil_same _).mono ?_
      rintro e x7 ⟨rfl, b7⟩
      go_wp2
      go_ret
      exact ⟨rfl, b06.trans (b7.mono b06.size)⟩
    | false =>
      go_wp2_with fail
      refine (Order_code a0 a1 n1 c1 z1 _ (w1.past b1) HN.out).mono ?_
      rintro e x2 ⟨rfl, b2⟩
      have b02 := b1.trans (b2.mono b1.size)
      rw [← HK.out]
      go_wp2_with fail
      refine (Err_same k _ (het.below b02)).mono ?_
      rintro e x3 ⟨rfl, b3⟩
      have b03 := b02.trans (b3.mono b02.size)
      go_wp2_with fail
      refine (Nil_same _).mono ?_
      rintro e x4 ⟨rfl, b4⟩
      have b04 := b03.trans (b4.mono b03.size)
      go_wp2_with fail
      refine (Deep_code a0 a1 n1 c1 z1 _ (w1.past b04) HN.out).mono ?_
      rintro e x5 ⟨rfl, b5⟩
      have b05 := b04.trans (b5.mono b04.size)
      rw [← HK.out]
      go_wp2_with fail
      refine (Err_same k _ (het.below b05)).mono ?_
      rintro e x6 ⟨rfl, b6⟩
      have b06 := b05.trans (b6.mono b05.size)
      go_wp2_with fail
      refine (Nil_same _).mono ?_
      rintro e x7 ⟨rfl, b7⟩
      go_wp2
      go_ret
      exact ⟨rfl, b06.trans (b7.mono b06.size)⟩

theorem MOrder_bad (m : Nat) (A : Option Addr) (k c : Nat) (ls : List Gr.Ln) (o : List Int) (w : World) (hr : RdP w w.heap.size A k c ls) (hm8 : m ≤ 8) (hstep : To.Step m ls o) (hstuck : To.Stuck m ls o) (hlt : o.length < m) :
    Calls Tryd.prog 8 #[.int .i64 (m : Int), .slice A k c] w fun e w' => e = .returned (.tuple #[.slice none 0 0, .bool false]) ∧ Below w.heap.size w w' := by
  refine (RefO.Order_any m A k c ls w hr hm8).mono ?_
  rintro e w1 ⟨hb, o', h1, h2, (⟨_, rfl⟩ | ⟨h3, _⟩)⟩
  · exact ⟨rfl, hb⟩
  · have := h1.free h3 hstep hstuck
    omega
theorem MOrder_good (m : Nat) (A : Option Addr) (k c : Nat) (ls : List Gr.Ln) (o : List Int) (w : World) (hr : RdP w w.heap.size A k c ls) (hm8 : m ≤ 8) (hstep : To.Step m ls o) (hl : o.length = m) :
    Calls Tryd.prog 8 #[.int .i64 (m : Int), .slice A k c] w fun e w' => ∃ A1 c1, e = .returned (.tuple #[.slice A1 m c1, .bool true]) ∧ Rd w' w'.heap.size A1 m c1 o ∧ Below w.heap.size w w' := by
  refine (RefO.Order_any m A k c ls w hr hm8).mono ?_
  rintro e w1 ⟨hb, o', h1, h2, (⟨h3, rfl⟩ | ⟨h3, v, rfl, hown⟩)⟩
  · have := hstep.free hl h1 h2
    omega
  · obtain rfl := hstep.only h1 hl h3
    obtain ⟨A1, c1, rfl, hrd⟩ := hown.rd
    rw [hl] at hrd ⊢
    exact ⟨A1, c1, rfl, hrd, hb⟩

set_option maxRecDepth 100000 in
set_option maxHeartbeats 1000000 in
/-- there is no order -/
theorem none_ (w : World) (het : tld.EtIs w) (m : Nat) (a1 : Option Addr) (n1 c1 : Nat) (z1 : List Gr.Ln) (o : List Int) (w1 : RdP w w.heap.size a1 n1 c1 z1) (h0 : Gr.code (m : Int) z1 = 0) (hs : To.Step m z1 o) (hk : To.Stuck m z1 o) (hl : o.length < m) :
    Calls Tryd.prog 3 #[.int .i64 (m : Int), .slice a1 n1 c1] w fun e w' => e = .returned (.bool true) ∧ Below w.heap.size w w' := by
  have hm8 : m ≤ 8 := by have := (Gr.code_zero.1 h0).2.1; omega
  have hm1 : (0 : Int) < (m : Int) := by have := (Gr.code_zero.1 h0).1; omega
  have H0 := Lib.hid h0
  have HL := Lib.hid hl
  clear h0 hl
  go_enter Tryd.func3, Tryd.ntmps3
  go_wp2_with fail
  refine (RefL.Lines_any (m : Int) a1 n1 c1 z1 _ w1).mono ?_
  rintro e x0 ⟨rfl, b0⟩
  rw [H0.out]
  go_wp2_with fail
  refine (MOrder_bad m a1 n1 c1 z1 o _ (w1.past b0) hm8 hs hk HL.out).mono ?_
  rintro e x1 ⟨rfl, b1'⟩
  have b1 := b0.trans (b1'.mono b0.size)
  go_wp2
  go_loopw [7, 10] (fun dv iv wr => dv = .slice none 0 0 ∧ iv = .int .i64 0 ∧ x1 = wr) (fun _ _ _ => 0)
  case atStart => exact ⟨rfl, rfl, rfl⟩
  case round =>
    obtain ⟨rfl, rfl, rfl⟩ := hrel
    go_wp2_with fail
    refine (Order_bad m a1 n1 c1 z1 o _ (w1.past b1) H0.out hs hk HL.out).mono ?_
    rintro e x2 ⟨rfl, b2⟩
    have b02 := b1.trans (b2.mono b1.size)
    go_wp2_with fail
    refine (Err_same 5 _ (het.below b02)).mono ?_
    rintro e x3 ⟨rfl, b3⟩
    have b03 := b02.trans (b3.mono b02.size)
    go_wp2_with fail
    refine (Nil_same _).mono ?_
    rintro e x4 ⟨rfl, b4⟩
    have b04 := b03.trans (b4.mono b03.size)
    go_wp2_with fail
    refine (Deep_no m a1 n1 c1 z1 o _ (w1.past b04) H0.out hs hk HL.out).mono ?_
    rintro e x5 ⟨rfl, b5⟩
    have b05 := b04.trans (b5.mono b04.size)
    go_wp2_with fail
    refine (Err_same 5 _ (het.below b05)).mono ?_
    rintro e x6 ⟨rfl, b6⟩
    have b06 := b05.trans (b6.mono b05.size)
    go_wp2_with fail
    refine (Nil_same _).mono ?_
    rintro e x7 ⟨rfl, b7⟩
    go_wp2
    go_ret
    exact ⟨rfl, b06.trans (b7.mono b06.size)⟩

theorem Err_none (w : World) : Calls Tryd.prog 11 #[.nilIface, .int .i64 0] w fun e w' => e = .returned (.bool true) ∧ w = w' :=
  (Error_nil 0 w).mono fun _ _ h => ⟨h.1.trans (by simp), h.2⟩

set_option maxRecDepth 100000 in
set_option maxHeartbeats 2000000 in
/-- there is one -/
theorem good (w : World) (het : tld.EtIs w) (m : Nat) (a1 : Option Addr) (n1 c1 : Nat) (z1 : List Gr.Ln) (o : List Int) (w1 : RdP w w.heap.size a1 n1 c1 z1) (h0 : Gr.code (m : Int) z1 = 0) (hs : To.Step m z1 o) (hl : o.length = m) :
    Calls Tryd.prog 3 #[.int .i64 (m : Int), .slice a1 n1 c1] w fun e w' => e = .returned (.bool true) ∧ Below w.heap.size w w' := by
  have hm8 : m ≤ 8 := by have := (Gr.code_zero.1 h0).2.1; omega
  have HG := Lib.hid (Gr.code_zero.1 h0).2.2.2
  have H0 := Lib.hid h0
  have HS := Lib.hid hs
  have HL := Lib.hid hl
  clear h0 hl hs
  go_enter Tryd.func3, Tryd.ntmps3
  go_wp2_with fail
  refine (RefL.Lines_any (m : Int) a1 n1 c1 z1 _ w1).mono ?_
  rintro e x0 ⟨rfl, b0⟩
  rw [H0.out]
  go_wp2_with fail
  refine (MOrder_good m a1 n1 c1 z1 o _ (w1.past b0) hm8 HS.out HL.out).mono ?_
  rintro e x1 ⟨A2, c2, rfl, r2, b1'⟩
  have b1 := b0.trans (b1'.mono b0.size)
  have r1 := w1.past b1
  clear b0 b1' w1
  go_wp2
  go_loopw [7, 10] (fun dv iv wr => ∃ i : Nat, i ≤ m ∧ iv = .int .i64 (i : Int) ∧ Own wr x1.heap.size 3 dv ((To.deps m z1).take i) ∧ Below x1.heap.size x1 wr) (fun _ iv _ => m - (intOf iv).toNat)
  case atStart => exact ⟨0, Nat.zero_le _, rfl, Own.nil _ _ _, Below.refl _ _⟩
  case round =>
    obtain ⟨i, him, rfl, hown, hb⟩ := hrel
    by_cases hlt : i < m
    · have HC := Lib.hid (RefO.Deep_any m n1 c1 wr.heap.size a1 z1 HG.out m i wr (by omega) hlt (fun k a ha hw => HS.out.short HL.out ha hw) (r1.past hb))
      have HT : Hid ((To.deps m z1).take i ++ [((To.dpF z1 m (i : Int) : Nat) : Int)] = (To.deps m z1).take (i + 1)) := by
        show _ = _
        have hk : i < (To.deps m z1).length := by rw [To.deps_len]; exact hlt
        rw [List.take_succ_eq_append_getElem hk, ← To.deps_at z1 hlt]
        simp [List.getD, hk]
      have hlen : ((To.deps m z1).take i).length + 1 ≤ 17592186044416 := by rw [List.length_take, To.deps_len]; omega
      generalize ((To.dpF z1 m (i : Int) : Nat) : Int) = x at HC HT
      obtain ⟨W, hW⟩ : ∃ W, W = wr := ⟨_, rfl⟩
      subst hW
      have hsz := hb.size
      have hown2 := hown.below ((Below.refl W.heap.size W).alloc (Nat.le_refl _) (.cells #[.int .i64 x] 3))
      have hb2 := hb.alloc hsz (.cells #[.int .i64 x] 3)
      go_wp2_with fail
      refine HC.out.mono ?_
      rintro e y ⟨rfl, rfl⟩
      go_wp2_with (at_builtin; refine wpList_app _ rfl (.tmp 37) (.tmp 41) 24 rfl x1.heap.size 3 Tryd.underlying24 intInfo u7 _ rfl hown2 (some ⟨W.heap.size, 0, none⟩) 1 1 [x] rfl (Rd.one W x 3) hlen (by simp; omega) ?_; intro v3 w3 hown3 hg3 hat3)
      go_roundw
      case rel => exact ⟨i + 1, by omega, by go_num, by rw [← HT.out]; exact hown3, hb2.grown hg3 (by simp; omega) (fun k hk => hown2.at_base k hk)⟩
      case measure => simp [intOf]; omega
    · obtain rfl : i = m := by omega
      rw [List.take_of_length_le (by rw [To.deps_len]; exact Nat.le_refl _)] at hown
      obtain ⟨A7, c7, rfl, r7⟩ := hown.rd
      rw [To.deps_len] at r7 ⊢
      have r2 := r2.past hb
      have r1 := r1.past hb
      have b03 := b1.trans (hb.mono b1.size)
      clear hown hb b1
      go_wp2_with fail
      refine (Order_yes i a1 n1 c1 z1 o _ r1 H0.out HS.out HL.out).mono ?_
      rintro e x4 ⟨A4, c4, rfl, r4, b4⟩
      have b04 := b03.trans (b4.mono b03.size)
      have r2 := r2.past b4
      have r1 := r1.past b4
      have r7 := r7.past b4
      clear b4 b03
      go_wp2_with fail
      refine (Err_none _).mono ?_
      rintro e y ⟨rfl, rfl⟩
      go_wp2_with fail
      refine (Ints_t A4 A2 i i c4 c2 o o true _ r4 r2 (by simp)).mono ?_
      rintro e x5 ⟨rfl, b5⟩
      have b05 := b04.trans (b5.mono b04.size)
      have r1 := r1.past b5
      have r7 := r7.past b5
      clear b5 b04 r2 r4
      go_wp2_with fail
      refine (Deep_yes i a1 n1 c1 z1 o _ r1 H0.out HS.out HL.out).mono ?_
      rintro e x6 ⟨A6, c6, rfl, r6, b6⟩
      have b06 := b05.trans (b6.mono b05.size)
      have r7 := r7.past b6
      clear b6 b05 r1
      go_wp2_with fail
      refine (Err_none _).mono ?_
      rintro e y ⟨rfl, rfl⟩
      go_wp2_with fail
      refine (Ints_t A6 A7 i i c6 c7 _ _ true _ r6 r7 (by simp)).mono ?_
      rintro e x8 ⟨rfl, b8⟩
      go_wp2
      go_ret
      exact ⟨rfl, b06.trans (b8.mono b06.size)⟩

theorem walk (w : World) (het : tld.EtIs w) (a0 : Int) (w0 : (Lit.int .i64 a0).wf = true) (a1 : Option Addr) (n1 c1 : Nat) (z1 : List Gr.Ln) (w1 : RdP w w.heap.size a1 n1 c1 z1) :
    Calls Tryd.prog 3 #[.int .i64 a0, .slice a1 n1 c1] w fun e w' => e = .returned (.bool true) ∧ Below w.heap.size w w' := by
  by_cases h : Gr.code a0 z1 = 0
  · obtain ⟨m, rfl⟩ : ∃ m : Nat, a0 = (m : Int) := ⟨a0.toNat, by have := (Gr.code_zero.1 h).1; omega⟩
    obtain ⟨o, hs, hk⟩ := To.Step.all m z1
    rcases Nat.lt_or_ge o.length m with hl | hl
    · exact none_ w het m a1 n1 c1 z1 o w1 h hs hk hl
    · exact good w het m a1 n1 c1 z1 o w1 h hs (Nat.le_antisymm hs.le hl)
  · exact bad w het a0 a1 n1 c1 z1 w1 h

end Go.Proofs.YtfemjailphcnhaaDoor.topoSays
