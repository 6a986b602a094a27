/-
  The walk of the law DomCut: for every number of points, lines, start and two points it returns true.
-/
import Derived.Test.YtjcdnkbandagoaaDomF
import Derived.Test.YtjcdnkbandagoaaIn2
import Derived.BigQuiet
namespace Go.Proofs.Ytjcdnkbandagoaa.domCut
open Go.RowKit
set_option linter.unusedSimpArgs false
set_option linter.unusedVariables false

theorem cut_take {ls : List Gr.Ln} {k j : Nat} {p q : Int} (hj : j < ls.length) (hp : (p, q) = ls.getD j (0, 0)) : Do.cut (ls.take (j + 1)) k = if p ≠ (k : Int) ∧ q ≠ (k : Int) then Do.cut (ls.take j) k ++ [(p, q)] else Do.cut (ls.take j) k := by
  have e : ls[j] = (p, q) := by rw [hp]; simp [List.getD, hj]
  unfold Do.cut
  rw [List.take_succ_eq_append_getElem hj, List.filter_append, e]
  by_cases h : p ≠ (k : Int) ∧ q ≠ (k : Int)
  · rw [if_pos h, List.filter_cons_of_pos (by simp [h.1, h.2])]
    rfl
  · rw [if_neg h, List.filter_cons_of_neg]
    · simp
    · intro h2
      simp at h2
      exact h h2
theorem cut_len (ls : List Gr.Ln) (k : Nat) : (Do.cut ls k).length ≤ ls.length := List.length_filter_le _ _

set_option maxRecDepth 100000 in
set_option maxHeartbeats 1000000 in
/-- something is wrong with the lines, or with the start -/
theorem bad (w : World) (a0 : Int) (a1 : Option Addr) (n1 c1 : Nat) (z1 : List Gr.Ln) (w1 : RdP w w.heap.size a1 n1 c1 z1) (a2 a3 a4 : Int) (hc : Do.fcode a0 z1 a2 ≠ 0) :
    Calls Try.prog 5 #[.int .i64 a0, .slice a1 n1 c1, .int .i64 a2, .int .i64 a3, .int .i64 a4] w fun e w' => e = .returned (.bool true) ∧ Below w.heap.size w w' := by
  have HN := Lib.hid hc
  clear hc
  go_enter Try.func5, Try.ntmps5
  go_wp2_with fail
  refine (domFact_any _).mono ?_
  rintro e x1 ⟨rfl, b1⟩
  go_wp2_with fail
  refine (Of_bad a0 a1 n1 c1 z1 a2 _ (w1.past b1) HN.out).mono ?_
  rintro e x2 ⟨rfl, b2⟩
  go_wp2
  go_ret
  exact ⟨rfl, b1.trans (b2.mono b1.size)⟩

set_option maxRecDepth 100000 in
set_option maxHeartbeats 4000000 in
/-- one of the two is no point, or the point that is left out is one of the ends -/
theorem out (w : World) (m st : Nat) (a1 : Option Addr) (n1 c1 : Nat) (z1 : List Gr.Ln) (w1 : RdP w w.heap.size a1 n1 c1 z1) (a3 a4 : Int) (hst : st < m) (h0 : Gr.code (m : Int) z1 = 0)
    (ho : (a3 < 0 ∨ (m : Int) ≤ a3) ∨ (0 ≤ a3 ∧ a3 < (m : Int) ∧ ((a4 < 0 ∨ (m : Int) ≤ a4) ∨ (0 ≤ a4 ∧ a4 < (m : Int) ∧ (a4 = (st : Int) ∨ (a4 ≠ (st : Int) ∧ a4 = a3)))))) :
    Calls Try.prog 5 #[.int .i64 (m : Int), .slice a1 n1 c1, .int .i64 (st : Int), .int .i64 a3, .int .i64 a4] w fun e w' => e = .returned (.bool true) ∧ Below w.heap.size w w' := by
  have hm8 : m ≤ 8 := by have := (Gr.code_zero.1 h0).2.1; omega
  have H0 := Lib.hid h0
  have HO := Lib.hid ho
  clear h0 ho
  obtain ⟨q, hq⟩ : ∃ q : Int, q = (m : Int) - 1 := ⟨_, rfl⟩
  have hwr : IntKind.i64.wrap ((m : Int) - 1) = q := by rw [IntKind.wrap_i64] <;> omega
  have HQ := Lib.hid hq
  have hsq : (st : Int) ≤ q := by omega
  clear hq
  go_enter Try.func5, Try.ntmps5
  go_wp2_with fail
  refine (domFact_any _).mono ?_
  rintro e x1 ⟨rfl, b1⟩
  go_wp2_with fail
  refine (Of_yes m st a1 n1 c1 z1 _ (w1.past b1) H0.out hst).mono ?_
  rintro e x2 ⟨A2, c2, rfl, r2, b2⟩
  have b02 := b1.trans (b2.mono b1.size)
  have hbig := r2.big
  clear r2 b1 b2
  rcases HO.out with h | ⟨h1, h2, h⟩
  · have HH : Hid (a3 < 0 ∨ q < a3) := by show _ ∨ _; have := HQ.out; omega
    clear h
    go_wp2_with fail
    refine (in2_no a3 0 q _ HH.out).mono ?_
    rintro e x4 ⟨rfl, rfl⟩
    go_wp2
    go_ret
    exact ⟨rfl, b02⟩
  · have HH3 : Hid (0 ≤ a3 ∧ a3 ≤ q) := by show _ ∧ _; have := HQ.out; omega
    rcases h with h | ⟨h3, h4, h⟩
    · have HH : Hid (a4 < 0 ∨ q < a4) := by show _ ∨ _; have := HQ.out; omega
      clear h h1 h2
      go_wp2_with fail
      refine (in2_yes a3 0 q _ HH3.out.1 HH3.out.2).mono ?_
      rintro e x4 ⟨rfl, rfl⟩
      go_wp2_with fail
      refine (in2_no a4 0 q _ HH.out).mono ?_
      rintro e x4 ⟨rfl, rfl⟩
      go_wp2
      go_ret
      exact ⟨rfl, b02⟩
    · have HH4 : Hid (0 ≤ a4 ∧ a4 ≤ q) := by show _ ∧ _; have := HQ.out; omega
      clear h1 h2 h3 h4
      rcases h with h | ⟨h5, h⟩
      · have d1 : (a4 == (st : Int)) = true := by simp [h]
        clear h
        go_wp2_with fail
        refine (in2_yes a3 0 q _ HH3.out.1 HH3.out.2).mono ?_
        rintro e x4 ⟨rfl, rfl⟩
        go_wp2_with fail
        refine (in2_yes a4 0 q _ HH4.out.1 HH4.out.2).mono ?_
        rintro e x4 ⟨rfl, rfl⟩
        go_wp2_with fail
        refine (in2_yes (st : Int) 0 q _ (by omega) hsq).mono ?_
        rintro e x4 ⟨rfl, rfl⟩
        go_wp2
        go_ret
        exact ⟨rfl, b02⟩
      · have d1 : (a4 == (st : Int)) = false := by simpa using h5
        have d2 : (a4 == a3) = true := by simp [h]
        clear h h5
        go_wp2_with fail
        refine (in2_yes a3 0 q _ HH3.out.1 HH3.out.2).mono ?_
        rintro e x4 ⟨rfl, rfl⟩
        go_wp2_with fail
        refine (in2_yes a4 0 q _ HH4.out.1 HH4.out.2).mono ?_
        rintro e x4 ⟨rfl, rfl⟩
        go_wp2_with fail
        refine (in2_yes (st : Int) 0 q _ (by omega) hsq).mono ?_
        rintro e x4 ⟨rfl, rfl⟩
        go_wp2
        go_ret
        exact ⟨rfl, b02⟩

set_option maxRecDepth 100000 in
set_option maxHeartbeats 4000000 in
theorem good (w : World) (m st : Nat) (a1 : Option Addr) (n1 c1 : Nat) (z1 : List Gr.Ln) (w1 : RdP w w.heap.size a1 n1 c1 z1) (to kk : Nat) (hst : st < m) (hto : to < m) (hkk : kk < m) (hks : kk ≠ st) (hkt : kk ≠ to) (h0 : Gr.code (m : Int) z1 = 0) :
    Calls Try.prog 5 #[.int .i64 (m : Int), .slice a1 n1 c1, .int .i64 (st : Int), .int .i64 (to : Int), .int .i64 (kk : Int)] w fun e w' => e = .returned (.bool true) ∧ Below w.heap.size w w' := by
  have hm8 : m ≤ 8 := by have := (Gr.code_zero.1 h0).2.1; omega
  have h24 : z1.length ≤ 24 := (Gr.code_zero.1 h0).2.2.1
  have HC2 : Hid (Gr.code (m : Int) (Do.cut z1 kk) = 0) := Do.code_cut h0
  have H0 := Lib.hid h0
  have HX := Lib.hid w1.len
  have hn24 : n1 ≤ 24 := by rw [← HX.out]; exact h24
  clear h0 h24
  obtain ⟨q, hq⟩ : ∃ q : Int, q = (m : Int) - 1 := ⟨_, rfl⟩
  have hwr : IntKind.i64.wrap ((m : Int) - 1) = q := by rw [IntKind.wrap_i64] <;> omega
  have HQ : Hid (∀ p : Nat, p < m → (p : Int) ≤ q) := by show ∀ p, _; intro p hp; omega
  clear hq
  have d1 : ((kk : Int) == (st : Int)) = false := by simp; omega
  have d2 : ((kk : Int) == (to : Int)) = false := by simp; omega
  have t1 : (0 : Int) ≤ (to : Int) := by omega
  have t2 : (to : Int) < (m : Int) := by omega
  have HKS := Lib.hid hks
  have HKT := Lib.hid hkt
  clear hks hkt
  go_enter Try.func5, Try.ntmps5
  go_wp2_with fail
  refine (domFact_any _).mono ?_
  rintro e x1 ⟨rfl, b1⟩
  go_wp2_with fail
  refine (Of_yes m st a1 n1 c1 z1 _ (w1.past b1) H0.out hst).mono ?_
  rintro e x2 ⟨A2, c2, rfl, r2, b2⟩
  have b02 := b1.trans (b2.mono b1.size)
  have hbig := r2.big
  obtain ⟨B, hB⟩ : ∃ B, B = x2.heap.size := ⟨_, rfl⟩
  have HB := Lib.hid hB
  have hbw0 : w.heap.size ≤ B := by rw [hB]; exact b02.size
  obtain ⟨bA, oA, rfl, hbA, hcc⟩ := r2.at_ (by omega)
  obtain ⟨A3, c3, y3, r3⟩ := hcc to hto
  rw [Do.dls_at hto] at y3 r3
  have hem := Do.dl_empty (ls := z1) hst to
  obtain ⟨L, hL⟩ : ∃ L, L = (Do.dl m z1 st to).length := ⟨_, rfl⟩
  rw [← hL] at y3 r3 hem
  have hr2 := w1.past b02
  rw [← hB] at hbA r3 hr2
  have hLb := r3.big
  clear hL hcc b1 b2 r2 hB
  go_wp2_with fail
  refine (in2_yes (to : Int) 0 q _ (by omega) (HQ.out to hto)).mono ?_
  rintro e x4 ⟨rfl, rfl⟩
  go_wp2_with fail
  refine (in2_yes (kk : Int) 0 q _ (by omega) (HQ.out kk hkk)).mono ?_
  rintro e x4 ⟨rfl, rfl⟩
  go_wp2_with fail
  refine (in2_yes (st : Int) 0 q _ (by omega) (HQ.out st hst)).mono ?_
  rintro e x4 ⟨rfl, rfl⟩
  by_cases hL0 : L = 0
  · subst hL0
    clear hem
    go_wp2
    go_ret
    exact ⟨rfl, b02⟩
  · have hre : Sg.reach m z1 st to = true := by
      cases h : Sg.reach m z1 st to with
      | true => rfl
      | false => exact absurd (hem.2 h) hL0
    have d0 : ((L : Int) == 0) = false := by simp; omega
    have HDC : Hid (Do.dom m z1 st to kk = !Sg.reach m (Do.cut z1 kk) st to) := Do.dom_cut hre HKS.out HKT.out
    have hO0 : OwnP x2 B 38 (.slice none 0 0) (Do.cut (z1.take 0) kk) := OwnP.nil _ _ _
    have hb0 : Below B x2 x2 := Below.refl _ _
    clear hem hre hL0
    go_wp2
    go_loopw [14, 15] (fun lv jv wr => ∃ j : Nat, j ≤ n1 ∧ jv = .int .i64 (j : Int) ∧ OwnP wr B 38 lv (Do.cut (z1.take j) kk) ∧ Below B x2 wr) (fun _ jv _ => n1 - (intOf jv).toNat)
    case atStart => exact ⟨0, Nat.zero_le _, rfl, hO0, hb0⟩
    case round =>
      clear hO0 hb0
      obtain ⟨j, hj, rfl, hown, hbel⟩ := hrel
      have hsz : B ≤ wr.heap.size := by have := hbel.size; rw [← HB.out] at this; exact this
      by_cases hlt : j < n1
      · have hjl : j < z1.length := by rw [HX.out]; exact hlt
        obtain ⟨b5, o5, rfl, hb5, hc5⟩ := (hr2.below hbel).at_ (by omega)
        obtain ⟨g1, g2⟩ := hc5 j hlt
        obtain ⟨⟨p, r⟩, hp⟩ : ∃ p, p = z1.getD j (0, 0) := ⟨_, rfl⟩
        rw [← hp] at g1 g2
        simp only at g1 g2
        have HCT := Lib.hid (cut_take (k := kk) hjl hp)
        have hlen := cut_len (z1.take j) kk
        have hlen2 : (Do.cut (z1.take j) kk).length ≤ 24 := by
          have : (z1.take j).length ≤ j := by rw [List.length_take]; omega
          omega
        clear hc5 hp hjl hlen
        by_cases e1 : p = (kk : Int)
        · have HN : Hid (Do.cut (z1.take (j + 1)) kk = Do.cut (z1.take j) kk) := by show _ = _; rw [HCT.out, if_neg (fun h => h.1 e1)]
          have d3 : (p != (kk : Int)) = false := by simp [e1]
          clear e1
          go_wp2
          go_roundw
          case rel => exact ⟨j + 1, by omega, by go_num, by rw [HN.out]; exact hown, hbel⟩
          case measure => simp [intOf]; omega
        · have d3 : (p != (kk : Int)) = true := by simpa using e1
          by_cases e2 : r = (kk : Int)
          · have HN : Hid (Do.cut (z1.take (j + 1)) kk = Do.cut (z1.take j) kk) := by show _ = _; rw [HCT.out, if_neg (fun h => h.2 e2)]
            have d4 : (r != (kk : Int)) = false := by simp [e2]
            clear e1 e2
            go_wp2
            go_roundw
            case rel => exact ⟨j + 1, by omega, by go_num, by rw [HN.out]; exact hown, hbel⟩
            case measure => simp [intOf]; omega
          · have HN : Hid (Do.cut (z1.take (j + 1)) kk = Do.cut (z1.take j) kk ++ [(p, r)]) := by show _ = _; rw [HCT.out, if_pos ⟨e1, e2⟩]
            have d4 : (r != (kk : Int)) = true := by simpa using e2
            have hown2 := hown.below ((Below.refl wr.heap.size wr).alloc (Nat.le_refl _) (.cells #[.int .i64 p, .int .i64 r] 38))
            have hql : (Do.cut (z1.take j) kk).length + 1 ≤ 8796093022208 := by omega
            have hb2 := hbel.alloc hsz (.cells #[.int .i64 p, .int .i64 r] 38)
            clear e1 e2 hown
            go_wp2_with (at_builtin; refine wpList_appP _ rfl (.tmp 99) (.tmp 104) 22 rfl B 38 Try.underlying22 lineInfo _ _ rfl hown2 (some ⟨wr.heap.size, 0, none⟩) 1 1 [(p, r)] rfl (RdP.one wr (p, r) _) hql (by simp; omega) ?_; intro v3 w3 hown3 hg3 hat3)
            rw [← HN.out] at hown3
            go_roundw
            case rel => exact ⟨j + 1, by omega, by go_num, hown3, below_appP hb2 hown2 hg3 (by simp; omega)⟩
            case measure => simp [intOf]; omega
      · obtain rfl : j = n1 := by omega
        rw [show z1.take j = z1 by rw [← HX.out, List.take_length]] at hown
        obtain ⟨A4, c4, rfl, r4⟩ := hown.rd
        obtain ⟨N, hN⟩ : ∃ N, N = (Do.cut z1 kk).length := ⟨_, rfl⟩
        rw [← hN] at r4 ⊢
        clear hN hown
        have b03 := b02.trans (hbel.mono hbw0)
        go_wp2_with fail
        refine (Of_yes m st A4 N c4 _ _ r4 HC2.out hst).mono ?_
        rintro e x5 ⟨A6, c6, rfl, r6, b6⟩
        have hbel6 := hbel.trans (b6.mono hsz)
        have b06 := b03.trans (b6.mono b03.size)
        have hbig6 := r6.big
        obtain ⟨bX, oX, rfl, hbX, hcx⟩ := r6.at_ (by omega)
        obtain ⟨A7, c7, y7, r7⟩ := hcx to hto
        rw [Do.dls_at hto] at y7 r7
        have hem7 := Do.dl_empty (ls := Do.cut z1 kk) hst to
        obtain ⟨M, hM⟩ : ∃ M, M = (Do.dl m (Do.cut z1 kk) st to).length := ⟨_, rfl⟩
        rw [← hM] at y7 r7 hem7
        have hMb := r7.big
        have z3 := (hbel6.cell (p := ⟨bA, oA + to, none⟩) hbA).trans y3
        have s3 : Rd x5 x5.heap.size A3 L c3 (Do.dl m z1 st to) := (r3.below hbel6).more (Nat.le_trans hsz b6.size)
        have hhas := Do.dl_has (ls := z1) hst to kk
        rw [HDC.out] at hhas
        clear hM hcx r6
        cases hx : Sg.reach m (Do.cut z1 kk) st to with
        | true =>
          have HT : Hid ((Do.dl m z1 st to).contains (kk : Int) = false) := by show _ = _; rw [hhas, hx]; rfl
          have d5 : ((M : Int) == 0) = false := by
            have : ¬ M = 0 := fun e => by have := hem7.1 e; rw [hx] at this; cases this
            simp; omega
          clear hhas hem7 hx
          go_wp2
          go_quiet (first | (go_at_call 10; exact Calls.quiet_of_same ((Has_any _ _ _ _ (kk : Int) false _ (s3.drewN _) HT.out).mono fun _ _ h => ⟨h.1, h.2.symm⟩)))
          go_wp2
          go_ret
          exact ⟨rfl, b06.trans (Below.drewN' _ _ _)⟩
        | false =>
          have HT : Hid ((Do.dl m z1 st to).contains (kk : Int) = true) := by show _ = _; rw [hhas, hx]; rfl
          have hM0 : M = 0 := hem7.2 hx
          subst hM0
          clear hhas hem7 hx
          go_wp2
          go_quiet (first | (go_at_call 10; exact Calls.quiet_of_same ((Has_any _ _ _ _ (kk : Int) true _ (s3.drewN _) HT.out).mono fun _ _ h => ⟨h.1, h.2.symm⟩)))
          go_wp2
          go_ret
          exact ⟨rfl, b06.trans (Below.drewN' _ _ _)⟩

theorem walk (w : World) (a0 : Int) (w0 : (Lit.int .i64 a0).wf = true) (a1 : Option Addr) (n1 c1 : Nat) (z1 : List Gr.Ln) (w1 : RdP w w.heap.size a1 n1 c1 z1) (a2 : Int) (w2 : (Lit.int .i64 a2).wf = true) (a3 : Int) (w3 : (Lit.int .i64 a3).wf = true) (a4 : Int) (w4 : (Lit.int .i64 a4).wf = true) :
    Calls Try.prog 5 #[.int .i64 a0, .slice a1 n1 c1, .int .i64 a2, .int .i64 a3, .int .i64 a4] w fun e w' => e = .returned (.bool true) ∧ Below w.heap.size w w' := by
  by_cases h : Do.fcode a0 z1 a2 = 0
  · obtain ⟨h1, h2, h3⟩ := Do.fcode_zero.1 h
    obtain ⟨m, rfl⟩ : ∃ m : Nat, a0 = (m : Int) := ⟨a0.toNat, by omega⟩
    obtain ⟨st, rfl⟩ : ∃ st : Nat, a2 = (st : Int) := ⟨a2.toNat, by omega⟩
    by_cases hin : (0 ≤ a3 ∧ a3 < (m : Int)) ∧ (0 ≤ a4 ∧ a4 < (m : Int)) ∧ a4 ≠ (st : Int) ∧ a4 ≠ a3
    · obtain ⟨to, rfl⟩ : ∃ to : Nat, a3 = (to : Int) := ⟨a3.toNat, by omega⟩
      obtain ⟨kk, rfl⟩ : ∃ kk : Nat, a4 = (kk : Int) := ⟨a4.toNat, by omega⟩
      exact good w m st a1 n1 c1 z1 w1 to kk (by omega) (by omega) (by omega) (by omega) (by omega) h1
    · exact out w m st a1 n1 c1 z1 w1 a3 a4 (by omega) h1 (by omega)
  · exact bad w a0 a1 n1 c1 z1 w1 a2 a3 a4 h

end Go.Proofs.Ytjcdnkbandagoaa.domCut
