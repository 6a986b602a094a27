/-
  The walk of the law HalvesSays: for every number of points and lines it returns true, where the library's variable errors.errorType holds what its initialiser lays.
-/
import Derived.Test.YtklanopgmlmjlaaDoorRefP
import Derived.Test.YtklanopgmlmjlaaDoorRefW
import Derived.Test.YtklanopgmlmjlaaDoorTold
namespace Go.Proofs.YtklanopgmlmjlaaDoor.halvesSays
open Go.RowKit
set_option linter.unusedSimpArgs false
set_option linter.unusedVariables false

theorem Err_same (k : Int) (w : World) (het : tld.EtIs w) : Calls Tryd.prog 9 #[errv k, .int .i64 k] w fun e w' => e = .returned (.bool true) ∧ Below w.heap.size w w' :=
  (Error_err k k w het).mono fun _ _ h => ⟨h.1.trans (by simp), h.2⟩
theorem Err_ok (w : World) : Calls Tryd.prog 9 #[.nilIface, .int .i64 0] w fun e w' => e = .returned (.bool true) ∧ w = w' :=
  (Error_nil 0 w).mono fun _ _ h => ⟨h.1.trans (by simp), h.2⟩

set_option maxRecDepth 100000 in
set_option maxHeartbeats 1000000 in
/-- something is wrong with the lines -/
theorem bad (w : World) (het : tld.EtIs w) (a0 : Int) (a1 : Option Addr) (n1 c1 : Nat) (z1 : List Gr.Ln) (w1 : RdP w w.heap.size a1 n1 c1 z1) (k : Int) (hk : Gr.code a0 z1 = k) (hc : k ≠ 0) :
    Calls Tryd.prog 3 #[.int .i64 a0, .slice a1 n1 c1] w fun e w' => e = .returned (.bool true) ∧ Below w.heap.size w w' := by
  have HK := Lib.hid hk
  have HN : Hid (Gr.code a0 z1 ≠ 0) := by show _; rw [hk]; exact hc
  have d1 : (k == 0) = false := by simpa using hc
  clear hk hc
  go_enter Tryd.func3, Tryd.ntmps3
  go_wp2_with fail
  refine (RefL.Lines_any a0 a1 n1 c1 z1 _ w1).mono ?_
  rw [HK.out]
  rintro e x1 ⟨rfl, b1⟩
  go_wp2_with fail
  refine (Part_err a0 a1 n1 c1 z1 _ (w1.past b1) HN.out).mono ?_
  rw [HK.out]
  rintro e x2 ⟨rfl, b2⟩
  have b02 := b1.trans (b2.mono b1.size)
  go_wp2_with fail
  refine (Err_same k _ (het.below b02)).mono ?_
  rintro e x3 ⟨rfl, b3⟩
  have b03 := b02.trans (b3.mono b02.size)
  go_wp2_with fail
  refine (Ints_t none none 0 0 0 0 [] [] true _ (Rd.nil _ _) (Rd.nil _ _) rfl).mono ?_
  rintro e x4 ⟨rfl, b4⟩
  have b04 := b03.trans (b4.mono b03.size)
  go_wp2_with fail
  refine (Odd_err a0 a1 n1 c1 z1 _ (w1.past b04) HN.out).mono ?_
  rw [HK.out]
  rintro e x5 ⟨rfl, b5⟩
  have b05 := b04.trans (b5.mono b04.size)
  go_wp2_with fail
  refine (Err_same k _ (het.below b05)).mono ?_
  rintro e x6 ⟨rfl, b6⟩
  have b06 := b05.trans (b6.mono b05.size)
  go_wp2
  go_ret
  exact ⟨rfl, b06⟩

set_option maxRecDepth 100000 in
set_option maxHeartbeats 2000000 in
/-- nothing is wrong with the lines -/
theorem good (w : World) (het : tld.EtIs w) (m : Nat) (a1 : Option Addr) (n1 c1 : Nat) (z1 : List Gr.Ln) (w1 : RdP w w.heap.size a1 n1 c1 z1) (h0 : Gr.code (m : Int) z1 = 0) :
    Calls Tryd.prog 3 #[.int .i64 (m : Int), .slice a1 n1 c1] w fun e w' => e = .returned (.bool true) ∧ Below w.heap.size w w' := by
  have hm8 : m ≤ 8 := by have := (Gr.code_zero.1 h0).2.1; omega
  have hm1 : 1 ≤ m := by have := (Gr.code_zero.1 h0).1; omega
  have H0 := Lib.hid h0
  obtain ⟨o, ho, hodd⟩ := Ha.odd_is h0
  have HO := Lib.hid ho
  have hirr := Ha.nrow_irr h0
  have HG1 : Hid (∀ q, q % 2 = 1 → (∀ t, t % 2 = 1 → 3 ≤ t → t < q → Wf.ringOf m (Wa.nrow m z1) t = false) → Wf.ringOf m (Wa.nrow m z1) q = true → o = q) := fun q hq hn h => hodd.unique (Ha.OddIs.first (Wa.nrow_ok m z1) hirr hq h hn)
  have HG2 : Hid ((∀ t, t % 2 = 1 → 3 ≤ t → t ≤ m → Wf.ringOf m (Wa.nrow m z1) t = false) → o = 0) := fun hn => hodd.unique (Ha.OddIs.none (Wa.nrow_ok m z1) hirr hn)
  clear h0 ho hodd hirr
  go_enter Tryd.func3, Tryd.ntmps3
  go_wp2_with fail
  refine (RefL.Lines_any (m : Int) a1 n1 c1 z1 _ w1).mono ?_
  rw [H0.out]
  rintro e x1 ⟨rfl, b1⟩
  go_wp2
  go_loopw [8, 9] (fun rv qv wr => ∃ q r : Nat, 3 ≤ q ∧ q ≤ 11 ∧ qv = .int .i64 (q : Int) ∧ rv = .int .i64 (r : Int) ∧ Below x1.heap.size x1 wr ∧ Hid (q % 2 = 1 ∧ ((r = 0 ∧ ∀ t, t % 2 = 1 → 3 ≤ t → t < q → Wf.ringOf m (Wa.nrow m z1) t = false) ∨ (r ≠ 0 ∧ o = r)))) (fun _ qv _ => m + 1 - (intOf qv).toNat)
  case atStart => exact ⟨3, 0, by omega, by omega, rfl, rfl, Below.refl _ _, rfl, .inl ⟨rfl, fun t h0 h1 h2 => by omega⟩⟩
  case round =>
    obtain ⟨q, r, hq3, hq9, rfl, rfl, hbel, HR⟩ := hrel
    by_cases hgo : q ≤ m ∧ r = 0
    · obtain ⟨hqm, hr0⟩ := hgo
      subst hr0
      have e1 : decide ((q : Int) ≤ (m : Int)) = true := by simpa using hqm
      have e2 : ((q : Int)) ≤ (m : Int) := by omega
      have HQ := Lib.hid HR.out.1
      have HN : Hid (∀ t, t % 2 = 1 → 3 ≤ t → t < q → Wf.ringOf m (Wa.nrow m z1) t = false) := by
        rcases HR.out.2 with ⟨_, h⟩ | ⟨h, _⟩
        · exact h
        · exact absurd rfl h
      clear HR
      have b04 := b1.trans (hbel.mono b1.size)
      go_wp2_with fail
      refine (RefW.Ring_any m q hm8 (by omega) (by omega) a1 n1 c1 z1 _ (w1.past b04)).mono ?_
      rintro e x5 ⟨rfl, b5⟩
      have b35 := hbel.trans (b5.mono hbel.size)
      clear b04 b5
      cases hrg : Wf.ringOf m (Wa.nrow m z1) q with
      | true =>
        have HF := Lib.hid (HG1.out q HQ.out HN.out hrg)
        clear hrg
        go_wp2
        go_roundw
        case rel => exact ⟨q + 2, q, by omega, by omega, by go_num, rfl, b35, by have := HQ.out; omega, .inr ⟨by omega, HF.out⟩⟩
        case measure => simp [intOf]; omega
      | false =>
        have HF := Lib.hid hrg
        clear hrg
        go_wp2
        go_roundw
        case rel => exact ⟨q + 2, 0, by omega, by omega, by go_num, rfl, b35, by have := HQ.out; omega, .inl ⟨rfl, fun t h0 h1 h2 => by
          by_cases h : t = q
          · rw [h]; exact HF.out
          · exact HN.out t h0 h1 (by have := HQ.out; omega)⟩⟩
        case measure => simp [intOf]; omega
    · have HE : Hid (Ha.odd m z1 = (r : Int)) := by
        show _ = _
        rw [HO.out]
        rcases HR.out.2 with ⟨h1, h2⟩ | ⟨_, h⟩
        · subst h1
          rw [HG2.out (fun t h0 h3 h4 => h2 t h0 h3 (by omega))]
        · rw [h]
      have b04 := b1.trans (hbel.mono b1.size)
      obtain ⟨x4, hx4⟩ : ∃ x4, x4 = wr := ⟨_, rfl⟩
      subst hx4
      clear HR HG1 HG2 b1 hbel
      have e5 : ((r : Int) == (r : Int)) = true := by simp
      have e6 : (r == r) = true := by simp
      by_cases hqm : q ≤ m
      · have hr0 : ¬ r = 0 := fun h => hgo ⟨hqm, h⟩
        have e1 : ((r : Int) == 0) = false := by simpa using hr0
        have e2 : decide ((q : Int) ≤ (m : Int)) = true := by simpa using hqm
        have e3 : (q : Int) ≤ (m : Int) := by omega
        clear hgo hqm hr0
        go_wp2_with fail
        refine (RefP.Part_any m a1 n1 c1 z1 _ (w1.past b04) H0.out).mono ?_
        rintro e x5 ⟨b5, (⟨hk, rfl⟩ | ⟨hk, A5, c5, rfl, r5⟩)⟩
        · have HK := Lib.hid hk
          have b05 := b04.trans (b5.mono b04.size)
          clear hk b04 b5
          go_wp2_with fail
          refine (Part_no m a1 n1 c1 z1 _ (w1.past b05) H0.out HK.out).mono ?_
          rintro e x6 ⟨rfl, b6⟩
          have b06 := b05.trans (b6.mono b05.size)
          go_wp2_with fail
          refine (Err_same 5 _ (het.below b06)).mono ?_
          rintro e x7 ⟨rfl, b7⟩
          have b07 := b06.trans (b7.mono b06.size)
          go_wp2_with fail
          refine (Ints_t none none 0 0 0 0 [] [] true _ (Rd.nil _ _) (Rd.nil _ _) rfl).mono ?_
          rintro e x8 ⟨rfl, b8⟩
          have b08 := b07.trans (b8.mono b07.size)
          clear b05 b6 b06 b7 b07 b8
          go_wp2_with fail
          refine (Odd_ok m a1 n1 c1 z1 _ (w1.past b08) H0.out).mono ?_
          rw [HE.out]
          rintro e x9 ⟨rfl, b9⟩
          have b09 := b08.trans (b9.mono b08.size)
          go_wp2_with fail
          refine (Err_ok _).mono ?_
          rintro e _ ⟨rfl, rfl⟩
          go_wp2
          go_ret
          exact ⟨rfl, b09⟩
        · have HK := Lib.hid hk
          have b05 := b04.trans (b5.mono b04.size)
          clear hk b04 b5
          go_wp2_with fail
          refine (Part_yes m a1 n1 c1 z1 _ (w1.past b05) H0.out HK.out).mono ?_
          rintro e x6 ⟨g6, rfl, o6, b6⟩
          have b06 := b05.trans (b6.mono b05.size)
          go_wp2_with fail
          refine (Err_ok _).mono ?_
          rintro e _ ⟨rfl, rfl⟩
          go_wp2_with fail
          refine (Ints_t (some ⟨g6, 0, none⟩) A5 m m m c5 _ _ true _ o6.rd' (r5.past b6) (by simp)).mono ?_
          rintro e x8 ⟨rfl, b8⟩
          have b08 := b06.trans (b8.mono b06.size)
          clear b05 b6 b06 b8 o6 r5
          go_wp2_with fail
          refine (Odd_ok m a1 n1 c1 z1 _ (w1.past b08) H0.out).mono ?_
          rw [HE.out]
          rintro e x9 ⟨rfl, b9⟩
          have b09 := b08.trans (b9.mono b08.size)
          go_wp2_with fail
          refine (Err_ok _).mono ?_
          rintro e _ ⟨rfl, rfl⟩
          go_wp2
          go_ret
          exact ⟨rfl, b09⟩
      · have e2 : decide ((q : Int) ≤ (m : Int)) = false := by simp; omega
        clear hgo
        go_wp2_with fail
        refine (RefP.Part_any m a1 n1 c1 z1 _ (w1.past b04) H0.out).mono ?_
        rintro e x5 ⟨b5, (⟨hk, rfl⟩ | ⟨hk, A5, c5, rfl, r5⟩)⟩
        · have HK := Lib.hid hk
          have b05 := b04.trans (b5.mono b04.size)
          clear hk b04 b5
          go_wp2_with fail
          refine (Part_no m a1 n1 c1 z1 _ (w1.past b05) H0.out HK.out).mono ?_
          rintro e x6 ⟨rfl, b6⟩
          have b06 := b05.trans (b6.mono b05.size)
          go_wp2_with fail
          refine (Err_same 5 _ (het.below b06)).mono ?_
          rintro e x7 ⟨rfl, b7⟩
          have b07 := b06.trans (b7.mono b06.size)
          go_wp2_with fail
          refine (Ints_t none none 0 0 0 0 [] [] true _ (Rd.nil _ _) (Rd.nil _ _) rfl).mono ?_
          rintro e x8 ⟨rfl, b8⟩
          have b08 := b07.trans (b8.mono b07.size)
          clear b05 b6 b06 b7 b07 b8
          go_wp2_with fail
          refine (Odd_ok m a1 n1 c1 z1 _ (w1.past b08) H0.out).mono ?_
          rw [HE.out]
          rintro e x9 ⟨rfl, b9⟩
          have b09 := b08.trans (b9.mono b08.size)
          go_wp2_with fail
          refine (Err_ok _).mono ?_
          rintro e _ ⟨rfl, rfl⟩
          go_wp2
          go_ret
          exact ⟨rfl, b09⟩
        · have HK := Lib.hid hk
          have b05 := b04.trans (b5.mono b04.size)
          clear hk b04 b5
          go_wp2_with fail
          refine (Part_yes m a1 n1 c1 z1 _ (w1.past b05) H0.out HK.out).mono ?_
          rintro e x6 ⟨g6, rfl, o6, b6⟩
          have b06 := b05.trans (b6.mono b05.size)
          go_wp2_with fail
          refine (Err_ok _).mono ?_
          rintro e _ ⟨rfl, rfl⟩
          go_wp2_with fail
          refine (Ints_t (some ⟨g6, 0, none⟩) A5 m m m c5 _ _ true _ o6.rd' (r5.past b6) (by simp)).mono ?_
          rintro e x8 ⟨rfl, b8⟩
          have b08 := b06.trans (b8.mono b06.size)
          clear b05 b6 b06 b8 o6 r5
          go_wp2_with fail
          refine (Odd_ok m a1 n1 c1 z1 _ (w1.past b08) H0.out).mono ?_
          rw [HE.out]
          rintro e x9 ⟨rfl, b9⟩
          have b09 := b08.trans (b9.mono b08.size)
          go_wp2_with fail
          refine (Err_ok _).mono ?_
          rintro e _ ⟨rfl, rfl⟩
          go_wp2
          go_ret
          exact ⟨rfl, b09⟩

theorem walk (w : World) (het : tld.EtIs w) (a0 : Int) (_w0 : (Lit.int .i64 a0).wf = true) (a1 : Option Addr) (n1 c1 : Nat) (z1 : List Gr.Ln) (w1 : RdP w w.heap.size a1 n1 c1 z1) :
    Calls Tryd.prog 3 #[.int .i64 a0, .slice a1 n1 c1] w fun e w' => e = .returned (.bool true) ∧ Below w.heap.size w w' := by
  by_cases hc : Gr.code a0 z1 = 0
  · obtain ⟨m, rfl⟩ : ∃ m : Nat, a0 = (m : Int) := ⟨a0.toNat, by have := (Gr.code_zero.1 hc).1; omega⟩
    exact good w het m a1 n1 c1 z1 w1 hc
  · exact bad w het a0 a1 n1 c1 z1 w1 _ rfl hc

end Go.Proofs.YtklanopgmlmjlaaDoor.halvesSays
