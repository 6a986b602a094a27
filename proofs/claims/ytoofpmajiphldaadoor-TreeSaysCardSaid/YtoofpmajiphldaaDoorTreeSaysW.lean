/-
  The walk of the law TreeSays: for every number of points and lines it returns true, where the library's variable errors.errorType holds what its initialiser lays.
-/
import Derived.Test.YtoofpmajiphldaaDoorRefNb
import Derived.Test.YtoofpmajiphldaaDoorErrS
import Derived.Test.YtoofpmajiphldaaDoorGraphE
namespace Go.Proofs.YtoofpmajiphldaaDoor.treeSays
open Go.RowKit
open RefF (RdR_row RdR_block far_cell Far_either rowF_dists)
set_option linter.unusedSimpArgs false
set_option linter.unusedVariables false

theorem Ints_none (w : World) : Calls Tryd.prog 12 #[.slice none 0 0, .slice none 0 0] w fun e w' => e = .returned (.bool true) ∧ Below w.heap.size w w' :=
  Ints_t none none 0 0 0 0 [] [] true w (Rd.nil _ _) (Rd.nil _ _) (by decide)

set_option maxRecDepth 100000 in
set_option maxHeartbeats 2000000 in
theorem bad (w : World) (het : tld.EtIs w) (a0 : Int) (a1 : Option Addr) (n1 c1 : Nat) (z1 : List Gr.Ln) (w1 : RdP w w.heap.size a1 n1 c1 z1) (hc : Tr.tcode a0 z1 ≠ 0) :
    Calls Tryd.prog 3 #[.int .i64 a0, .slice a1 n1 c1] w fun e w' => e = .returned (.bool true) ∧ Below w.heap.size w w' := by
  obtain ⟨k, hk⟩ : ∃ k, k = Tr.tcode a0 z1 := ⟨_, rfl⟩
  have d1 : (k == 0) = false := by rw [hk]; simpa using hc
  have H := Lib.hid hc
  have HK := Lib.hid hk
  clear hc hk
  go_enter Tryd.func3, Tryd.ntmps3
  go_wp2_with fail
  refine (RefTr.Tree_any a0 a1 n1 c1 z1 _ w1).mono ?_
  rintro e x1 ⟨rfl, b1⟩
  rw [← HK.out]
  go_wp2_with fail
  refine (TCheck_bad a0 a1 n1 c1 z1 _ (w1.past b1) H.out).mono ?_
  rintro e x2 ⟨rfl, b2⟩
  have b02 := b1.trans (b2.mono b1.size)
  rw [← HK.out]
  clear b1 b2
  go_wp2_with fail
  refine (Err_same k _ (het.below b02)).mono ?_
  rintro e x3 ⟨rfl, b3⟩
  have b03 := b02.trans (b3.mono b02.size)
  clear b02 b3
  go_wp2_with fail
  refine (Middle_bad a0 a1 n1 c1 z1 _ (w1.past b03) H.out).mono ?_
  rintro e x4 ⟨rfl, b4⟩
  have b04 := b03.trans (b4.mono b03.size)
  rw [← HK.out]
  clear b03 b4
  go_wp2_with fail
  refine (Err_same k _ (het.below b04)).mono ?_
  rintro e x5 ⟨rfl, b5⟩
  have b05 := b04.trans (b5.mono b04.size)
  clear b04 b5
  go_wp2_with fail
  refine (Ints_none _).mono ?_
  rintro e x6 ⟨rfl, b6⟩
  have b06 := b05.trans (b6.mono b05.size)
  clear b05 b6
  go_wp2_with fail
  refine (Long_bad a0 a1 n1 c1 z1 _ (w1.past b06) H.out).mono ?_
  rintro e x7 ⟨rfl, b7⟩
  have b07 := b06.trans (b7.mono b06.size)
  rw [← HK.out]
  clear b06 b7
  go_wp2_with fail
  refine (Err_same k _ (het.below b07)).mono ?_
  rintro e x8 ⟨rfl, b8⟩
  have b08 := b07.trans (b8.mono b07.size)
  clear b07 b8
  go_wp2_with fail
  refine (Name_bad a0 a1 n1 c1 z1 _ (w1.past b08) H.out).mono ?_
  rintro e x9 ⟨rfl, b9⟩
  have b09 := b08.trans (b9.mono b08.size)
  rw [← HK.out]
  clear b08 b9
  go_wp2_with fail
  refine (Err_same k _ (het.below b09)).mono ?_
  rintro e y1 ⟨rfl, b10⟩
  go_wp2
  go_ret
  exact ⟨rfl, b09.trans (b10.mono b09.size)⟩

set_option maxRecDepth 100000 in
set_option maxHeartbeats 4000000 in
theorem good (w : World) (m : Nat) (a1 : Option Addr) (n1 c1 : Nat) (z1 : List Gr.Ln) (w1 : RdP w w.heap.size a1 n1 c1 z1) (hc : Tr.tcode (m : Int) z1 = 0) :
    Calls Tryd.prog 3 #[.int .i64 (m : Int), .slice a1 n1 c1] w fun e w' => e = .returned (.bool true) ∧ Below w.heap.size w w' := by
  obtain ⟨hg, hT⟩ := Tr.tcode_zero.1 hc
  have hm8 : m ≤ 8 := by have := (Gr.code_zero.1 hg).2.1; omega
  have hm1 : 1 ≤ m := by have := (Gr.code_zero.1 hg).1; omega
  obtain ⟨K, hK⟩ : ∃ K, K = Tr.best m (Tr.far m z1) := ⟨_, rfl⟩
  obtain ⟨B, hB⟩ : ∃ B, B = Nm.bs (Nm.wn (Tr.ad z1) m (Tr.far m z1)) := ⟨_, rfl⟩
  have H := Lib.hid hc
  have HT := Lib.hid hT
  have HK := Lib.hid hK
  have HB := Lib.hid hB
  clear hc hg hT hK hB
  go_enter Tryd.func3, Tryd.ntmps3
  go_wp2_with fail
  refine (RefTr.Tree_any (m : Int) a1 n1 c1 z1 _ w1).mono ?_
  rintro e x1 ⟨rfl, b1⟩
  rw [H.out]
  go_wp2_with fail
  refine (TCheck_ok (m : Int) a1 n1 c1 z1 _ (w1.past b1) H.out).mono ?_
  rintro e x2 ⟨rfl, b2⟩
  have b02 := b1.trans (b2.mono b1.size)
  clear b1 b2
  go_wp2_with fail
  refine (Err_none _).mono ?_
  rintro e x3 ⟨rfl, rfl⟩
  go_wp2_with fail
  refine (RefTr.Middle_any m a1 n1 c1 z1 _ (w1.past b02) hm8 hm1 HT.out).mono ?_
  rintro e x4 ⟨v, rfl, hown, b4⟩
  have b04 := b02.trans (b4.mono b02.size)
  rw [← HK.out]
  obtain ⟨A4, c4, rfl, hrd4⟩ := hown.rd
  obtain ⟨L, hL⟩ : ∃ L, L = (Tr.midI m z1 m).length := ⟨_, rfl⟩
  rw [← hL] at hrd4 ⊢
  have HL := Lib.hid hL
  clear hown b02 b4 hL
  go_wp2_with fail
  refine (RefTr.Name_any m a1 n1 c1 z1 _ (w1.past b04) hm8 hm1 HT.out).mono ?_
  rintro e x5 ⟨rfl, b5⟩
  have b05 := b04.trans (b5.mono b04.size)
  have hrd5 := hrd4.past b5
  rw [← HB.out]
  clear b04 b5 hrd4
  go_wp2_with fail
  refine (Far_either m a1 n1 c1 z1 _ (w1.past b05) hm1 hm8).mono ?_
  rintro e x6 ⟨gb, cb, rfl, hrows, b6⟩
  have b06 := b05.trans (b6.mono b05.size)
  have hrd6 := hrd5.past b6
  have hcb := hrows.big
  have HC : Hid (∀ i, i < m → ∃ A' c', x6.cell? ⟨gb, i, none⟩ = some (.slice A' m c') ∧ Rd x6 x6.heap.size A' m c' (Wa.dists m (Wa.nrow m z1) i)) := by
    show ∀ i, _
    intro i hi
    obtain ⟨A', c', h1, h2⟩ := RdR_row hrows hi
    rw [rowF_dists] at h2
    exact ⟨A', c', h1, h2⟩
  have hM0 : Hid (0 = Tr.mx (Tr.ecc m (Tr.far m z1)) 0) := rfl
  clear hrows b05 b6 hrd5
  go_wp2
  go_loopw [9, 12] (fun bv iv wr => ∃ i b : Nat, i ≤ m ∧ iv = .int .i64 (i : Int) ∧ bv = .int .i64 (b : Int) ∧ Hid (b = Tr.mx (Tr.ecc m (Tr.far m z1)) i) ∧ x6 = wr) (fun _ iv _ => m - (intOf iv).toNat)
  case atStart => exact ⟨0, 0, Nat.zero_le _, rfl, rfl, hM0, rfl⟩
  case round =>
    clear hM0
    obtain ⟨i, b, hi, rfl, rfl, HBm, rfl⟩ := hrel
    by_cases hlt : i < m
    · obtain ⟨A', c', g1, hrow⟩ := HC.out i hlt
      obtain ⟨x, hx⟩ : ∃ x, x = Tr.ecc m (Tr.far m z1) i := ⟨_, rfl⟩
      have HX := Lib.hid hx
      have HMo := Lib.hid (RefTr.Most_ecc m i hlt z1 HT.out A' c' x6 hrow)
      have i1 : (0 : Int) ≤ (i : Int) := by omega
      have i2 : (i : Int) < (m : Int) := by omega
      have hmx : Tr.mx (Tr.ecc m (Tr.far m z1)) (i + 1) = max b x := by rw [hx, HBm.out]; rfl
      by_cases hxb : b < x
      · have HN : Hid (x = Tr.mx (Tr.ecc m (Tr.far m z1)) (i + 1)) := by show _ = _; rw [hmx]; omega
        have d1 : decide ((b : Int) < (x : Int)) = true := by simp; omega
        have d2 : decide (b < x) = true := by simp; omega
        clear hx hxb hmx
        go_wp2_with fail
        refine HMo.out.mono ?_
        rintro e y3 ⟨rfl, rfl⟩
        rw [← HX.out]
        go_wp2_with fail
        refine HMo.out.mono ?_
        rintro e y3 ⟨rfl, rfl⟩
        rw [← HX.out]
        go_wp2
        go_roundw
        case rel => exact ⟨i + 1, x, by omega, by go_num, rfl, HN, trivial⟩
        case measure => simp [intOf]; omega
      · have HN : Hid (b = Tr.mx (Tr.ecc m (Tr.far m z1)) (i + 1)) := by show _ = _; rw [hmx]; omega
        have d1 : decide ((b : Int) < (x : Int)) = false := by simp; omega
        have d2 : decide (b < x) = false := by simp; omega
        clear hx hxb hmx
        go_wp2_with fail
        refine HMo.out.mono ?_
        rintro e y3 ⟨rfl, rfl⟩
        rw [← HX.out]
        go_wp2
        go_roundw
        case rel => exact ⟨i + 1, b, by omega, by go_num, rfl, HN, trivial⟩
        case measure => simp [intOf]; omega
    · obtain rfl : i = m := by omega
      clear HC
      go_wp2_with fail
      refine (Middle_ok i a1 n1 c1 z1 _ (w1.past b06) H.out).mono ?_
      rintro e x7 ⟨v7, rfl, hown7, b7⟩
      have b07 := b06.trans (b7.mono b06.size)
      have hrd7 := hrd6.past b7
      rw [← HK.out]
      obtain ⟨A7, c7, rfl, hr7⟩ := hown7.rd
      rw [← HL.out] at hr7 ⊢
      clear hown7 b06 b7 hrd6
      go_wp2_with fail
      refine (Err_none _).mono ?_
      rintro e x8 ⟨rfl, rfl⟩
      go_wp2_with fail
      refine (Ints_t A7 A4 L L c7 c4 _ _ true _ hr7 hrd7 (by simp)).mono ?_
      rintro e x9 ⟨rfl, b9⟩
      have b09 := b07.trans (b9.mono b07.size)
      clear b07 b9 hr7 hrd7
      go_wp2_with fail
      refine (Long_ok i a1 n1 c1 z1 _ (w1.past b09) H.out).mono ?_
      rintro e y1 ⟨rfl, b10⟩
      have b010 := b09.trans (b10.mono b09.size)
      rw [← HBm.out]
      clear b09 b10
      go_wp2_with fail
      refine (Err_none _).mono ?_
      rintro e y2 ⟨rfl, rfl⟩
      go_wp2_with fail
      refine (Name_ok i a1 n1 c1 z1 _ (w1.past b010) H.out).mono ?_
      rintro e y3 ⟨rfl, b11⟩
      have b011 := b010.trans (b11.mono b010.size)
      rw [← HB.out]
      clear b010 b11
      go_wp2_with fail
      refine (Err_none _).mono ?_
      rintro e y4 ⟨rfl, rfl⟩
      go_wp2
      go_ret
      exact ⟨by simp, b011⟩

theorem walk (w : World) (het : tld.EtIs w) (a0 : Int) (w0 : (Lit.int .i64 a0).wf = true) (a1 : Option Addr) (n1 c1 : Nat) (z1 : List Gr.Ln) (w1 : RdP w w.heap.size a1 n1 c1 z1) :
    Calls Tryd.prog 3 #[.int .i64 a0, .slice a1 n1 c1] w fun e w' => e = .returned (.bool true) ∧ Below w.heap.size w w' := by
  rcases Tr.tcode_cases a0 z1 with ⟨m, rfl, h, _, _⟩ | h
  · exact good w m a1 n1 c1 z1 w1 h
  · exact bad w het a0 a1 n1 c1 z1 w1 h

end Go.Proofs.YtoofpmajiphldaaDoor.treeSays
