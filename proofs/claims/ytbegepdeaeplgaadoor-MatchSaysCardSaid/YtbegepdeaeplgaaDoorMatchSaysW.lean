/-
  The walk of the law MatchSays: for every two sides and lines it returns true, where the library's variable errors.errorType holds what its initialiser lays.
-/
import Derived.Test.YtbegepdeaeplgaaDoorMatchC
import Derived.Test.YtbegepdeaeplgaaDoorMatchH
import Derived.Test.YtbegepdeaeplgaaDoorRefM
import Derived.Test.YtbegepdeaeplgaaDoorTold
namespace Go.Proofs.YtbegepdeaeplgaaDoor.matchSays
open Go.RowKit Go.Shelf
set_option linter.unusedSimpArgs false
set_option linter.unusedVariables false

theorem Err_same (k : Int) (w : World) (het : tld.EtIs w) : Calls Tryd.prog 5 #[errv k, .int .i64 k] w fun e w' => e = .returned (.bool true) ∧ Below w.heap.size w w' :=
  (Error_err k k w het).mono fun _ _ h => ⟨h.1.trans (by simp), h.2⟩
theorem Err_ok (w : World) : Calls Tryd.prog 5 #[.nilIface, .int .i64 0] w fun e w' => e = .returned (.bool true) ∧ w = w' :=
  (Error_nil 0 w).mono fun _ _ h => ⟨h.1.trans (by simp), h.2⟩
theorem cvl_has {z : List Gr.Ln} {l r i : Nat} (hi : i < l) : (upL (Ma.cvl z l r l)).contains (i : Int) = Ma.ess (Ma.gl z) l r i := by
  rw [RefM.up_contains, Bool.eq_iff_iff, List.contains_iff_mem]
  unfold Ma.cvl
  rw [List.mem_filter, List.mem_range]
  exact ⟨fun h => h.2, fun h => ⟨hi, h⟩⟩

set_option maxRecDepth 100000 in
set_option maxHeartbeats 1000000 in
/-- something is wrong with the sides, or with the lines -/
theorem bad (w : World) (het : tld.EtIs w) (a0 a1 : Int) (a2 : Option Addr) (n2 c2 : Nat) (z2 : List Gr.Ln) (w2 : RdP w w.heap.size a2 n2 c2 z2) (k : Int) (hk : Ma.code a0 a1 z2 = k) (hc : k ≠ 0) :
    Calls Tryd.prog 3 #[.int .i64 a0, .int .i64 a1, .slice a2 n2 c2] w fun e w' => e = .returned (.bool true) ∧ Below w.heap.size w w' := by
  have HK := Lib.hid hk
  have HN : Hid (Ma.code a0 a1 z2 ≠ 0) := by show _; rw [hk]; exact hc
  have HE : Hid (errOf k = errv k) := errOf_pos hc
  have d1 : (k == 0) = false := by simpa using hc
  clear hk hc
  go_enter Tryd.func3, Tryd.ntmps3
  go_wp2_with fail
  refine (RefM.Sides_any a0 a1 a2 n2 c2 z2 _ w2).mono ?_
  rw [HK.out]
  rintro e x1 ⟨rfl, rfl⟩
  go_wp2_with fail
  refine (MCheck_any a0 a1 a2 n2 c2 z2 _ w2).mono ?_
  rw [HK.out, HE.out]
  rintro e x2 ⟨rfl, b02⟩
  go_wp2_with fail
  refine (Err_same k _ (het.below b02)).mono ?_
  rintro e x3 ⟨rfl, b3⟩
  have b03 := b02.trans (b3.mono b02.size)
  go_wp2_with fail
  refine (Most_err a0 a1 a2 n2 c2 z2 _ (w2.past b03) HN.out).mono ?_
  rw [HK.out]
  rintro e x4 ⟨rfl, b4⟩
  have b04 := b03.trans (b4.mono b03.size)
  go_wp2_with fail
  refine (Err_same k _ (het.below b04)).mono ?_
  rintro e x5 ⟨rfl, b5⟩
  have b05 := b04.trans (b5.mono b04.size)
  go_wp2_with fail
  refine (Cover_err a0 a1 a2 n2 c2 z2 _ (w2.past b05) HN.out).mono ?_
  rw [HK.out]
  rintro e x6 ⟨rfl, b6⟩
  have b06 := b05.trans (b6.mono b05.size)
  go_wp2_with fail
  refine (Err_same k _ (het.below b06)).mono ?_
  rintro e x7 ⟨rfl, b7⟩
  have b07 := b06.trans (b7.mono b06.size)
  clear b02 b3 b03 b4 b04 b5 b05 b6 b06 b7
  go_wp2_with fail
  refine (Ints_t none none 0 0 0 0 [] [] true _ (Rd.nil _ _) (Rd.nil _ _) rfl).mono ?_
  rintro e x8 ⟨rfl, b8⟩
  have b08 := b07.trans (b8.mono b07.size)
  go_wp2_with fail
  refine (Ints_t none none 0 0 0 0 [] [] true _ (Rd.nil _ _) (Rd.nil _ _) rfl).mono ?_
  rintro e x9 ⟨rfl, b9⟩
  have b09 := b08.trans (b9.mono b08.size)
  go_wp2
  go_ret
  exact ⟨rfl, b09⟩

set_option maxRecDepth 100000 in
set_option maxHeartbeats 4000000 in
/-- nothing is wrong with them -/
theorem good (w : World) (het : tld.EtIs w) (l r : Nat) (a2 : Option Addr) (n2 c2 : Nat) (z2 : List Gr.Ln) (w2 : RdP w w.heap.size a2 n2 c2 z2) (hc : Ma.code (l : Int) (r : Int) z2 = 0) :
    Calls Tryd.prog 3 #[.int .i64 (l : Int), .int .i64 (r : Int), .slice a2 n2 c2] w fun e w' => e = .returned (.bool true) ∧ Below w.heap.size w w' := by
  have HN := Lib.hid hc
  have hz := Ma.code_zero.1 hc
  have hl6 : l ≤ 6 := by omega
  have hr6 : r ≤ 6 := by omega
  obtain ⟨mx, hmx⟩ : ∃ mx, mx = Ma.nu (Ma.gl z2) l r := ⟨_, rfl⟩
  have HMX := Lib.hid hmx
  clear hc hz hmx
  go_enter Tryd.func3, Tryd.ntmps3
  go_wp2_with fail
  refine (RefM.Sides_any (l : Int) (r : Int) a2 n2 c2 z2 _ w2).mono ?_
  rw [HN.out]
  rintro e x1 ⟨rfl, rfl⟩
  go_wp2_with fail
  refine (MCheck_any (l : Int) (r : Int) a2 n2 c2 z2 _ w2).mono ?_
  rw [errOf_zero HN.out]
  rintro e x2 ⟨rfl, b02⟩
  go_wp2_with fail
  refine (Err_ok _).mono ?_
  rintro e _ ⟨rfl, rfl⟩
  go_wp2_with fail
  refine (RefM.Most_all l r hl6 hr6 a2 n2 c2 z2 _ (w2.past b02)).mono ?_
  rw [← HMX.out]
  rintro e x3 ⟨rfl, b3⟩
  have b03 := b02.trans (b3.mono b02.size)
  clear b02 b3
  obtain ⟨s, hs⟩ : ∃ s, s = x3.heap.size := ⟨_, rfl⟩
  have hs3 : s ≤ x3.heap.size := by omega
  have hws : w.heap.size ≤ s := by rw [hs]; exact b03.size
  clear hs
  go_wp2
  go_loopw [10, 12] (fun av iv wr => ∃ k : Nat, k ≤ l ∧ iv = .int .i64 (k : Int) ∧ Own wr s 3 av (upL (Ma.cvl z2 l r k)) ∧ Below w.heap.size w wr ∧ s ≤ wr.heap.size) (fun _ iv _ => l - (intOf iv).toNat)
  case atStart => exact ⟨0, Nat.zero_le _, rfl, Own.nil _ _ _, b03, hs3⟩
  case round =>
    clear b03 hs3
    obtain ⟨k, hkl, rfl, hown, hbel, hss⟩ := hrel
    by_cases hlt : k < l
    · have k2 : (k : Int) < (l : Int) := by omega
      go_wp2_with fail
      refine (RefM.Most_but l r k hl6 hr6 a2 n2 c2 z2 _ (w2.past hbel)).mono ?_
      rintro e y1 ⟨rfl, hb1⟩
      have hess : Hid (Ma.ess (Ma.gl z2) l r k = decide (Ma.nu (Ma.wo (Ma.gl z2) k) l r < mx)) := by show _ = _; rw [HMX.out]; rfl
      generalize Ma.nu (Ma.wo (Ma.gl z2) k) l r = y at hess
      have hown1 := hown.below hb1
      have hbel1 : Below w.heap.size w y1 := hbel.trans (hb1.mono hbel.size)
      have hss1 : s ≤ y1.heap.size := Nat.le_trans hss hb1.size
      clear hown hbel hb1 hss
      by_cases hy : y < mx
      · have hyI : (y : Int) < (mx : Int) := by omega
        have he : Ma.ess (Ma.gl z2) l r k = true := by rw [hess.out]; exact decide_eq_true hy
        have hn1 : Hid (upL (Ma.cvl z2 l r (k + 1)) = upL (Ma.cvl z2 l r k) ++ [(k : Int)]) := by show _ = _; rw [Ma.cvl_yes he, upL_snoc]
        have hroom : (upL (Ma.cvl z2 l r k)).length + 1 ≤ 17592186044416 := by rw [upL_len]; have := Ma.cvl_len z2 l r k; omega
        have hown2 := hown1.below ((Below.refl _ _).alloc (Nat.le_refl _) (.cells #[.int .i64 (k : Int)] 3))
        have hbel2 : Below w.heap.size w (y1.alloc (.cells #[.int .i64 (k : Int)] 3)) := hbel1.alloc hbel1.size _
        have hss2 : s ≤ (y1.alloc (.cells #[.int .i64 (k : Int)] 3)).heap.size := by simp; omega
        clear he hess hy
        go_wp2_with (at_builtin; refine wpList_app _ rfl (.tmp 49) (.tmp 51) _ rfl s 3 Tryd.underlying28 intInfo _ _ rfl hown2 _ 1 1 [(k : Int)] rfl (Rd.one _ _ _) hroom hss2 ?_; intro v5 y5 hown5 hg5 hat5)
        have hbel5 : Below w.heap.size w y5 := hbel2.grown hg5 hbel2.size (fun j hj => by have := hown2.at_base j hj; omega)
        have hss5 : s ≤ y5.heap.size := Nat.le_trans hss2 hg5.size
        go_wp2
        go_roundw
        case rel => exact ⟨k + 1, by omega, by go_num, by rw [hn1.out]; exact hown5, hbel5, hss5⟩
        case measure => simp [intOf]; omega
      · have hyI : (mx : Int) ≤ (y : Int) := by omega
        have he : Ma.ess (Ma.gl z2) l r k = false := by rw [hess.out]; exact decide_eq_false hy
        have hn1 : Hid (upL (Ma.cvl z2 l r (k + 1)) = upL (Ma.cvl z2 l r k)) := by show _ = _; rw [Ma.cvl_no he]
        clear he hess hy
        go_wp2
        go_roundw
        case rel => exact ⟨k + 1, by omega, by go_num, by rw [hn1.out]; exact hown1, hbel1, hss1⟩
        case measure => simp [intOf]; omega
    · obtain rfl : k = l := by omega
      obtain ⟨Aa, ca, rfl, rda⟩ := hown.rd
      obtain ⟨na, hna⟩ : ∃ na, na = (upL (Ma.cvl z2 k r k)).length := ⟨_, rfl⟩
      rw [← hna] at hown rda ⊢
      obtain ⟨B2, hB2⟩ : ∃ B2, B2 = wr.heap.size := ⟨_, rfl⟩
      have HLB : Hid (∀ j, (Value.slice Aa na ca).ownBlock = some j → j < B2) := by show ∀ j, _; rw [hB2]; exact hown.lt
      have hBsz : B2 ≤ wr.heap.size := by omega
      have hwB : w.heap.size ≤ B2 := by omega
      have HNA := Lib.hid hna
      clear hB2 rda hna
      go_wp2
      go_loopw [11, 13, 14, 15] (fun rv iv _ _ wv => ∃ b : Nat, b ≤ r ∧ iv = .int .i64 (b : Int) ∧ Own wv s 3 (.slice Aa na ca) (upL (Ma.cvl z2 k r k)) ∧ Own wv B2 3 rv (upL (Ma.cvr z2 k r b)) ∧ Below w.heap.size w wv ∧ B2 ≤ wv.heap.size) (fun _ iv _ _ _ => r - (intOf iv).toNat)
      case atStart => exact ⟨0, Nat.zero_le _, rfl, hown, Own.nil _ _ _, hbel, hBsz⟩
      case round =>
        clear hown hbel hBsz hss
        obtain ⟨b, hbr, rfl, hown, hrv, hbel, hBsz⟩ := hrel
        by_cases hlb : b < r
        · have k2 : (b : Int) < (r : Int) := by omega
          have rda := hown.rd'
          have rlz := w2.past hbel
          have HNB : Hid (∀ i, Ma.nbr (Ma.gl z2) (i + 1) (fun i => !Ma.ess (Ma.gl z2) k r i) b = (Ma.nbr (Ma.gl z2) i (fun i => !Ma.ess (Ma.gl z2) k r i) b || (!Ma.ess (Ma.gl z2) k r i && Ma.gl z2 i b))) := fun i => Ma.nbr_succ i _ b
          have HN0 : Hid (Ma.nbr (Ma.gl z2) 0 (fun i => !Ma.ess (Ma.gl z2) k r i) b = false) := rfl
          go_wp2
          go_loop [14, 15] (fun tv iv => ∃ (i : Nat) (t : Bool), i ≤ k ∧ iv = .int .i64 (i : Int) ∧ tv = .bool t ∧ Hid (t = Ma.nbr (Ma.gl z2) i (fun i => !Ma.ess (Ma.gl z2) k r i) b)) (fun _ iv => k - (intOf iv).toNat)
          case atStart => exact ⟨0, false, Nat.zero_le _, rfl, rfl, HN0.out.symm⟩
          case round =>
            obtain ⟨i, t, hik, rfl, rfl, HT⟩ := hrel
            by_cases hil : i < k
            · have k3 : (i : Int) < (k : Int) := by omega
              have HNi := Lib.hid (HNB.out i)
              cases t with
              | true =>
                have hn : Hid (true = Ma.nbr (Ma.gl z2) (i + 1) (fun i => !Ma.ess (Ma.gl z2) k r i) b) := by show _ = _; rw [HNi.out, ← HT.out, Bool.true_or]
                clear HNi HT
                go_wp2
                go_round
                case rel => exact ⟨i + 1, true, by omega, by go_num, rfl, hn⟩
                case measure => simp [intOf]; omega
              | false =>
                have hg : Hid (Gr.has z2 (i : Int) (b : Int) = Ma.gl z2 i b) := rfl
                cases hgl : Ma.gl z2 i b with
                | false =>
                  have HG : Hid (Gr.has z2 (i : Int) (b : Int) = false) := by show _ = _; rw [hg.out, hgl]
                  have hn : Hid (false = Ma.nbr (Ma.gl z2) (i + 1) (fun i => !Ma.ess (Ma.gl z2) k r i) b) := by show _ = _; rw [HNi.out, ← HT.out, hgl, Bool.and_false, Bool.or_false]
                  clear HNi HT hg hgl
                  go_wp2_with fail
                  refine (RefL.Goes_any a2 n2 c2 z2 (i : Int) (b : Int) false _ rlz HG.out).mono ?_
                  rintro e y1 ⟨rfl, rfl⟩
                  go_wp2
                  go_round
                  case rel => exact ⟨i + 1, false, by omega, by go_num, rfl, hn⟩
                  case measure => simp [intOf]; omega
                | true =>
                  have HG : Hid (Gr.has z2 (i : Int) (b : Int) = true) := by show _ = _; rw [hg.out, hgl]
                  have hcv : Hid ((upL (Ma.cvl z2 k r k)).contains (i : Int) = Ma.ess (Ma.gl z2) k r i) := cvl_has hil
                  have hn : Hid ((!Ma.ess (Ma.gl z2) k r i) = Ma.nbr (Ma.gl z2) (i + 1) (fun i => !Ma.ess (Ma.gl z2) k r i) b) := by show _ = _; rw [HNi.out, ← HT.out, hgl, Bool.and_true, Bool.false_or]
                  clear HNi HT hg hgl
                  generalize Ma.ess (Ma.gl z2) k r i = u at hcv hn
                  go_wp2_with fail
                  refine (RefL.Goes_any a2 n2 c2 z2 (i : Int) (b : Int) true _ rlz HG.out).mono ?_
                  rintro e y1 ⟨rfl, rfl⟩
                  go_wp2_with fail
                  refine (Has_any Aa na ca _ (i : Int) u _ rda hcv.out).mono ?_
                  rintro e y1 ⟨rfl, rfl⟩
                  go_wp2
                  go_round
                  case rel => exact ⟨i + 1, !u, by omega, by go_num, rfl, hn⟩
                  case measure => simp [intOf]; omega
            · obtain rfl : i = k := by omega
              cases t with
              | true =>
                have hn1 : Hid (upL (Ma.cvr z2 i r (b + 1)) = upL (Ma.cvr z2 i r b) ++ [(b : Int)]) := by show _ = _; rw [Ma.cvr_yes HT.out.symm, upL_snoc]
                have hroom : (upL (Ma.cvr z2 i r b)).length + 1 ≤ 17592186044416 := by rw [upL_len]; have := Ma.cvr_len z2 i r b; omega
                have hrv2 := hrv.below ((Below.refl _ _).alloc (Nat.le_refl _) (.cells #[.int .i64 (b : Int)] 3))
                have hown2 := hown.below ((Below.refl _ _).alloc (Nat.le_refl _) (.cells #[.int .i64 (b : Int)] 3))
                have hbel2 := hbel.alloc hbel.size (.cells #[.int .i64 (b : Int)] 3)
                have hBs2 := Nat.le_trans hBsz ((Below.refl wr.heap.size wr).alloc (Nat.le_refl _) (.cells #[.int .i64 (b : Int)] 3)).size
                go_wp2_with (at_builtin; refine wpList_app _ rfl (.tmp 77) (.tmp 79) _ rfl B2 3 Tryd.underlying28 intInfo _ _ rfl hrv2 _ 1 1 [(b : Int)] rfl (Rd.one _ _ _) hroom hBs2 ?_; intro v5 y5 hrv5 hg5 hat5)
                have hbel5 : Below w.heap.size w y5 := hbel2.grown hg5 hbel2.size (fun j hj => by have := hrv2.at_base j hj; omega)
                have hown5 := hown2.grown hg5 (fun j hj e => by have i1 := hrv2.at_base j e; have i2 := HLB.out j hj; omega)
                have hBs5 : B2 ≤ y5.heap.size := Nat.le_trans hBs2 hg5.size
                go_wp2
                go_roundw
                case rel => exact ⟨b + 1, by omega, by go_num, hown5, by rw [hn1.out]; exact hrv5, hbel5, hBs5⟩
                case measure => simp [intOf]; omega
              | false =>
                have hn1 : Hid (upL (Ma.cvr z2 i r (b + 1)) = upL (Ma.cvr z2 i r b)) := by show _ = _; rw [Ma.cvr_no HT.out.symm]
                go_wp2
                go_roundw
                case rel => exact ⟨b + 1, by omega, by go_num, hown, by rw [hn1.out]; exact hrv, hbel, hBsz⟩
                case measure => simp [intOf]; omega
        · obtain rfl : b = r := by omega
          obtain ⟨Ab, cb, rfl, rdb⟩ := hrv.rd
          obtain ⟨nb, hnb⟩ : ∃ nb, nb = (upL (Ma.cvr z2 k b b)).length := ⟨_, rfl⟩
          rw [← hnb] at rdb ⊢
          have rda := hown.rd'
          have HNB := Lib.hid hnb
          clear hrv hown hnb HLB hBsz
          go_wp2_with fail
          refine (Most_ok k b a2 n2 c2 z2 _ (w2.past hbel) HN.out).mono ?_
          rw [← HMX.out]
          rintro e x5 ⟨rfl, b5⟩
          have b05 := hbel.trans (b5.mono hbel.size)
          have rda5 := rda.past b5
          have rdb5 := rdb.past b5
          clear rda rdb b5 hbel
          have e1 : ((mx : Int) == (mx : Int)) = true := by simp
          have e2 : (mx == mx) = true := by simp
          go_wp2_with fail
          refine (Err_ok _).mono ?_
          rintro e _ ⟨rfl, rfl⟩
          go_wp2_with fail
          refine (Cover_ok k b a2 n2 c2 z2 _ (w2.past b05) HN.out).mono ?_
          rintro e x6 ⟨b6, v1, v2, rfl, o1, o2⟩
          have b06 := b05.trans (b6.mono b05.size)
          have rda6 := rda5.past b6
          have rdb6 := rdb5.past b6
          obtain ⟨A1, c1, rfl, r1⟩ := o1.rd
          obtain ⟨A3, c3, rfl, r3⟩ := o2.rd
          rw [← HNA.out] at r1 ⊢
          rw [← HNB.out] at r3 ⊢
          clear o1 o2 b6 b05 rda5 rdb5 e1 e2
          go_wp2_with fail
          refine (Err_ok _).mono ?_
          rintro e _ ⟨rfl, rfl⟩
          go_wp2_with fail
          refine (Ints_t A1 Aa na na c1 ca _ _ true _ r1 rda6 (by simp)).mono ?_
          rintro e x8 ⟨rfl, b8⟩
          have b08 := b06.trans (b8.mono b06.size)
          go_wp2_with fail
          refine (Ints_t A3 Ab nb nb c3 cb _ _ true _ (r3.past b8) (rdb6.past b8) (by simp)).mono ?_
          rintro e x9 ⟨rfl, b9⟩
          go_wp2
          go_ret
          exact ⟨rfl, b08.trans (b9.mono b08.size)⟩

theorem walk (w : World) (het : tld.EtIs w) (a0 : Int) (_w0 : (Lit.int .i64 a0).wf = true) (a1 : Int) (_w1 : (Lit.int .i64 a1).wf = true) (a2 : Option Addr) (n2 c2 : Nat) (z2 : List Gr.Ln) (w2 : RdP w w.heap.size a2 n2 c2 z2) :
    Calls Tryd.prog 3 #[.int .i64 a0, .int .i64 a1, .slice a2 n2 c2] w fun e w' => e = .returned (.bool true) ∧ Below w.heap.size w w' := by
  by_cases hc : Ma.code a0 a1 z2 = 0
  · obtain ⟨l, r, rfl, rfl, _, _⟩ := Ma.code_nat hc
    exact good w het l r a2 n2 c2 z2 w2 hc
  · exact bad w het a0 a1 a2 n2 c2 z2 w2 _ rfl hc

end Go.Proofs.YtbegepdeaeplgaaDoor.matchSays
