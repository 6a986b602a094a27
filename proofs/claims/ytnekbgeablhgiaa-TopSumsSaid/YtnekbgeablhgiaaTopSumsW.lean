/-
  The walk of the law TopSums: for every number of points and lines it returns true.
-/
import Derived.Test.YtnekbgeablhgiaaPruferF
import Derived.Test.YtnekbgeablhgiaaHavelB
import Derived.Test.YtnekbgeablhgiaaDegreeC
import Derived.Test.YtnekbgeablhgiaaHavelN
import Derived.Test.YtnekbgeablhgiaaRefL
namespace Go.Proofs.Ytnekbgeablhgiaa.topSums
open Go.RowKit

set_option linter.unusedSimpArgs false
set_option linter.unusedVariables false

theorem often_succ {xs : List Nat} {k : Nat} (i : Nat) (hk : k < xs.length) : (xs.take (k + 1)).count i = (xs.take k).count i + if xs.getD k 0 = i then 1 else 0 := by
  rw [List.take_succ_eq_append_getElem hk, List.count_append, List.count_singleton]
  by_cases e : xs[k] = i <;> simp [List.getD, hk, e]
theorem often_at {xs : List Nat} {k : Nat} (hk : k < xs.length) : (upN xs).getD k 0 = ((xs.getD k 0 : Nat) : Int) := by simp [upN, List.getD, hk]
theorem two_code : De.code [1, 1] = 0 := by kernel_rfl
theorem two_can : De.can [1, 1] = true := by kernel_rfl
theorem degs_at {m : Nat} {ls : List Gr.Ln} {i : Nat} (hi : i < m) : (De.degs m ls).getD i 0 = ((Gr.row m ls i).length : Int) := by simp [De.degs, Gr.rows, List.getD, hi]
theorem Near_len (m : Nat) (A : Option Addr) (k c : Nat) (ls : List Gr.Ln) (i q : Nat) (w : World) (hr : RdP w w.heap.size A k c ls) (hm8 : m ≤ 8) (hq : (Gr.row m ls i).length = q) :
    Calls Try.prog 12 #[.int .i64 (m : Int), .slice A k c, .int .i64 (i : Int)] w fun e w' => ∃ A5 c5, e = .returned (.slice A5 q c5) ∧ Below w.heap.size w w' := by
  refine (RefL.Near_any m A k c ls i w hr hm8).mono ?_
  rintro e w1 ⟨v, rfl, hown, hb⟩
  obtain ⟨A5, c5, rfl, _⟩ := hown.rd
  exact ⟨A5, c5, by rw [hq], hb⟩

set_option maxRecDepth 100000 in
set_option maxHeartbeats 4000000 in
theorem walk (w : World) (a0 : Int) (_w0 : (Lit.int .i64 a0).wf = true) (a1 : Option Addr) (n1 c1 : Nat) (z1 : List Gr.Ln) (w1 : RdP w w.heap.size a1 n1 c1 z1) :
    Calls Try.prog 5 #[.int .i64 a0, .slice a1 n1 c1] w fun e w' => e = .returned (.bool true) ∧ Below w.heap.size w w' := by
  go_enter Try.func5, Try.ntmps5
  go_wp2_with fail
  refine (Of_any a0 a1 n1 c1 z1 _ w1).mono ?_
  rintro e x1 ⟨hb1, (⟨hne, rfl⟩ | ⟨h0, A, c, rfl, hr⟩)⟩
  · obtain ⟨x2, hx2⟩ : ∃ x2, x2 = x1.alloc (.cells #[.int .i64 1, .int .i64 1] 3) := ⟨_, rfl⟩
    have hbx : Below x1.heap.size x1 x2 := by rw [hx2]; exact (Below.refl _ _).alloc (Nat.le_refl _) _
    have hr2 : Rd x2 x2.heap.size (some ⟨x1.heap.size, 0, none⟩) 2 2 [1, 1] := by rw [hx2]; exact (Rd.new x1 [1, 1] _ 2 rfl (by omega)).more (by simp)
    have HX2 := Lib.hid hx2
    clear hne hx2
    go_wp2_with fail
    rw [← HX2.out]
    refine (Can_ok _ 2 2 [1, 1] true _ hr2 two_code two_can).mono ?_
    rintro e x3 ⟨rfl, hb3⟩
    go_wp2
    go_ret
    exact ⟨rfl, hb1.trans ((hbx.trans (hb3.mono hbx.size)).mono hb1.size)⟩
  obtain ⟨z1', z8, _, _⟩ := Gr.code_zero.1 h0
  obtain ⟨m, rfl⟩ : ∃ m : Nat, a0 = (m : Int) := ⟨a0.toNat, by omega⟩
  simp only [Int.toNat_natCast] at hr ⊢
  have hm8 : m ≤ 8 := by omega
  have hcd : De.code (De.degs m z1) = 0 := De.degs_code h0
  have hcan : De.can (De.degs m z1) = true := De.degs_can h0
  have hsome := De.havel_can hcd
  rw [hcan] at hsome
  have HDAT : Hid (∀ i, i < m → (De.degs m z1).getD i 0 = ((Gr.row m z1 i).length : Int)) := fun i hi => degs_at hi
  obtain ⟨d, hd⟩ : ∃ d, d = De.degs m z1 := ⟨_, rfl⟩
  have hdl : d.length = m := by rw [hd]; exact De.degs_len m z1
  rw [← hd] at hcd hcan hsome hr HDAT
  obtain ⟨os, hos⟩ : ∃ os, De.havel 9 (d.map Int.toNat) = some os := Option.isSome_iff_exists.1 hsome
  have hne : d.map Int.toNat ≠ [] := by
    intro e
    have := congrArg List.length e
    rw [List.length_map, hdl] at this
    simp at this
    omega
  have hmade := De.havel_made 9 _ os hne hos
  have hml : (d.map Int.toNat).length = m := by rw [List.length_map]; exact hdl
  have HNEAR : Hid (∀ i, i < m → (Gr.row m os i).length = (Gr.row m z1 i).length) := by
    show ∀ i, _
    intro i hi
    have h1 := hmade.near i
    rw [hml] at h1
    have h2 : (d.map Int.toNat).getD i 0 = (d.getD i 0).toNat := by simp [List.getD, show i < d.length by omega]
    rw [h2, HDAT.out i hi, Int.toNat_natCast] at h1
    exact h1
  have HC0 := Lib.hid h0
  have HCD := Lib.hid hcd
  have HCAN := Lib.hid hcan
  have HOS := Lib.hid hos
  clear hsome hd hdl hne hmade hml h0 hcd hcan hos
  obtain ⟨x2, hx2⟩ : ∃ x2, x2 = x1.alloc (.cells #[.int .i64 1, .int .i64 1] 3) := ⟨_, rfl⟩
  have hbx : Below x1.heap.size x1 x2 := by rw [hx2]; exact (Below.refl _ _).alloc (Nat.le_refl _) _
  have hr2 : Rd x2 x2.heap.size (some ⟨x1.heap.size, 0, none⟩) 2 2 [1, 1] := by rw [hx2]; exact (Rd.new x1 [1, 1] _ 2 rfl (by omega)).more (by simp)
  have HX2 := Lib.hid hx2
  clear hx2
  go_wp2_with fail
  rw [← HX2.out]
  refine (Can_ok _ 2 2 [1, 1] true _ hr2 two_code two_can).mono ?_
  rintro e x3 ⟨rfl, hb3⟩
  have hbx3 := hbx.trans (hb3.mono hbx.size)
  have hb03 := hb1.trans (hbx3.mono hb1.size)
  have hd3 := hr.past hbx3
  have hz3 := w1.past hb03
  clear hr hb1 hbx hb3 hr2 hbx3
  go_wp2_with fail
  refine (Beside_any (m : Int) a1 n1 c1 z1 _ hz3).mono ?_
  rintro e x4 ⟨hb4, (⟨hne, _⟩ | ⟨_, A4, c4, rfl, hrows⟩)⟩
  · exact absurd HC0.out hne
  simp only [Int.toNat_natCast] at hrows ⊢
  have hb04 := hb03.trans (hb4.mono hb03.size)
  have hd4 := hd3.past hb4
  clear hd3 hz3 hb4 hb03
  go_wp2_with fail
  refine (Can_ok A m c d true _ hd4 HCD.out HCAN.out).mono ?_
  rintro e x5 ⟨rfl, hb5⟩
  have hb05 := hb04.trans (hb5.mono hb04.size)
  have hd5 := hd4.past hb5
  have hrows5 := hrows.past hb5
  clear hd4 hrows hb5 hb04
  go_wp2_with fail
  refine (Make_ok A m c d _ hd5 HCD.out).mono ?_
  rw [HOS.out]
  rintro e x6 ⟨hb6, (⟨hn, _⟩ | ⟨os', v, hs, rfl, hown⟩)⟩
  · cases hn
  cases hs
  obtain ⟨A6, c6, rfl, hrd⟩ := hown.rd
  obtain ⟨k, hk⟩ : ∃ k, k = os.length := ⟨_, rfl⟩
  rw [← hk] at hrd ⊢
  have hb06 := hb05.trans (hb6.mono hb05.size)
  have hd6 := hd5.past hb6
  have hrows6 := hrows5.past hb6
  have hs6 := hb06.size
  clear hown hd5 hrows5 hb6 hb05 hk
  have hmm : ((m : Int) != (m : Int)) = false := by simp
  go_wp2
  go_loopw [15] (fun iv wr => ∃ i : Nat, i ≤ m ∧ iv = .int .i64 (i : Int) ∧ Below x6.heap.size x6 wr) (fun iv _ => m - (intOf iv).toNat)
  case atStart => exact ⟨0, Nat.zero_le _, rfl, Below.refl _ _⟩
  case round =>
    obtain ⟨i, hi, rfl, hbel⟩ := hrel
    by_cases hin : i < m
    · obtain ⟨b1, o1, rfl, hb1, hc1⟩ := hd6.at_ (by omega)
      obtain ⟨b2, o2, rfl, hb2, hc2⟩ := hrows6.at_ (by omega)
      obtain ⟨A7, c7, hx7, _⟩ := hc2 i hin
      rw [Gr.rows_getD z1 hin] at hx7
      have hx1 := hc1 i hin
      rw [HDAT.out i hin] at hx1
      have hne := HNEAR.out i hin
      obtain ⟨q, hq⟩ : ∃ q, q = (Gr.row m z1 i).length := ⟨_, rfl⟩
      rw [← hq] at hx1 hx7 hne
      have HNE := Lib.hid hne
      have g1 : wr.cell? ⟨b1, o1 + i, none⟩ = some (.int .i64 (q : Int)) := (hbel.cell (p := ⟨b1, o1 + i, none⟩) hb1).trans hx1
      have g2 : wr.cell? ⟨b2, o2 + i, none⟩ = some (.slice A7 q c7) := (hbel.cell (p := ⟨b2, o2 + i, none⟩) hb2).trans hx7
      have hl5 := hrd.past hbel
      have e1 : wr.drew.cell? ⟨b1, o1 + i, none⟩ = some (.int .i64 (q : Int)) := g1
      have e2 : wr.drew.cell? ⟨b2, o2 + i, none⟩ = some (.slice A7 q c7) := g2
      have hbd : Below x6.heap.size x6 wr.drew := hbel.drew
      have hl6 : RdP wr.drew wr.drew.heap.size A6 k c6 os := hl5
      have hqq : ((q : Int) != (q : Int)) = false := by simp
      have i0 : (0 : Int) ≤ (i : Int) := by omega
      have i1 : (i : Int) < (m : Int) := by omega
      clear hc1 hc2 hx1 hx7 hq hne hl5
      go_wp2
      go_region_held3 (fun w' : World => w'.cell? ⟨b1, o1 + i, none⟩ = some (.int .i64 (q : Int)) ∧ w'.cell? ⟨b2, o2 + i, none⟩ = some (.slice A7 q c7)) (first | exact ⟨g1, g2⟩ | assumption)
        (first
          | (go_at_call 12; refine (Near_len m A6 k c6 os i q _ hl6 hm8 HNE.out).mono ?_; rintro e w5 ⟨A5, c5, rfl, hb5⟩; have hk5 := And.intro ((hb5.cell (World.block_lt_of_cell? _ _ e1)).trans e1) ((hb5.cell (World.block_lt_of_cell? _ _ e2)).trans e2)))
      go_wp2
      go_roundw
      case rel => exact ⟨i + 1, by omega, by go_num, hbd.trans (hb5.mono hbd.size)⟩
      case measure => simp [intOf]; omega
    · obtain ⟨x7, hx7⟩ : ∃ x7, x7 = wr := ⟨_, rfl⟩
      rw [← hx7] at hbel ⊢
      have hb07 := hb06.trans (hbel.mono hs6)
      have hd7 := hd6.past hbel
      have hz7 := w1.past hb07
      clear hrd hrows6 hd6 hb06 hbel hx7 hs6
      by_cases hc : Pf.wcode (m : Int) z1 = 0
      · obtain ⟨m', e', hm2, _, ht, hT⟩ := Pf.wcode_tree hc
        have hm' : m' = m := by omega
        rw [hm'] at ht hT hm2
        clear hm' e' hc
        obtain ⟨xs, hxs⟩ : ∃ xs, xs = Pf.wr m z1 := ⟨_, rfl⟩
        have hxl : xs.length = m - 2 := by rw [hxs]; exact Pf.wr_len m z1
        have HOF : Hid (∀ i, i < m → (Gr.row m z1 i).length = 1 + xs.count i) := by
          show ∀ i, _
          intro i hi
          rw [hxs]
          exact Pf.wr_often hT hm2 hi
        obtain ⟨r, hr⟩ : ∃ r, r = m - 2 := ⟨_, rfl⟩
        have hr8 : r ≤ 8 := by omega
        have HT := Lib.hid ht
        have HR := Lib.hid hr
        have HXS := Lib.hid hxs
        have HXL := Lib.hid hxl
        clear ht hT hxs hr hxl
        go_wp2_with fail
        refine (Write_yes m a1 n1 c1 z1 _ hz7 HT.out hm2).mono ?_
        rintro e x8 ⟨A8, d8, rfl, hrd8, hb8⟩
        rw [← HXS.out, ← HR.out] at hrd8
        rw [← HR.out]
        have hb08 := hb07.trans (hb8.mono hb07.size)
        have hd8 := hd7.past hb8
        clear hb07 hb8 hz7 hd7
        go_wp2
        go_loopw [17, 18, 19] (fun kv _ _ wr => ∃ k : Nat, k ≤ m ∧ kv = .int .i64 (k : Int) ∧ Below x8.heap.size x8 wr) (fun kv _ _ _ => m - (intOf kv).toNat)
        case atStart => exact ⟨0, Nat.zero_le _, rfl, Below.refl _ _⟩
        case round =>
          obtain ⟨i, hi, rfl, hbw⟩ := hrel
          have hd9 := hd8.past hbw
          have hrd9 := hrd8.past hbw
          by_cases hlt : i < m
          · have HO := Lib.hid (HOF.out i hlt)
            have i0 : (0 : Int) ≤ (i : Int) := by omega
            have i1 : (i : Int) < (m : Int) := by omega
            obtain ⟨b1, o1, rfl, hb1, hc1⟩ := hd9.at_ (by omega)
            have g1 := hc1 i hlt
            rw [HDAT.out i hlt] at g1
            obtain ⟨y, hy⟩ : ∃ y, y = (Gr.row m z1 i).length := ⟨_, rfl⟩
            rw [← hy] at g1
            have HY := Lib.hid hy
            clear hc1 hy
            go_wp2
            go_loop [18, 19] (fun mv kv => ∃ k q : Nat, k ≤ r ∧ kv = .int .i64 (k : Int) ∧ mv = .int .i64 (q : Int) ∧ q ≤ 1 + k ∧ Hid (q = 1 + (xs.take k).count i)) (fun _ kv => r - (intOf kv).toNat)
            case atStart => exact ⟨0, 1, Nat.zero_le _, rfl, rfl, by omega, by show _ = _; simp⟩
            case round =>
              obtain ⟨k, q, hk, rfl, rfl, hqk, HQ⟩ := hrel
              by_cases hkr : k < r
              · obtain ⟨b4, o4, rfl, hb4, hc4⟩ := hrd9.at_ (by omega)
                have g4 := hc4 k hkr
                have hkx : k < xs.length := by rw [HXL.out, ← HR.out]; exact hkr
                rw [often_at hkx] at g4
                obtain ⟨p, hp⟩ : ∃ p, p = xs.getD k 0 := ⟨_, rfl⟩
                rw [← hp] at g4
                have hstep := often_succ i hkx
                rw [← hp] at hstep
                have k0 : (0 : Int) ≤ (k : Int) := by omega
                have k1 : (k : Int) < (r : Int) := by omega
                clear hc4 hp
                by_cases he : p = i
                · have hd : ((p : Int) == (i : Int)) = true := by simp [he]
                  have HN : Hid (q + 1 = 1 + (xs.take (k + 1)).count i) := by show _ = _; rw [hstep, if_pos he, HQ.out]; omega
                  clear he hstep
                  go_wp2
                  go_round
                  case rel => exact ⟨k + 1, q + 1, by omega, by go_num, by go_num, by omega, HN⟩
                  case measure => simp [intOf]; omega
                · have hd : ((p : Int) == (i : Int)) = false := by simp; omega
                  have HN : Hid (q = 1 + (xs.take (k + 1)).count i) := by show _ = _; rw [hstep, if_neg he, HQ.out]; rfl
                  clear he hstep
                  go_wp2
                  go_round
                  case rel => exact ⟨k + 1, q, by omega, by go_num, rfl, by omega, HN⟩
                  case measure => simp [intOf]; omega
              · obtain rfl : k = r := by omega
                have hq : y = q := by
                  rw [HY.out, HQ.out, HO.out, List.take_of_length_le (by rw [HXL.out, ← HR.out]; exact Nat.le_refl _)]
                subst hq
                have hdq : ((y : Int) != (y : Int)) = false := by simp
                clear hqk
                go_wp2
                go_roundw
                case rel => exact ⟨i + 1, by omega, by go_num, hbw⟩
                case measure => simp [intOf]; omega
          · go_wp2
            go_ret
            exact ⟨rfl, hb08.trans (hbw.mono hb08.size)⟩
      · have HC := Lib.hid hc
        clear hc
        go_wp2_with fail
        refine (Write_bad (m : Int) a1 n1 c1 z1 _ hz7 HC.out).mono ?_
        rintro e x8 ⟨rfl, hb8⟩
        go_wp2
        go_ret
        exact ⟨rfl, hb07.trans (hb8.mono hb07.size)⟩

end Go.Proofs.Ytnekbgeablhgiaa.topSums
