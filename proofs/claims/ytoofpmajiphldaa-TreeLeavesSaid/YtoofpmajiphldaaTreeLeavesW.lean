/-
  The walk of the law TreeLeaves: for every number of points, lines and point it returns true.
-/
import Derived.Test.YtoofpmajiphldaaTreeF
import Derived.Test.YtoofpmajiphldaaTreeL
import Derived.Test.YtoofpmajiphldaaRefTr
import Derived.Test.YtoofpmajiphldaaGraphW
import Derived.Test.YtoofpmajiphldaaIn3
namespace Go.Proofs.Ytoofpmajiphldaa.treeLeaves
open Go.RowKit

set_option linter.unusedSimpArgs false
set_option linter.unusedVariables false

/-! ### ends -/
theorem one_all {l : List Nat} (hn : l.Nodup) : l.length = 1 ↔ ∃ u, u ∈ l ∧ ∀ w ∈ l, w = u := by
  constructor
  · intro h
    obtain ⟨u, rfl⟩ := List.length_eq_one_iff.1 h
    exact ⟨u, by simp, fun w hw => by simpa using hw⟩
  · rintro ⟨u, hu, hall⟩
    have hp : l.Perm [u] := (List.perm_ext_iff_of_nodup hn (by simp)).2 fun x => ⟨fun hx => by rw [hall x hx]; simp, fun hx => by rw [show x = u by simpa using hx]; exact hu⟩
    rw [hp.length_eq]
    rfl
theorem row_one {m : Nat} {ls : List Gr.Ln} {a : Nat} : (Gr.row m ls a).length = 1 ↔ ∃ u, u < m ∧ Tr.ad ls a u = true ∧ ∀ w, w < m → Tr.ad ls a w = true → w = u := by
  have e : (Gr.row m ls a).length = (Wa.nrow m ls a).length := by unfold Gr.row Wa.nrow; rw [List.length_map]
  rw [e, one_all (show (Wa.nrow m ls a).Nodup from List.nodup_range.filter _)]
  constructor
  · rintro ⟨u, hu, h⟩
    obtain ⟨h1, h2⟩ := Wa.mem_nrow.1 hu
    exact ⟨u, h1, h2, fun w hw hA => h w (Wa.mem_nrow.2 ⟨hw, hA⟩)⟩
  · rintro ⟨u, h1, h2, h⟩
    exact ⟨u, Wa.mem_nrow.2 ⟨h1, h2⟩, fun w hw => h w (Wa.mem_nrow.1 hw).1 (Wa.mem_nrow.1 hw).2⟩
/-- how many of the points below k are ends -/
def ends (m : Nat) (ls : List Gr.Ln) (k : Nat) : Nat := ((List.range k).filter fun j => decide ((Gr.row m ls j).length = 1)).length
theorem ends_yes {m : Nat} {ls : List Gr.Ln} {k : Nat} (h : (Gr.row m ls k).length = 1) : ends m ls (k + 1) = ends m ls k + 1 := by
  unfold ends
  rw [List.range_succ, List.filter_append, List.length_append]
  simp [h]
theorem ends_no {m : Nat} {ls : List Gr.Ln} {k : Nat} (h : (Gr.row m ls k).length ≠ 1) : ends m ls (k + 1) = ends m ls k := by
  unfold ends
  rw [List.range_succ, List.filter_append, List.length_append]
  simp [h]
theorem ends_le (m : Nat) (ls : List Gr.Ln) (k : Nat) : ends m ls k ≤ k := by
  unfold ends
  exact Nat.le_trans (List.length_filter_le _ _) (by rw [List.length_range]; exact Nat.le_refl _)
theorem ends_two {m : Nat} {ls : List Gr.Ln} (h : Tr.Tree m ls) (hm : 1 < m) : 2 ≤ ends m ls m := by
  obtain ⟨x, y, hx, hy, hne, ⟨u, hu, hA, hu1⟩, v, hv, hB, hv1⟩ := h.met.two_ends hm
  unfold ends
  have : [x, y].length ≤ ((List.range m).filter fun j => decide ((Gr.row m ls j).length = 1)).length := List.Nodup.length_le_of_subset (by simp [hne]) fun z hz => by
    rw [List.mem_filter, List.mem_range, decide_eq_true_eq]
    rcases (show z = x ∨ z = y by simpa using hz) with rfl | rfl
    · exact ⟨hx, row_one.2 ⟨u, hu, hA, hu1⟩⟩
    · exact ⟨hy, row_one.2 ⟨v, hv, hB, hv1⟩⟩
  simpa using this
/-- without an end it is a tree -/
theorem leaf_code {m i : Nat} {ls : List Gr.Ln} (hc : Tr.tcode (m : Int) ls = 0) (hm : 1 < m) (hi : i < m) (h : (Gr.row m ls i).length = 1) : Gr.wcode (m : Int) ls (i : Int) = 0 ∧ Tr.tcode ((m : Int) - 1) (Gr.without (i : Int) ls) = 0 := by
  obtain ⟨h1, h2⟩ := Tr.tcode_zero.1 hc
  obtain ⟨u, hu, hA, hone⟩ := row_one.1 h
  have ht := h2.leaf hm hi hu hA hone
  have e : (m : Int) - 1 = ((m - 1 : Nat) : Int) := by omega
  refine ⟨Gr.wcode_zero.2 ⟨h1, by omega, by omega, by omega⟩, ?_⟩
  rw [e]
  refine Tr.tcode_zero.2 ⟨?_, ht⟩
  rw [← e]
  exact Gr.code_without h1 (by omega) (by omega) (by omega)

set_option maxHeartbeats 1000000 in
theorem bad (w : World) (a0 : Int) (a1 : Option Addr) (n1 c1 : Nat) (z1 : List Gr.Ln) (w1 : RdP w w.heap.size a1 n1 c1 z1) (a2 : Int) (hc : Tr.tcode a0 z1 ≠ 0) :
    Calls Try.prog 6 #[.int .i64 a0, .slice a1 n1 c1, .int .i64 a2] w fun e w' => e = .returned (.bool true) ∧ Below w.heap.size w w' := by
  obtain ⟨k, hk⟩ : ∃ k, k = Tr.tcode a0 z1 := ⟨_, rfl⟩
  have hd : (k != 0) = true := by rw [hk]; simpa using hc
  have H := Lib.hid hc
  have HK := Lib.hid hk
  clear hc hk
  go_enter Try.func6, Try.ntmps6
  go_wp2_with fail
  refine (treeFact_any _).mono ?_
  rintro e x1 ⟨rfl, hb1⟩
  have hr1 := w1.past hb1
  go_wp2_with fail
  refine (TCheck_bad a0 a1 n1 c1 z1 _ hr1 H.out).mono ?_
  rintro e x2 ⟨rfl, hb2⟩
  have hb02 := hb1.trans (hb2.mono hb1.size)
  have hr2 := hr1.past hb2
  rw [← HK.out]
  clear hb1 hb2 hr1
  go_wp2_with fail
  refine (RefTr.Tree_any a0 a1 n1 c1 z1 _ hr2).mono ?_
  rintro e x3 ⟨rfl, hb3⟩
  rw [← HK.out]
  go_wp2
  go_ret
  exact ⟨rfl, hb02.trans (hb3.mono hb02.size)⟩

set_option maxRecDepth 100000 in
set_option maxHeartbeats 4000000 in
theorem good (w : World) (m : Nat) (a1 : Option Addr) (n1 c1 : Nat) (z1 : List Gr.Ln) (w1 : RdP w w.heap.size a1 n1 c1 z1) (a2 : Int) (hc : Tr.tcode (m : Int) z1 = 0) :
    Calls Try.prog 6 #[.int .i64 (m : Int), .slice a1 n1 c1, .int .i64 a2] w fun e w' => e = .returned (.bool true) ∧ Below w.heap.size w w' := by
  obtain ⟨hg, hT⟩ := Tr.tcode_zero.1 hc
  have hm8 : m ≤ 8 := by have := (Gr.code_zero.1 hg).2.1; omega
  have hm1 : 1 ≤ m := by have := (Gr.code_zero.1 hg).1; omega
  obtain ⟨q, hq⟩ : ∃ q : Int, q = (m : Int) - 1 := ⟨_, rfl⟩
  have hw : IntKind.i64.wrap ((m : Int) - 1) = q := by rw [IntKind.wrap_i64]; omega
  have HT2 : Hid (1 < m → 2 ≤ ends m z1 m) := fun h => ends_two hT h
  have H := Lib.hid hc
  have HQ := Lib.hid hq
  have hqa : q ≤ (m : Int) - 1 := by omega
  have hqb : (m : Int) - 1 ≤ q := by omega
  clear hc hg hT hq
  go_enter Try.func6, Try.ntmps6
  go_wp2_with fail
  refine (treeFact_any _).mono ?_
  rintro e x1 ⟨rfl, hb1⟩
  have hr1 := w1.past hb1
  go_wp2_with fail
  refine (TCheck_ok (m : Int) a1 n1 c1 z1 _ hr1 H.out).mono ?_
  rintro e x2 ⟨rfl, hb2⟩
  have hb02 := hb1.trans (hb2.mono hb1.size)
  have hr2 := hr1.past hb2
  clear hb1 hb2 hr1
  go_wp2_with fail
  refine (RefTr.Tree_any (m : Int) a1 n1 c1 z1 _ hr2).mono ?_
  rintro e x3 ⟨rfl, hb3⟩
  rw [H.out]
  have hb03 := hb02.trans (hb3.mono hb02.size)
  clear hb02 hb3 hr2
  go_wp2
  go_loopw [8, 9] (fun ev kv wr => ∃ k E : Nat, k ≤ m ∧ kv = .int .i64 (k : Int) ∧ ev = .int .i64 (E : Int) ∧ Hid (E = ends m z1 k) ∧ Below w.heap.size w wr) (fun _ kv _ => m - (intOf kv).toNat)
  case atStart => exact ⟨0, 0, Nat.zero_le _, rfl, rfl, rfl, hb03⟩
  case round =>
    clear hb03
    obtain ⟨k, E, hk, rfl, rfl, HE, hbw⟩ := hrel
    have hE8 : E ≤ k := by rw [HE.out]; exact ends_le _ _ _
    have hrw := w1.past hbw
    by_cases hlt : k < m
    · go_wp2_with fail
      refine (RefL.Near_any m a1 n1 c1 z1 k _ hrw hm8).mono ?_
      rintro e x4 ⟨v, rfl, hown, hb4⟩
      have hb04 := hbw.trans (hb4.mono hbw.size)
      obtain ⟨A4, c4, rfl, hrd⟩ := hown.rd
      obtain ⟨L, hL⟩ : ∃ L, L = (Gr.row m z1 k).length := ⟨_, rfl⟩
      have hL8 : L ≤ m := by rw [hL]; exact Gr.row_len m z1 k
      rw [← hL]
      clear hown hrd hb4 hbw hrw
      by_cases hL1 : L = 1
      · have HN : Hid (E + 1 = ends m z1 (k + 1)) := by show _ = _; rw [ends_yes (by rw [← hL]; exact hL1), HE.out]
        have hd : ((L : Int) == 1) = true := by simp [hL1]
        clear hL1 hL
        go_wp2
        go_roundw
        case rel => exact ⟨k + 1, E + 1, by omega, by go_num, by go_num, HN, hb04⟩
        case measure => simp [intOf]; omega
      · have HN : Hid (E = ends m z1 (k + 1)) := by show _ = _; rw [ends_no (by rw [← hL]; exact hL1), HE.out]
        have hd : ((L : Int) == 1) = false := by simp; omega
        clear hL1 hL
        go_wp2
        go_roundw
        case rel => exact ⟨k + 1, E, by omega, by go_num, rfl, HN, hb04⟩
        case measure => simp [intOf]; omega
    · obtain rfl : k = m := by omega
      have hE2 : 1 < k → 2 ≤ E := fun h => by rw [HE.out]; exact HT2.out h
      by_cases hin : 0 ≤ a2 ∧ a2 ≤ q
      · have HI := Lib.hid (fun W => in3_yes a2 0 q W hin.1 hin.2)
        by_cases h1 : 1 < k
        · have e1 : decide ((1 : Int) < (k : Int)) = true := by simp; omega
          have e2 : decide ((E : Int) < 2) = false := by have := hE2 h1; simp; omega
          have e4 : decide (1 < k) = true := by simp; omega
          have e5 : decide (E < 2) = false := by have := hE2 h1; simp; omega
          have e3 : decide ((k : Int) < 2) = false := by simp; omega
          have e6 : decide (k < 2) = false := by simp; omega
          obtain ⟨i, rfl⟩ : ∃ i : Nat, a2 = (i : Int) := ⟨a2.toNat, by omega⟩
          have hik : i < k := by omega
          clear hE2 hin
          go_wp2_with fail
          refine (HI.out _).mono ?_
          rintro e x5 ⟨rfl, rfl⟩
          go_wp2_with fail
          refine (RefL.Near_any k a1 n1 c1 z1 i _ hrw hm8).mono ?_
          rintro e x4 ⟨v, rfl, hown, hb4⟩
          have hb04 := hbw.trans (hb4.mono hbw.size)
          have hr4 := hrw.past hb4
          obtain ⟨A4, c4, rfl, hrd⟩ := hown.rd
          obtain ⟨L, hL⟩ : ∃ L, L = (Gr.row k z1 i).length := ⟨_, rfl⟩
          have hL8 : L ≤ k := by rw [hL]; exact Gr.row_len k z1 i
          rw [← hL]
          clear hown hrd hb4 hbw hrw
          by_cases hL1 : L = 1
          · obtain ⟨hwc, htc⟩ := leaf_code H.out h1 hik (by rw [← hL]; exact hL1)
            have hd : ((L : Int) != 1) = false := by simp [hL1]
            rw [← HQ.out] at htc
            have HW := Lib.hid hwc
            have HTC := Lib.hid htc
            clear hL1 hL hwc htc h1
            go_wp2_with fail
            refine (Without_any (k : Int) a1 n1 c1 z1 (i : Int) _ hr4).mono ?_
            rintro e x6 ⟨hb6, (⟨h0, _⟩ | ⟨_, v6, rfl, hown6⟩)⟩
            · exact absurd HW.out h0
            obtain ⟨A6, c6, rfl, hr6⟩ := hown6.rd
            obtain ⟨N6, hN6⟩ : ∃ N6, N6 = (Gr.without (i : Int) z1).length := ⟨_, rfl⟩
            rw [← hN6] at hr6 ⊢
            have hb06 := hb04.trans (hb6.mono hb04.size)
            clear hb6 hown6 hN6 hb04 hr4
            go_wp2_with fail
            refine (TCheck_ok q A6 N6 c6 _ _ hr6 HTC.out).mono ?_
            rintro e x7 ⟨rfl, hb7⟩
            go_wp2
            go_ret
            exact ⟨rfl, hb06.trans (hb7.mono hb06.size)⟩
          · have hd : ((L : Int) != 1) = true := by simp; omega
            clear hL1 hL h1
            go_wp2
            go_ret
            exact ⟨rfl, hb04⟩
        · have e1 : decide ((1 : Int) < (k : Int)) = false := by simp; omega
          have e4 : decide (1 < k) = false := by simp; omega
          have e3 : decide ((k : Int) < 2) = true := by simp; omega
          have e6 : decide (k < 2) = true := by simp; omega
          clear hE2 h1 hin
          go_wp2_with fail
          refine (HI.out _).mono ?_
          rintro e x5 ⟨rfl, rfl⟩
          go_wp2
          go_ret
          exact ⟨rfl, hbw⟩
      · have HI := Lib.hid (fun W => in3_no a2 0 q W (by omega))
        clear hin
        by_cases h1 : 1 < k
        · have e1 : decide ((1 : Int) < (k : Int)) = true := by simp; omega
          have e2 : decide ((E : Int) < 2) = false := by have := hE2 h1; simp; omega
          have e4 : decide (1 < k) = true := by simp; omega
          have e5 : decide (E < 2) = false := by have := hE2 h1; simp; omega
          clear hE2 h1
          go_wp2_with fail
          refine (HI.out _).mono ?_
          rintro e x5 ⟨rfl, rfl⟩
          go_wp2
          go_ret
          exact ⟨rfl, hbw⟩
        · have e1 : decide ((1 : Int) < (k : Int)) = false := by simp; omega
          have e4 : decide (1 < k) = false := by simp; omega
          clear hE2 h1
          go_wp2_with fail
          refine (HI.out _).mono ?_
          rintro e x5 ⟨rfl, rfl⟩
          go_wp2
          go_ret
          exact ⟨rfl, hbw⟩

theorem walk (w : World) (a0 : Int) (w0 : (Lit.int .i64 a0).wf = true) (a1 : Option Addr) (n1 c1 : Nat) (z1 : List Gr.Ln) (w1 : RdP w w.heap.size a1 n1 c1 z1) (a2 : Int) (w2 : (Lit.int .i64 a2).wf = true) :
    Calls Try.prog 6 #[.int .i64 a0, .slice a1 n1 c1, .int .i64 a2] w fun e w' => e = .returned (.bool true) ∧ Below w.heap.size w w' := by
  rcases Tr.tcode_cases a0 z1 with ⟨m, rfl, h, _, _⟩ | h
  · exact good w m a1 n1 c1 z1 w1 a2 h
  · exact bad w a0 a1 n1 c1 z1 w1 a2 h

end Go.Proofs.Ytoofpmajiphldaa.treeLeaves
