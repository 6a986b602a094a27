/-
  The walk of the law TreeName: for every number of points, lines and order it returns true.
-/
import Derived.Test.YtoofpmajiphldaaTreeF
import Derived.Test.YtoofpmajiphldaaTreeW
import Derived.Test.YtoofpmajiphldaaRefTwo
import Derived.Test.YtoofpmajiphldaaTwice
import Derived.Test.YtoofpmajiphldaaRefAll
import Derived.Test.YtoofpmajiphldaaRefAllN
namespace Go.Proofs.Ytoofpmajiphldaa.treeName
open Go.RowKit

set_option linter.unusedSimpArgs false
set_option linter.unusedVariables false

/-- how many signs of the first k are open brackets -/
def opens (x : List Nat) (k : Nat) : Nat := (x.take k).countP fun b => decide (b = 40)
theorem opens_yes {x : List Nat} {k : Nat} (hk : k < x.length) (h : x.getD k 0 = 40) : opens x (k + 1) = opens x k + 1 := by
  unfold opens
  rw [List.take_succ_eq_append_getElem hk, List.countP_append]
  have e : x[k] = 40 := by rw [← h]; simp [List.getD, hk]
  simp [e]
theorem opens_no {x : List Nat} {k : Nat} (hk : k < x.length) (h : x.getD k 0 ≠ 40) : opens x (k + 1) = opens x k := by
  unfold opens
  rw [List.take_succ_eq_append_getElem hk, List.countP_append]
  have e : x[k] ≠ 40 := fun e => h (by rw [← e]; simp [List.getD, hk])
  simp [e]
theorem opens_le (x : List Nat) (k : Nat) : opens x k ≤ k := by
  unfold opens
  exact Nat.le_trans List.countP_le_length (by rw [List.length_take]; exact Nat.min_le_left _ _)

set_option maxHeartbeats 1000000 in
theorem bad (w : World) (a0 : Int) (a1 : Option Addr) (n1 c1 : Nat) (z1 : List Gr.Ln) (w1 : RdP w w.heap.size a1 n1 c1 z1) (a2 : Option Addr) (n2 c2 : Nat) (hc : Tr.tcode a0 z1 ≠ 0) :
    Calls Try.prog 4 #[.int .i64 a0, .slice a1 n1 c1, .slice a2 n2 c2] w fun e w' => e = .returned (.bool true) ∧ Below w.heap.size w w' := by
  have H := Lib.hid hc
  clear hc
  go_enter Try.func4, Try.ntmps4
  go_wp2_with fail
  refine (treeFact_any _).mono ?_
  rintro e x1 ⟨rfl, hb1⟩
  go_wp2_with fail
  refine (Name_bad a0 a1 n1 c1 z1 _ (w1.past hb1) H.out).mono ?_
  rintro e x2 ⟨rfl, hb2⟩
  go_wp2
  go_ret
  exact ⟨rfl, hb1.trans (hb2.mono hb1.size)⟩

set_option maxRecDepth 100000 in
set_option maxHeartbeats 4000000 in
theorem good (w : World) (m : Nat) (a1 : Option Addr) (n1 c1 : Nat) (z1 : List Gr.Ln) (w1 : RdP w w.heap.size a1 n1 c1 z1) (a2 : Option Addr) (n2 c2 : Nat) (z2 : List Int) (w2 : Rd w w.heap.size a2 n2 c2 z2) (hc : Tr.tcode (m : Int) z1 = 0) :
    Calls Try.prog 4 #[.int .i64 (m : Int), .slice a1 n1 c1, .slice a2 n2 c2] w fun e w' => e = .returned (.bool true) ∧ Below w.heap.size w w' := by
  obtain ⟨hg, hT⟩ := Tr.tcode_zero.1 hc
  have hm8 : m ≤ 8 := by have := (Gr.code_zero.1 hg).2.1; omega
  have hm1 : 1 ≤ m := by have := (Gr.code_zero.1 hg).1; omega
  have hn1 : n1 ≤ 8 := by have := hT.len; have := w1.len; omega
  have hbig := w2.big
  obtain ⟨q, hq⟩ : ∃ q : Int, q = (m : Int) - 1 := ⟨_, rfl⟩
  have hw : IntKind.i64.wrap ((m : Int) - 1) = q := by rw [IntKind.wrap_i64]; omega
  have hqa : q ≤ (m : Int) - 1 := by omega
  have hqb : (m : Int) - 1 ≤ q := by omega
  obtain ⟨X, hX⟩ : ∃ X, X = Nm.wn (Tr.ad z1) m (Tr.far m z1) := ⟨_, rfl⟩
  obtain ⟨hl1, hl2⟩ := Nm.wn_len hT.met hm1
  have hsm := Nm.wn_sm hT.met hm1
  rw [← hX] at hl1 hl2 hsm
  obtain ⟨L, hL⟩ : ∃ L, L = X.length := ⟨_, rfl⟩
  rw [← hL] at hl1
  have hL16 : L ≤ 16 := by omega
  obtain ⟨y2, hy2⟩ : ∃ y2 : Int, y2 = 2 * (m : Int) := ⟨_, rfl⟩
  have hw2 : IntKind.i64.wrap (2 * (m : Int)) = y2 := by rw [IntKind.wrap_i64]; omega
  have hd1 : ((L : Int) != y2) = false := by simp; omega
  obtain ⟨B, hB⟩ : ∃ B, B = Nm.bs X := ⟨_, rfl⟩
  have hBs : B.size = L := by rw [hB, Nm.bs_size, hL]
  have hAT : Hid (∀ i (hi : i < B.size), (B[i]'hi) = UInt8.ofNat (X.getD i 0)) := by
    show ∀ i, _
    intro i hi
    subst hB
    exact Nm.bs_at X (by rw [← hL, ← hBs]; exact hi) hi
  have HOP : Hid (opens X L = m) := by
    show _ = _
    unfold opens
    rw [hL, List.take_length]
    exact hl2
  have HX := Lib.hid hX
  have HB := Lib.hid hB
  have HL := Lib.hid hL
  have HSM := Lib.hid hsm
  have H := Lib.hid hc
  have HG := Lib.hid hg
  have HLEN := Lib.hid w1.len
  have HLE2 := Lib.hid w2.len
  clear hc hg hT hq hX hl1 hl2 hsm hL hy2 hB
  go_enter Try.func4, Try.ntmps4
  go_wp2_with fail
  refine (treeFact_any _).mono ?_
  rintro e x1 ⟨rfl, hb1⟩
  have hr1 := w1.past hb1
  go_wp2_with fail
  refine (Name_ok m a1 n1 c1 z1 _ hr1 H.out).mono ?_
  rintro e x2 ⟨rfl, hb2⟩
  rw [← HX.out, ← HB.out]
  have hb02 := hb1.trans (hb2.mono hb1.size)
  have h00 : Hid (0 = opens X 0) := by show _ = _; unfold opens; rfl
  clear hb1 hb2 hr1
  go_wp2
  go_loopw [10, 11] (fun ov iv wr => ∃ i O : Nat, i ≤ L ∧ iv = .int .i64 (i : Int) ∧ ov = .int .i64 (O : Int) ∧ Hid (O = opens X i) ∧ x2 = wr) (fun _ iv _ => L - (intOf iv).toNat)
  case atStart => exact ⟨0, 0, Nat.zero_le _, rfl, rfl, h00, rfl⟩
  case round =>
    clear h00
    obtain ⟨i, O, hi, rfl, rfl, HO, rfl⟩ := hrel
    have hO16 : O ≤ i := by rw [HO.out]; exact opens_le _ _
    by_cases hlt : i < L
    · have hiX : i < X.length := by rw [← HL.out]; exact hlt
      have h256 := HSM.out.at_ hiX
      obtain ⟨y, hy⟩ : ∃ y, y = X.getD i 0 := ⟨_, rfl⟩
      rw [← hy] at h256
      have i1 : (0 : Int) ≤ (i : Int) := by omega
      have i2 : (i : Int) < (L : Int) := by omega
      have hix : ∀ W, (Instr.index 9 (.string B) (.int .i64 (i : Int))).run Try.prog W = .ok (.int .u8 (y : Int)) W := fun W => by
        rw [run_index_string W 9 B .i64 (i : Int) Try.underlying9, dif_pos ⟨by omega, by rw [hBs]; omega⟩]
        simp only [Int.toNat_natCast]
        rw [hAT.out i (by rw [hBs]; exact hlt), UInt8.toNat_ofNat_of_lt' (by rw [← hy]; exact h256), ← hy]
      by_cases h40 : y = 40
      · have HN : Hid (O + 1 = opens X (i + 1)) := by show _ = _; rw [opens_yes hiX (by rw [← hy]; exact h40), HO.out]
        have hd : ((y : Int) == 40) = true := by simp [h40]
        clear h40 hy hiX HO
        go_wp2
        go_roundw
        case rel => exact ⟨i + 1, O + 1, by omega, by go_num, by go_num, HN, trivial⟩
        case measure => simp [intOf]; omega
      · have HN : Hid (O = opens X (i + 1)) := by show _ = _; rw [opens_no hiX (by rw [← hy]; exact h40), HO.out]
        have hd : ((y : Int) == 40) = false := by simp; omega
        clear h40 hy hiX HO
        go_wp2
        go_roundw
        case rel => exact ⟨i + 1, O, by omega, by go_num, rfl, HN, trivial⟩
        case measure => simp [intOf]; omega
    · obtain rfl : i = L := by omega
      have hOm : O = m := by rw [HO.out]; exact HOP.out
      have hd2 : ((O : Int) != (m : Int)) = false := by simp; omega
      have hr2 := w1.past hb02
      have hs2 := w2.past hb02
      clear hOm
      by_cases hn2 : n2 = m
      · have hd3 : ((n2 : Int) != (m : Int)) = false := by simp; omega
        have HN2 := Lib.hid hn2
        clear hn2
        by_cases hall : ∀ d ∈ z2, (0 : Int) ≤ d ∧ d ≤ q
        · have HA := Lib.hid hall
          clear hall
          by_cases hnd : z2.Nodup
          · have hP : Tr.Perm m z2 := ⟨by rw [HLE2.out, HN2.out], fun d hd => by have := HA.out d hd; omega, hnd⟩
            obtain ⟨ht1, ht2⟩ := Tr.turn_same hP H.out
            have HND := Lib.hid hnd
            have HP := Lib.hid hP
            have HT1 := Lib.hid ht1
            have HT2 := Lib.hid ht2
            have h0 : OwnP x2 w.heap.size 38 (.slice none 0 0) (Tr.turnTo z2 z1 n1) := by rw [Tr.turnTo_end z2 (by rw [HLEN.out]; exact Nat.le_refl _)]; exact OwnP.nil _ _ _
            clear hnd hP ht1 ht2
            go_wp2_with fail
            refine (All_in a2 n2 c2 z2 0 q _ hs2 HA.out).mono ?_
            rintro e x3 ⟨rfl, rfl⟩
            go_wp2_with fail
            refine (Twice_no a2 n2 c2 z2 _ hs2 HND.out).mono ?_
            rintro e x4 ⟨rfl, hb4⟩
            have hb04 := hb02.trans (hb4.mono hb02.size)
            have h4 := h0.below hb4
            clear h0 hb4 hb02 hr2 hs2
            obtain ⟨j0, hj0⟩ : ∃ j0 : Int, j0 = (n1 : Int) - 1 := ⟨_, rfl⟩
            have hwj : IntKind.i64.wrap ((n1 : Int) - 1) = j0 := by rw [IntKind.wrap_i64]; omega
            have hj1 : j0 + 1 ≤ (n1 : Int) := by omega
            have hj2 : (n1 : Int) ≤ j0 + 1 := by omega
            clear hj0
            go_wp2
            go_loopw [12, 13] (fun v i wr => ∃ (j : Int) (k : Nat), k ≤ n1 ∧ i = .int .i64 j ∧ j + 1 = (k : Int) ∧ OwnP wr w.heap.size 38 v (Tr.turnTo z2 z1 k) ∧ Below w.heap.size w wr) (fun _ i _ => (intOf i + 1).toNat)
            case atStart => exact ⟨_, n1, Nat.le_refl _, rfl, by omega, h4, hb04⟩
            case round =>
              clear h4 hb04
              obtain ⟨j, k, hk, rfl, hj, hown, hbel⟩ := hrel
              have hsz := hbel.size
              by_cases hpos : 0 ≤ j
              · obtain ⟨i, rfl⟩ : ∃ i : Nat, j = (i : Int) := ⟨j.toNat, by omega⟩
                obtain rfl : k = i + 1 := by omega
                clear hj
                obtain ⟨b1, o1, rfl, hbb, hcc⟩ := w1.at_ (by omega)
                obtain ⟨x, y⟩ := hcc i (by omega)
                have hin : i < z1.length := by rw [HLEN.out]; omega
                obtain ⟨P, Q, hPm, hQm, hPQ⟩ : ∃ P Q : Nat, P < m ∧ Q < m ∧ z1.getD i (0, 0) = ((P : Int), (Q : Int)) := by
                  have hgd := (Gr.code_zero.1 HG.out).2.2.2 (z1.getD i (0, 0)) (by simp [List.getD, hin])
                  obtain ⟨g1, g2, g3, g4, _⟩ := hgd
                  exact ⟨(z1.getD i (0, 0)).1.toNat, (z1.getD i (0, 0)).2.toNat, by omega, by omega, by rw [Int.toNat_of_nonneg g1, Int.toNat_of_nonneg g3]⟩
                rw [hPQ] at x y
                simp only at x y
                have g1 : wr.cell? ⟨b1, o1 + i * 2, none⟩ = some (.int .i64 (P : Int)) := (hbel.cell (by exact hbb)).trans x
                have g2 : wr.cell? ⟨b1, o1 + i * 2 + 1, none⟩ = some (.int .i64 (Q : Int)) := (hbel.cell (by exact hbb)).trans y
                have hN2 : n2 = m := HN2.out
                obtain ⟨b2, o2, rfl, hbb2, hcc2⟩ := w2.at_ (by omega)
                have z3 := hcc2 P (by omega)
                have z4 := hcc2 Q (by omega)
                obtain ⟨p, hp⟩ : ∃ p, p = z2.getD P 0 := ⟨_, rfl⟩
                obtain ⟨r, hr⟩ : ∃ r, r = z2.getD Q 0 := ⟨_, rfl⟩
                rw [← hp] at z3
                rw [← hr] at z4
                have g3 : wr.cell? ⟨b2, o2 + P, none⟩ = some (.int .i64 p) := (hbel.cell (by exact hbb2)).trans z3
                have g4 : wr.cell? ⟨b2, o2 + Q, none⟩ = some (.int .i64 r) := (hbel.cell (by exact hbb2)).trans z4
                have hnext : Hid (Tr.turnTo z2 z1 i = Tr.turnTo z2 z1 (i + 1) ++ [(r, p)]) := by
                  show _ = _
                  rw [Tr.turnTo_next z2 hin, hPQ]
                  unfold Tr.turnL
                  simp only [Int.toNat_natCast]
                  rw [← hp, ← hr]
                have p1 : (0 : Int) ≤ (P : Int) := by omega
                have p2 : (P : Int) < (n2 : Int) := by omega
                have p3 : (0 : Int) ≤ (Q : Int) := by omega
                have p4 : (Q : Int) < (n2 : Int) := by omega
                have k1 : (0 : Int) ≤ (i : Int) := by omega
                have k2 : (i : Int) < (n1 : Int) := by omega
                have hlen : (Tr.turnTo z2 z1 (i + 1)).length + 1 ≤ 8796093022208 := by have := Tr.turnTo_len z2 z1 (i + 1); rw [HLEN.out] at this; omega
                clear hcc hcc2 x y z3 z4 hp hr hPQ hin hN2
                have hownd := (show OwnP wr.drew w.heap.size 38 _ (Tr.turnTo z2 z1 (i + 1)) from hown).below ((Below.refl _ wr.drew).alloc (Nat.le_refl _) (.cells #[.int .i64 r, .int .i64 p] 38))
                have hrd4 : RdP (wr.drew.alloc (.cells #[.int .i64 r, .int .i64 p] 38)) (wr.heap.size + 1) (some ⟨wr.heap.size, 0, none⟩) 1 1 [(r, p)] := RdP.one wr.drew _ _
                have hbase : w.heap.size ≤ (wr.drew.alloc (.cells #[.int .i64 r, .int .i64 p] 38)).heap.size := by simp; omega
                have hbb4 : Below w.heap.size w (wr.drew.alloc (.cells #[.int .i64 r, .int .i64 p] 38)) := hbel.drew.alloc hsz _
                have hkeep : ∀ w3 : World, Below w.heap.size w w3 → w3.cell? ⟨b1, o1 + i * 2, none⟩ = some (.int .i64 (P : Int)) ∧ w3.cell? ⟨b1, o1 + i * 2 + 1, none⟩ = some (.int .i64 (Q : Int)) ∧ w3.cell? ⟨b2, o2 + P, none⟩ = some (.int .i64 p) ∧ w3.cell? ⟨b2, o2 + Q, none⟩ = some (.int .i64 r) := fun w3 hb =>
                  ⟨((hb.cell (p := ⟨b1, o1 + i * 2, none⟩) hbb).trans (hbel.cell (p := ⟨b1, o1 + i * 2, none⟩) hbb).symm).trans g1, ((hb.cell (p := ⟨b1, o1 + i * 2 + 1, none⟩) hbb).trans (hbel.cell (p := ⟨b1, o1 + i * 2 + 1, none⟩) hbb).symm).trans g2,
                   ((hb.cell (p := ⟨b2, o2 + P, none⟩) hbb2).trans (hbel.cell (p := ⟨b2, o2 + P, none⟩) hbb2).symm).trans g3, ((hb.cell (p := ⟨b2, o2 + Q, none⟩) hbb2).trans (hbel.cell (p := ⟨b2, o2 + Q, none⟩) hbb2).symm).trans g4⟩
                have e0 := hkeep _ hbb4
                have HO := Lib.hid hownd
                have HK := Lib.hid hkeep
                clear hownd hkeep
                go_wp2
                go_region_held3 (fun w' : World => w'.cell? ⟨b1, o1 + i * 2, none⟩ = some (.int .i64 (P : Int)) ∧ w'.cell? ⟨b1, o1 + i * 2 + 1, none⟩ = some (.int .i64 (Q : Int)) ∧ w'.cell? ⟨b2, o2 + P, none⟩ = some (.int .i64 p) ∧ w'.cell? ⟨b2, o2 + Q, none⟩ = some (.int .i64 r)) (first | exact ⟨g1, g2, g3, g4⟩ | exact e0 | assumption)
                  (first
                    | (refine step_appP _ rfl (.tmp 72) (.tmp 90) 22 rfl w.heap.size 38 Try.underlying22 lineInfo _ (Tr.turnTo z2 z1 (i + 1)) rfl HO.out (some ⟨wr.heap.size, 0, none⟩) 1 1 [(r, p)] rfl hrd4 hlen hbase ?_; intro v3 w3 hown3 hg3 hat3; have hb3 := below_appP hbb4 HO.out hg3 hbase; have hk3 := HK.out w3 hb3))
                go_wp2
                go_roundw
                case rel => exact ⟨_, i, by omega, rfl, by omega, by rw [hnext.out]; exact hown3, hb3⟩
                case measure => simp [intOf]
              · obtain rfl : k = 0 := by omega
                obtain ⟨A5, c5, rfl, hr5⟩ := hown.rd
                obtain ⟨N5, hN5⟩ : ∃ N5, N5 = (Tr.turnTo z2 z1 0).length := ⟨_, rfl⟩
                rw [← hN5] at hr5 ⊢
                have HNO := Lib.hid (Name_ok m A5 N5 c5 (Tr.turnTo z2 z1 0) wr hr5 HT1.out)
                clear hr5 hown hN5 hj
                go_wp2_with fail
                refine HNO.out.mono ?_
                rintro e x7 ⟨rfl, hb7⟩
                rw [HT2.out, ← HX.out, ← HB.out]
                go_wp2
                go_ret
                exact ⟨by simp, hbel.trans (hb7.mono hbel.size)⟩
          · have HND := Lib.hid hnd
            clear hnd
            go_wp2_with fail
            refine (All_in a2 n2 c2 z2 0 q _ hs2 HA.out).mono ?_
            rintro e x3 ⟨rfl, rfl⟩
            go_wp2_with fail
            refine (Twice_any a2 n2 c2 z2 _ hs2 HND.out).mono ?_
            rintro e x4 ⟨rfl, hb4⟩
            go_wp2
            go_ret
            exact ⟨rfl, hb02.trans (hb4.mono hb02.size)⟩
        · have HA := Lib.hid hall
          clear hall
          go_wp2_with fail
          refine (All_no a2 n2 c2 z2 0 q _ hs2 HA.out).mono ?_
          rintro e x3 ⟨rfl, rfl⟩
          go_wp2
          go_ret
          exact ⟨rfl, hb02⟩
      · have hd3 : ((n2 : Int) != (m : Int)) = true := by simp; omega
        clear hn2
        go_wp2
        go_ret
        exact ⟨rfl, hb02⟩

theorem walk (w : World) (a0 : Int) (w0 : (Lit.int .i64 a0).wf = true) (a1 : Option Addr) (n1 c1 : Nat) (z1 : List Gr.Ln) (w1 : RdP w w.heap.size a1 n1 c1 z1) (a2 : Option Addr) (n2 c2 : Nat) (z2 : List Int) (w2 : Rd w w.heap.size a2 n2 c2 z2) :
    Calls Try.prog 4 #[.int .i64 a0, .slice a1 n1 c1, .slice a2 n2 c2] w fun e w' => e = .returned (.bool true) ∧ Below w.heap.size w w' := by
  rcases Tr.tcode_cases a0 z1 with ⟨m, rfl, h, _, _⟩ | h
  · exact good w m a1 n1 c1 z1 w1 a2 n2 c2 z2 w2 h
  · exact bad w a0 a1 n1 c1 z1 w1 a2 n2 c2 h

end Go.Proofs.Ytoofpmajiphldaa.treeName
