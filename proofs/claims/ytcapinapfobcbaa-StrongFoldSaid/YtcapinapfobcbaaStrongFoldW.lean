/-
  The walk of the law StrongFold: for every number of points and lines it returns true.
-/
import Derived.Test.YtcapinapfobcbaaStrongF
import Derived.Test.YtcapinapfobcbaaRefL
import Derived.Test.YtcapinapfobcbaaIn2
import Derived.Test.YtcapinapfobcbaaTopoO
import Derived.BigQuiet
namespace Go.Proofs.Ytcapinapfobcbaa.strongFold
open Go.RowKit
set_option linter.unusedSimpArgs false
set_option linter.unusedVariables false

theorem code_fold {m : Nat} {ls : List Gr.Ln} (h : Gr.code (m : Int) ls = 0) : Gr.code ((Sg.many m ls : Nat) : Int) (Sg.folded m ls) = 0 := by
  obtain ⟨h1, h2, h3, h4⟩ := Gr.code_zero.1 h
  have a := Sg.many_pos (ls := ls) (show 0 < m by omega)
  have b := Sg.many_le m ls
  have c := Sg.folded_len h4
  exact Gr.code_zero.2 ⟨by omega, by omega, by omega, Sg.folded_good⟩

set_option maxRecDepth 100000 in
set_option maxHeartbeats 1000000 in
/-- something is wrong with the lines -/
theorem bad (w : World) (a0 : Int) (a1 : Option Addr) (n1 c1 : Nat) (z1 : List Gr.Ln) (w1 : RdP w w.heap.size a1 n1 c1 z1) (hc : Gr.code a0 z1 ≠ 0) :
    Calls Try.prog 5 #[.int .i64 a0, .slice a1 n1 c1] w fun e w' => e = .returned (.bool true) ∧ Below w.heap.size w w' := by
  have HN := Lib.hid hc
  clear hc
  go_enter Try.func5, Try.ntmps5
  go_wp2_with fail
  refine (strongFact_any _).mono ?_
  rintro e x1 ⟨rfl, b1⟩
  go_wp2_with fail
  refine (Fold_code a0 a1 n1 c1 z1 _ (w1.past b1) HN.out).mono ?_
  rintro e x2 ⟨rfl, b2⟩
  go_wp2
  go_ret
  exact ⟨rfl, b1.trans (b2.mono b1.size)⟩

/-- what can be read at first: the numbers, the lines between parts -/
def S1 (w : World) (b1 o1 c1 m : Nat) (A2 : Option Addr) (L c2 : Nat) (ls : List Gr.Ln) (W : World) : Prop := Rd W W.heap.size (some ⟨b1, o1, none⟩) m c1 (Sg.nums m ls) ∧ RdP W W.heap.size A2 L c2 (Sg.folded m ls) ∧ Below w.heap.size w W
theorem S1.past {w W W' : World} {b1 o1 c1 m : Nat} {A2 : Option Addr} {L c2 : Nat} {ls : List Gr.Ln} (h : S1 w b1 o1 c1 m A2 L c2 ls W) (hb : Below W.heap.size W W') : S1 w b1 o1 c1 m A2 L c2 ls W' := ⟨h.1.past hb, h.2.1.past hb, h.2.2.trans (hb.mono h.2.2.size)⟩
theorem num_of {W : World} {b o m c : Nat} {ls : List Gr.Ln} (h : Rd W W.heap.size (some ⟨b, o, none⟩) m c (Sg.nums m ls)) {a : Nat} (ha : a < m) : W.cell? ⟨b, o + a, none⟩ = some (.int .i64 ((Sg.nm m ls a : Nat) : Int)) := by
  obtain ⟨b', o', e, _, hc⟩ := h.at_ (show 0 < m by omega)
  cases e
  have := hc a ha
  rwa [Sg.nums_at ha] at this
theorem row_of {W : World} {b o m c : Nat} {ls : List Gr.Ln} (h : RdR W W.heap.size (some ⟨b, o, none⟩) m c (Cl.crows m ls)) {a : Nat} (ha : a < m) : ∃ A' c', W.cell? ⟨b, o + a, none⟩ = some (.slice A' (Cl.crow m ls a).length c') ∧ Rd W W.heap.size A' (Cl.crow m ls a).length c' (Cl.crow m ls a) := by
  obtain ⟨b', o', e, _, hc⟩ := h.at_ (show 0 < m by omega)
  cases e
  obtain ⟨A', c', h1, h2⟩ := hc a ha
  rw [Cl.crows_at ls ha] at h1 h2
  exact ⟨A', c', h1, h2⟩
/-- what can be read at last: the numbers, the numbers folded once more, both tables of ways -/
def S2 (w : World) (b1 o1 c1 b2 o2 c2 b3 o3 c3 b4 o4 c4 m M : Nat) (ls fl : List Gr.Ln) (W : World) : Prop :=
  Rd W W.heap.size (some ⟨b1, o1, none⟩) m c1 (Sg.nums m ls) ∧ Rd W W.heap.size (some ⟨b2, o2, none⟩) M c2 (Sg.nums M fl) ∧ RdR W W.heap.size (some ⟨b3, o3, none⟩) m c3 (Cl.crows m ls) ∧ RdR W W.heap.size (some ⟨b4, o4, none⟩) M c4 (Cl.crows M fl) ∧ Below w.heap.size w W
theorem S2.past {w W W' : World} {b1 o1 c1 b2 o2 c2 b3 o3 c3 b4 o4 c4 m M : Nat} {ls fl : List Gr.Ln} (h : S2 w b1 o1 c1 b2 o2 c2 b3 o3 c3 b4 o4 c4 m M ls fl W) (hb : Below W.heap.size W W') : S2 w b1 o1 c1 b2 o2 c2 b3 o3 c3 b4 o4 c4 m M ls fl W' :=
  ⟨h.1.past hb, h.2.1.past hb, h.2.2.1.past hb, h.2.2.2.1.past hb, h.2.2.2.2.trans (hb.mono h.2.2.2.2.size)⟩

set_option maxRecDepth 100000 in
set_option maxHeartbeats 8000000 in
theorem good (w : World) (m : Nat) (a1 : Option Addr) (n1 c1 : Nat) (z1 : List Gr.Ln) (w1 : RdP w w.heap.size a1 n1 c1 z1) (h0 : Gr.code (m : Int) z1 = 0) :
    Calls Try.prog 5 #[.int .i64 (m : Int), .slice a1 n1 c1] w fun e w' => e = .returned (.bool true) ∧ Below w.heap.size w w' := by
  have hm8 : m ≤ 8 := by have := (Gr.code_zero.1 h0).2.1; omega
  have hm1 : 1 ≤ m := by have := (Gr.code_zero.1 h0).1; omega
  have HG := Lib.hid (Gr.code_zero.1 h0).2.2.2
  have H0 := Lib.hid h0
  have HF := Lib.hid (code_fold h0)
  have hfl := Nat.le_trans (Sg.folded_len HG.out) (show z1.length ≤ 24 by have := (Gr.code_zero.1 h0).2.2.1; omega)
  obtain ⟨o, ho1, ho2⟩ := Sg.fold_order HG.out
  obtain ⟨hf1, hf2, hf3⟩ := Sg.fold_fold HG.out
  have hMp := Sg.many_pos (ls := z1) (show 0 < m by omega)
  have hMm := Sg.many_le m z1
  have HSAME := Lib.hid (fun a b (ha : a < m) (hb : b < m) (hne : Sg.nm m z1 a ≠ Sg.nm m z1 b) => Sg.fold_same HG.out ha hb hne)
  have HNL := Lib.hid (fun a (ha : a < m) => Sg.nm_lt (ls := z1) ha)
  obtain ⟨M, hM⟩ : ∃ M, M = Sg.many m z1 := ⟨_, rfl⟩
  rw [← hM] at HF ho1 ho2 hf2 hf3 hMp hMm HSAME HNL
  have HM := Lib.hid hM
  have HO1 := Lib.hid ho1
  have HO2 := Lib.hid ho2
  have HF2 := Lib.hid hf2
  have HF3 := Lib.hid hf3
  clear h0 hM ho1 ho2 hf1 hf2 hf3
  go_enter Try.func5, Try.ntmps5
  go_wp2_with fail
  refine (strongFact_any _).mono ?_
  rintro e x1 ⟨rfl, b1⟩
  go_wp2_with fail
  refine (Fold_yes m a1 n1 c1 z1 _ (w1.past b1) H0.out).mono ?_
  rintro e x2 ⟨A2, c2, A3, L, c3, rfl, r2, r3, b2⟩
  have b02 := b1.trans (b2.mono b1.size)
  obtain ⟨bP, oP, rfl, _, _⟩ := r2.at_ (by omega)
  have hL24 : L ≤ 24 := by rw [← r3.len]; exact hfl
  have hLi : (L : Int) ≤ 24 := by omega
  have hLd : decide (24 < L) = false := by simp; omega
  have hLd2 : decide ((24 : Int) < (L : Int)) = false := by simp; omega
  have HS : S1 w bP oP c2 m A3 L c3 z1 x2 := ⟨r2, r3, b02⟩
  clear r2 r3 b1 b2 b02 hfl
  go_wp2
  go_loopw [9, 10] (fun kv iv wr => ∃ i k : Nat, i ≤ m ∧ iv = .int .i64 (i : Int) ∧ kv = .int .i64 (k : Int) ∧ k ≤ i ∧ Hid (k = Sg.below m z1 i) ∧ S1 w bP oP c2 m A3 L c3 z1 wr) (fun _ iv _ => m - (intOf iv).toNat)
  case atStart => exact ⟨0, 0, Nat.zero_le _, rfl, rfl, Nat.le_refl _, by show _ = _; rw [Sg.below_zero], HS⟩
  case round =>
    clear HS
    obtain ⟨i, k, hi, rfl, rfl, hki, HK, HS⟩ := hrel
    by_cases hlt : i < m
    · have i1 : (0 : Int) ≤ (i : Int) := by omega
      have i2 : (i : Int) < (m : Int) := by omega
      have g1 := num_of HS.1 hlt
      have hnx := Sg.nm_next (ls := z1) hlt
      obtain ⟨y, hy⟩ : ∃ y, y = Sg.nm m z1 i := ⟨_, rfl⟩
      rw [← hy] at g1 hnx
      rw [← HK.out] at hnx
      rcases hnx with ⟨hl, hyk⟩ | ⟨hl, hyk⟩
      · have HK2 : Hid (k + 1 = Sg.below m z1 (i + 1)) := by show _ = _; rw [Sg.below_hit hl, ← HK.out]
        subst hyk
        have HY : Hid ((0 : Int) ≤ (y : Int) ∧ (y : Int) ≤ (y : Int)) := by show _ ∧ _; omega
        clear hl hy
        go_wp2_with fail
        refine (in2_yes (y : Int) 0 (y : Int) _ HY.out.1 HY.out.2).mono ?_
        rintro e x4 ⟨rfl, rfl⟩
        go_wp2
        go_roundw
        case rel => exact ⟨i + 1, y + 1, by omega, by go_num, by go_num, by omega, HK2, HS⟩
        case measure => simp [intOf]; omega
      · have HK2 : Hid (k = Sg.below m z1 (i + 1)) := by show _ = _; rw [Sg.below_miss hl, ← HK.out]
        have HY : Hid ((0 : Int) ≤ (y : Int) ∧ (y : Int) ≤ (k : Int)) := by show _ ∧ _; omega
        have hd : ((y : Int) == (k : Int)) = false := by simp; omega
        clear hl hy hyk
        go_wp2_with fail
        refine (in2_yes (y : Int) 0 (k : Int) _ HY.out.1 HY.out.2).mono ?_
        rintro e x4 ⟨rfl, rfl⟩
        go_wp2
        go_roundw
        case rel => exact ⟨i + 1, k, by omega, by go_num, rfl, by omega, HK2, HS⟩
        case measure => simp [intOf]; omega
    · obtain rfl : i = m := by omega
      have hkM : k = M := HK.out.trans HM.out.symm
      subst hkM
      clear HK
      go_wp2_with fail
      refine (Order_yes k A3 L c3 (Sg.folded i z1) o _ HS.2.1 HF.out HO1.out HO2.out).mono ?_
      rintro e y1 ⟨A4, c4, rfl, _, b1⟩
      have HS1 := HS.past b1
      clear HS b1
      go_wp2_with fail
      refine (All_yes k A3 L c3 (Sg.folded i z1) _ HS1.2.1 HF.out).mono ?_
      rintro e y2 ⟨A5, c5, rfl, rX, b2⟩
      have HS2 := HS1.past b2
      clear HS1 b2
      go_wp2_with fail
      refine (All_yes i a1 n1 c1 z1 _ (w1.past HS2.2.2) H0.out).mono ?_
      rintro e y3 ⟨A6, c6, rfl, rM, b3⟩
      have HS3 := HS2.past b3
      have rX3 := rX.past b3
      clear HS2 b3 rX
      go_wp2_with fail
      refine (Fold_yes k A3 L c3 (Sg.folded i z1) _ HS3.2.1 HF.out).mono ?_
      rintro e y4 ⟨A7, c7, A8, L8, c8, rfl, rQ, rG, b4⟩
      have HS4 := HS3.past b4
      have rX4 := rX3.past b4
      have rM4 := rM.past b4
      clear HS3 b4 rX3 rM
      rw [HF3.out] at rG
      obtain rfl : L8 = L := by rw [← rG.len, ← HS4.2.1.len]
      obtain ⟨bQ, oQ, rfl, _, _⟩ := rQ.at_ (by omega)
      obtain ⟨bX, oX, rfl, _, _⟩ := rX4.at_ (by omega)
      obtain ⟨bM, oM, rfl, _, _⟩ := rM4.at_ (by omega)
      go_wp2_with fail
      refine (Lines_any _ _ L8 L8 _ _ _ _ true _ HS4.2.1 rG (by simp)).mono ?_
      rintro e y5 ⟨rfl, b5⟩
      have HT : S2 w bP oP c2 bQ oQ c7 bM oM c6 bX oX c5 i k z1 (Sg.folded i z1) y5 := ⟨HS4.1.past b5, rQ.past b5, rM4.past b5, rX4.past b5, HS4.2.2.trans (b5.mono HS4.2.2.size)⟩
      clear HS4 b5 rX4 rM4 rQ rG
      go_wp2
      go_loopw [20] (fun jv wr => ∃ j : Nat, j ≤ k ∧ jv = .int .i64 (j : Int) ∧ S2 w bP oP c2 bQ oQ c7 bM oM c6 bX oX c5 i k z1 (Sg.folded i z1) wr) (fun jv _ => k - (intOf jv).toNat)
      case atStart => exact ⟨0, Nat.zero_le _, rfl, HT⟩
      case round =>
        clear HT
        obtain ⟨j, hj, rfl, HT⟩ := hrel
        by_cases hlj : j < k
        · have j1 : (0 : Int) ≤ (j : Int) := by omega
          have j2 : (j : Int) < (k : Int) := by omega
          have g1 := num_of HT.2.1 hlj
          rw [HF2.out j hlj] at g1
          go_wp2
          go_roundw
          case rel => exact ⟨j + 1, by omega, by go_num, HT⟩
          case measure => simp [intOf]; omega
        · go_wp2
          go_loopw [21, 22] (fun av _ wr => ∃ a : Nat, a ≤ i ∧ av = .int .i64 (a : Int) ∧ S2 w bP oP c2 bQ oQ c7 bM oM c6 bX oX c5 i k z1 (Sg.folded i z1) wr) (fun av _ _ => i - (intOf av).toNat)
          case atStart => exact ⟨0, Nat.zero_le _, rfl, HT⟩
          case round =>
            clear HT
            obtain ⟨a, ha, rfl, HT⟩ := hrel
            by_cases hla : a < i
            · have a1' : (0 : Int) ≤ (a : Int) := by omega
              have a2' : (a : Int) < (i : Int) := by omega
              go_wp2
              go_loopw [22] (fun bv wr => ∃ b : Nat, b ≤ i ∧ bv = .int .i64 (b : Int) ∧ S2 w bP oP c2 bQ oQ c7 bM oM c6 bX oX c5 i k z1 (Sg.folded i z1) wr) (fun bv _ => i - (intOf bv).toNat)
              case atStart => exact ⟨0, Nat.zero_le _, rfl, HT⟩
              case round =>
                clear HT
                obtain ⟨b, hb, rfl, HT⟩ := hrel
                by_cases hlb : b < i
                · have b1' : (0 : Int) ≤ (b : Int) := by omega
                  have b2' : (b : Int) < (i : Int) := by omega
                  have g1 := num_of HT.1 hla
                  have g2 := num_of HT.1 hlb
                  have hsm := HSAME.out a b hla hlb
                  have ha3 := HNL.out a hla
                  have hb3 := HNL.out b hlb
                  obtain ⟨y1, hy1⟩ : ∃ y, y = Sg.nm i z1 a := ⟨_, rfl⟩
                  obtain ⟨y2, hy2⟩ : ∃ y, y = Sg.nm i z1 b := ⟨_, rfl⟩
                  rw [← hy1] at g1
                  rw [← hy2] at g2
                  rw [← hy1, ← hy2] at hsm
                  rw [← hy1] at ha3
                  rw [← hy2] at hb3
                  clear hy1 hy2
                  by_cases he : y1 = y2
                  · subst he
                    clear hsm
                    go_wp2
                    go_quiet (fail)
                    go_wp2
                    go_roundw
                    case rel => exact ⟨b + 1, by omega, by go_num, HT.past (Below.drewN' _ _ _)⟩
                    case measure => simp [intOf]; omega
                  · have hd : ((y1 : Int) != (y2 : Int)) = true := by simp; omega
                    have hsm' := hsm he
                    obtain ⟨A9, c9, g3, r3⟩ := row_of HT.2.2.1 hla
                    obtain ⟨A10, c10, g4, r4⟩ := row_of HT.2.2.2.1 ha3
                    obtain ⟨N3, hN3⟩ : ∃ N, N = (Cl.crow i z1 a).length := ⟨_, rfl⟩
                    obtain ⟨N4, hN4⟩ : ∃ N, N = (Cl.crow k (Sg.folded i z1) y1).length := ⟨_, rfl⟩
                    rw [← hN3] at g3 r3
                    rw [← hN4] at g4 r4
                    obtain ⟨t, ht⟩ : ∃ t, To.comes i z1 a b = t := ⟨_, rfl⟩
                    rw [ht] at hsm'
                    have HT1 : Hid ((Cl.crow i z1 a).contains (b : Int) = t) := by show _ = _; rw [Cl.crow_has hlb, ht]
                    have HT2 : Hid ((Cl.crow k (Sg.folded i z1) y1).contains (y2 : Int) = t) := by show _ = _; rw [Cl.crow_has hb3, hsm']
                    have d1 : (t != t) = false := by cases t <;> rfl
                    have y1' : (0 : Int) ≤ (y1 : Int) := by omega
                    have y2' : (y1 : Int) < (k : Int) := by omega
                    clear hN3 hN4 ht hsm hsm' he
                    go_wp2
                    go_quiet (first
                      | (go_at_call 11; with_reducible exact Calls.quiet_of_same ((Has_any A9 N3 c9 (Cl.crow i z1 a) (b : Int) t _ (r3.drewN _) HT1.out).mono fun _ _ h => ⟨h.1, h.2.symm⟩))
                      | (go_at_call 11; with_reducible exact Calls.quiet_of_same ((Has_any A10 N4 c10 (Cl.crow k (Sg.folded i z1) y1) (y2 : Int) t _ (r4.drewN _) HT2.out).mono fun _ _ h => ⟨h.1, h.2.symm⟩)))
                    go_wp2
                    go_roundw
                    case rel => exact ⟨b + 1, by omega, by go_num, HT.past (Below.drewN' _ _ _)⟩
                    case measure => simp [intOf]; omega
                · go_wp2
                  go_roundw
                  case rel => exact ⟨a + 1, by omega, by go_num, HT⟩
                  case measure => simp [intOf]; omega
            · go_wp2
              go_ret
              exact ⟨rfl, HT.2.2.2.2⟩

theorem walk (w : World) (a0 : Int) (w0 : (Lit.int .i64 a0).wf = true) (a1 : Option Addr) (n1 c1 : Nat) (z1 : List Gr.Ln) (w1 : RdP w w.heap.size a1 n1 c1 z1) :
    Calls Try.prog 5 #[.int .i64 a0, .slice a1 n1 c1] w fun e w' => e = .returned (.bool true) ∧ Below w.heap.size w w' := by
  by_cases h : Gr.code a0 z1 = 0
  · obtain ⟨m, rfl⟩ : ∃ m : Nat, a0 = (m : Int) := ⟨a0.toNat, by have := (Gr.code_zero.1 h).1; omega⟩
    exact good w m a1 n1 c1 z1 w1 h
  · exact bad w a0 a1 n1 c1 z1 w1 h

end Go.Proofs.Ytcapinapfobcbaa.strongFold
