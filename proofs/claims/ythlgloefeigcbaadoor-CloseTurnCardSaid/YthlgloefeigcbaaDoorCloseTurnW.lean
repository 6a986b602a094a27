/-
  The walk of the law CloseTurn: for every number of points and lines it returns true, where the library's variable errors.errorType holds what its initialiser lays. The lines take at most 2^47 - 4096 bytes, as every slice that is read.
-/
import Derived.Test.YthlgloefeigcbaaDoorCloseF
import Derived.Test.YthlgloefeigcbaaDoorErrS
import Derived.Test.YthlgloefeigcbaaDoorRefL
namespace Go.Proofs.YthlgloefeigcbaaDoor.closeTurn
open Go.RowKit
set_option linter.unusedSimpArgs false
set_option linter.unusedVariables false

theorem back_same (ls : List Gr.Ln) : Gr.back (Gr.back ls) = ls := by
  unfold Gr.back
  rw [List.map_reverse, List.reverse_reverse, List.map_map]
  exact List.map_id'' (fun _ => rfl) ls
theorem back_bad {n : Int} {ls : List Gr.Ln} (h : Gr.code n ls ≠ 0) : Gr.code n (Gr.back ls) ≠ 0 := fun e => h (by rw [← back_same ls]; exact Gr.code_back e)
theorem back_stuck {n : Nat} {ls : List Gr.Ln} (hg : ∀ p ∈ ls, Gr.Good (n : Int) p) {o : List Int} (h : To.Step n ls o) (hk : To.Stuck n ls o) (hl : o.length < n) : ∃ o', To.Step n (Gr.back ls) o' ∧ To.Stuck n (Gr.back ls) o' ∧ o'.length < n := by
  obtain ⟨o', h1, h2⟩ := To.Step.all n (Gr.back ls)
  refine ⟨o', h1, h2, ?_⟩
  rcases Nat.lt_or_ge o'.length n with h3 | h3
  · exact h3
  · exact absurd (h.ring hg hl hk).back (h1.no_ring (Nat.le_antisymm h1.le h3))
theorem Back_rd (A : Option Addr) (n c : Nat) (ls : List Gr.Ln) (w : World) (hr : RdP w w.heap.size A n c ls) (hn : n * 16 ≤ 140737488351232) :
    Calls Tryd.prog 16 #[.slice A n c] w fun e w' => ∃ A1 c1, e = .returned (.slice A1 n c1) ∧ RdP w' w'.heap.size A1 n c1 (Gr.back ls) ∧ Below w.heap.size w w' := by
  have hl := hr.len
  refine (Back_any A n c ls w hr (by omega)).mono ?_
  rintro e w' ⟨v, rfl, hown, hb⟩
  obtain ⟨A1, c1, rfl, hrd⟩ := hown.rd
  rw [Gr.back_len, hl] at hrd ⊢
  exact ⟨A1, c1, rfl, hrd, hb⟩

/-- in the midst: both rows, and the lines, can be read -/
def Both (w : World) (b1 o1 b2 o2 m c1 c2 : Nat) (ls : List Gr.Ln) (W : World) : Prop := RdR W W.heap.size (some ⟨b1, o1, none⟩) m c1 (Cl.crows m ls) ∧ RdR W W.heap.size (some ⟨b2, o2, none⟩) m c2 (Cl.crows m (Gr.back ls)) ∧ Below w.heap.size w W
theorem Both.past {w W W' : World} {b1 o1 b2 o2 m c1 c2 : Nat} {ls : List Gr.Ln} (h : Both w b1 o1 b2 o2 m c1 c2 ls W) (hb : Below W.heap.size W W') : Both w b1 o1 b2 o2 m c1 c2 ls W' := ⟨h.1.past hb, h.2.1.past hb, h.2.2.trans (hb.mono h.2.2.size)⟩
theorem row_of {W : World} {b o m c : Nat} {ls : List Gr.Ln} (h : RdR W W.heap.size (some ⟨b, o, none⟩) m c (Cl.crows m ls)) {a : Nat} (ha : a < m) : ∃ A' c', W.cell? ⟨b, o + a, none⟩ = some (.slice A' (Cl.crow m ls a).length c') ∧ Rd W W.heap.size A' (Cl.crow m ls a).length c' (Cl.crow m ls a) := by
  obtain ⟨b', o', e, _, hc⟩ := h.at_ (show 0 < m by omega)
  cases e
  obtain ⟨A', c', h1, h2⟩ := hc a ha
  rw [Cl.crows_at ls ha] at h1 h2
  exact ⟨A', c', h1, h2⟩

set_option maxRecDepth 100000 in
set_option maxHeartbeats 1000000 in
/-- something is wrong with the lines -/
theorem bad (w : World) (a0 : Int) (a1 : Option Addr) (n1 c1 : Nat) (z1 : List Gr.Ln) (w1 : RdP w w.heap.size a1 n1 c1 z1) (s1 : n1 * 16 ≤ 140737488351232) (hc : Gr.code a0 z1 ≠ 0) :
    Calls Tryd.prog 4 #[.int .i64 a0, .slice a1 n1 c1] w fun e w' => e = .returned (.bool true) ∧ Below w.heap.size w w' := by
  have HN := Lib.hid hc
  have HB : Hid (Gr.code a0 (Gr.back z1) ≠ 0) := back_bad hc
  have HS := Lib.hid s1
  clear hc s1
  go_enter Tryd.func4, Tryd.ntmps4
  go_wp2_with fail
  refine (closeFact_any _).mono ?_
  rintro e x1 ⟨rfl, b1⟩
  go_wp2_with fail
  refine (All_code a0 a1 n1 c1 z1 _ (w1.past b1) HN.out).mono ?_
  rintro e x2 ⟨rfl, b2⟩
  have b02 := b1.trans (b2.mono b1.size)
  go_wp2_with fail
  refine (Back_rd a1 n1 c1 z1 _ (w1.past b02) HS.out).mono ?_
  rintro e x3 ⟨A3, c3, rfl, r3, b3⟩
  have b03 := b02.trans (b3.mono b02.size)
  go_wp2_with fail
  refine (All_code a0 A3 n1 c3 _ _ r3 HB.out).mono ?_
  rintro e x4 ⟨rfl, b4⟩
  have b04 := b03.trans (b4.mono b03.size)
  go_wp2
  go_ret
  exact ⟨rfl, b04⟩

set_option maxRecDepth 100000 in
set_option maxHeartbeats 4000000 in
theorem good (w : World) (het : tld.EtIs w) (m : Nat) (a1 : Option Addr) (n1 c1 : Nat) (z1 : List Gr.Ln) (w1 : RdP w w.heap.size a1 n1 c1 z1) (s1 : n1 * 16 ≤ 140737488351232) (h0 : Gr.code (m : Int) z1 = 0) :
    Calls Tryd.prog 4 #[.int .i64 (m : Int), .slice a1 n1 c1] w fun e w' => e = .returned (.bool true) ∧ Below w.heap.size w w' := by
  have hm8 : m ≤ 8 := by have := (Gr.code_zero.1 h0).2.1; omega
  have hm1 : 1 ≤ m := by have := (Gr.code_zero.1 h0).1; omega
  have HG := Lib.hid (Gr.code_zero.1 h0).2.2.2
  have H0 := Lib.hid h0
  have HB : Hid (Gr.code (m : Int) (Gr.back z1) = 0) := Gr.code_back h0
  have HS := Lib.hid s1
  obtain ⟨o, hs, hk⟩ := To.Step.all m z1
  have HO : Hid ((o.length < m ∧ ∃ o2, To.Step m (Gr.back z1) o2 ∧ To.Stuck m (Gr.back z1) o2 ∧ o2.length < m) ∨ (o.length = m ∧ ∃ o2, To.Step m (Gr.back z1) o2 ∧ o2.length = m)) := by
    rcases Nat.lt_or_ge o.length m with hl | hl
    · exact .inl ⟨hl, back_stuck HG.out hs hk hl⟩
    · have hl' := Nat.le_antisymm hs.le hl
      exact .inr ⟨hl', To.order_turn HG.out hs hl'⟩
  clear h0 s1
  go_enter Tryd.func4, Tryd.ntmps4
  go_wp2_with fail
  refine (closeFact_any _).mono ?_
  rintro e x1 ⟨rfl, b1⟩
  go_wp2_with fail
  refine (All_yes m a1 n1 c1 z1 _ (w1.past b1) H0.out).mono ?_
  rintro e x2 ⟨A2, c2, rfl, r2, b2⟩
  have b02 := b1.trans (b2.mono b1.size)
  obtain ⟨bA, oA, rfl, _, _⟩ := r2.at_ (by omega)
  go_wp2_with fail
  refine (Back_rd a1 n1 c1 z1 _ (w1.past b02) HS.out).mono ?_
  rintro e x3 ⟨A3, c3, rfl, r3, b3⟩
  have b03 := b02.trans (b3.mono b02.size)
  go_wp2_with fail
  refine (All_yes m A3 n1 c3 _ _ r3 HB.out).mono ?_
  rintro e x4 ⟨A4, c4, rfl, r4, b4⟩
  have b04 := b03.trans (b4.mono b03.size)
  obtain ⟨bB, oB, rfl, _, _⟩ := r4.at_ (by omega)
  have HW : Both w bA oA bB oB m c2 c4 z1 x4 := ⟨(r2.past b3).past b4, r4, b04⟩
  clear b1 b2 b3 b4 b02 b03 b04 r2 r3 r4
  go_wp2
  go_loopw [10, 11] (fun iv _ wr => ∃ a : Nat, a ≤ m ∧ iv = .int .i64 (a : Int) ∧ Both w bA oA bB oB m c2 c4 z1 wr) (fun iv _ _ => m - (intOf iv).toNat)
  case atStart => exact ⟨0, Nat.zero_le _, rfl, HW⟩
  case round =>
    clear HW
    obtain ⟨a, ha, rfl, HW⟩ := hrel
    by_cases hlt : a < m
    · have a1' : (0 : Int) ≤ (a : Int) := by omega
      have a2' : (a : Int) < (m : Int) := by omega
      go_wp2
      go_loopw [11] (fun iv wr => ∃ b : Nat, b ≤ m ∧ iv = .int .i64 (b : Int) ∧ Both w bA oA bB oB m c2 c4 z1 wr) (fun iv _ => m - (intOf iv).toNat)
      case atStart => exact ⟨0, Nat.zero_le _, rfl, HW⟩
      case round =>
        clear HW
        obtain ⟨b, hb, rfl, HW⟩ := hrel
        by_cases hlb : b < m
        · have b1' : (0 : Int) ≤ (b : Int) := by omega
          have b2' : (b : Int) < (m : Int) := by omega
          obtain ⟨A5, c5, g5, r5⟩ := row_of HW.1 hlt
          obtain ⟨A6, c6, g6, r6⟩ := row_of HW.2.1 hlb
          obtain ⟨N5, hN5⟩ : ∃ N, N = (Cl.crow m z1 a).length := ⟨_, rfl⟩
          obtain ⟨N6, hN6⟩ : ∃ N, N = (Cl.crow m (Gr.back z1) b).length := ⟨_, rfl⟩
          rw [← hN5] at g5 r5
          rw [← hN6] at g6 r6
          clear hN5 hN6
          obtain ⟨t, ht⟩ : ∃ t, To.comes m z1 a b = t := ⟨_, rfl⟩
          have HT : Hid ((Cl.crow m z1 a).contains (b : Int) = t) := by show _ = _; rw [Cl.crow_has hlb, ht]
          have HT2 : Hid ((Cl.crow m (Gr.back z1) b).contains (a : Int) = t) := by show _ = _; rw [Cl.crow_has hlt, Cl.way_turn HG.out hlt hlb, ht]
          clear ht
          have d1 : (t != t) = false := by cases t <;> rfl
          go_wp2
          go_quiet (first
            | (go_at_call 17; with_reducible exact Calls.quiet_of_same ((Has_any A5 N5 c5 (Cl.crow m z1 a) (b : Int) t _ (r5.drewN _) HT.out).mono fun _ _ h => ⟨h.1, h.2.symm⟩))
            | (go_at_call 17; with_reducible exact Calls.quiet_of_same ((Has_any A6 N6 c6 (Cl.crow m (Gr.back z1) b) (a : Int) t _ (r6.drewN _) HT2.out).mono fun _ _ h => ⟨h.1, h.2.symm⟩)))
          go_wp2
          go_roundw
          case rel => exact ⟨b + 1, by omega, by go_num, HW.past (Below.drewN' _ _ _)⟩
          case measure => simp [intOf]; omega
        · go_wp2
          go_roundw
          case rel => exact ⟨a + 1, by omega, by go_num, HW⟩
          case measure => simp [intOf]; omega
    · obtain ⟨q1, q2, bw⟩ := HW
      clear q1 q2
      rcases HO.out with ⟨hl, o2, h2, k2, l2⟩ | ⟨hl, o2, h2, l2⟩
      · have HL := Lib.hid hl
        have HL2 := Lib.hid l2
        clear hl l2
        go_wp2_with fail
        refine (Few_none m a1 n1 c1 z1 o _ (w1.past bw) H0.out hs hk HL.out).mono ?_
        rintro e y1 ⟨rfl, b1⟩
        have b01 := bw.trans (b1.mono bw.size)
        go_wp2_with fail
        refine (Back_rd a1 n1 c1 z1 _ (w1.past b01) HS.out).mono ?_
        rintro e y2 ⟨A8, c8, rfl, r8, b2⟩
        have b02 := b01.trans (b2.mono b01.size)
        go_wp2_with fail
        refine (Few_none m A8 n1 c8 _ o2 _ r8 HB.out h2 k2 HL2.out).mono ?_
        rintro e y3 ⟨rfl, b3⟩
        have b03 := b02.trans (b3.mono b02.size)
        go_wp2_with fail
        refine (Err_same 5 _ (het.below b03)).mono ?_
        rintro e y4 ⟨rfl, b4⟩
        have b04 := b03.trans (b4.mono b03.size)
        go_wp2_with fail
        refine (Err_same 5 _ (het.below b04)).mono ?_
        rintro e y5 ⟨rfl, b5⟩
        go_wp2
        go_ret
        exact ⟨rfl, b04.trans (b5.mono b04.size)⟩
      · have HL := Lib.hid hl
        have HL2 := Lib.hid l2
        clear hl l2
        go_wp2_with fail
        refine (Few_yes m a1 n1 c1 z1 o _ (w1.past bw) H0.out hs HL.out).mono ?_
        rintro e y1 ⟨A7, c7, N, rfl, r7, b1⟩
        have b01 := bw.trans (b1.mono bw.size)
        go_wp2_with fail
        refine (Back_rd a1 n1 c1 z1 _ (w1.past b01) HS.out).mono ?_
        rintro e y2 ⟨A8, c8, rfl, r8, b2⟩
        have b02 := b01.trans (b2.mono b01.size)
        go_wp2_with fail
        refine (Few_yes m A8 n1 c8 _ o2 _ r8 HB.out h2 HL2.out).mono ?_
        rintro e y3 ⟨A9, c9, N9, rfl, r9, b3⟩
        have b03 := b02.trans (b3.mono b02.size)
        have r7 := (r7.past b2).past b3
        have e9 : N = N9 := by rw [← r7.len, ← r9.len]; exact Cl.few_turn HG.out
        subst e9
        have HNL := Lib.hid r7.len
        have hN7 := r7.big
        have H3 : Hid (RdP y3 y3.heap.size A7 N c7 (Cl.few m z1) ∧ RdP y3 y3.heap.size A9 N c9 (Cl.few m (Gr.back z1)) ∧ Below w.heap.size w y3) := ⟨r7, r9, b03⟩
        clear r7 r8 r9 b1 b2 b3 b01 b02 b03
        go_wp2
        go_loopw [14] (fun iv wr => ∃ i : Nat, i ≤ N ∧ iv = .int .i64 (i : Int) ∧ Hid (RdP wr wr.heap.size A7 N c7 (Cl.few m z1) ∧ RdP wr wr.heap.size A9 N c9 (Cl.few m (Gr.back z1)) ∧ Below w.heap.size w wr)) (fun iv _ => N - (intOf iv).toNat)
        case atStart => exact ⟨0, Nat.zero_le _, rfl, H3⟩
        case round =>
          clear H3
          obtain ⟨i, hi, rfl, H⟩ := hrel
          obtain ⟨r7, r9, b5⟩ := H.out
          by_cases hli : i < N
          · obtain ⟨b1, o1, rfl, hbb, hcc⟩ := r7.at_ (by omega)
            obtain ⟨g1, g2⟩ := hcc i hli
            clear hcc
            have hmem : (Cl.few m z1).getD i (0, 0) ∈ Cl.few m z1 := by
              have : i < (Cl.few m z1).length := by rw [HNL.out]; exact hli
              simp [List.getD, this]
            obtain ⟨x, y, hxy, hx, hy, hth⟩ := Cl.lst_ends hmem
            rw [hxy] at g1 g2
            simp only at g1 g2
            have HT : Hid (Gr.has (Cl.few m (Gr.back z1)) (y : Int) (x : Int) = true) := Gr.has_iff.2 (Cl.mem_lst.2 ⟨hy, hx, by rw [Cl.thin_turn HG.out hx hy]; exact hth⟩)
            have i1 : (0 : Int) ≤ (i : Int) := by omega
            have i2 : (i : Int) < (N : Int) := by omega
            clear hmem hxy hth r7 b5
            go_wp2
            go_quiet (first | (go_at_call 7; exact Calls.quiet_of_same ((RefL.Goes_any _ _ _ _ (y : Int) (x : Int) true _ (r9.drewN _) HT.out).mono fun _ _ h => ⟨h.1, h.2.symm⟩)))
            go_wp2
            go_roundw
            case rel => exact ⟨i + 1, by omega, by go_num, ⟨(H.out.1).past (Below.drewN' _ _ _), (H.out.2.1).past (Below.drewN' _ _ _), H.out.2.2.trans (Below.drewN' _ _ _)⟩⟩
            case measure => simp [intOf]; omega
          · clear r7 r9
            go_wp2
            go_ret
            exact ⟨rfl, b5⟩

theorem walk (w : World) (het : tld.EtIs w) (a0 : Int) (w0 : (Lit.int .i64 a0).wf = true) (a1 : Option Addr) (n1 c1 : Nat) (z1 : List Gr.Ln) (w1 : RdP w w.heap.size a1 n1 c1 z1) (s1 : n1 * 16 ≤ 140737488351232) :
    Calls Tryd.prog 4 #[.int .i64 a0, .slice a1 n1 c1] w fun e w' => e = .returned (.bool true) ∧ Below w.heap.size w w' := by
  by_cases h : Gr.code a0 z1 = 0
  · obtain ⟨m, rfl⟩ : ∃ m : Nat, a0 = (m : Int) := ⟨a0.toNat, by have := (Gr.code_zero.1 h).1; omega⟩
    exact good w het m a1 n1 c1 z1 w1 s1 h
  · exact bad w a0 a1 n1 c1 z1 w1 s1 h

end Go.Proofs.YthlgloefeigcbaaDoor.closeTurn
