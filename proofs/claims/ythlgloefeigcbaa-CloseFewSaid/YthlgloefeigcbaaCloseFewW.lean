/-
  The walk of the law CloseFew: for every number of points and lines and every place it returns true.
-/
import Derived.Test.YthlgloefeigcbaaCloseF
import Derived.Test.YthlgloefeigcbaaRefL
import Derived.Test.YthlgloefeigcbaaRefBut
import Derived.Test.YthlgloefeigcbaaIn2
import Derived.BigQuiet
namespace Go.Proofs.Ythlgloefeigcbaa.closeFew
open Go.RowKit
set_option linter.unusedSimpArgs false
set_option linter.unusedVariables false

theorem not_in_erase {l : List Gr.Ln} (h : l.Nodup) {i : Nat} (hi : i < l.length) : l[i] ∉ l.eraseIdx i := by
  rw [List.mem_eraseIdx_iff_getElem]
  rintro ⟨j, hj, hne, e⟩
  have hp := List.pairwise_iff_getElem.1 (show List.Pairwise (· ≠ ·) l from h)
  rcases Nat.lt_or_gt_of_ne hne with h1 | h1
  · exact hp j i hj hi h1 e
  · exact hp i j hi hj h1 e.symm
/-- without any one of them the ways are others -/
theorem few_other {m : Nat} {ls : List Gr.Ln} (hg : ∀ p ∈ ls, Gr.Good (m : Int) p) {k : Nat} (hk : k < (Cl.few m ls).length) : Cl.crows m ls ≠ Cl.crows m ((Cl.few m ls).eraseIdx k) := by
  have hmem : (Cl.few m ls)[k] ∈ Cl.few m ls := List.getElem_mem hk
  obtain ⟨a, b, e, ha, hb, ht⟩ := Cl.lst_ends hmem
  have hno := not_in_erase (Cl.lst_nodup m _) hk
  have hno' : (Cl.few m ls)[k] ∉ (Cl.few m ls).eraseIdx k := hno
  rw [e] at hno'
  have h1 := Cl.few_least hg ha ht (ks := (Cl.few m ls).eraseIdx k) (fun p hp => List.mem_of_mem_eraseIdx hp) hno'
  exact Cl.crows_ne ha hb (by rw [h1, (Cl.thin_iff.1 ht).1]; simp)

set_option maxRecDepth 100000 in
set_option maxHeartbeats 1000000 in
/-- something is wrong with the lines -/
theorem bad (w : World) (a0 : Int) (a1 : Option Addr) (n1 c1 : Nat) (z1 : List Gr.Ln) (w1 : RdP w w.heap.size a1 n1 c1 z1) (a2 : Int) (hc : Gr.code a0 z1 ≠ 0) :
    Calls Try.prog 4 #[.int .i64 a0, .slice a1 n1 c1, .int .i64 a2] w fun e w' => e = .returned (.bool true) ∧ Below w.heap.size w w' := by
  have HN := Lib.hid hc
  clear hc
  go_enter Try.func4, Try.ntmps4
  go_wp2_with fail
  refine (closeFact_any _).mono ?_
  rintro e x1 ⟨rfl, b1⟩
  go_wp2_with fail
  refine (Few_code a0 a1 n1 c1 z1 _ (w1.past b1) HN.out).mono ?_
  rintro e x2 ⟨rfl, b2⟩
  go_wp2
  go_ret
  exact ⟨rfl, b1.trans (b2.mono b1.size)⟩

set_option maxRecDepth 100000 in
set_option maxHeartbeats 1000000 in
/-- there is no order -/
theorem none_ (w : World) (m : Nat) (a1 : Option Addr) (n1 c1 : Nat) (z1 : List Gr.Ln) (o : List Int) (w1 : RdP w w.heap.size a1 n1 c1 z1) (a2 : Int) (h0 : Gr.code (m : Int) z1 = 0) (hs : To.Step m z1 o) (hk : To.Stuck m z1 o) (hl : o.length < m) :
    Calls Try.prog 4 #[.int .i64 (m : Int), .slice a1 n1 c1, .int .i64 a2] w fun e w' => e = .returned (.bool true) ∧ Below w.heap.size w w' := by
  have H0 := Lib.hid h0
  have HL := Lib.hid hl
  clear h0 hl
  go_enter Try.func4, Try.ntmps4
  go_wp2_with fail
  refine (closeFact_any _).mono ?_
  rintro e x1 ⟨rfl, b1⟩
  go_wp2_with fail
  refine (Few_none m a1 n1 c1 z1 o _ (w1.past b1) H0.out hs hk HL.out).mono ?_
  rintro e x2 ⟨rfl, b2⟩
  go_wp2
  go_ret
  exact ⟨rfl, b1.trans (b2.mono b1.size)⟩

set_option maxRecDepth 100000 in
set_option maxHeartbeats 4000000 in
/-- there is one -/
theorem good (w : World) (m : Nat) (a1 : Option Addr) (n1 c1 : Nat) (z1 : List Gr.Ln) (o : List Int) (w1 : RdP w w.heap.size a1 n1 c1 z1) (a2 : Int) (h0 : Gr.code (m : Int) z1 = 0) (hs : To.Step m z1 o) (hl : o.length = m) :
    Calls Try.prog 4 #[.int .i64 (m : Int), .slice a1 n1 c1, .int .i64 a2] w fun e w' => e = .returned (.bool true) ∧ Below w.heap.size w w' := by
  have hm8 : m ≤ 8 := by have := (Gr.code_zero.1 h0).2.1; omega
  have hm1 : 1 ≤ m := by have := (Gr.code_zero.1 h0).1; omega
  have HG := Lib.hid (Gr.code_zero.1 h0).2.2.2
  have HX := Lib.hid w1.len
  have h24 : n1 ≤ 24 := by have := (Gr.code_zero.1 h0).2.2.1; rw [HX.out] at this; exact this
  have hbig := w1.big
  have HFL : Hid ((Cl.few m z1).length ≤ n1) := by show _ ≤ _; have := Cl.few_len HG.out; rw [HX.out] at this; exact this
  have HF0 : Hid (Gr.code (m : Int) (Cl.few m z1) = 0) := Gr.code_zero.2 ⟨by omega, by omega, by have := HFL.out; omega, Cl.few_good HG.out⟩
  have HFC : Hid (Cl.crows m (Cl.few m z1) = Cl.crows m z1) := Cl.crows_same fun a b ha _ => Cl.few_way HG.out hs hl ha
  have H0 := Lib.hid h0
  have HST := Lib.hid hs
  have HL := Lib.hid hl
  clear h0 hs hl
  go_enter Try.func4, Try.ntmps4
  go_wp2_with fail
  refine (closeFact_any _).mono ?_
  rintro e x1 ⟨rfl, b1⟩
  go_wp2_with fail
  refine (Few_yes m a1 n1 c1 z1 o _ (w1.past b1) H0.out HST.out HL.out).mono ?_
  rintro e x2 ⟨A2, c2, N, rfl, r2, b2⟩
  have b02 := b1.trans (b2.mono b1.size)
  have HNL := Lib.hid r2.len
  have hN : N ≤ n1 := by have := HFL.out; have := HNL.out; omega
  go_wp2_with fail
  refine (All_yes m a1 n1 c1 z1 _ (w1.past b02) H0.out).mono ?_
  rintro e x3 ⟨A3, c3, rfl, r3, b3⟩
  have b03 := b02.trans (b3.mono b02.size)
  have r2 := r2.past b3
  go_wp2_with fail
  refine (All_yes m A2 N c2 _ _ r2 HF0.out).mono ?_
  rintro e x4 ⟨A4, c4, rfl, r4, b4⟩
  have b04 := b03.trans (b4.mono b03.size)
  have r2 := r2.past b4
  have r3 := r3.past b4
  rw [HFC.out] at r4
  clear b1 b2 b3 b4 b02 b03
  go_wp2_with fail
  refine (Rows_any _ _ m m _ _ _ _ true _ r3 r4 (by simp)).mono ?_
  rintro e x5 ⟨rfl, b5⟩
  have b05 := b04.trans (b5.mono b04.size)
  have r2 := r2.past b5
  have r3 := r3.past b5
  have r1 := w1.past b05
  clear r4 b04 b5 w1
  have H05 := Lib.hid b05
  clear b05
  obtain ⟨q, hq⟩ : ∃ q : Int, q = (N : Int) - 1 := ⟨_, rfl⟩
  have hwr : IntKind.i64.wrap ((N : Int) - 1) = q := by rw [IntKind.wrap_i64] <;> omega
  have HQ := Lib.hid hq
  clear hq
  go_wp2
  go_loopw [14] (fun iv wr => ∃ i : Nat, i ≤ N ∧ iv = .int .i64 (i : Int) ∧ Hid (RdP wr wr.heap.size A2 N c2 (Cl.few m z1) ∧ RdR wr wr.heap.size A3 m c3 (Cl.crows m z1) ∧ RdP wr wr.heap.size a1 n1 c1 z1 ∧ Below w.heap.size w wr)) (fun iv _ => N - (intOf iv).toNat)
  case atStart => exact ⟨0, Nat.zero_le _, rfl, ⟨r2, r3, r1, H05.out⟩⟩
  case round =>
    clear r2 r3 r1
    obtain ⟨i, hi, rfl, H⟩ := hrel
    obtain ⟨r2, r3, r1, b5⟩ := H.out
    by_cases hlt : i < N
    · obtain ⟨b1, o1, rfl, hbb, hcc⟩ := r2.at_ (by omega)
      obtain ⟨g1, g2⟩ := hcc i hlt
      clear hcc
      have hmem : (Cl.few m z1).getD i (0, 0) ∈ Cl.few m z1 := by
        have : i < (Cl.few m z1).length := by rw [HNL.out]; exact hlt
        simp [List.getD, this]
      obtain ⟨⟨p, r⟩, hp⟩ : ∃ p, p = (Cl.few m z1).getD i (0, 0) := ⟨_, rfl⟩
      rw [← hp] at g1 g2 hmem
      simp only at g1 g2
      have HT : Hid (Gr.has z1 p r = true) := Gr.has_iff.2 (Cl.few_sub HG.out _ hmem)
      have HN := Lib.hid (show RdP (wr.drewN 0) wr.heap.size a1 n1 c1 z1 from r1)
      have i1 : (0 : Int) ≤ (i : Int) := by omega
      have i2 : (i : Int) < (N : Int) := by omega
      clear hp hmem r3 r2 b5
      go_wp2
      go_quiet (first | (go_at_call 12; exact Calls.quiet_of_same ((RefL.Goes_any _ _ _ _ p r true _ (r1.drewN _) HT.out).mono fun _ _ h => ⟨h.1, h.2.symm⟩)))
      go_wp2
      go_roundw
      case rel => exact ⟨i + 1, by omega, by go_num, ⟨(H.out.1).past (Below.drewN' _ _ _), (H.out.2.1).past (Below.drewN' _ _ _), (H.out.2.2.1).past (Below.drewN' _ _ _), H.out.2.2.2.trans (Below.drewN' _ _ _)⟩⟩
      case measure => simp [intOf]; omega
    · obtain rfl : N = i := by omega
      by_cases hin : 0 ≤ a2 ∧ a2 ≤ q
      · obtain ⟨hi1, hi2⟩ := hin
        obtain ⟨k, rfl⟩ : ∃ k : Nat, a2 = (k : Int) := ⟨a2.toNat, by omega⟩
        have hkN : k < N := by have := HQ.out; omega
        have HNE : Hid (decide (Cl.crows m z1 = Cl.crows m ((Cl.few m z1).eraseIdx k)) = false) := by
          show _ = _
          have := few_other HG.out (k := k) (by rw [HNL.out]; exact hkN)
          simpa using this
        have HE0 : Hid (Gr.code (m : Int) ((Cl.few m z1).eraseIdx k) = 0) := by
          refine Gr.code_zero.2 ⟨by omega, by omega, ?_, fun p hp => Cl.few_good HG.out p (List.mem_of_mem_eraseIdx hp)⟩
          have := List.length_eraseIdx_le (Cl.few m z1) k
          rw [HNL.out] at this
          omega
        clear r1
        go_wp2_with fail
        refine (in2_yes _ _ _ _ hi1 hi2).mono ?_
        rintro e y ⟨rfl, rfl⟩
        go_wp2_with fail
        refine (But_any A2 N c2 k _ _ r2 (by omega)).mono ?_
        rintro e y1 ⟨v1, rfl, hown1, hb1⟩
        obtain ⟨A9, c9, rfl, r9⟩ := hown1.rd
        generalize ((Cl.few m z1).eraseIdx k).length = L at r9 hown1 ⊢
        have r3 := r3.past hb1
        have b51 := b5.trans (hb1.mono b5.size)
        clear hown1 hb1 r2 b5
        go_wp2_with fail
        refine (All_yes m A9 L c9 _ _ r9 HE0.out).mono ?_
        rintro e y2 ⟨A10, c10, rfl, r10, hb2⟩
        have r3 := r3.past hb2
        have b52 := b51.trans (hb2.mono b51.size)
        clear r9 hb2 b51
        go_wp2_with fail
        refine (Rows_any _ _ m m _ _ _ _ false _ r3 r10 HNE.out).mono ?_
        rintro e y3 ⟨rfl, hb3⟩
        go_wp2
        go_ret
        exact ⟨rfl, b52.trans (hb3.mono b52.size)⟩
      · clear r1 r2 r3
        go_wp2_with fail
        refine (in2_no _ _ _ _ (by omega)).mono ?_
        rintro e y ⟨rfl, rfl⟩
        go_wp2
        go_ret
        exact ⟨rfl, b5⟩

theorem walk (w : World) (a0 : Int) (w0 : (Lit.int .i64 a0).wf = true) (a1 : Option Addr) (n1 c1 : Nat) (z1 : List Gr.Ln) (w1 : RdP w w.heap.size a1 n1 c1 z1) (a2 : Int) (w2 : (Lit.int .i64 a2).wf = true) :
    Calls Try.prog 4 #[.int .i64 a0, .slice a1 n1 c1, .int .i64 a2] w fun e w' => e = .returned (.bool true) ∧ Below w.heap.size w w' := by
  by_cases h : Gr.code a0 z1 = 0
  · obtain ⟨m, rfl⟩ : ∃ m : Nat, a0 = (m : Int) := ⟨a0.toNat, by have := (Gr.code_zero.1 h).1; omega⟩
    obtain ⟨o, hs, hk⟩ := To.Step.all m z1
    rcases Nat.lt_or_ge o.length m with hl | hl
    · exact none_ w m a1 n1 c1 z1 o w1 a2 h hs hk hl
    · exact good w m a1 n1 c1 z1 o w1 a2 h hs (Nat.le_antisymm hs.le hl)
  · exact bad w a0 a1 n1 c1 z1 w1 a2 h

end Go.Proofs.Ythlgloefeigcbaa.closeFew
