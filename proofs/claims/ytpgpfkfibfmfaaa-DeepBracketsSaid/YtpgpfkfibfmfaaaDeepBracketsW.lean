/-
  The walk of the law DeepBrackets: for every number of points and lines it returns true.
-/
import Derived.Test.YtpgpfkfibfmfaaaDeepE
import Derived.Test.YtpgpfkfibfmfaaaDeepK
import Derived.Test.YtpgpfkfibfmfaaaRefS
namespace Go.Proofs.Ytpgpfkfibfmfaaa.deepBrackets
open Go.RowKit

set_option linter.unusedSimpArgs false
set_option linter.unusedVariables false

theorem in_q (x a b : Int) (w : World) (n : Nat) (h1 : a ≤ x) (h2 : x ≤ b) : Calls Try.prog 8 #[.int .i64 x, .int .i64 a, .int .i64 b] (w.drewN n) fun e w' => e = .returned (.bool true) ∧ ∃ m, w' = w.drewN m :=
  Calls.quiet_of_same ((in_yes x a b _ h1 h2).mono fun _ _ h => ⟨h.1, h.2.symm⟩)
theorem bes_q (A : Option Addr) (n c : Nat) (ls : List Gr.Ln) (a b : Int) (t : Bool) (w : World) (k : Nat) (hr : RdP w w.heap.size A n c ls) (ht : Gr.adj ls a b = t) :
    Calls Try.prog 9 #[.slice A n c, .int .i64 a, .int .i64 b] (w.drewN k) fun e w' => e = .returned (.bool t) ∧ ∃ m, w' = w.drewN m :=
  Calls.quiet_of_same ((RefL.Beside_any A n c ls a b t _ (hr.drewN k) ht).mono fun _ _ h => ⟨h.1, h.2.symm⟩)

/-- what the outer loop keeps -/
def BrI (x2 : World) (F : Dp.Fo) (i : Nat) (ov : Value) (W : World) : Prop := Own W x2.heap.size 3 ov (Dp.tms F i) ∧ Below x2.heap.size x2 W
theorem BrI.drew {x2 : World} {F : Dp.Fo} {i : Nat} {ov : Value} {W : World} (h : BrI x2 F i ov W) (d : Nat) : BrI x2 F i ov (W.drewN d) := ⟨h.1, h.2.trans (Below.drewN' _ _ _)⟩

set_option maxRecDepth 100000 in
set_option maxHeartbeats 8000000 in
theorem good (w : World) (m : Nat) (a1 : Option Addr) (n1 c1 : Nat) (z1 : List Gr.Ln) (w1 : RdP w w.heap.size a1 n1 c1 z1) (hc : Gr.code (m : Int) z1 = 0) :
    Calls Try.prog 3 #[.int .i64 (m : Int), .slice a1 n1 c1] w fun e w' => e = .returned (.bool true) ∧ Below w.heap.size w w' := by
  have hm8 : m ≤ 8 := by have := (Gr.code_zero.1 hc).2.1; omega
  have hm1 : 1 ≤ m := by have := (Gr.code_zero.1 hc).1; omega
  obtain ⟨F, hF⟩ := Dp.whole_exist (Wa.nrow_ok m z1)
  have H0 := Lib.hid hc
  have HF := Lib.hid hF
  have hnn : ((m : Int) != (m : Int)) = false := by simp
  have hnn2 : (m != m) = false := by simp
  have hwr : IntKind.i64.wrap ((m : Int) - 1) = (m : Int) - 1 := by rw [IntKind.wrap_i64]; omega
  clear hc hF
  go_enter Try.func3, Try.ntmps3
  go_wp2_with (first
    | (go_at_call 6; refine (deepFact_any _).mono ?_; rintro e x1 ⟨rfl, hb1⟩)
    | (go_at_call 7; refine (DWalk_good m a1 n1 c1 z1 F HF.out _ (w1.past hb1) H0.out).mono ?_; rintro e x2 ⟨hb2, ga, gb, gc, rfl, oa, ob, oc⟩))
  have hb := hb1.trans (hb2.mono hb1.size)
  have hl2 := (w1.past hb1).past hb2
  have HC : Hid (∀ wr : World, Below x2.heap.size x2 wr → ∀ j, j < m → wr.cell? ⟨ga, j, none⟩ = some (.int .i64 ((Dp.met F 0 j : Nat) : Int)) ∧ wr.cell? ⟨gb, j, none⟩ = some (.int .i64 ((Dp.left F 0 j : Nat) : Int)) ∧ wr.cell? ⟨gc, j, none⟩ = some (.int .i64 (Dp.par F (-1) j))) := by
    intro wr hbel j hj
    have c1 := oa.cell j hj
    have c2 := ob.cell j hj
    have c3 := oc.cell j hj
    rw [Dp.mets_at F hj] at c1
    rw [Dp.lefts_at F hj] at c2
    rw [Dp.pars_at F hj] at c3
    exact ⟨(hbel.cell (p := ⟨ga, j, none⟩) (World.block_lt_of_cell? _ _ c1)).trans c1, (hbel.cell (p := ⟨gb, j, none⟩) (World.block_lt_of_cell? _ _ c2)).trans c2, (hbel.cell (p := ⟨gc, j, none⟩) (World.block_lt_of_cell? _ _ c3)).trans c3⟩
  have hI0 : BrI x2 F 0 (.slice none 0 0) x2 := ⟨Own.nil _ _ _, Below.refl _ _⟩
  clear oa ob oc hb1 hb2 w1
  go_loopw [10, 11] (fun ov iv wr => ∃ i : Nat, i ≤ m ∧ iv = .int .i64 (i : Int) ∧ BrI x2 F i ov wr) (fun _ iv _ => m - (intOf iv).toNat)
  case atStart => exact ⟨0, Nat.zero_le _, rfl, hI0⟩
  case round =>
    obtain ⟨i, him, rfl, hown, hbel⟩ := hrel
    clear hI0
    by_cases hlt : i < m
    · have hi1 : (0 : Int) ≤ (i : Int) := by omega
      have hi2 : (i : Int) < (m : Int) := by omega
      obtain ⟨V, hV⟩ : ∃ V, V = wr := ⟨_, rfl⟩
      subst hV
      obtain ⟨g1, g2, g3⟩ := HC.out V hbel i hlt
      have hti := HF.out.times (Wa.nrow_ok m z1) hlt
      obtain ⟨p, hp⟩ : ∃ p, p = Dp.met F 0 i := ⟨_, rfl⟩
      obtain ⟨p', hp'⟩ : ∃ p', p' = Dp.left F 0 i := ⟨_, rfl⟩
      rw [← hp] at g1 hti
      rw [← hp'] at g2 hti
      have HT := Lib.hid (Dp.tms_succ F i)
      have HP := Lib.hid hp
      have HP' := Lib.hid hp'
      have HL := Lib.hid (Dp.tms_len F i)
      clear hp hp' g3
      have hsV := hbel.size
      go_wp2_with (first
        | (at_builtin; refine wpList_app _ rfl (.tmp 64) (.tmp 69) 24 rfl x2.heap.size 3 Try.underlying24 intInfo u10 _ rfl (hown.below ((Below.refl _ _).alloc (Nat.le_refl _) _)) (some ⟨V.heap.size, 0, none⟩) 1 1 [(p : Int)] rfl (Rd.one _ _ _) (by rw [HL.out]; omega) (by simp; omega) ?_; intro v3 w3 hown3 hg3 hat3; have hb3 : Below x2.heap.size x2 w3 := (hbel.trans ((Below.refl _ _).alloc hsV _)).grown hg3 (by simp; omega) (fun k hk => hown.at_base k hk); have g4 := (HC.out w3 hb3 i hlt).2.1; rw [← HP'.out] at g4; have hs3 := hb3.size; have HL3 := Lib.hid hown3)
        | (at_builtin; refine wpList_app _ rfl (.tmp 71) (.tmp 76) 24 rfl x2.heap.size 3 Try.underlying24 intInfo v3 _ rfl (hown3.below ((Below.refl _ _).alloc (Nat.le_refl _) _)) (some ⟨w3.heap.size, 0, none⟩) 1 1 [(p' : Int)] rfl (Rd.one _ _ _) (by rw [List.length_append, HL.out]; simp; omega) (by simp; omega) ?_; intro v4 w4 hown4 hg4 hat4; have hb4 : Below x2.heap.size x2 w4 := (hb3.trans ((Below.refl _ _).alloc hs3 _)).grown hg4 (by simp; omega) (fun k hk => hown3.at_base k hk)))
      have hI4 : BrI x2 F (i + 1) v4 w4 := ⟨by rw [HT.out, ← HP.out, ← HP'.out]; exact hown4, hb4⟩
      clear hown3 HL3 hown4 hg3 hat3 hg4 hat4 hb3 hb4 hown hbel g1 g2 g4 hs3 hsV HL HT
      go_loopw [12] (fun jv wr => ∃ j : Nat, j ≤ m ∧ jv = .int .i64 (j : Int) ∧ BrI x2 F (i + 1) v4 wr) (fun jv _ => m - (intOf jv).toNat)
      case atStart => exact ⟨0, Nat.zero_le _, rfl, hI4⟩
      case round =>
        clear hI4
        obtain ⟨j, hjm, rfl, hI⟩ := hrel
        obtain ⟨g1, g2, g3⟩ := HC.out wr hI.2 i hlt
        rw [← HP.out] at g1
        rw [← HP'.out] at g2
        by_cases hlj : j < m
        · have hj1 : (0 : Int) ≤ (j : Int) := by omega
          have hj2 : (j : Int) < (m : Int) := by omega
          obtain ⟨g4, g5, g6⟩ := HC.out wr hI.2 j hlj
          have htj := HF.out.times (Wa.nrow_ok m z1) hlj
          have hcase : p' < Dp.met F 0 j ∨ Dp.left F 0 j < p ∨ (p ≤ Dp.met F 0 j ∧ Dp.left F 0 j ≤ p') ∨ (Dp.met F 0 j < p ∧ p' ≤ Dp.left F 0 j) := by
            by_cases hij : i = j
            · subst hij
              rw [← HP.out, ← HP'.out]
              omega
            · have := HF.out.part (Wa.nrow_ok m z1) hlt hlj hij
              unfold Dp.Part at this
              rw [← HP.out, ← HP'.out] at this
              omega
          generalize Dp.met F 0 j = q at g4 htj hcase
          generalize Dp.left F 0 j = q' at g5 htj hcase
          clear g3 g6
          have f1 : decide ((p' : Int) ≤ (p : Int)) = false := by simp; omega
          have f2 : decide (p' ≤ p) = false := by simp; omega
          rcases hcase with hcs | hcs | ⟨hcs, hct⟩ | ⟨hcs, hct⟩
          · have d1 : decide ((p' : Int) < (q : Int)) = true := by simp; omega
            have d2 : decide ((p : Int) ≤ (q : Int)) = true := by simp; omega
            have d3 : decide ((q' : Int) ≤ (p' : Int)) = false := by simp; omega
            have d4 : decide ((q : Int) ≤ (p : Int)) = false := by simp; omega
            have e1 : decide (p' < q) = true := by simp; omega
            have e2 : decide (p ≤ q) = true := by simp; omega
            have e3 : decide (q' ≤ p') = false := by simp; omega
            have e4 : decide (q ≤ p) = false := by simp; omega
            clear hcs
            go_wp2
            go_quiet (fail)
            go_wp2
            go_quiet (fail)
            go_wp2
            go_quiet (fail)
            go_wp2
            go_roundw
            case rel => exact ⟨j + 1, by omega, by go_num, hI.drew _⟩
            case measure => simp [intOf]; omega
          · have d1 : decide ((p' : Int) < (q : Int)) = false := by simp; omega
            have d2 : decide ((q' : Int) < (p : Int)) = true := by simp; omega
            have d3 : decide ((p : Int) ≤ (q : Int)) = false := by simp; omega
            have d4 : decide ((q : Int) ≤ (p : Int)) = true := by simp; omega
            have d5 : decide ((p' : Int) ≤ (q' : Int)) = false := by simp; omega
            have e1 : decide (p' < q) = false := by simp; omega
            have e2 : decide (q' < p) = true := by simp; omega
            have e3 : decide (p ≤ q) = false := by simp; omega
            have e4 : decide (q ≤ p) = true := by simp; omega
            have e5 : decide (p' ≤ q') = false := by simp; omega
            clear hcs
            go_wp2
            go_quiet (fail)
            go_wp2
            go_quiet (fail)
            go_wp2
            go_quiet (fail)
            go_wp2
            go_roundw
            case rel => exact ⟨j + 1, by omega, by go_num, hI.drew _⟩
            case measure => simp [intOf]; omega
          · have d1 : decide ((p' : Int) < (q : Int)) = false := by simp; omega
            have d2 : decide ((q' : Int) < (p : Int)) = false := by simp; omega
            have d3 : decide ((p : Int) ≤ (q : Int)) = true := by simp; omega
            have d4 : decide ((q' : Int) ≤ (p' : Int)) = true := by simp; omega
            have e1 : decide (p' < q) = false := by simp; omega
            have e2 : decide (q' < p) = false := by simp; omega
            have e3 : decide (p ≤ q) = true := by simp; omega
            have e4 : decide (q' ≤ p') = true := by simp; omega
            clear hcs hct
            go_wp2
            go_quiet (fail)
            go_wp2
            go_quiet (fail)
            go_wp2
            go_quiet (fail)
            go_wp2
            go_roundw
            case rel => exact ⟨j + 1, by omega, by go_num, hI.drew _⟩
            case measure => simp [intOf]; omega
          · have d1 : decide ((p' : Int) < (q : Int)) = false := by simp; omega
            have d2 : decide ((q' : Int) < (p : Int)) = false := by simp; omega
            have d3 : decide ((p : Int) ≤ (q : Int)) = false := by simp; omega
            have d4 : decide ((q : Int) ≤ (p : Int)) = true := by simp; omega
            have d5 : decide ((p' : Int) ≤ (q' : Int)) = true := by simp; omega
            have e1 : decide (p' < q) = false := by simp; omega
            have e2 : decide (q' < p) = false := by simp; omega
            have e3 : decide (p ≤ q) = false := by simp; omega
            have e4 : decide (q ≤ p) = true := by simp; omega
            have e5 : decide (p' ≤ q') = true := by simp; omega
            clear hcs hct
            go_wp2
            go_quiet (fail)
            go_wp2
            go_quiet (fail)
            go_wp2
            go_quiet (fail)
            go_wp2
            go_roundw
            case rel => exact ⟨j + 1, by omega, by go_num, hI.drew _⟩
            case measure => simp [intOf]; omega
        · obtain rfl : j = m := by omega
          have hz := hl2.past hI.2
          rcases HF.out.par (Wa.nrow_ok j z1) hlt with hp | ⟨q, hq, hp, hadj, ht1, ht2⟩
          · rw [hp] at g3
            clear hp
            go_wp2
            go_quiet (fail)
            go_wp2
            go_roundw
            case rel => exact ⟨i + 1, by omega, by go_num, hI.drew _⟩
            case measure => simp [intOf]; omega
          · rw [hp] at g3
            have hadj' : Gr.adj z1 (i : Int) (q : Int) = true := by rw [Gr.adj_comm]; exact (Wa.mem_nrow.1 hadj).2
            have HA := Lib.hid hadj'
            obtain ⟨g4, g5, g6⟩ := HC.out wr hI.2 q hq
            rw [← HP.out] at ht1
            rw [← HP'.out] at ht2
            generalize Dp.met F 0 q = r at g4 ht1
            generalize Dp.left F 0 q = r' at g5 ht2
            have hq1 : (0 : Int) ≤ (q : Int) := by omega
            have hq2 : (q : Int) < (j : Int) := by omega
            have d0 : decide ((0 : Int) ≤ (q : Int)) = true := by simp
            have d1 : decide ((p : Int) ≤ (r : Int)) = false := by simp; omega
            have d2 : decide ((r' : Int) ≤ (p' : Int)) = false := by simp; omega
            have e1 : decide (p ≤ r) = false := by simp; omega
            have e2 : decide (r' ≤ p') = false := by simp; omega
            clear hp hadj hadj' g6
            go_wp2
            go_quiet (first | (go_at_call 8; exact in_q _ _ _ _ _ (by omega) (by omega)) | (go_at_call 9; exact bes_q _ _ _ _ _ _ _ _ _ hz HA.out))
            go_wp2
            go_roundw
            case rel => exact ⟨i + 1, by omega, by go_num, hI.drew _⟩
            case measure => simp [intOf]; omega
    · obtain rfl : i = m := by omega
      obtain ⟨A3, c3, rfl, hr3⟩ := hown.rd
      have hl3 := Dp.tms_len F i
      obtain ⟨o1, o2, o3⟩ := HF.out.once (Wa.nrow_ok i z1)
      have HO : Hid (RefS.Once (Dp.tms F i) (2 * i)) := ⟨o1, o2, o3⟩
      rw [hl3] at hr3 ⊢
      clear hown hl3 o1 o2 o3
      obtain ⟨N, hN⟩ : ∃ N, N = 2 * i := ⟨_, rfl⟩
      rw [← hN] at hr3 HO ⊢
      have hN16 : N ≤ 16 := by omega
      have hN1 : 1 ≤ N := by omega
      clear hN
      go_wp2_with fail
      refine (RefS.Rising_once A3 N c3 _ _ hr3 (by omega) HO.out).mono ?_
      rintro e x4 ⟨v, rfl, hown, hb4⟩
      obtain ⟨A5, c5, rfl, hr5⟩ := hown.rd
      rw [RefS.upTo_len] at hr5 ⊢
      have hbb := hb.trans ((hbel.trans (hb4.mono hbel.size)).mono hb.size)
      clear hown hr3 hb4 hbel hb
      obtain ⟨b5, p5, rfl, hb5, hc5⟩ := hr5.at_ (by omega)
      have hbig := hr5.big
      have HC5 : Hid (∀ k, k < N → x4.cell? ⟨b5, p5 + k, none⟩ = some (.int .i64 (k : Int))) := fun k hk => by have := hc5 k hk; rw [RefS.upTo_at hk] at this; exact this
      clear hc5 hr5
      go_wp2
      go_loop [16] (fun kv => ∃ k : Nat, k ≤ N ∧ kv = .int .i64 (k : Int)) (fun kv => N - (intOf kv).toNat)
      case atStart => exact ⟨0, Nat.zero_le _, rfl⟩
      case round =>
        obtain ⟨k, hk, rfl⟩ := hrel
        by_cases hlk : k < N
        · have hk1 : (0 : Int) ≤ (k : Int) := by omega
          have hk2 : (k : Int) < (N : Int) := by omega
          have g1 := HC5.out k hlk
          have d1 : ((k : Int) != (k : Int)) = false := by simp
          have d2 : (k != k) = false := by simp
          go_wp2
          go_round
          case rel => exact ⟨k + 1, by omega, by go_num⟩
          case measure => simp [intOf]; omega
        · obtain rfl : k = N := by omega
          go_wp2
          go_ret
          exact ⟨rfl, hbb⟩

set_option maxRecDepth 100000 in
set_option maxHeartbeats 4000000 in
theorem walk (w : World) (a0 : Int) (_w0 : (Lit.int .i64 a0).wf = true) (a1 : Option Addr) (n1 c1 : Nat) (z1 : List Gr.Ln) (w1 : RdP w w.heap.size a1 n1 c1 z1) :
    Calls Try.prog 3 #[.int .i64 a0, .slice a1 n1 c1] w fun e w' => e = .returned (.bool true) ∧ Below w.heap.size w w' := by
  by_cases hc : Gr.code a0 z1 = 0
  · obtain ⟨m, rfl⟩ : ∃ m : Nat, a0 = (m : Int) := ⟨a0.toNat, by have := (Gr.code_zero.1 hc).1; omega⟩
    exact good w m a1 n1 c1 z1 w1 hc
  · have H := Lib.hid hc
    clear hc
    go_enter Try.func3, Try.ntmps3
    go_wp2_with (first
      | (go_at_call 6; refine (deepFact_any _).mono ?_; rintro e x1 ⟨rfl, hb1⟩)
      | (go_at_call 7; refine (DWalk_err a0 a1 n1 c1 z1 _ (w1.past hb1) H.out).mono ?_; rintro e x2 ⟨rfl, hb2⟩))
    go_ret
    exact ⟨rfl, hb1.trans (hb2.mono hb1.size)⟩

end Go.Proofs.Ytpgpfkfibfmfaaa.deepBrackets
