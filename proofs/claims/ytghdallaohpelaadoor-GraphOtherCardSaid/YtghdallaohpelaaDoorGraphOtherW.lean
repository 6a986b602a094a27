/-
  The walk of the law GraphOther: for every number of points and lines it returns true, where the library's variable errors.errorType holds what its initialiser lays.
-/
import Derived.Test.YtghdallaohpelaaDoorGraphF
import Derived.Test.YtghdallaohpelaaDoorRefL
import Derived.Test.YtghdallaohpelaaDoorTold
namespace Go.Proofs.YtghdallaohpelaaDoor.graphOther
open Go.RowKit

set_option maxRecDepth 100000 in
set_option maxHeartbeats 4000000 in
theorem walk (w : World) (het : tld.EtIs w) (a0 : Int) (_w0 : (Lit.int .i64 a0).wf = true) (a1 : Option Addr) (n1 c1 : Nat) (z1 : List Gr.Ln) (w1 : RdP w w.heap.size a1 n1 c1 z1) :
    Calls Tryd.prog 4 #[.int .i64 a0, .slice a1 n1 c1] w fun e w' => e = .returned (.bool true) ∧ Below w.heap.size w w' := by
  have hbig := w1.big
  go_enter Tryd.func4, Tryd.ntmps4
  go_wp2_with fail
  refine (graphFact_any _).mono ?_
  rintro e x1 ⟨rfl, hb1⟩
  go_wp2_with fail
  refine (Other_any a0 a1 n1 c1 z1 _ (w1.past hb1)).mono ?_
  rintro e x2 ⟨hb2, (⟨hne, rfl⟩ | ⟨_, _, rfl⟩ | ⟨h0, hl, v, rfl, hown⟩)⟩
  · have hb := hb1.trans (hb2.mono hb1.size)
    clear hne
    go_wp2
    go_ret
    exact ⟨rfl, hb⟩
  · have hb := hb1.trans (hb2.mono hb1.size)
    go_wp2
    go_ret
    exact ⟨rfl, hb⟩
  have hb := hb1.trans (hb2.mono hb1.size)
  clear hb1 hb2
  obtain ⟨z1', z8, _, _⟩ := Gr.code_zero.1 h0
  obtain ⟨m, rfl⟩ : ∃ m : Nat, a0 = (m : Int) := ⟨a0.toNat, by omega⟩
  simp only [Int.toNat_natCast] at hl hown ⊢
  have HC := Lib.hid h0
  have HL := Lib.hid hl
  clear h0 hl
  have r1 := w1.past hb
  obtain ⟨A, c, rfl, hr⟩ := hown.rd
  obtain ⟨q, hq⟩ : ∃ q, q = (Gr.other m z1).length := ⟨_, rfl⟩
  rw [← hq] at hr ⊢
  clear hq hown
  go_wp2_with fail
  refine (RefL.Lines_any (m : Int) a1 n1 c1 z1 _ r1).mono ?_
  rintro e x3 ⟨rfl, hb3⟩
  rw [HC.out]
  have hb03 := hb.trans (hb3.mono hb.size)
  have r13 := r1.past hb3
  have hr3 := hr.past hb3
  clear hb3 r1 hr
  go_wp2
  go_loop [8] (fun i => ∃ t : Nat, t ≤ m ∧ i = .int .i64 t) (fun i => m - (intOf i).toNat)
  case atStart => exact ⟨0, Nat.zero_le _, rfl⟩
  case round =>
    obtain ⟨t, ht, rfl⟩ := hrel
    by_cases hlt : t < m
    · go_wp2
      go_loop [9] (fun i => ∃ u : Nat, u ≤ t ∧ i = .int .i64 u) (fun i => t - (intOf i).toNat)
      case atStart => exact ⟨0, Nat.zero_le _, rfl⟩
      case round =>
        obtain ⟨u, hu, rfl⟩ := hrel
        by_cases hut : u < t
        · cases hadj : Gr.adj z1 (t : Int) (u : Int)
          · have h2 : Hid (Gr.adj (Gr.other m z1) (t : Int) (u : Int) = true) := by show _ = _; rw [Gr.adj_other (by omega) (by omega) (by omega) (by omega) (by omega), hadj]; rfl
            have H := Lib.hid hadj
            clear hadj
            go_wp2_with fail
            refine (RefL.Beside_any a1 n1 c1 z1 (t : Int) (u : Int) false _ r13 H.out).mono ?_
            rintro e x4 ⟨rfl, rfl⟩
            go_wp2_with fail
            refine (RefL.Beside_any A q c _ (t : Int) (u : Int) true _ hr3 h2.out).mono ?_
            rintro e x4 ⟨rfl, rfl⟩
            go_wp2
            go_round
            case rel => exact ⟨u + 1, by omega, by go_num⟩
            case measure => simp [intOf]; omega
          · have h2 : Hid (Gr.adj (Gr.other m z1) (t : Int) (u : Int) = false) := by show _ = _; rw [Gr.adj_other (by omega) (by omega) (by omega) (by omega) (by omega), hadj]; rfl
            have H := Lib.hid hadj
            clear hadj
            go_wp2_with fail
            refine (RefL.Beside_any a1 n1 c1 z1 (t : Int) (u : Int) true _ r13 H.out).mono ?_
            rintro e x4 ⟨rfl, rfl⟩
            go_wp2_with fail
            refine (RefL.Beside_any A q c _ (t : Int) (u : Int) false _ hr3 h2.out).mono ?_
            rintro e x4 ⟨rfl, rfl⟩
            go_wp2
            go_round
            case rel => exact ⟨u + 1, by omega, by go_num⟩
            case measure => simp [intOf]; omega
        · obtain rfl : u = t := by omega
          go_wp2
          go_round
          case rel => exact ⟨u + 1, by omega, by go_num⟩
          case measure => simp [intOf]; omega
    · obtain rfl : t = m := by omega
      go_wp2_with fail
      refine (Other_any (t : Int) A q c _ _ hr3).mono ?_
      rintro e x4 ⟨hb4, (⟨hne, rfl⟩ | ⟨_, _, rfl⟩ | ⟨_, hl, v4, rfl, hown4⟩)⟩
      · exact absurd (Gr.code_other HC.out HL.out) hne
      · have hb04 := hb03.trans (hb4.mono hb03.size)
        have het4 : tld.EtIs x4 := het.below hb04
        go_wp2_with fail
        refine (Error_err 4 4 _ het4).mono ?_
        rintro e x5 ⟨rfl, hb5⟩
        go_wp2
        go_ret
        exact ⟨rfl, hb04.trans (hb5.mono hb04.size)⟩
      simp only [Int.toNat_natCast] at hl hown4 ⊢
      have hb04 := hb03.trans (hb4.mono hb03.size)
      have r14 := r13.past hb4
      obtain ⟨A4, c4, rfl, hr4⟩ := hown4.rd
      have hc4 : Hid (Gr.code (t : Int) (Gr.other t (Gr.other t z1)) = 0) := Gr.code_other (Gr.code_other HC.out HL.out) hl
      obtain ⟨q4, hq4⟩ : ∃ q, q = (Gr.other t (Gr.other t z1)).length := ⟨_, rfl⟩
      rw [← hq4] at hr4 ⊢
      clear hq4 hown4 hb4 hl
      go_wp2_with fail
      refine (Go.Proofs.YtghdallaohpelaaDoor.Beside_any (t : Int) A4 q4 c4 _ _ hr4).mono ?_
      rintro e x5 ⟨hb5, (⟨hne, rfl⟩ | ⟨_, A5, c5, rfl, hr5⟩)⟩
      · exact absurd hc4.out hne
      simp only [Int.toNat_natCast] at hr5 ⊢
      rw [Gr.rows_other HC.out] at hr5
      have r15 := r14.past hb5
      go_wp2_with fail
      refine (Go.Proofs.YtghdallaohpelaaDoor.Beside_any (t : Int) a1 n1 c1 z1 _ r15).mono ?_
      rintro e x6 ⟨hb6, (⟨hne, rfl⟩ | ⟨_, A6, c6, rfl, hr6⟩)⟩
      · exact absurd HC.out hne
      simp only [Int.toNat_natCast] at hr6 ⊢
      have hr56 := hr5.past hb6
      have hb05 := hb04.trans (hb5.mono hb04.size)
      have hb06 := hb05.trans (hb6.mono hb05.size)
      go_wp2_with fail
      refine (Rows_any A5 A6 t t c5 c6 _ _ true _ hr56 hr6 (by simp)).mono ?_
      rintro e x7 ⟨rfl, hb7⟩
      go_wp2
      go_ret
      exact ⟨rfl, hb06.trans (hb7.mono hb06.size)⟩

end Go.Proofs.YtghdallaohpelaaDoor.graphOther
