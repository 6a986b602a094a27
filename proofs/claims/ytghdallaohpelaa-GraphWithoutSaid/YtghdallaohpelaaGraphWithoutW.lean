/-
  The walk of the law GraphWithout: for every number of points, lines and two points it returns true.
-/
import Derived.Test.YtghdallaohpelaaGraphF
import Derived.Test.YtghdallaohpelaaGraphW
namespace Go.Proofs.Ytghdallaohpelaa.graphWithout
open Go.RowKit

set_option maxRecDepth 100000 in
set_option maxHeartbeats 4000000 in
theorem walk (w : World) (a0 : Int) (_w0 : (Lit.int .i64 a0).wf = true) (a1 : Option Addr) (n1 c1 : Nat) (z1 : List Gr.Ln) (w1 : RdP w w.heap.size a1 n1 c1 z1) (a2 : Int) (_w2 : (Lit.int .i64 a2).wf = true) (a3 : Int) (_w3 : (Lit.int .i64 a3).wf = true) :
    Calls Try.prog 4 #[.int .i64 a0, .slice a1 n1 c1, .int .i64 a2, .int .i64 a3] w fun e w' => e = .returned (.bool true) ∧ Below w.heap.size w w' := by
  have HX := Lib.hid w1.len
  have hbig := w1.big
  go_enter Try.func4, Try.ntmps4
  go_wp2_with fail
  refine (graphFact_any _).mono ?_
  rintro e x1 ⟨rfl, hb1⟩
  go_wp2_with fail
  refine (Without_any a0 a1 n1 c1 z1 a2 _ (w1.past hb1)).mono ?_
  rintro e x2 ⟨hb2, (⟨hne, rfl⟩ | ⟨h0, v, rfl, hown⟩)⟩
  · have hb := hb1.trans (hb2.mono hb1.size)
    clear hne
    go_wp2
    go_ret
    exact ⟨rfl, hb⟩
  have hb := hb1.trans (hb2.mono hb1.size)
  clear hb1 hb2
  obtain ⟨hc0, hn1, hi0, hin⟩ := Gr.wcode_zero.1 h0
  obtain ⟨z1', z8, z24, hgood⟩ := Gr.code_zero.1 hc0
  have hl := w1.past hb
  obtain ⟨A, c, rfl, hr⟩ := hown.rd
  have hlen : (Gr.without a2 z1).length ≤ n1 := by rw [← HX.out]; exact Gr.without_len a2 z1
  obtain ⟨q, hq⟩ : ∃ q, q = (Gr.without a2 z1).length := ⟨_, rfl⟩
  rw [← hq] at hlen hr ⊢
  have hlei : ((q : Int) ≤ (n1 : Int)) := by omega
  clear hown hq hgood
  have HC := Lib.hid hc0
  clear hc0 h0
  by_cases hj : a3 < 0 ∨ a0 - 1 < a3
  · go_wp2_with fail
    refine (in_no a3 0 (a0 - 1) _ (by omega)).mono ?_
    rintro e x3 ⟨rfl, rfl⟩
    go_wp2
    go_ret
    exact ⟨rfl, hb⟩
  by_cases hji : a3 ≤ a2
  · go_wp2_with fail
    refine (in_yes a3 0 (a0 - 1) _ (by omega) (by omega)).mono ?_
    rintro e x3 ⟨rfl, rfl⟩
    go_wp2
    go_ret
    exact ⟨rfl, hb⟩
  have hd : decide (a3 ≤ a2) = false := by simpa using hji
  by_cases h3 : a0 < 3
  · go_wp2_with fail
    refine (in_yes a3 0 (a0 - 1) _ (by omega) (by omega)).mono ?_
    rintro e x3 ⟨rfl, rfl⟩
    go_wp2
    go_ret
    exact ⟨rfl, hb⟩
  have hd3 : decide (a0 < 3) = false := by simpa using h3
  have f1 : Hid (Gr.wcode (a0 - 1) (Gr.without a2 z1) (a3 - 1) = 0) := Gr.wcode_zero.2 ⟨Gr.code_without HC.out hn1 hi0 hin, by omega, by omega, by omega⟩
  have f2 : Hid (Gr.wcode a0 z1 a3 = 0) := Gr.wcode_zero.2 ⟨HC.out, hn1, by omega, by omega⟩
  have f3 : Hid (Gr.wcode (a0 - 1) (Gr.without a3 z1) a2 = 0) := Gr.wcode_zero.2 ⟨Gr.code_without HC.out hn1 (by omega) (by omega), by omega, by omega, by omega⟩
  have f4 : Hid (decide (Gr.without (a3 - 1) (Gr.without a2 z1) = Gr.without a2 (Gr.without a3 z1)) = true) := by
    show _ = _
    rw [Gr.without_swap (by omega)]
    simp
  go_wp2_with fail
  refine (in_yes a3 0 (a0 - 1) _ (by omega) (by omega)).mono ?_
  rintro e x3 ⟨rfl, rfl⟩
  go_wp2_with fail
  refine (Without_any (a0 - 1) A q c _ (a3 - 1) _ hr).mono ?_
  rintro e x3 ⟨hb3, (⟨hne, rfl⟩ | ⟨_, v3, rfl, hown3⟩)⟩
  · exact absurd f1.out hne
  have hl3 := hl.past hb3
  go_wp2_with fail
  refine (Without_any a0 a1 n1 c1 z1 a3 _ hl3).mono ?_
  rintro e x4 ⟨hb4, (⟨hne, rfl⟩ | ⟨_, v4, rfl, hown4⟩)⟩
  · exact absurd f2.out hne
  obtain ⟨A4, c4, rfl, hr4⟩ := hown4.rd
  obtain ⟨q4, hq4⟩ : ∃ q, q = (Gr.without a3 z1).length := ⟨_, rfl⟩
  rw [← hq4] at hr4 ⊢
  clear hq4 hown4
  go_wp2_with fail
  refine (Without_any (a0 - 1) A4 q4 c4 _ a2 _ hr4).mono ?_
  rintro e x5 ⟨hb5, (⟨hne, rfl⟩ | ⟨_, v5, rfl, hown5⟩)⟩
  · exact absurd f3.out hne
  obtain ⟨A3, c3, rfl, hr3⟩ := hown3.rd
  obtain ⟨A5, c5, rfl, hr5⟩ := hown5.rd
  have hr3' := (hr3.past hb4).past hb5
  obtain ⟨q3, hq3⟩ : ∃ q, q = (Gr.without (a3 - 1) (Gr.without a2 z1)).length := ⟨_, rfl⟩
  obtain ⟨q5, hq5⟩ : ∃ q, q = (Gr.without a2 (Gr.without a3 z1)).length := ⟨_, rfl⟩
  rw [← hq3] at hr3' ⊢
  rw [← hq5] at hr5 ⊢
  clear hq3 hq5 hown3 hown5 hr3
  go_wp2_with fail
  refine (Lines_any A3 A5 q3 q5 c3 c5 _ _ true _ hr3' hr5 f4.out).mono ?_
  rintro e x6 ⟨rfl, hb6⟩
  have hb35 := (hb3.trans (hb4.mono hb3.size)).trans (hb5.mono (Nat.le_trans hb3.size hb4.size))
  have hb36 := hb35.trans (hb6.mono hb35.size)
  go_wp2
  go_ret
  exact ⟨rfl, hb.trans (hb36.mono hb.size)⟩

end Go.Proofs.Ytghdallaohpelaa.graphWithout
