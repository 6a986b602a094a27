/-
  The walk of the law GraphTurn: for every number of points and lines it returns true.
-/
import Derived.Test.YtghdallaohpelaaGraphF
namespace Go.Proofs.Ytghdallaohpelaa.graphTurn
open Go.RowKit

set_option maxRecDepth 100000 in
set_option maxHeartbeats 4000000 in
theorem walk (w : World) (a0 : Int) (_w0 : (Lit.int .i64 a0).wf = true) (a1 : Option Addr) (n1 c1 : Nat) (z1 : List Gr.Ln) (w1 : RdP w w.heap.size a1 n1 c1 z1) :
    Calls Try.prog 3 #[.int .i64 a0, .slice a1 n1 c1] w fun e w' => e = .returned (.bool true) ∧ Below w.heap.size w w' := by
  have HX := Lib.hid w1.len
  have hbig := w1.big
  go_enter Try.func3, Try.ntmps3
  go_wp2_with fail
  refine (graphFact_any _).mono ?_
  rintro e x1 ⟨rfl, hb1⟩
  go_wp2_with fail
  refine (Beside_any a0 a1 n1 c1 z1 _ (w1.past hb1)).mono ?_
  rintro e x2 ⟨hb2, (⟨hne, rfl⟩ | ⟨h0, A, c, rfl, hr⟩)⟩
  · have hb := hb1.trans (hb2.mono hb1.size)
    clear hne
    go_wp2
    go_ret
    exact ⟨rfl, hb⟩
  have hb := hb1.trans (hb2.mono hb1.size)
  clear hb1 hb2
  obtain ⟨z1', z8, z24, _⟩ := Gr.code_zero.1 h0
  obtain ⟨m, rfl⟩ : ∃ m : Nat, a0 = (m : Int) := ⟨a0.toNat, by omega⟩
  simp only [Int.toNat_natCast] at hr ⊢
  rw [HX.out] at z24
  have HC := Lib.hid h0
  clear h0
  have hl := w1.past hb
  go_wp2_with fail
  refine (Back_any a1 n1 c1 z1 _ hl z24).mono ?_
  rintro e x3 ⟨v, rfl, hown, hb3⟩
  obtain ⟨A3, c3, rfl, hr3⟩ := hown.rd
  obtain ⟨q3, hq3⟩ : ∃ q, q = (Gr.back z1).length := ⟨_, rfl⟩
  rw [← hq3] at hr3 ⊢
  clear hq3 hown
  go_wp2_with fail
  refine (Beside_any (m : Int) A3 q3 c3 _ _ hr3).mono ?_
  rintro e x4 ⟨hb4, (⟨hne, rfl⟩ | ⟨_, A4, c4, rfl, hr4⟩)⟩
  · exact absurd (Gr.code_back HC.out) hne
  simp only [Int.toNat_natCast] at hr4 ⊢
  rw [Gr.rows_back] at hr4
  have hr' := (hr.past hb3).past hb4
  go_wp2_with fail
  refine (Rows_any A A4 m m c c4 _ _ true _ hr' hr4 (by simp)).mono ?_
  rintro e x5 ⟨rfl, hb5⟩
  have hb34 := hb3.trans (hb4.mono hb3.size)
  have hb35 := hb34.trans (hb5.mono hb34.size)
  have hbf := hb.trans (hb35.mono hb.size)
  have hrf := hr'.past hb5
  clear hr hr' hr3 hr4 hb3 hb4 hb5 hb34 hb35 hb hl
  obtain ⟨b, off, rfl, hbl, hc⟩ := hrf.at_ (by omega)
  have HCC := Lib.hid hc
  clear hc hrf
  have hnn : ((m : Int) != (m : Int)) = false := by simp
  go_wp2
  go_loop [9] (fun i => ∃ t : Nat, t ≤ m ∧ i = .int .i64 t) (fun i => m - (intOf i).toNat)
  case atStart => exact ⟨0, Nat.zero_le _, rfl⟩
  case round =>
    obtain ⟨t, ht, rfl⟩ := hrel
    by_cases hlt : t < m
    · obtain ⟨Ai, ci, gi, ri⟩ := HCC.out t hlt
      rw [Gr.rows_getD z1 hlt] at gi ri
      obtain ⟨L, hL⟩ : ∃ L, L = (Gr.row m z1 t).length := ⟨_, rfl⟩
      rw [← hL] at gi ri
      have HL := Lib.hid hL
      have hLb := ri.big
      clear hL
      go_wp2
      go_loop [10] (fun i => ∃ k : Nat, k ≤ L ∧ i = .int .i64 k) (fun i => L - (intOf i).toNat)
      case atStart => exact ⟨0, Nat.zero_le _, rfl⟩
      case round =>
        obtain ⟨k, hk, rfl⟩ := hrel
        by_cases hkl : k < L
        · obtain ⟨bi, oi, rfl, hbi, hci⟩ := ri.at_ (by omega)
          have gk := hci k hkl
          clear hci
          obtain ⟨x, hx⟩ : ∃ x, x = (Gr.row m z1 t).getD k 0 := ⟨_, rfl⟩
          rw [← hx] at gk
          obtain ⟨e1, e2, e3, e4⟩ := Gr.row_at HC.out (by rw [← HL.out]; exact hkl) hlt x hx
          clear hx
          obtain ⟨y, rfl⟩ : ∃ y : Nat, x = (y : Int) := ⟨x.toNat, by omega⟩
          simp only [Int.toNat_natCast] at e3
          have hy : y < m := by omega
          obtain ⟨Ay, cy, gy, ry⟩ := HCC.out y hy
          rw [Gr.rows_getD z1 hy] at gy ry
          obtain ⟨Ly, hLy⟩ : ∃ L, L = (Gr.row m z1 y).length := ⟨_, rfl⟩
          rw [← hLy] at gy ry
          have H3 := Lib.hid e3
          clear hLy e3
          have hne1 : ((y : Int) == (t : Int)) = false := by simpa using e4
          have hne2 : (y == t) = false := by simp; omega
          clear e4
          go_wp2_with fail
          refine (in_yes (y : Int) 0 ((m : Int) - 1) _ (by omega) (by omega)).mono ?_
          rintro e x6 ⟨rfl, rfl⟩
          go_wp2_with fail
          refine (Has_any Ay Ly cy _ (t : Int) true _ ry H3.out).mono ?_
          rintro e x7 ⟨rfl, rfl⟩
          go_wp2
          go_round
          case rel => exact ⟨k + 1, by omega, by go_num⟩
          case measure => simp [intOf]; omega
        · obtain rfl : k = L := by omega
          go_wp2
          go_round
          case rel => exact ⟨t + 1, by omega, by go_num⟩
          case measure => simp [intOf]; omega
    · obtain rfl : t = m := by omega
      go_wp2
      go_ret
      exact ⟨rfl, hbf⟩

end Go.Proofs.Ytghdallaohpelaa.graphTurn
