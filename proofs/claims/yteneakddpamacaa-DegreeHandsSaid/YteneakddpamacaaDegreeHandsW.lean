/-
  The walk of the law DegreeHands: for every number of points and lines it returns true.
-/
import Derived.Test.YteneakddpamacaaDegreeE
namespace Go.Proofs.Yteneakddpamacaa.degreeHands
open Go.RowKit

set_option maxRecDepth 100000 in
set_option maxHeartbeats 4000000 in
theorem walk (w : World) (a0 : Int) (_w0 : (Lit.int .i64 a0).wf = true) (a1 : Option Addr) (n1 c1 : Nat) (z1 : List Gr.Ln) (w1 : RdP w w.heap.size a1 n1 c1 z1) :
    Calls Try.prog 3 #[.int .i64 a0, .slice a1 n1 c1] w fun e w' => e = .returned (.bool true) ∧ Below w.heap.size w w' := by
  go_enter Try.func3, Try.ntmps3
  go_wp2_with fail
  refine (degreeFact_any _).mono ?_
  rintro e x1 ⟨rfl, hb1⟩
  go_wp2_with fail
  refine (Of_any a0 a1 n1 c1 z1 _ (w1.past hb1)).mono ?_
  rintro e x2 ⟨hb2, (⟨hne, rfl⟩ | ⟨h0, A, c, rfl, hr⟩)⟩
  · have hb := hb1.trans (hb2.mono hb1.size)
    clear hne
    go_wp2
    go_ret
    exact ⟨rfl, hb⟩
  have hb := hb1.trans (hb2.mono hb1.size)
  clear hb1 hb2
  obtain ⟨z1', z8, _, _⟩ := Gr.code_zero.1 h0
  obtain ⟨m, rfl⟩ : ∃ m : Nat, a0 = (m : Int) := ⟨a0.toNat, by omega⟩
  simp only [Int.toNat_natCast] at hr ⊢
  have HC := Lib.hid h0
  clear h0
  have hl := w1.past hb
  have hm8 : m ≤ 8 := by omega
  have hnn : ((m : Int) != (m : Int)) = false := by simp
  go_wp2
  go_loop [8, 10, 11] (fun s i _ => ∃ (k : Nat) (p : Int), k ≤ m ∧ i = .int .i64 k ∧ s = .int .i64 p ∧ 0 ≤ p ∧ p ≤ 8 * (k : Int) ∧ Hid (p = ((De.prs (De.rel z1) k : Nat) : Int))) (fun _ i _ => m - (intOf i).toNat)
  case atStart => exact ⟨0, 0, Nat.zero_le _, rfl, rfl, by omega, by omega, rfl⟩
  case round =>
    obtain ⟨k, p, hk, rfl, rfl, hp0, hp8, H⟩ := hrel
    by_cases hlt : k < m
    · go_wp2
      go_loop [8, 11] (fun s j => ∃ (i : Nat) (q : Int), i ≤ k ∧ j = .int .i64 i ∧ s = .int .i64 q ∧ 0 ≤ q ∧ q ≤ 8 * (k : Int) + (i : Int) ∧ Hid (q = ((De.prsTo (De.rel z1) k i : Nat) : Int))) (fun _ j => k - (intOf j).toNat)
      case atStart => exact ⟨0, p, Nat.zero_le _, rfl, rfl, hp0, by omega, by show _ = _; rw [De.prsTo_zero]; exact H.out⟩
      case round =>
        obtain ⟨i, q, hi, rfl, rfl, hq0, hq8, HQ⟩ := hrel
        by_cases hik : i < k
        · cases ht : Gr.adj z1 (k : Int) (i : Int) with
          | true =>
            have hnx : Hid (q + 1 = ((De.prsTo (De.rel z1) k (i + 1) : Nat) : Int)) := by show _ = _; rw [De.prsTo_hit ht, HQ.out]; omega
            have HT := Lib.hid ht
            clear ht
            go_wp2_with fail
            refine (RefL.Beside_any a1 n1 c1 z1 (k : Int) (i : Int) true _ hl HT.out).mono ?_
            rintro e y1 ⟨rfl, rfl⟩
            go_wp2
            go_round
            case rel => exact ⟨i + 1, q + 1, by omega, by go_num, rfl, by omega, by omega, hnx⟩
            case measure => simp [intOf]; omega
          | false =>
            have hnx : Hid (q = ((De.prsTo (De.rel z1) k (i + 1) : Nat) : Int)) := by show _ = _; rw [De.prsTo_miss ht, HQ.out]
            have HT := Lib.hid ht
            clear ht
            go_wp2_with fail
            refine (RefL.Beside_any a1 n1 c1 z1 (k : Int) (i : Int) false _ hl HT.out).mono ?_
            rintro e y1 ⟨rfl, rfl⟩
            go_wp2
            go_round
            case rel => exact ⟨i + 1, q, by omega, by go_num, rfl, by omega, by omega, hnx⟩
            case measure => simp [intOf]; omega
        · have hnx : Hid (q = ((De.prs (De.rel z1) (k + 1) : Nat) : Int)) := by
            show _ = _
            obtain rfl : i = k := by omega
            rw [HQ.out, De.prsTo_row]
          go_wp2
          go_round
          case rel => exact ⟨k + 1, q, by omega, by go_num, rfl, by omega, by omega, hnx⟩
          case measure => simp [intOf]; omega
    · have hkm : Hid (De.tot (De.degs m z1) = 2 * p) := by
        show _ = _
        obtain rfl : k = m := by omega
        rw [De.degs_tot HC.out, H.out]
      have hok := De.code_zero.1 (De.degs_code HC.out)
      have HOK := Lib.hid hok.2.2
      clear hok
      go_wp2
      go_loop [9, 12] (fun s i => ∃ (j : Nat) (o : Int), j ≤ m ∧ i = .int .i64 j ∧ s = .int .i64 o ∧ 0 ≤ o ∧ o ≤ (j : Int) ∧ Hid (o % 2 = De.tot ((De.degs m z1).take j) % 2)) (fun _ i => m - (intOf i).toNat)
      case atStart => exact ⟨0, 0, Nat.zero_le _, rfl, rfl, by omega, by omega, rfl⟩
      case round =>
        obtain ⟨j, o, hj, rfl, rfl, ho0, hoj, HO⟩ := hrel
        by_cases hjm : j < m
        · obtain ⟨b1, o1, rfl, hbb, hcc⟩ := hr.at_ (by omega)
          have g1 := hcc j hjm
          clear hcc
          obtain ⟨hd0, hdm⟩ := De.degs_at HC.out hjm
          have hnx := De.odd_take (l := De.degs m z1) (by rw [De.degs_len]; exact hjm) HO.out
          obtain ⟨d, hd⟩ : ∃ d, d = (De.degs m z1).getD j 0 := ⟨_, rfl⟩
          rw [← hd] at g1 hd0 hdm hnx
          have HN := Lib.hid hnx
          clear hd hnx
          go_wp2_with fail
          refine (in_yes d 0 ((m : Int) - 1) _ hd0 hdm).mono ?_
          rintro e y1 ⟨rfl, rfl⟩
          go_wp2
          go_round
          case rel => exact ⟨j + 1, o + d % 2, by omega, by go_num, rfl, by omega, by omega, HN⟩
          case measure => simp [intOf]; omega
        · have hev : o % 2 = 0 := by
            have h1 := HO.out
            rw [List.take_of_length_le (by rw [De.degs_len]; omega), hkm.out] at h1
            omega
          have hde : (o % 2 == 0) = true := by simpa using hev
          have hmm : ((m : Int) == (m : Int)) = true := by simp
          have hpp : (2 * p == 2 * p) = true := by simp
          have hk8 : (k : Int) ≤ 8 := by omega
          clear hev
          have hES := ESum_any A m c _ x2 hr HOK.out hm8
          rw [hkm.out] at hES
          go_wp2_with fail
          refine hES.mono ?_
          rintro e y1 ⟨rfl, rfl⟩
          go_wp2
          go_ret
          exact ⟨rfl, hb⟩

end Go.Proofs.Yteneakddpamacaa.degreeHands
