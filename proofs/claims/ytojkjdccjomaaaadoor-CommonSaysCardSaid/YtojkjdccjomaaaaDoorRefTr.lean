/-
  The contract of the reference's Tree: what is wrong with a tree, as a number. No statement of the program is proved here; there is no condition.
-/
import Derived.Test.YtojkjdccjomaaaaDoorRefX
import Derived.Test.YtojkjdccjomaaaaDoorRefL
import Derived.Test.YtojkjdccjomaaaaDoorTreeU
namespace Go.Proofs.YtojkjdccjomaaaaDoor.RefTr
open Go.RowKit
open RefF (RdR_row RdR_block far_cell Far_either rowF_dists)
set_option linter.unusedSimpArgs false
set_option linter.unusedVariables false

set_option maxHeartbeats 400000 in
theorem Tree_err (n : Int) (A : Option Addr) (k c : Nat) (ls : List Gr.Ln) (w : World) (hr : RdP w w.heap.size A k c ls) (h : Gr.code n ls ≠ 0) :
    Calls Tryd.prog 4 #[.int .i64 n, .slice A k c] w fun e w' => e = .returned (.int .i64 (Gr.code n ls)) ∧ Below w.heap.size w w' := by
  obtain ⟨x, hx⟩ : ∃ x, x = Gr.code n ls := ⟨_, rfl⟩
  have hd : (x != 0) = true := by rw [hx]; simpa using h
  rw [← hx]
  have HX := Lib.hid hx
  clear h hx
  go_enter Tryd.func4, Tryd.ntmps4
  go_wp2_with fail
  refine (RefL.Lines_any n A k c ls _ hr).mono ?_
  rintro e w1 ⟨rfl, hb⟩
  rw [← HX.out]
  go_wp2
  go_ret
  exact ⟨rfl, hb⟩

set_option maxHeartbeats 400000 in
theorem Tree_len (m : Nat) (A : Option Addr) (k c : Nat) (ls : List Gr.Ln) (w : World) (hr : RdP w w.heap.size A k c ls) (h : Gr.code (m : Int) ls = 0) (hl : (ls.length : Int) ≠ (m : Int) - 1) :
    Calls Tryd.prog 4 #[.int .i64 (m : Int), .slice A k c] w fun e w' => e = .returned (.int .i64 7) ∧ Below w.heap.size w w' := by
  have hm8 : m ≤ 8 := by have := (Gr.code_zero.1 h).2.1; omega
  have hm1 : 1 ≤ m := by have := (Gr.code_zero.1 h).1; omega
  obtain ⟨q, hq⟩ : ∃ q : Int, q = (m : Int) - 1 := ⟨_, rfl⟩
  have hw : IntKind.i64.wrap ((m : Int) - 1) = q := by rw [IntKind.wrap_i64]; omega
  have hd : ((k : Int) != q) = true := by rw [hr.len] at hl; simp; omega
  have H := Lib.hid h
  clear h hl hq
  go_enter Tryd.func4, Tryd.ntmps4
  go_wp2_with fail
  refine (RefL.Lines_any (m : Int) A k c ls _ hr).mono ?_
  rintro e w1 ⟨rfl, hb⟩
  rw [H.out]
  go_wp2
  go_ret
  exact ⟨rfl, hb⟩

set_option maxRecDepth 100000 in
set_option maxHeartbeats 2000000 in
theorem Tree_far (m : Nat) (A : Option Addr) (k c : Nat) (ls : List Gr.Ln) (w : World) (hr : RdP w w.heap.size A k c ls) (h : Gr.code (m : Int) ls = 0) (hl : (ls.length : Int) = (m : Int) - 1) :
    Calls Tryd.prog 4 #[.int .i64 (m : Int), .slice A k c] w fun e w' => e = .returned (.int .i64 (Tr.tcode (m : Int) ls)) ∧ Below w.heap.size w w' := by
  have hm8 : m ≤ 8 := by have := (Gr.code_zero.1 h).2.1; omega
  have hm1 : 1 ≤ m := by have := (Gr.code_zero.1 h).1; omega
  obtain ⟨q, hq⟩ : ∃ q : Int, q = (m : Int) - 1 := ⟨_, rfl⟩
  have hw : IntKind.i64.wrap ((m : Int) - 1) = q := by rw [IntKind.wrap_i64]; omega
  have hd : ((k : Int) != q) = false := by rw [hr.len] at hl; simp; omega
  have HT := Lib.hid (Tr.tcode_far h hl)
  have H := Lib.hid h
  clear h hl hq
  go_enter Tryd.func4, Tryd.ntmps4
  go_wp2_with fail
  refine (RefL.Lines_any (m : Int) A k c ls _ hr).mono ?_
  rintro e w1 ⟨rfl, hb⟩
  rw [H.out]
  have hr1 := hr.past hb
  go_wp2_with fail
  refine (Far_either m A k c ls _ hr1 hm1 hm8).mono ?_
  rintro e w2 ⟨gb, cb, rfl, hrows, hb2⟩
  obtain ⟨A', c', g0, hrow⟩ := RdR_row hrows (i := 0) (by omega)
  obtain ⟨b1, o1, rfl, hb1, hc1⟩ := hrow.at_ (by omega)
  have HC : Hid (∀ i, i < m → w2.cell? ⟨b1, o1 + i, none⟩ = some (.int .i64 (Wa.dist m (Wa.nrow m ls) 0 i))) := by
    show ∀ i, _
    intro i hi
    rw [hc1 i hi, rowF_at _ 0 hi]
  have hb02 := hb.trans (hb2.mono hb.size)
  have hmb : m ≤ c' := hrow.le
  have hcb := hrow.cap
  have hcb2 := hrows.big
  clear hc1 hrow hrows hr1 hb hb2 hr
  go_wp2
  go_loopw [7] (fun iv wr => ∃ i : Nat, i ≤ m ∧ iv = .int .i64 (i : Int) ∧ Hid (∀ j, j < i → 0 ≤ Wa.dist m (Wa.nrow m ls) 0 j) ∧ w2 = wr) (fun iv _ => m - (intOf iv).toNat)
  case atStart => exact ⟨0, Nat.zero_le _, rfl, fun j hj => absurd hj (Nat.not_lt_zero _), rfl⟩
  case round =>
    obtain ⟨i, hi, rfl, HA, rfl⟩ := hrel
    by_cases hlt : i < m
    · have g1 := HC.out i hlt
      obtain ⟨d, hdd⟩ : ∃ d, d = Wa.dist m (Wa.nrow m ls) 0 i := ⟨_, rfl⟩
      rw [← hdd] at g1
      have i1 : (0 : Int) ≤ (i : Int) := by omega
      have i2 : (i : Int) < (m : Int) := by omega
      by_cases hneg : d < 0
      · have HF : Hid (Tr.tcode (m : Int) ls = 7) := by
          show _ = _
          rw [HT.out, if_neg]
          intro hall
          have := hall i hlt
          omega
        clear hdd
        go_wp2
        go_ret
        exact ⟨by rw [HF.out]; rfl, hb02⟩
      · have hd1 : decide (d < 0) = false := decide_eq_false hneg
        have HN : Hid (∀ j, j < i + 1 → 0 ≤ Wa.dist m (Wa.nrow m ls) 0 j) := by
          show ∀ j, _
          intro j hj
          by_cases e : j = i
          · subst e; omega
          · exact HA.out j (by omega)
        clear hdd hneg
        go_wp2
        go_roundw
        case rel => exact ⟨i + 1, by omega, by go_num, HN, trivial⟩
        case measure => simp [intOf]; omega
    · obtain rfl : i = m := by omega
      have HF : Hid (Tr.tcode (i : Int) ls = 0) := by
        show _ = _
        rw [HT.out, if_pos HA.out]
      go_wp2
      go_ret
      exact ⟨by rw [HF.out]; rfl, hb02⟩

theorem Tree_any (n : Int) (A : Option Addr) (k c : Nat) (ls : List Gr.Ln) (w : World) (hr : RdP w w.heap.size A k c ls) :
    Calls Tryd.prog 4 #[.int .i64 n, .slice A k c] w fun e w' => e = .returned (.int .i64 (Tr.tcode n ls)) ∧ Below w.heap.size w w' := by
  by_cases h : Gr.code n ls = 0
  · have h1 := (Gr.code_zero.1 h).1
    obtain ⟨m, rfl⟩ : ∃ m : Nat, n = (m : Int) := ⟨n.toNat, by omega⟩
    by_cases hl : (ls.length : Int) = (m : Int) - 1
    · exact Tree_far m A k c ls w hr h hl
    · rw [Tr.tcode_len h hl]
      exact Tree_len m A k c ls w hr h hl
  · rw [Tr.tcode_bad h]
    exact Tree_err n A k c ls w hr h

end Go.Proofs.YtojkjdccjomaaaaDoor.RefTr
