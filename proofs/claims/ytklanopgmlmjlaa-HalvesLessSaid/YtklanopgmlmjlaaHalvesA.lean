/-
  Contracts of package halves: oddWalk, Odd, the closure of Part, Part.
-/
import Derived.Test.YtklanopgmlmjlaaHalvesP
import Derived.Test.YtklanopgmlmjlaaWalkH
import Derived.Test.YtklanopgmlmjlaaFindFn
import Derived.Test.YtklanopgmlmjlaaLibT
import Derived.Test.YtklanopgmlmjlaaGraphO
import Derived.RangeFuncBox
import Derived.BigQuiet
import Derived.BigRegion
namespace Go.Proofs.Ytklanopgmlmjlaa
open Go.RowKit

set_option linter.unusedSimpArgs false
set_option linter.unusedVariables false

set_option maxRecDepth 100000 in
set_option maxHeartbeats 2000000 in
theorem oddWalk_any (m s g : Nat) (A : Option Addr) (n c : Nat) (ls : List Gr.Ln) (w : World) (hr : RdP w w.heap.size A n c ls) (ho : Rd w w.heap.size (some ⟨g, 0, none⟩) m m (Wa.dists m (Wa.nrow m ls) s)) (h : Gr.code (m : Int) ls = 0) (hs : s < m) :
    Calls Try.prog 15 #[.slice (some ⟨g, 0, none⟩) m m, .slice A n c] w fun e w' => e = .returned (.int .i64 (Ha.ow m (Wa.nrow m ls) s ls)) ∧ Below w.heap.size w w' := by
  have hm8 : m ≤ 8 := by have := (Gr.code_zero.1 h).2.1; omega
  have hn24 : n ≤ 24 := by have := (Gr.code_zero.1 h).2.2.1; have := hr.len; omega
  have H := Lib.hid h
  have HX := Lib.hid hr.len
  have HC : Hid (∀ V : World, Below w.heap.size w V → ∀ p, p < m → V.cell? ⟨g, p, none⟩ = some (.int .i64 (Wa.dist m (Wa.nrow m ls) s p))) := by
    intro V hV p hp
    obtain ⟨b, o, e, hb, hc⟩ := (ho.below hV).at_ (by omega)
    simp only [Option.some.injEq, Addr.mk.injEq, and_true] at e
    obtain ⟨rfl, rfl⟩ := e
    have := hc p hp
    rw [Nat.zero_add, Wa.dists_at _ _ hp] at this
    exact this
  clear h ho
  go_enter Try.func15, Try.ntmps15
  go_wp2
  go_loopw [5, 12] (fun bv iv wr => ∃ j : Nat, j ≤ n ∧ iv = .int .i64 (j : Int) ∧ bv = .int .i64 (Ha.ow m (Wa.nrow m ls) s (ls.take j)) ∧ Below w.heap.size w wr) (fun _ iv _ => n - (intOf iv).toNat)
  case atStart => exact ⟨0, Nat.zero_le _, rfl, rfl, Below.refl _ _⟩
  case round =>
    obtain ⟨j, hjn, rfl, rfl, hbel⟩ := hrel
    by_cases hlt : j < n
    · have hjl : j < ls.length := by rw [HX.out]; exact hlt
      obtain ⟨b1, o1, rfl, hbb, hcc⟩ := (hr.below hbel).at_ (by omega)
      obtain ⟨g1, g2⟩ := hcc j hlt
      clear hcc
      obtain ⟨p, q, hpq, hp, hq, hmem⟩ := Ha.line_at H.out hjl
      have HT := Lib.hid (Ha.ow_take (m := m) (R := Wa.nrow m ls) (s := s) hjl)
      have hrange := Ha.flat_range H.out hs hmem
      rw [hpq] at g1 g2 HT hrange
      simp only at g1 g2
      have hal : Below wr.heap.size wr (wr.alloc (.cells #[.int .i64 (p : Int), .int .i64 (q : Int)] 24)) := (Below.refl _ _).alloc (Nat.le_refl _) _
      have hb2 : Below w.heap.size w (wr.alloc (.cells #[.int .i64 (p : Int), .int .i64 (q : Int)] 24)) := hbel.trans (hal.mono hbel.size)
      have d1 := HC.out _ hb2 p hp
      have d2 := HC.out _ hb2 q hq
      simp only [Int.toNat_natCast] at hrange
      have HF : Hid (Ha.flat m (Wa.nrow m ls) s ((p : Int), (q : Int)) = if 0 ≤ Wa.dist m (Wa.nrow m ls) s p ∧ Wa.dist m (Wa.nrow m ls) s p = Wa.dist m (Wa.nrow m ls) s q then 2 * Wa.dist m (Wa.nrow m ls) s p + 1 else 0) := by
        show _ = _
        unfold Ha.flat
        simp only [Int.toNat_natCast]
      generalize Ha.flat m (Wa.nrow m ls) s ((p : Int), (q : Int)) = f at HF HT
      generalize Wa.dist m (Wa.nrow m ls) s p = dp at d1 HF hrange
      generalize Wa.dist m (Wa.nrow m ls) s q = dq at d2 HF
      generalize Ha.ow m (Wa.nrow m ls) s (ls.take j) = b at HT ⊢
      have k1 : (0 : Int) ≤ (j : Int) := by omega
      have k2 : (j : Int) < (n : Int) := by omega
      have k3 : (0 : Int) ≤ (p : Int) := by omega
      have k4 : (p : Int) < (m : Int) := by omega
      have k5 : (0 : Int) ≤ (q : Int) := by omega
      have k6 : (q : Int) < (m : Int) := by omega
      clear hpq hjl hmem hal hbb
      by_cases hneg : dp < 0
      · have HN : Hid (Ha.ow m (Wa.nrow m ls) s (ls.take (j + 1)) = b) := by
          show _ = _
          rw [HT.out, HF.out, if_neg (by omega), Ha.better_zero]
        have e1 : decide (dp < 0) = true := by simpa using hneg
        clear HT HF hrange
        go_wp2
        go_roundw
        case rel => exact ⟨j + 1, by omega, by go_num, by rw [HN.out], hb2⟩
        case measure => simp [intOf]; omega
      · have e1 : decide (dp < 0) = false := by simpa using hneg
        by_cases heq : dp = dq
        · obtain ⟨y, hy⟩ : ∃ y, IntKind.i64.wrap (2 * dp) = y := ⟨_, rfl⟩
          obtain ⟨x, hx⟩ : ∃ x, IntKind.i64.wrap (y + 1) = x := ⟨_, rfl⟩
          have hxx : Hid (f = x ∧ 0 < x) := by
            have h1 : IntKind.i64.wrap (2 * dp) = 2 * dp := by rw [IntKind.wrap_i64]; omega
            have h2 : IntKind.i64.wrap (2 * dp + 1) = 2 * dp + 1 := by rw [IntKind.wrap_i64]; omega
            rw [h1] at hy
            subst hy
            rw [h2] at hx
            subst hx
            refine ⟨?_, by omega⟩
            rw [HF.out, if_pos ⟨by omega, heq⟩]
          have e2 : (dp != dq) = false := by simp [heq]
          have e3 : (dp == dq) = true := by simp [heq]
          have hx0 := hxx.out.2
          have HT2 : Hid (Ha.ow m (Wa.nrow m ls) s (ls.take (j + 1)) = Wa.better x b) := by
            show _ = _
            rw [HT.out, hxx.out.1]
          clear HT HF hrange hneg heq hxx
          by_cases hb0 : b = 0
          · have e4 : (b == 0) = true := by simp [hb0]
            have HB : Hid (Wa.better x b = x) := by show _ = _; unfold Wa.better; rw [if_pos ⟨hx0, .inl hb0⟩]
            clear hb0
            go_wp2
            go_roundw
            case rel => exact ⟨j + 1, by omega, by go_num, by rw [HT2.out, HB.out], hb2⟩
            case measure => simp [intOf]; omega
          · have e4 : (b == 0) = false := by simpa using hb0
            by_cases hl : x < b
            · have e5 : decide (x < b) = true := by simpa using hl
              have HB : Hid (Wa.better x b = x) := by show _ = _; unfold Wa.better; rw [if_pos ⟨hx0, .inr hl⟩]
              clear hb0
              go_wp2
              go_roundw
              case rel => exact ⟨j + 1, by omega, by go_num, by rw [HT2.out, HB.out], hb2⟩
              case measure => simp [intOf]; omega
            · have e5 : decide (x < b) = false := by simpa using hl
              have HB : Hid (Wa.better x b = b) := by show _ = _; unfold Wa.better; rw [if_neg (fun h => h.2.elim hb0 hl)]
              clear hb0 hl
              go_wp2
              go_roundw
              case rel => exact ⟨j + 1, by omega, by go_num, by rw [HT2.out, HB.out], hb2⟩
              case measure => simp [intOf]; omega
        · have HN : Hid (Ha.ow m (Wa.nrow m ls) s (ls.take (j + 1)) = b) := by
            show _ = _
            rw [HT.out, HF.out, if_neg (fun h => heq h.2), Ha.better_zero]
          have e2 : (dp != dq) = true := by simpa using heq
          have e3 : (dp == dq) = false := by simpa using heq
          clear HT HF hrange hneg heq
          go_wp2
          go_roundw
          case rel => exact ⟨j + 1, by omega, by go_num, by rw [HN.out], hb2⟩
          case measure => simp [intOf]; omega
    · obtain rfl : j = n := by omega
      have hfin : Hid (Ha.ow m (Wa.nrow m ls) s (ls.take j) = Ha.ow m (Wa.nrow m ls) s ls) := by show _ = _; rw [List.take_of_length_le (by rw [HX.out]; exact Nat.le_refl _)]
      generalize Ha.ow m (Wa.nrow m ls) s (ls.take j) = b at hfin ⊢
      go_wp2
      go_ret
      exact ⟨by rw [hfin.out]; rfl, hbel⟩

theorem Odd_err (n : Int) (A : Option Addr) (k c : Nat) (ls : List Gr.Ln) (w : World) (hr : RdP w w.heap.size A k c ls) (h : Gr.code n ls ≠ 0) :
    Calls Try.prog 8 #[.int .i64 n, .slice A k c] w fun e w' => e = .returned (.tuple #[.int .i64 0, errv (Gr.code n ls)]) ∧ Below w.heap.size w w' := by
  have H := Lib.hid h
  clear h
  go_enter Try.func8, Try.ntmps8
  go_wp2_with fail
  refine (GCheck_err n A k c ls _ hr H.out).mono ?_
  rintro e w1 ⟨rfl, hb⟩
  go_wp2
  go_ret2
  exact ⟨rfl, hb⟩

set_option maxRecDepth 100000 in
set_option maxHeartbeats 2000000 in
theorem Odd_ok (m : Nat) (A : Option Addr) (k c : Nat) (ls : List Gr.Ln) (w : World) (hr : RdP w w.heap.size A k c ls) (h : Gr.code (m : Int) ls = 0) :
    Calls Try.prog 8 #[.int .i64 (m : Int), .slice A k c] w fun e w' => e = .returned (.tuple #[.int .i64 (Ha.odd m ls), .nilIface]) ∧ Below w.heap.size w w' := by
  have hm8 : m ≤ 8 := by have := (Gr.code_zero.1 h).2.1; omega
  have H := Lib.hid h
  clear h
  go_enter Try.func8, Try.ntmps8
  go_wp2_with fail
  refine (GCheck_nil (m : Int) A k c ls _ hr H.out).mono ?_
  rintro e w1 ⟨rfl, hb1⟩
  go_wp2
  go_loopw [7, 19] (fun bv vv wr => ∃ v : Nat, v ≤ m ∧ vv = .int .i64 (v : Int) ∧ bv = .int .i64 (Ha.oddTo m ls v) ∧ Below w.heap.size w wr) (fun _ vv _ => m - (intOf vv).toNat)
  case atStart => exact ⟨0, Nat.zero_le _, rfl, rfl, hb1⟩
  case round =>
    clear hb1
    obtain ⟨v, hvm, rfl, rfl, hb⟩ := hrel
    by_cases hlt : v < m
    · have hv1 : (0 : Int) ≤ (v : Int) := by omega
      have hv2 : (v : Int) < (m : Int) := by omega
      have HT : Hid (Ha.oddTo m ls (v + 1) = Wa.better (Ha.ow m (Wa.nrow m ls) v ls) (Ha.oddTo m ls v)) := rfl
      generalize Ha.oddTo m ls v = q at HT ⊢
      go_wp2_with fail
      refine (From_fine m v A k c ls _ (hr.past hb) H.out hlt).mono ?_
      rintro e w2 ⟨g, rfl, ho, hb2⟩
      have hb02 := hb.trans (hb2.mono hb.size)
      have HW := Lib.hid (oddWalk_any m v g A k c ls w2 (hr.past hb02) ho.rd' H.out hlt)
      generalize Ha.ow m (Wa.nrow m ls) v ls = x at HT HW
      clear ho hb hb2
      go_wp2_with fail
      refine HW.out.mono ?_
      rintro e w3 ⟨rfl, hb3⟩
      have hb03 := hb02.trans (hb3.mono hb02.size)
      clear hb02 hb3 HW
      by_cases hx : 0 < x
      · have d1 : decide (0 < x) = true := by simpa using hx
        by_cases hq : q = 0
        · have hq1 : (q == 0) = true := by simp [hq]
          have HB : Hid (Wa.better x q = x) := by show _ = _; unfold Wa.better; rw [if_pos ⟨hx, .inl hq⟩]
          clear hq
          go_wp2
          go_roundw
          case rel => exact ⟨v + 1, by omega, by go_num, by rw [HT.out, HB.out], hb03⟩
          case measure => simp [intOf]; omega
        · have hq1 : (q == 0) = false := by simpa using hq
          by_cases hl : x < q
          · have HB : Hid (Wa.better x q = x) := by show _ = _; unfold Wa.better; rw [if_pos ⟨hx, .inr hl⟩]
            clear hq
            go_wp2
            go_roundw
            case rel => exact ⟨v + 1, by omega, by go_num, by rw [HT.out, HB.out], hb03⟩
            case measure => simp [intOf]; omega
          · have HB : Hid (Wa.better x q = q) := by show _ = _; unfold Wa.better; rw [if_neg (fun h => h.2.elim hq hl)]
            have hdl : decide (x < q) = false := by simpa using hl
            clear hq hl
            go_wp2
            go_roundw
            case rel => exact ⟨v + 1, by omega, by go_num, by rw [HT.out, HB.out], hb03⟩
            case measure => simp [intOf]; omega
      · have HB : Hid (Wa.better x q = q) := by show _ = _; unfold Wa.better; rw [if_neg (fun h => hx h.1)]
        have hdx : decide (0 < x) = false := by simpa using hx
        clear hx
        go_wp2
        go_roundw
        case rel => exact ⟨v + 1, by omega, by go_num, by rw [HT.out, HB.out], hb03⟩
        case measure => simp [intOf]; omega
    · obtain rfl : v = m := by omega
      go_wp2
      go_ret2
      exact ⟨rfl, hb⟩

end Go.Proofs.Ytklanopgmlmjlaa
