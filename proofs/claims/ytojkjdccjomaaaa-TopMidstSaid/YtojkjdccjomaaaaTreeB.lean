/-
  The contracts of Middle and Long of package tree: the points of the middle, how far the farthest is from there, how long the tree is, or what is wrong. No statement of the program is proved here; there is no condition.
-/
import Derived.Test.YtojkjdccjomaaaaTreeA
namespace Go.Proofs.Ytojkjdccjomaaaa
open Go.RowKit
set_option linter.unusedSimpArgs false
set_option linter.unusedVariables false

set_option maxHeartbeats 400000 in
theorem Middle_bad (n : Int) (A : Option Addr) (k c : Nat) (ls : List Gr.Ln) (w : World) (hr : RdP w w.heap.size A k c ls) (h : Tr.tcode n ls ≠ 0) :
    Calls Try.prog 18 #[.int .i64 n, .slice A k c] w fun e w' => e = .returned (.tuple #[.slice none 0 0, .int .i64 0, errv (Tr.tcode n ls)]) ∧ Below w.heap.size w w' := by
  have H := Lib.hid h
  clear h
  go_enter Try.func18, Try.ntmps18
  go_wp2_with fail
  refine (farthest_bad n A k c ls _ hr H.out).mono ?_
  rintro e w1 ⟨rfl, hb⟩
  go_wp2
  go_ret3
  exact ⟨rfl, hb⟩

set_option maxRecDepth 100000 in
set_option maxHeartbeats 2000000 in
theorem Middle_ok (m : Nat) (A : Option Addr) (k c : Nat) (ls : List Gr.Ln) (w : World) (hr : RdP w w.heap.size A k c ls) (h : Tr.tcode (m : Int) ls = 0) :
    Calls Try.prog 18 #[.int .i64 (m : Int), .slice A k c] w fun e w' => ∃ v, e = .returned (.tuple #[v, .int .i64 ((Tr.best m (Tr.far m ls) : Nat) : Int), .nilIface]) ∧ Own w' w.heap.size 3 v (Tr.midI m ls m) ∧ Below w.heap.size w w' := by
  obtain ⟨hc, hT⟩ := Tr.tcode_zero.1 h
  have hm8 : m ≤ 8 := by have := (Gr.code_zero.1 hc).2.1; omega
  have hm1 : 1 ≤ m := by have := (Gr.code_zero.1 hc).1; omega
  have H := Lib.hid h
  have HT := Lib.hid hT
  clear h hc hT
  go_enter Try.func18, Try.ntmps18
  go_wp2_with fail
  refine (farthest_ok m A k c ls _ hr H.out).mono ?_
  rintro e w1 ⟨g, rfl, hown, hb⟩
  have hrd := hown.rd'
  obtain ⟨b1, o1, e1, hb1, hc1⟩ := hrd.at_ (by omega)
  simp only [Option.some.injEq, Addr.mk.injEq, and_true] at e1
  obtain ⟨rfl, rfl⟩ := e1
  have HC : Hid (∀ i, i < m → w1.cell? ⟨g, i, none⟩ = some (.int .i64 ((Tr.ecc m (Tr.far m ls) i : Nat) : Int))) := by
    show ∀ i, _
    intro i hi
    have := hc1 i hi
    rw [Nat.zero_add, Tr.eccs_at ls hi] at this
    exact this
  clear hown hc1
  go_wp2_with fail
  refine (Min_any _ m m _ _ hrd hm1).mono ?_
  rintro e w2 ⟨d, rfl, h1, h2, rfl⟩
  have hd := Tr.min_best HT.out h1 h2
  subst hd
  obtain ⟨B, hB⟩ : ∃ B, B = Tr.best m (Tr.far m ls) := ⟨_, rfl⟩
  rw [← hB]
  have HB := Lib.hid hB
  clear h1 h2 hB hrd
  obtain ⟨s, hs⟩ : ∃ s, s = w1.heap.size := ⟨_, rfl⟩
  have hsw : w.heap.size ≤ s := by rw [hs]; exact hb.size
  rw [← hs] at hb1
  have h0 : Own w1 s 3 (.slice none 0 0) (Tr.midI m ls 0) := Own.nil _ _ _
  have hb0 : Below s w1 w1 := Below.refl _ _
  have HS := Lib.hid hs
  clear hs
  go_wp2
  go_loopw [10, 11, 12, 26] (fun v _ _ iv wr => ∃ i : Nat, i ≤ m ∧ iv = .int .i64 (i : Int) ∧ Own wr s 3 v (Tr.midI m ls i) ∧ Below s w1 wr) (fun _ _ _ iv _ => m - (intOf iv).toNat)
  case atStart => exact ⟨0, Nat.zero_le _, rfl, h0, hb0⟩
  case round =>
    clear h0 hb0
    obtain ⟨i, hi, rfl, hown, hbw⟩ := hrel
    by_cases hlt : i < m
    · have g1 := (hbw.cell (p := ⟨g, i, none⟩) hb1).trans (HC.out i hlt)
      have i1 : (0 : Int) ≤ (i : Int) := by omega
      have i2 : (i : Int) < (m : Int) := by omega
      obtain ⟨x, hx⟩ : ∃ x, x = Tr.ecc m (Tr.far m ls) i := ⟨_, rfl⟩
      rw [← hx] at g1
      by_cases he : x = B
      · have hd : ((x : Int) == (B : Int)) = true := by simp [he]
        have HN : Hid (Tr.midI m ls (i + 1) = Tr.midI m ls i ++ [(i : Int)]) := Tr.midI_yes (by rw [← hx, he, HB.out])
        have HR : Hid ((Tr.midI m ls i).length + 1 ≤ 17592186044416) := by show _ ≤ _; have := Tr.midI_len m ls i; omega
        have hsz := hbw.size
        rw [← HS.out] at hsz
        clear he hx
        go_wp2_with (at_builtin; refine wpList_app _ rfl (.tmp 34) (.tmp 36) 28 rfl s 3 Try.underlying28 intInfo u10 _ rfl (hown.below ((Below.refl _ _).alloc (Nat.le_refl _) _)) (some ⟨wr.heap.size, 0, none⟩) 1 1 [(i : Int)] rfl (Rd.one _ _ _) HR.out (by simp; omega) ?_; intro v' w4 hown4 hgrow hat)
        go_roundw
        case rel =>
          have hba : Below s w1 (wr.alloc (.cells #[.int .i64 (i : Int)] 3)) := hbw.alloc hsz _
          exact ⟨i + 1, by omega, by go_num, by rw [HN.out]; exact hown4, hba.grown hgrow (by simp; omega) hown.at_base⟩
        case measure => simp [intOf]; omega
      · have hd : ((x : Int) == (B : Int)) = false := by simp; omega
        have HN : Hid (Tr.midI m ls (i + 1) = Tr.midI m ls i) := Tr.midI_no (by rw [← hx, ← HB.out]; exact he)
        clear he hx
        go_wp2
        go_roundw
        case rel => exact ⟨i + 1, by omega, by go_num, by rw [HN.out]; exact hown, hbw⟩
        case measure => simp [intOf]; omega
    · obtain rfl : i = m := by omega
      go_wp2
      go_ret3
      exact ⟨u10, by rw [← HB.out]; rfl, hown.mono hsw, hb.trans (hbw.mono hsw)⟩

set_option maxHeartbeats 400000 in
theorem Long_bad (n : Int) (A : Option Addr) (k c : Nat) (ls : List Gr.Ln) (w : World) (hr : RdP w w.heap.size A k c ls) (h : Tr.tcode n ls ≠ 0) :
    Calls Try.prog 17 #[.int .i64 n, .slice A k c] w fun e w' => e = .returned (.tuple #[.int .i64 0, errv (Tr.tcode n ls)]) ∧ Below w.heap.size w w' := by
  have H := Lib.hid h
  clear h
  go_enter Try.func17, Try.ntmps17
  go_wp2_with fail
  refine (farthest_bad n A k c ls _ hr H.out).mono ?_
  rintro e w1 ⟨rfl, hb⟩
  go_wp2
  go_ret2
  exact ⟨rfl, hb⟩
set_option maxHeartbeats 400000 in
theorem Long_ok (m : Nat) (A : Option Addr) (k c : Nat) (ls : List Gr.Ln) (w : World) (hr : RdP w w.heap.size A k c ls) (h : Tr.tcode (m : Int) ls = 0) :
    Calls Try.prog 17 #[.int .i64 (m : Int), .slice A k c] w fun e w' => e = .returned (.tuple #[.int .i64 ((Tr.mx (Tr.ecc m (Tr.far m ls)) m : Nat) : Int), .nilIface]) ∧ Below w.heap.size w w' := by
  have hm1 : 1 ≤ m := by have := (Gr.code_zero.1 (Tr.tcode_zero.1 h).1).1; omega
  have H := Lib.hid h
  clear h
  go_enter Try.func17, Try.ntmps17
  go_wp2_with fail
  refine (farthest_ok m A k c ls _ hr H.out).mono ?_
  rintro e w1 ⟨g, rfl, hown, hb⟩
  have hrd := hown.rd'
  clear hown
  go_wp2_with fail
  refine (Max_any _ m m _ _ hrd hm1).mono ?_
  rintro e w2 ⟨d, rfl, h1, h2, rfl⟩
  have hd := Tr.max_long hm1 h1 h2
  subst hd
  clear h1 h2 hrd
  go_wp2
  go_ret2
  exact ⟨rfl, hb⟩

end Go.Proofs.Ytojkjdccjomaaaa
