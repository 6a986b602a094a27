/-
  The contracts of Check and farthest of package tree: is it a tree, and how far is the farthest from each point? No statement of the program is proved here; there is no condition.
-/
import Derived.Test.YtojkjdccjomaaaaDoorWalkH
import Derived.Test.YtojkjdccjomaaaaDoorMaxI
import Derived.Test.YtojkjdccjomaaaaDoorTreeU
import Derived.Test.YtojkjdccjomaaaaDoorLibS
namespace Go.Proofs.YtojkjdccjomaaaaDoor
open Go.RowKit
set_option linter.unusedSimpArgs false
set_option linter.unusedVariables false

set_option maxHeartbeats 400000 in
theorem TCheck_err (n : Int) (A : Option Addr) (k c : Nat) (ls : List Gr.Ln) (w : World) (hr : RdP w w.heap.size A k c ls) (h : Gr.code n ls ≠ 0) :
    Calls Tryd.prog 16 #[.int .i64 n, .slice A k c] w fun e w' => e = .returned (errv (Gr.code n ls)) ∧ Below w.heap.size w w' := by
  have H := Lib.hid h
  clear h
  go_enter Tryd.func16, Tryd.ntmps16
  go_wp2_with fail
  refine (Parts_any n A k c ls _ hr).mono ?_
  rintro e w1 ⟨hb, (⟨h0, rfl⟩ | ⟨h0, _⟩)⟩
  · go_wp2
    go_ret
    exact ⟨rfl, hb⟩
  · exact absurd h0 H.out

set_option maxHeartbeats 400000 in
theorem TCheck_len (m : Nat) (A : Option Addr) (k c : Nat) (ls : List Gr.Ln) (w : World) (hr : RdP w w.heap.size A k c ls) (h : Gr.code (m : Int) ls = 0) (hl : (ls.length : Int) ≠ (m : Int) - 1) :
    Calls Tryd.prog 16 #[.int .i64 (m : Int), .slice A k c] w fun e w' => e = .returned (errv 7) ∧ Below w.heap.size w w' := by
  have hm8 : m ≤ 8 := by have := (Gr.code_zero.1 h).2.1; omega
  have hm1 : 1 ≤ m := by have := (Gr.code_zero.1 h).1; omega
  obtain ⟨q, hq⟩ : ∃ q : Int, q = (m : Int) - 1 := ⟨_, rfl⟩
  have hw : IntKind.i64.wrap ((m : Int) - 1) = q := by rw [IntKind.wrap_i64]; omega
  have hd : ((k : Int) != q) = true := by rw [hr.len] at hl; simp; omega
  have H := Lib.hid h
  clear h hl hq
  go_enter Tryd.func16, Tryd.ntmps16
  go_wp2_with fail
  refine (Parts_fine m A k c ls _ hr H.out).mono ?_
  rintro e w1 ⟨g, rfl, _, hb⟩
  go_wp2
  go_ret
  exact ⟨rfl, hb⟩

set_option maxHeartbeats 400000 in
theorem TCheck_max (m : Nat) (A : Option Addr) (k c : Nat) (ls : List Gr.Ln) (w : World) (hr : RdP w w.heap.size A k c ls) (h : Gr.code (m : Int) ls = 0) (hl : (ls.length : Int) = (m : Int) - 1) :
    Calls Tryd.prog 16 #[.int .i64 (m : Int), .slice A k c] w fun e w' => e = .returned (errOf (Tr.tcode (m : Int) ls)) ∧ Below w.heap.size w w' := by
  have hm8 : m ≤ 8 := by have := (Gr.code_zero.1 h).2.1; omega
  have hm1 : 1 ≤ m := by have := (Gr.code_zero.1 h).1; omega
  obtain ⟨q, hq⟩ : ∃ q : Int, q = (m : Int) - 1 := ⟨_, rfl⟩
  have hw : IntKind.i64.wrap ((m : Int) - 1) = q := by rw [IntKind.wrap_i64]; omega
  have hd : ((k : Int) != q) = false := by rw [hr.len] at hl; simp; omega
  have H := Lib.hid h
  have HL := Lib.hid hl
  clear h hl hq
  go_enter Tryd.func16, Tryd.ntmps16
  go_wp2_with fail
  refine (Parts_fine m A k c ls _ hr H.out).mono ?_
  rintro e w1 ⟨g, rfl, hown, hb⟩
  have hrd := hown.rd'
  clear hown
  go_wp2_with fail
  refine (Max_any _ m m _ _ hrd hm1).mono ?_
  rintro e w2 ⟨d, rfl, h1, h2, rfl⟩
  have HT := Lib.hid (Tr.tcode_max H.out HL.out h1 h2)
  clear h1 h2
  by_cases hd0 : 0 < d
  · have HE : Hid (Tr.tcode (m : Int) ls = 7) := by show _ = _; rw [HT.out, if_pos hd0]
    go_wp2
    go_ret
    exact ⟨by rw [HE.out]; rfl, hb⟩
  · have HE : Hid (Tr.tcode (m : Int) ls = 0) := by show _ = _; rw [HT.out, if_neg hd0]
    have hd1 : decide (0 < d) = false := decide_eq_false hd0
    clear hd0
    go_wp2
    go_ret
    exact ⟨by rw [HE.out]; rfl, hb⟩

theorem TCheck_any (n : Int) (A : Option Addr) (k c : Nat) (ls : List Gr.Ln) (w : World) (hr : RdP w w.heap.size A k c ls) :
    Calls Tryd.prog 16 #[.int .i64 n, .slice A k c] w fun e w' => e = .returned (errOf (Tr.tcode n ls)) ∧ Below w.heap.size w w' := by
  by_cases h : Gr.code n ls = 0
  · have h1 := (Gr.code_zero.1 h).1
    obtain ⟨m, rfl⟩ : ∃ m : Nat, n = (m : Int) := ⟨n.toNat, by omega⟩
    by_cases hl : (ls.length : Int) = (m : Int) - 1
    · exact TCheck_max m A k c ls w hr h hl
    · rw [Tr.tcode_len h hl]
      exact TCheck_len m A k c ls w hr h hl
  · rw [Tr.tcode_bad h, errOf_pos h]
    exact TCheck_err n A k c ls w hr h
theorem TCheck_bad (n : Int) (A : Option Addr) (k c : Nat) (ls : List Gr.Ln) (w : World) (hr : RdP w w.heap.size A k c ls) (h : Tr.tcode n ls ≠ 0) :
    Calls Tryd.prog 16 #[.int .i64 n, .slice A k c] w fun e w' => e = .returned (errv (Tr.tcode n ls)) ∧ Below w.heap.size w w' := by
  have := TCheck_any n A k c ls w hr
  rwa [errOf_pos h] at this
theorem TCheck_ok (n : Int) (A : Option Addr) (k c : Nat) (ls : List Gr.Ln) (w : World) (hr : RdP w w.heap.size A k c ls) (h : Tr.tcode n ls = 0) :
    Calls Tryd.prog 16 #[.int .i64 n, .slice A k c] w fun e w' => e = .returned .nilIface ∧ Below w.heap.size w w' := by
  have := TCheck_any n A k c ls w hr
  rwa [h] at this


end Go.Proofs.YtojkjdccjomaaaaDoor
