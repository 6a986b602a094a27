/-
  The walk of the law StrongTurn: for every number of points and lines it returns true. The lines take at most 2^47 - 4096 bytes, as every slice that is read.
-/
import Derived.Test.YtcapinapfobcbaaStrongF
import Derived.Test.YtcapinapfobcbaaRefL
import Derived.Deep.RegionHeld3
namespace Go.Proofs.Ytcapinapfobcbaa.strongTurn
open Go.RowKit
set_option linter.unusedSimpArgs false
set_option linter.unusedVariables false

theorem back_same (ls : List Gr.Ln) : Gr.back (Gr.back ls) = ls := by
  unfold Gr.back
  rw [List.map_reverse, List.reverse_reverse, List.map_map]
  exact List.map_id'' (fun _ => rfl) ls
theorem back_bad {n : Int} {ls : List Gr.Ln} (h : Gr.code n ls ≠ 0) : Gr.code n (Gr.back ls) ≠ 0 := fun e => h (by rw [← back_same ls]; exact Gr.code_back e)
theorem Back_rd (A : Option Addr) (n c : Nat) (ls : List Gr.Ln) (w : World) (hr : RdP w w.heap.size A n c ls) (hn : n * 16 ≤ 140737488351232) :
    Calls Try.prog 12 #[.slice A n c] w fun e w' => ∃ A1 c1, e = .returned (.slice A1 n c1) ∧ RdP w' w'.heap.size A1 n c1 (Gr.back ls) ∧ Below w.heap.size w w' := by
  have hl := hr.len
  refine (Back_any A n c ls w hr (by omega)).mono ?_
  rintro e w' ⟨v, rfl, hown, hb⟩
  obtain ⟨A1, c1, rfl, hrd⟩ := hown.rd
  rw [Gr.back_len, hl] at hrd ⊢
  exact ⟨A1, c1, rfl, hrd, hb⟩

set_option maxRecDepth 100000 in
set_option maxHeartbeats 2000000 in
/-- something is wrong with the lines -/
theorem bad (w : World) (a0 : Int) (a1 : Option Addr) (n1 c1 : Nat) (z1 : List Gr.Ln) (w1 : RdP w w.heap.size a1 n1 c1 z1) (s1 : n1 * 16 ≤ 140737488351232) (hc : Gr.code a0 z1 ≠ 0) :
    Calls Try.prog 4 #[.int .i64 a0, .slice a1 n1 c1] w fun e w' => e = .returned (.bool true) ∧ Below w.heap.size w w' := by
  have HN := Lib.hid hc
  have HB : Hid (Gr.code a0 (Gr.back z1) ≠ 0) := back_bad hc
  have HS := Lib.hid s1
  clear hc s1
  go_enter Try.func4, Try.ntmps4
  go_wp2_with fail
  refine (strongFact_any _).mono ?_
  rintro e x1 ⟨rfl, b1⟩
  go_wp2_with fail
  refine (Parts_code a0 a1 n1 c1 z1 _ (w1.past b1) HN.out).mono ?_
  rintro e x2 ⟨rfl, b2⟩
  have b02 := b1.trans (b2.mono b1.size)
  go_wp2_with fail
  refine (Back_rd a1 n1 c1 z1 _ (w1.past b02) HS.out).mono ?_
  rintro e x3 ⟨A3, c3, rfl, r3, b3⟩
  have b03 := b02.trans (b3.mono b02.size)
  go_wp2_with fail
  refine (Parts_code a0 A3 n1 c3 _ _ r3 HB.out).mono ?_
  rintro e x4 ⟨rfl, b4⟩
  have b04 := b03.trans (b4.mono b03.size)
  obtain ⟨k1, hk1⟩ : ∃ k1, k1 = Gr.code a0 z1 := ⟨_, rfl⟩
  obtain ⟨k2, hk2⟩ : ∃ k2, k2 = Gr.code a0 (Gr.back z1) := ⟨_, rfl⟩
  rw [← hk1, ← hk2]
  clear hk1 hk2
  go_wp2
  go_region_held3 (fun _ : World => True) (first | exact trivial | assumption)
    (first | (go_at_call 13; refine (Ints_t none none 0 0 0 0 [] [] true _ (Rd.nil _ _) (Rd.nil _ _) rfl).mono ?_; rintro e x5 ⟨rfl, b5⟩; have tr5 := trivial))
  go_wp2
  go_ret
  exact ⟨rfl, b04.drew.trans (b5.mono b04.size)⟩

set_option maxRecDepth 100000 in
set_option maxHeartbeats 2000000 in
theorem good (w : World) (m : Nat) (a1 : Option Addr) (n1 c1 : Nat) (z1 : List Gr.Ln) (w1 : RdP w w.heap.size a1 n1 c1 z1) (s1 : n1 * 16 ≤ 140737488351232) (h0 : Gr.code (m : Int) z1 = 0) :
    Calls Try.prog 4 #[.int .i64 (m : Int), .slice a1 n1 c1] w fun e w' => e = .returned (.bool true) ∧ Below w.heap.size w w' := by
  have hm1 : 1 ≤ m := by have := (Gr.code_zero.1 h0).1; omega
  have hmi : (0 : Int) < (m : Int) := by omega
  have hmd : decide (0 < m) = true := by simp; omega
  have HG := Lib.hid (Gr.code_zero.1 h0).2.2.2
  have HPT : Hid (Sg.parts m (Gr.back z1) = Sg.parts m z1) := Sg.parts_turn HG.out
  have H0 := Lib.hid h0
  have HB : Hid (Gr.code (m : Int) (Gr.back z1) = 0) := Gr.code_back h0
  have HS := Lib.hid s1
  clear h0 s1
  go_enter Try.func4, Try.ntmps4
  go_wp2_with fail
  refine (strongFact_any _).mono ?_
  rintro e x1 ⟨rfl, b1⟩
  go_wp2_with fail
  refine (Parts_yes m a1 n1 c1 z1 _ (w1.past b1) H0.out).mono ?_
  rintro e x2 ⟨A2, c2, rfl, r2, b2⟩
  have b02 := b1.trans (b2.mono b1.size)
  go_wp2_with fail
  refine (Back_rd a1 n1 c1 z1 _ (w1.past b02) HS.out).mono ?_
  rintro e x3 ⟨A3, c3, rfl, r3, b3⟩
  have b03 := b02.trans (b3.mono b02.size)
  go_wp2_with fail
  refine (Parts_yes m A3 n1 c3 _ _ r3 HB.out).mono ?_
  rintro e x4 ⟨A4, c4, rfl, r4, b4⟩
  have b04 := b03.trans (b4.mono b03.size)
  have r2' : Rd x4.drew x4.drew.heap.size A2 m c2 (Sg.parts m z1) := (r2.past b3).past b4.drew
  have r4' : Rd x4.drew x4.drew.heap.size A4 m c4 (Sg.parts m z1) := by rw [HPT.out] at r4; exact r4
  clear r2 r3 r4 b1 b2 b3 b4 b02 b03
  go_wp2
  go_region_held3 (fun _ : World => True) (first | exact trivial | assumption)
    (first | (go_at_call 13; refine (Ints_t A2 A4 m m c2 c4 _ _ true _ r2' r4' (by simp)).mono ?_; rintro e x5 ⟨rfl, b5⟩; have tr5 := trivial))
  go_wp2
  go_ret
  exact ⟨rfl, b04.drew.trans (b5.mono b04.size)⟩

theorem walk (w : World) (a0 : Int) (w0 : (Lit.int .i64 a0).wf = true) (a1 : Option Addr) (n1 c1 : Nat) (z1 : List Gr.Ln) (w1 : RdP w w.heap.size a1 n1 c1 z1) (s1 : n1 * 16 ≤ 140737488351232) :
    Calls Try.prog 4 #[.int .i64 a0, .slice a1 n1 c1] w fun e w' => e = .returned (.bool true) ∧ Below w.heap.size w w' := by
  by_cases h : Gr.code a0 z1 = 0
  · obtain ⟨m, rfl⟩ : ∃ m : Nat, a0 = (m : Int) := ⟨a0.toNat, by have := (Gr.code_zero.1 h).1; omega⟩
    exact good w m a1 n1 c1 z1 w1 s1 h
  · exact bad w a0 a1 n1 c1 z1 w1 s1 h

end Go.Proofs.Ytcapinapfobcbaa.strongTurn
