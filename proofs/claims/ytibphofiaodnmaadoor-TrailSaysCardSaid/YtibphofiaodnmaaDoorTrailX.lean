/-
  The closed fact of the laws on package trail, and the contracts of Ends, Find and Parts as the laws use them.
-/
import Derived.Test.YtibphofiaodnmaaDoorTrailE
import Derived.Test.YtibphofiaodnmaaDoorTrailP
import Derived.Test.YtibphofiaodnmaaDoorGraphE
import Derived.Test.YtibphofiaodnmaaDoorRefL
import Derived.Test.YtibphofiaodnmaaDoorTold
import Derived.Test.YtibphofiaodnmaaDoorWalkB
namespace Go.Proofs.YtibphofiaodnmaaDoor
open Go.RowKit

set_option linter.unusedSimpArgs false
set_option linter.unusedVariables false

theorem Err_same5 (w : World) (het : tld.EtIs w) : Calls Tryd.prog 10 #[errv 5, .int .i64 5] w fun e w' => e = .returned (.bool true) ∧ Below w.heap.size w w' :=
  (Error_err 5 5 w het).mono fun _ _ h => ⟨h.1.trans (by simp), h.2⟩

theorem Ends_rd (m : Nat) (A : Option Addr) (n c : Nat) (ls : List Gr.Ln) (w : World) (hr : RdP w w.heap.size A n c ls) (h : Gr.code (m : Int) ls = 0) :
    Calls Tryd.prog 9 #[.int .i64 (m : Int), .slice A n c] w fun e w' => Below w.heap.size w w' ∧ ∃ B k d, e = .returned (.tuple #[.slice B k d, .nilIface]) ∧ Hid (k = (Tl.ends m ls).length) ∧ Rd w' w'.heap.size B k d (upL (Tl.ends m ls)) := by
  refine (Ends_good m A n c ls w hr h).mono ?_
  rintro e w1 ⟨v, rfl, ho, hb⟩
  obtain ⟨B, d, rfl, hr⟩ := ho.rd
  exact ⟨hb, B, _, d, rfl, upL_len _, hr⟩
theorem Find_yes (m : Nat) (A : Option Addr) (n c : Nat) (ls : List Gr.Ln) (w : World) (hr : RdP w w.heap.size A n c ls) (h : Gr.code (m : Int) ls = 0) (hc : Tl.canB m ls = true) :
    Calls Tryd.prog 13 #[.int .i64 (m : Int), .slice A n c] w fun e w' => Below w.heap.size w w' ∧ ∃ B k d, e = .returned (.tuple #[.slice B k d, .nilIface]) ∧ Hid (k = n + 1) ∧ Rd w' w'.heap.size B k d (upL (Tl.way m ls)) := by
  have hn := hr.len
  refine (Find_any m A n c ls w hr h).mono ?_
  rintro e w1 ⟨hb, (⟨h0, _⟩ | ⟨_, v, rfl, ho⟩)⟩
  · rw [hc] at h0; cases h0
  · obtain ⟨B, d, rfl, hr⟩ := ho.rd
    refine ⟨hb, B, _, d, rfl, ?_, hr⟩
    show _ = _
    rw [upL_len, Tl.way_len h hc, hn]
theorem Find_no (m : Nat) (A : Option Addr) (n c : Nat) (ls : List Gr.Ln) (w : World) (hr : RdP w w.heap.size A n c ls) (h : Gr.code (m : Int) ls = 0) (hc : Tl.canB m ls = false) :
    Calls Tryd.prog 13 #[.int .i64 (m : Int), .slice A n c] w fun e w' => e = .returned (.tuple #[.slice none 0 0, errv 5]) ∧ Below w.heap.size w w' := by
  refine (Find_any m A n c ls w hr h).mono ?_
  rintro e w1 ⟨hb, (⟨_, rfl⟩ | ⟨h0, _⟩)⟩
  · exact ⟨rfl, hb⟩
  · rw [hc] at h0; cases h0

theorem RdP.newT (w : World) (t : TypeId) (p q r s x y : Int) : RdP (w.alloc (.cells #[.int .i64 p, .int .i64 q, .int .i64 r, .int .i64 s, .int .i64 x, .int .i64 y] t)) (w.heap.size + 1) (some ⟨w.heap.size, 0, none⟩) 3 3 [(p, q), (r, s), (x, y)] := by
  refine ⟨rfl, Nat.le_refl _, by omega, fun h => (by cases h), fun _ => ⟨w.heap.size, 0, rfl, by omega, fun k hk => ?_⟩⟩
  have : k = 0 ∨ k = 1 ∨ k = 2 := by omega
  rcases this with rfl | rfl | rfl <;> simp

theorem tfact1 : Gr.code (3 : Int) [(0, 1), (1, 2), (2, 0)] = 0 := by kernel_rfl
theorem tfact2 : Tl.canB 3 [(0, 1), (1, 2), (2, 0)] = true := by kernel_rfl
theorem tfact3 : upL (Tl.way 3 [(0, 1), (1, 2), (2, 0)]) = [0, 1, 2, 0] := by kernel_rfl
theorem tfact4 : Gr.code (4 : Int) [(0, 1), (0, 2), (0, 3)] = 0 := by kernel_rfl
theorem tfact5 : Tl.canB 4 [(0, 1), (0, 2), (0, 3)] = false := by kernel_rfl

theorem Find_f1 (A : Option Addr) (w : World) (hr : RdP w w.heap.size A 3 3 [(0, 1), (1, 2), (2, 0)]) :
    Calls Tryd.prog 13 #[.int .i64 3, .slice A 3 3] w fun e w' => Below w.heap.size w w' ∧ ∃ B d, e = .returned (.tuple #[.slice B 4 d, .nilIface]) ∧ Rd w' w'.heap.size B 4 d [0, 1, 2, 0] := by
  refine Calls.mono (Find_yes 3 A 3 3 _ w hr tfact1 tfact2) ?_
  rintro e w1 ⟨hb, B, k, d, rfl, hk, hr⟩
  have hk' : k = 4 := hk.out
  subst hk'
  rw [tfact3] at hr
  exact ⟨hb, B, d, rfl, hr⟩
theorem Find_f2 (A : Option Addr) (w : World) (hr : RdP w w.heap.size A 3 3 [(0, 1), (0, 2), (0, 3)]) :
    Calls Tryd.prog 13 #[.int .i64 4, .slice A 3 3] w fun e w' => e = .returned (.tuple #[.slice none 0 0, errv 5]) ∧ Below w.heap.size w w' :=
  Find_no 4 A 3 3 _ w hr tfact4 tfact5

set_option maxRecDepth 100000 in
set_option maxHeartbeats 1000000 in
theorem trailFact_any (w : World) (het : tld.EtIs w) : Calls Tryd.prog 14 #[] w fun e w' => e = .returned (.bool true) ∧ Below w.heap.size w w' := by
  obtain ⟨x0, hx0⟩ : ∃ x0, x0 = w.alloc (.cells #[.int .i64 0, .int .i64 1, .int .i64 1, .int .i64 2, .int .i64 2, .int .i64 0] 37) := ⟨_, rfl⟩
  have hb0 : Below w.heap.size w x0 := by rw [hx0]; exact (Below.refl _ _).alloc (Nat.le_refl _) _
  have hr0 : RdP x0 x0.heap.size (some ⟨w.heap.size, 0, none⟩) 3 3 [(0, 1), (1, 2), (2, 0)] := by rw [hx0]; exact (RdP.newT w _ 0 1 1 2 2 0).more (by simp)
  have HX0 := Lib.hid hx0
  clear hx0
  go_enter Tryd.func14, Tryd.ntmps14
  go_wp2_with fail
  rw [← HX0.out]
  clear HX0
  refine (Find_f1 _ _ hr0).mono ?_
  rintro e w1 ⟨hb1, B1, d1, rfl, hrd1⟩
  have hb01 := hb0.trans (hb1.mono hb0.size)
  clear hr0 hb0 hb1
  obtain ⟨x1, hx1⟩ : ∃ x1, x1 = w1.alloc (.cells #[.int .i64 0, .int .i64 1, .int .i64 0, .int .i64 2, .int .i64 0, .int .i64 3] 37) := ⟨_, rfl⟩
  have hbx : Below w1.heap.size w1 x1 := by rw [hx1]; exact (Below.refl _ _).alloc (Nat.le_refl _) _
  have hr1 : RdP x1 x1.heap.size (some ⟨w1.heap.size, 0, none⟩) 3 3 [(0, 1), (0, 2), (0, 3)] := by rw [hx1]; exact (RdP.newT w1 _ 0 1 0 2 0 3).more (by simp)
  have HX1 := Lib.hid hx1
  clear hx1
  go_wp2_with fail
  rw [← HX1.out]
  clear HX1
  refine (Find_f2 _ _ hr1).mono ?_
  rintro e w2 ⟨rfl, hb2⟩
  have hb02 := hb01.trans ((hbx.trans (hb2.mono hbx.size)).mono hb01.size)
  have hrd2 := (hrd1.past hbx).past hb2
  clear hr1 hbx hb2 hb01 hrd1
  go_wp2_with fail
  refine (Err_same5 _ (het.below hb02)).mono ?_
  rintro e w3 ⟨rfl, hb3⟩
  have hb03 := hb02.trans (hb3.mono hb02.size)
  have hrd3 := hrd2.past hb3
  clear hb02 hb3 hrd2
  obtain ⟨x2, hx2⟩ : ∃ x2, x2 = w3.alloc (.cells #[.int .i64 0, .int .i64 1, .int .i64 2, .int .i64 0] 3) := ⟨_, rfl⟩
  have hbx2 : Below w3.heap.size w3 x2 := by rw [hx2]; exact (Below.refl _ _).alloc (Nat.le_refl _) _
  have hr2 : Rd x2 x2.heap.size (some ⟨w3.heap.size, 0, none⟩) 4 4 [0, 1, 2, 0] := by rw [hx2]; exact (Rd.new w3 [0, 1, 2, 0] _ 4 rfl (by omega)).more (by simp)
  have HX2 := Lib.hid hx2
  clear hx2
  go_wp2_with fail
  rw [← HX2.out]
  clear HX2
  refine (Ints_t _ _ 4 4 _ 4 [0, 1, 2, 0] [0, 1, 2, 0] true _ (hrd3.past hbx2) hr2 (by decide)).mono ?_
  rintro e w4 ⟨rfl, hb4⟩
  go_wp2
  go_ret
  exact ⟨rfl, hb03.trans ((hbx2.trans (hb4.mono hbx2.size)).mono hb03.size)⟩

theorem Parts_fine (m : Nat) (A : Option Addr) (k c : Nat) (ls : List Gr.Ln) (w : World) (hr : RdP w w.heap.size A k c ls) (h : Gr.code (m : Int) ls = 0) :
    Calls Tryd.prog 15 #[.int .i64 (m : Int), .slice A k c] w fun e w' => ∃ g, e = .returned (.tuple #[.slice (some ⟨g, 0, none⟩) m m, .nilIface]) ∧ Own w' w.heap.size 3 (.slice (some ⟨g, 0, none⟩) m m) (Wa.labs m (Wa.nrow m ls) m) ∧ Below w.heap.size w w' := by
  refine (Parts_any (m : Int) A k c ls w hr).mono ?_
  rintro e w1 ⟨hb, (⟨h0, _⟩ | ⟨_, g, rfl, ho⟩)⟩
  · exact absurd h h0
  · simp only [Int.toNat_natCast] at ho ⊢
    exact ⟨g, rfl, ho, hb⟩

end Go.Proofs.YtibphofiaodnmaaDoor
