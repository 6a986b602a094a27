/-
  The contract of Walk of package deep where something is wrong with the lines, and both contracts in one.
-/
import Derived.Test.YtjcdnkbandagoaaDeepA
namespace Go.Proofs.Ytjcdnkbandagoaa
open Go.RowKit Go.Shelf

attribute [local go_sem] Oper.semAt_some
set_option linter.unusedSimpArgs false

set_option maxRecDepth 100000 in
set_option maxHeartbeats 4000000 in
theorem DWalk_err (n : Int) (A : Option Addr) (k c : Nat) (ls : List Gr.Ln) (w : World) (hr : RdP w w.heap.size A k c ls) (h : Gr.code n ls ≠ 0) :
    Calls Try.prog 28 #[.int .i64 n, .slice A k c] w fun e w' => e = .returned (.tuple #[.slice none 0 0, .slice none 0 0, .slice none 0 0, errv (Gr.code n ls)]) ∧ Below w.heap.size w w' := by
  have H := Lib.hid h
  clear h
  obtain ⟨q, hq⟩ : ∃ q, q = w.heap.size := ⟨_, rfl⟩
  obtain ⟨W0, hW0⟩ : ∃ W0, W0 = ((w.alloc (.cells #[.slice none 0 0] 29)).alloc (.cells #[.slice none 0 0] 29)).alloc (.cells #[.slice none 0 0] 29) := ⟨_, rfl⟩
  have hq0 : W0.heap.size = q + 3 := by rw [hW0, hq]; simp
  have hb0 : Below q w W0 := by rw [hW0, hq]; exact (((Below.refl _ _).alloc (Nat.le_refl _) _).alloc (by simp) _).alloc (by simp; omega) _
  have B0 : Boxed W0 q 29 (.slice none 0 0) := by rw [hW0, hq]; exact ((Boxed.new w _ _).alloc _).alloc _
  have B1 : Boxed W0 (q + 1) 29 (.slice none 0 0) := by
    have := (Boxed.new (w.alloc (.cells #[.slice none 0 0] 29)) 29 (.slice none 0 0)).alloc (.cells #[.slice none 0 0] 29)
    rw [← hW0, World.size_alloc, ← hq] at this
    exact this
  have B2 : Boxed W0 (q + 2) 29 (.slice none 0 0) := by
    have := Boxed.new ((w.alloc (.cells #[.slice none 0 0] 29)).alloc (.cells #[.slice none 0 0] 29)) 29 (.slice none 0 0)
    rw [← hW0, World.size_alloc, World.size_alloc, ← hq] at this
    exact this
  have hr0 : RdP W0 W0.heap.size A k c ls := by rw [← hq] at hr; exact (hr.below hb0).more (by omega)
  have HW0 := Lib.hid hW0
  have HQ := Lib.hid hq
  clear hW0 hq
  refine (callsIn_wide (n := 10)).1 (callsIn_of_wp_marks Try.func28 rfl trivial ?_ rfl)
  simp only [Try.ntmps28, List.size_toArray, List.length_cons, List.length_nil, Nat.reduceAdd, Nat.reduceSub, Array.replicate_succ, Array.replicate_zero, List.push_toArray, List.append_toArray, List.nil_append, List.cons_append]
  have hF1 : Fence.wide.fn 33 := trivial
  gi_wp2_with fail
  rw [← HW0.out, ← HQ.out]
  refine (callsIn_wide.2 (Beside_any n A k c ls W0 hr0)).mono ?_
  rintro e w1 ⟨hb, (⟨_, rfl⟩ | ⟨h0, _⟩)⟩
  · have hk1 : Kept (fun _ => False) W0 w1 := ⟨hb.size, fun k hk _ => hb.block k hk⟩
    have C0 := hk1.boxed B0 (fun h => h)
    have C1 := hk1.boxed B1 (fun h => h)
    have C2 := hk1.boxed B2 (fun h => h)
    have hb1 : Below q w w1 := hb0.trans (hb.mono (by omega))
    have g0 := C0.cell
    have g1 := C1.cell
    have g2 := C2.cell
    have f0 := C0.frozen
    have f1 := C1.frozen
    have f2 := C2.frozen
    simp only [Nat.add_assoc, Nat.reduceAdd]
    gi_wp2
    have b7 := ((hb1.setCell (p := ⟨q, 0, none⟩) (show q ≤ q by omega) (.slice none 0 0)).setCell (p := ⟨q + 1, 0, none⟩) (show q ≤ q + 1 by omega) (.slice none 0 0)).setCell (p := ⟨q + 2, 0, none⟩) (show q ≤ q + 2 by omega) (.slice none 0 0)
    have c4 := Boxed.cellset (Boxed.cellset (Boxed.set (.slice none 0 0) C0) ⟨q + 1, 0, none⟩ (.slice none 0 0) (show q ≠ q + 1 by omega)) ⟨q + 2, 0, none⟩ (.slice none 0 0) (show q ≠ q + 2 by omega)
    have c5 := Boxed.cellset (Boxed.set (.slice none 0 0) (Boxed.cellset C1 ⟨q, 0, none⟩ (.slice none 0 0) (show q + 1 ≠ q by omega))) ⟨q + 2, 0, none⟩ (.slice none 0 0) (show q + 1 ≠ q + 2 by omega)
    have c6 := Boxed.set (.slice none 0 0) (Boxed.cellset (Boxed.cellset C2 ⟨q, 0, none⟩ (.slice none 0 0) (show q + 2 ≠ q by omega)) ⟨q + 1, 0, none⟩ (.slice none 0 0) (show q + 2 ≠ q + 1 by omega))
    refine ⟨_, results_ccct rfl _ _ _ _ _ _ _ _ _ rfl rfl rfl (load_row _ _ _ c4.cell) (load_row _ _ _ c5.cell) (load_row _ _ _ c6.cell), rfl, ?_⟩
    rw [HQ.out] at b7
    rw [HQ.out]
    exact b7
  · exact absurd h0 H.out

theorem DWalk_good (m : Nat) (A : Option Addr) (k c : Nat) (ls : List Gr.Ln) (F : Dp.Fo) (hF : Dp.Whole m (Wa.nrow m ls) F) (w : World) (hr : RdP w w.heap.size A k c ls) (h : Gr.code (m : Int) ls = 0) :
    Calls Try.prog 28 #[.int .i64 (m : Int), .slice A k c] w (DWPost m F w) := callsIn_wide.1 (DWalk_ok m A k c ls F hF w hr h)

end Go.Proofs.Ytjcdnkbandagoaa
