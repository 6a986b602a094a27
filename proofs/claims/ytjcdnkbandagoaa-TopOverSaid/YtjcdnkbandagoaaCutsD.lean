/-
  Contract of Points of package cuts: the points that hold others together, or what is wrong.
-/
import Derived.Test.YtjcdnkbandagoaaCutsA
namespace Go.Proofs.Ytjcdnkbandagoaa
open Go.RowKit

set_option linter.unusedSimpArgs false

set_option maxRecDepth 100000 in
set_option maxHeartbeats 1000000 in
theorem Points_err (n : Int) (A : Option Addr) (k c : Nat) (ls : List Gr.Ln) (w : World) (hr : RdP w w.heap.size A k c ls) (h : Gr.code n ls ≠ 0) :
    Calls Try.prog 14 #[.int .i64 n, .slice A k c] w fun e w' => e = .returned (.tuple #[.slice none 0 0, errv (Gr.code n ls)]) ∧ Below w.heap.size w w' := by
  have H := Lib.hid h
  clear h
  go_enter Try.func14, Try.ntmps14
  go_wp2_with fail
  refine (searched_err n A k c ls _ hr H.out).mono ?_
  rintro e w1 ⟨rfl, hb1⟩
  go_wp2
  go_ret2
  exact ⟨rfl, hb1.alloc hb1.size _⟩

/-- the points that hold, up to v -/
def ptTo (m : Nat) (ls : List Gr.Ln) (F : Dp.Fo) (v : Nat) : List Int := upL ((List.range v).filter fun u => decide (1 < Dp.pcs m (Wa.nrow m ls) F m u))
theorem ptTo_yes {m : Nat} {ls : List Gr.Ln} {F : Dp.Fo} {v : Nat} (hv : v < m) (h : 1 < (pl m ls F m).getD v 0) : ptTo m ls F (v + 1) = ptTo m ls F v ++ [(v : Int)] := by
  rw [pl_at ls F m hv] at h
  unfold ptTo
  rw [List.range_succ, List.filter_append, ← upL_snoc]
  congr 2
  simp
  omega
theorem ptTo_no {m : Nat} {ls : List Gr.Ln} {F : Dp.Fo} {v : Nat} (hv : v < m) (h : ¬ 1 < (pl m ls F m).getD v 0) : ptTo m ls F (v + 1) = ptTo m ls F v := by
  rw [pl_at ls F m hv] at h
  unfold ptTo
  rw [List.range_succ, List.filter_append]
  congr 1
  simp
  omega
theorem ptTo_len (m : Nat) (ls : List Gr.Ln) (F : Dp.Fo) (v : Nat) : (ptTo m ls F v).length ≤ v := by
  unfold ptTo
  rw [upL_len]
  have := List.length_filter_le (fun u => decide (1 < Dp.pcs m (Wa.nrow m ls) F m u)) (List.range v)
  simpa using this

set_option maxRecDepth 100000 in
set_option maxHeartbeats 1000000 in
theorem Points_good (m : Nat) (A : Option Addr) (k c : Nat) (ls : List Gr.Ln) (w : World) (hr : RdP w w.heap.size A k c ls) (h : Gr.code (m : Int) ls = 0) :
    Calls Try.prog 14 #[.int .i64 (m : Int), .slice A k c] w fun e w' => Below w.heap.size w w' ∧ ∃ v, e = .returned (.tuple #[v, .nilIface]) ∧ Own w' w.heap.size 3 v (upL (Dp.cpts m (Wa.nrow m ls))) := by
  have hm8 : m ≤ 8 := by have := (Gr.code_zero.1 h).2.1; omega
  have hm1 : 1 ≤ m := by have := (Gr.code_zero.1 h).1; omega
  obtain ⟨F, hF⟩ := Dp.whole_exist (Wa.nrow_ok m ls)
  have hfin : Hid (ptTo m ls F m = upL (Dp.cpts m (Wa.nrow m ls))) := by
    show _ = _
    rw [← hF.cpts (Wa.nrow_ok m ls) (Wa.nrow_sym m ls) (Dp.nrow_irr h)]
    rfl
  have H := Lib.hid h
  have HF := Lib.hid hF
  clear h hF
  obtain ⟨i0, hi, hz0, hz1, hz2⟩ := info_parts intInfo
  have hml : m ≤ maxLen := by simp only [maxLen]; omega
  obtain ⟨zc, hzc⟩ : ∃ zc, zc = madeCells (Value.int .i64 0).cells (m * 1) := ⟨_, rfl⟩
  have hmk : ∀ w : World, (Instr.makeSlice 29 (.int .i64 (m : Int)) (.int .i64 (m : Int))).run Try.prog w = .ok (.slice (some ⟨w.heap.size, 0, none⟩) m m) (w.alloc (.cells zc 3)) := fun w => by
    have := run_make (P := Try.prog) w 29 3 i0 (.int .i64 0) Try.underlying29 hi hz0 .i64 .i64 (m : Int) (m : Int) (by omega) (Int.le_refl _) (by rw [hz2]; omega) (by omega)
    simp only [Int.toNat_natCast, hz1, ← hzc] at this
    exact this
  have HZC := Lib.hid hzc
  clear hzc
  go_enter Try.func14, Try.ntmps14
  go_wp2_with fail
  refine (searched_good m A k c ls F HF.out _ hr H.out).mono ?_
  rintro e w1 ⟨hb1, ga, gc, gl, rfl, o1, o3, o4⟩
  have O1 := Lib.hid o1
  have O3 := Lib.hid o3
  have O4 := Lib.hid o4
  have l1 := o1.lt ga rfl
  have l3 := o3.lt gc rfl
  have l4 := o4.lt gl rfl
  clear o1 o3 o4
  obtain ⟨b, hb⟩ : ∃ b, b = w1.heap.size := ⟨_, rfl⟩
  obtain ⟨W, hW⟩ : ∃ W, W = ((w1.alloc (.cells #[.slice (some ⟨ga, 0, none⟩) m m, .slice (some ⟨gc, 0, none⟩) m m, .slice (some ⟨gl, 0, none⟩) m m] 51)).alloc (.cells zc 3)).alloc (.cells #[.slice (some ⟨b + 1, 0, none⟩) m m] 29) := ⟨_, rfl⟩
  have hWs : W.heap.size = b + 3 := by rw [hW, hb]; simp
  have hbW : Below b w1 W := by rw [hW, hb]; exact (((Below.refl _ _).alloc (Nat.le_refl _) _).alloc (by simp) _).alloc (by simp; omega) _
  have hh : W.heap[b]? = some (.cells #[.slice (some ⟨ga, 0, none⟩) m m, .slice (some ⟨gc, 0, none⟩) m m, .slice (some ⟨gl, 0, none⟩) m m] 51 (0, 0)) := by
    rw [hW, hb]
    exact (Below.heap_alloc _ _ _ (by simp; omega)).trans ((Below.heap_alloc _ _ _ (by simp)).trans (heap_new _ _))
  have hc2 : W.cell? ⟨b + 2, 0, none⟩ = some (.slice (some ⟨b + 1, 0, none⟩) m m) := by
    have := heap_new ((w1.alloc (.cells #[.slice (some ⟨ga, 0, none⟩) m m, .slice (some ⟨gc, 0, none⟩) m m, .slice (some ⟨gl, 0, none⟩) m m] 51)).alloc (.cells zc 3)) (.cells #[.slice (some ⟨b + 1, 0, none⟩) m m] 29)
    rw [← hW, World.size_alloc, World.size_alloc, ← hb] at this
    exact cell_of3 this (i := 0) rfl
  have hpo : Own W b 3 (.slice (some ⟨b + 1, 0, none⟩) m m) (pl m ls F 0) := by
    rw [pl_zero]
    have one : ∀ V : World, b ≤ V.heap.size → Own (V.alloc (.cells zc 3)) b 3 (.slice (some ⟨V.heap.size, 0, none⟩) m m) (List.replicate m 0) := fun V hV => by
      rw [HZC.out]
      exact Own.made (World.ownsRow_lit V _ m hV hml (size_madeCells _ _))
    have := one (w1.alloc (.cells #[.slice (some ⟨ga, 0, none⟩) m m, .slice (some ⟨gc, 0, none⟩) m m, .slice (some ⟨gl, 0, none⟩) m m] 51)) (by rw [hb]; simp)
    rw [World.size_alloc, ← hb] at this
    rw [hW]
    exact this.same (fun k hk => by cases hk; exact Below.heap_alloc _ _ _ (by rw [World.size_alloc, World.size_alloc, ← hb]; show b + 1 < _; omega))
  have q1 : Own W w.heap.size 3 (.slice (some ⟨ga, 0, none⟩) m m) (Dp.mets m F) := O1.out.same (fun k hk => by cases hk; exact hbW.block ga (by omega))
  have q3 : Own W w.heap.size 3 (.slice (some ⟨gc, 0, none⟩) m m) (Dp.pars m F) := O3.out.same (fun k hk => by cases hk; exact hbW.block gc (by omega))
  have q4 : Own W w.heap.size 3 (.slice (some ⟨gl, 0, none⟩) m m) (Dp.lows m (Wa.nrow m ls) F) := O4.out.same (fun k hk => by cases hk; exact hbW.block gl (by omega))
  have hs1 := hb1.size
  have hbs : w.heap.size ≤ b := by omega
  have hbw : Below w.heap.size w W := hb1.trans (hbW.mono (by omega))
  have key := each_any m 23 m (some ⟨gc, 0, none⟩) (.slice (some ⟨ga, 0, none⟩) m m) (.slice (some ⟨gl, 0, none⟩) m m) #[.pointer (some ⟨b + 2, 0, none⟩), .pointer (some ⟨b, 0, none⟩)] (Dp.pars m F)
    (fun j V => Own V b 3 (.slice (some ⟨b + 1, 0, none⟩) m m) (pl m ls F j) ∧ W.grownBy V (some (b + 1))) W hm8 (enters_of Try.func23 (by kernel_rfl) rfl)
    (fun V hV => ⟨hpo.below hV, grown_of_below hV _⟩)
    (fun j V hJ => (q3.grown hJ.2 (fun k hk => by cases hk; intro e; have : b + 1 = gc := Option.some.inj e; omega)).rd')
    (fun j V hj hneg hJ => by
      rw [Dp.pars_at F hj] at hneg
      have : Dp.par F (-1) j = -1 := (HF.out.par (Wa.nrow_ok m ls) hj).elim id (fun ⟨q, _, h, _⟩ => by omega)
      exact ⟨by rw [pl_none this]; exact hJ.1, hJ.2⟩)
    (fun j V hj hpos hJ => by
      rw [Dp.pars_at F hj] at hpos ⊢
      obtain ⟨q, hq, hpq, _, hmq, _⟩ : ∃ q, q < m ∧ Dp.par F (-1) j = (q : Int) ∧ j ∈ Wa.nrow m ls q ∧ Dp.met F 0 q < Dp.met F 0 j ∧ Dp.left F 0 j < Dp.left F 0 q := (HF.out.par (Wa.nrow_ok m ls) hj).elim (fun h => by omega) id
      have hne : q ≠ j := fun e => by rw [e] at hmq; omega
      have cc : ∀ a : Addr, a.block < W.heap.size → a.block ≠ b + 1 → V.cell? a = W.cell? a := fun a h1 h2 => World.cell?_of_block (hJ.2.block a.block h1 (fun e => h2 (Option.some.inj e)))
      have x1 := (cc ⟨ga, q, none⟩ (show ga < _ by omega) (show ga ≠ _ by omega)).trans (q1.cell q hq)
      have x2 := (cc ⟨gl, j, none⟩ (show gl < _ by omega) (show gl ≠ _ by omega)).trans (q4.cell j hj)
      rw [Dp.mets_at F hq] at x1
      rw [hpq]
      have := pts1_any b (b + 1) m m (b + 2) b ga gl q j (pl m ls F j) _ _ V hJ.1 ((cc ⟨b + 2, 0, none⟩ (show b + 2 < _ by omega) (show b + 2 ≠ b + 1 by omega)).trans hc2)
        ((cc ⟨b, 0, none⟩ (show b < _ by omega) (show b ≠ b + 1 by omega)).trans (cell_of3 hh (i := 0) rfl)) ((cc ⟨b, 2, none⟩ (show b < _ by omega) (show b ≠ b + 1 by omega)).trans (cell_of3 hh (i := 2) rfl)) (by omega) (by omega) (by omega) (by omega) x1 x2 hq hj hne (fun v => pl_le ls F j v (by omega))
      refine Calls.mono this ?_
      rintro e V' ⟨rfl, hg, ho⟩
      refine ⟨rfl, ?_, hJ.2.trans hg⟩
      split at ho
      · rename_i hle
        rw [pl_two hj hq hne hpq hle] at ho
        exact ho
      · rename_i hle
        rw [pl_one hj hpq hle] at ho
        exact ho)
  have HK := Lib.hid key
  have HC2 : Hid (∀ V, W.grownBy V (some (b + 1)) → V.cell? ⟨b + 2, 0, none⟩ = some (.slice (some ⟨b + 1, 0, none⟩) m m)) := fun V hV => (World.cell?_of_block (hV.block (b + 2) (by omega) (fun e => by have := Option.some.inj e; omega))).trans hc2
  have HB := Lib.hid hb
  have HW := Lib.hid hW
  clear key hb hW hpo q1 q3 q4 hh hc2 hr
  go_wp2_with fail
  simp only [Nat.add_assoc, Nat.reduceAdd]
  rw [← HB.out, ← HW.out]
  refine HK.out.mono ?_
  rintro e w2 ⟨rfl, hP, hG⟩
  have hb2 : Below w.heap.size w w2 := hbw.grown hG hbw.size (fun k e => by have := Option.some.inj e; omega)
  have hc : w2.cell? ⟨b + 2, 0, none⟩ = some (.slice (some ⟨b + 1, 0, none⟩) m m) := HC2.out w2 hG
  have hcell : Hid (∀ v, v < m → w2.cell? ⟨b + 1, v, none⟩ = some (.int .i64 ((pl m ls F m).getD v 0))) := fun v hv => hP.cell v hv
  have hlt2 := hP.lt (b + 1) rfl
  clear hP
  go_wp2
  go_loopw [9, 28] (fun v i wr => ∃ j : Nat, j ≤ m ∧ i = .int .i64 j ∧ Own wr w2.heap.size 3 v (ptTo m ls F j) ∧ Below w2.heap.size w2 wr) (fun _ i _ => m - (intOf i).toNat)
  case atStart => exact ⟨0, Nat.zero_le _, rfl, Own.nil _ _ _, Below.refl _ _⟩
  case round =>
    obtain ⟨j, hj, rfl, hown, hbel⟩ := hrel
    have hsz := hbel.size
    by_cases hlt : j < m
    · have g0 := (hbel.cell (p := ⟨b + 1, j, none⟩) hlt2).trans (hcell.out j hlt)
      have hyes : Hid (1 < (pl m ls F m).getD j 0 → ptTo m ls F (j + 1) = ptTo m ls F j ++ [(j : Int)]) := fun h => ptTo_yes hlt h
      have hno : Hid (¬ 1 < (pl m ls F m).getD j 0 → ptTo m ls F (j + 1) = ptTo m ls F j) := fun h => ptTo_no hlt h
      have hlen := ptTo_len m ls F j
      obtain ⟨x, hx⟩ : ∃ x, x = (pl m ls F m).getD j 0 := ⟨_, rfl⟩
      rw [← hx] at g0 hyes hno
      clear hx
      have k1 : (0 : Int) ≤ (j : Int) := by omega
      have k2 : (j : Int) < (m : Int) := by omega
      by_cases hx1 : 1 < x
      · have hnext := Lib.hid (hyes.out hx1)
        have hown2 := hown.below ((Below.refl _ wr).alloc (Nat.le_refl _) (.cells #[.int .i64 (j : Int)] 3))
        have hbel2 := hbel.alloc hsz (.cells #[.int .i64 (j : Int)] 3)
        go_wp2_with (at_builtin; refine wpList_app _ rfl (.tmp 35) (.tmp 37) _ rfl w2.heap.size 3 Try.underlying29 intInfo _ _ rfl hown2 _ 1 1 [(j : Int)] rfl (Rd.one wr _ _) (by omega) (by simp; omega) ?_; intro v3 w3 hown3 hg3 hat3)
        have hb3 := below_app hbel2 hown2 hg3 (by simp; omega)
        go_wp2
        go_roundw
        case rel => exact ⟨j + 1, by omega, by go_num, by rw [hnext.out]; exact hown3, hb3⟩
        case measure => simp [intOf]; omega
      · have hnext := Lib.hid (hno.out hx1)
        go_wp2
        go_roundw
        case rel => exact ⟨j + 1, by omega, by go_num, by rw [hnext.out]; exact hown, hbel⟩
        case measure => simp [intOf]; omega
    · obtain rfl : j = m := by omega
      go_wp2
      go_ret2
      refine ⟨hb2.trans (hbel.mono hb2.size), _, rfl, ?_⟩
      rw [← hfin.out]
      exact hown.mono hb2.size

end Go.Proofs.Ytjcdnkbandagoaa
