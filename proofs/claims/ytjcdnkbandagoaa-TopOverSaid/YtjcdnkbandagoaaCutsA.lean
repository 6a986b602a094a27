/-
  Contracts of package cuts: searched, eachTreeEdge, and Points: the points that hold others together, or what is wrong.
-/
import Derived.Test.YtjcdnkbandagoaaCutsB
import Derived.Test.YtjcdnkbandagoaaDeepD
import Derived.Test.YtjcdnkbandagoaaDeepB
import Derived.Test.YtjcdnkbandagoaaLibT
import Derived.Shelf.Abstract
namespace Go.Proofs.Ytjcdnkbandagoaa
open Go.RowKit

set_option linter.unusedSimpArgs false

theorem load_search (W : World) (g : Nat) (a b c : Value) (h0 : W.cell? ⟨g, 0, none⟩ = some a) (h1 : W.cell? ⟨g, 1, none⟩ = some b) (h2 : W.cell? ⟨g, 2, none⟩ = some c) : (loadVar 51 ⟨g, 0, none⟩).run Try.prog W = .ok (.agg #[a, b, c]) W := by
  go_simp
theorem results_ct {fn : Func} {p u : Tmp} {ty : TypeId} (h : fn.results = #[.cell p ty, .tmp u]) (tmps : Array Value) (P : Program) (w : World) (a : Addr) (v : Value)
    (e : tmps.getD p undef = .pointer (some a)) (l : (loadVar ty a).run P w = .ok v w) :
    (results fn tmps).run P w = .ok (.tuple #[v, tmps.getD u undef]) w := by
  have e' : tmps[p]?.getD undef = .pointer (some a) := by simpa using e
  simp [results, h, e', l, asAddr, Sem.run_bind, Result.andThen]

/-! ### a struct of three in a block of its own -/
theorem heap_set3 {W : World} {b : Nat} {vs : Array Value} {t : TypeId} (h : W.heap[b]? = some (.cells vs t (0, 0))) (i : Nat) (v : Value) : (W.setCell ⟨b, i, none⟩ v).heap[b]? = some (.cells (vs.setIfInBounds i v) t (0, 0)) := by
  obtain ⟨hlt, hk⟩ := Array.getElem?_eq_some_iff.1 h
  show (W.heap.modify b _)[b]? = _
  rw [Array.getElem?_eq_getElem (by rw [Array.size_modify]; exact hlt), Array.getElem_modify_self, hk]
  rfl
theorem cell_of3 {W : World} {b : Nat} {vs : Array Value} {t : TypeId} (h : W.heap[b]? = some (.cells vs t (0, 0))) {i : Nat} {v : Value} (hv : vs[i]? = some v) : W.cell? ⟨b, i, none⟩ = some v := by simp [World.cell?, h, hv]
theorem frozen_of3 {W : World} {b : Nat} {vs : Array Value} {t : TypeId} (h : W.heap[b]? = some (.cells vs t (0, 0))) (i : Nat) : W.frozen? ⟨b, i, none⟩ = false := by simp [World.frozen?, h]
def put3 (W : World) (b : Nat) (x y z : Value) : World := ((W.setCell ⟨b, 0, none⟩ x).setCell ⟨b, 1, none⟩ y).setCell ⟨b, 2, none⟩ z
theorem put3_heap {W : World} {b : Nat} {a0 a1 a2 : Value} {t : TypeId} (h : W.heap[b]? = some (.cells #[a0, a1, a2] t (0, 0))) (x y z : Value) : (put3 W b x y z).heap[b]? = some (.cells #[x, y, z] t (0, 0)) := heap_set3 (heap_set3 (heap_set3 h 0 x) 1 y) 2 z
theorem put3_below {base : Nat} {w W : World} {b : Nat} (h : Below base w W) (hb : base ≤ b) (x y z : Value) : Below base w (put3 W b x y z) :=
  ((h.setCell (p := ⟨b, 0, none⟩) hb x).setCell (p := ⟨b, 1, none⟩) hb y).setCell (p := ⟨b, 2, none⟩) hb z
theorem put3_other (W : World) (b : Nat) (x y z : Value) (k : Nat) (hk : k ≠ b) : (put3 W b x y z).heap[k]? = W.heap[k]? :=
  (Below.heap_setCell _ ⟨b, 2, none⟩ z k hk).trans ((Below.heap_setCell _ ⟨b, 1, none⟩ y k hk).trans (Below.heap_setCell _ ⟨b, 0, none⟩ x k hk))
theorem put3_size (W : World) (b : Nat) (x y z : Value) : (put3 W b x y z).heap.size = W.heap.size := by simp [put3]
theorem heap_new (w : World) (o : Obj) : (w.alloc o).heap[w.heap.size]? = some o := by
  show (w.heap.push o)[w.heap.size]? = some o
  simp

/-- what searched hands back, if nothing is wrong -/
def SePost (m : Nat) (ls : List Gr.Ln) (F : Dp.Fo) (w : World) (e : Ending) (w' : World) : Prop :=
  Below w.heap.size w w' ∧ ∃ ga gc gl : Nat, e = .returned (.tuple #[.agg #[.slice (some ⟨ga, 0, none⟩) m m, .slice (some ⟨gc, 0, none⟩) m m, .slice (some ⟨gl, 0, none⟩) m m], .nilIface]) ∧
    Own w' w.heap.size 3 (.slice (some ⟨ga, 0, none⟩) m m) (Dp.mets m F) ∧ Own w' w.heap.size 3 (.slice (some ⟨gc, 0, none⟩) m m) (Dp.pars m F) ∧ Own w' w.heap.size 3 (.slice (some ⟨gl, 0, none⟩) m m) (Dp.lows m (Wa.nrow m ls) F)

set_option maxRecDepth 100000 in
set_option maxHeartbeats 1000000 in
theorem searched_err (n : Int) (A : Option Addr) (k c : Nat) (ls : List Gr.Ln) (w : World) (hr : RdP w w.heap.size A k c ls) (h : Gr.code n ls ≠ 0) :
    Calls Try.prog 21 #[.int .i64 n, .slice A k c] w fun e w' => e = .returned (.tuple #[.agg #[.slice none 0 0, .slice none 0 0, .slice none 0 0], errv (Gr.code n ls)]) ∧ Below w.heap.size w w' := by
  have H := Lib.hid h
  clear h
  obtain ⟨b, hb⟩ : ∃ b, b = w.heap.size := ⟨_, rfl⟩
  obtain ⟨W, hW⟩ : ∃ W, W = w.alloc (.cells #[.slice none 0 0, .slice none 0 0, .slice none 0 0] 51) := ⟨_, rfl⟩
  have hb0 : Below w.heap.size w W := by rw [hW]; exact (Below.refl _ _).alloc (Nat.le_refl _) _
  have hr0 : RdP W W.heap.size A k c ls := hr.past hb0
  have hh : W.heap[b]? = some (.cells #[.slice none 0 0, .slice none 0 0, .slice none 0 0] 51 (0, 0)) := by rw [hW, hb]; exact heap_new _ _
  have hlt : b < W.heap.size := by rw [hW, hb]; simp
  rw [← hb] at hb0 ⊢
  have HB := Lib.hid hb
  have HW := Lib.hid hW
  clear hb hW hr
  go_enter Try.func21, Try.ntmps21
  go_wp2_with fail
  rw [← HW.out, ← HB.out]
  refine (DWalk_err n A k c ls W hr0 H.out).mono ?_
  rintro e w1 ⟨rfl, hb1⟩
  have hh1 := (hb1.block b hlt).trans hh
  have hbw : Below b w w1 := hb0.trans (hb1.mono (by omega))
  have f0 := frozen_of3 hh1 0
  have f1 := frozen_of3 hh1 1
  have f2 := frozen_of3 hh1 2
  have c0 := cell_of3 hh1 (i := 0) rfl
  have c1 := cell_of3 hh1 (i := 1) rfl
  have c2 := cell_of3 hh1 (i := 2) rfl
  go_wp2
  have hp := put3_heap hh1 (.slice none 0 0) (.slice none 0 0) (.slice none 0 0)
  have hl := load_search (put3 w1 b (.slice none 0 0) (.slice none 0 0) (.slice none 0 0)) b _ _ _ (cell_of3 hp (i := 0) rfl) (cell_of3 hp (i := 1) rfl) (cell_of3 hp (i := 2) rfl)
  refine bodyPost_ret (results_ct rfl _ _ _ ⟨b, 0, none⟩ _ rfl hl) rfl ?_
  exact ⟨rfl, put3_below hbw (Nat.le_refl _) _ _ _⟩

set_option maxRecDepth 100000 in
set_option maxHeartbeats 1000000 in
theorem searched_good (m : Nat) (A : Option Addr) (k c : Nat) (ls : List Gr.Ln) (F : Dp.Fo) (hF : Dp.Whole m (Wa.nrow m ls) F) (w : World) (hr : RdP w w.heap.size A k c ls) (h : Gr.code (m : Int) ls = 0) :
    Calls Try.prog 21 #[.int .i64 (m : Int), .slice A k c] w (SePost m ls F w) := by
  have H := Lib.hid h
  have HF := Lib.hid hF
  clear h hF
  unfold SePost
  obtain ⟨b, hb⟩ : ∃ b, b = w.heap.size := ⟨_, rfl⟩
  obtain ⟨W, hW⟩ : ∃ W, W = w.alloc (.cells #[.slice none 0 0, .slice none 0 0, .slice none 0 0] 51) := ⟨_, rfl⟩
  have hb0 : Below w.heap.size w W := by rw [hW]; exact (Below.refl _ _).alloc (Nat.le_refl _) _
  have hr0 : RdP W W.heap.size A k c ls := hr.past hb0
  have hh : W.heap[b]? = some (.cells #[.slice none 0 0, .slice none 0 0, .slice none 0 0] 51 (0, 0)) := by rw [hW, hb]; exact heap_new _ _
  have hlt : b < W.heap.size := by rw [hW, hb]; simp
  rw [← hb] at hb0 ⊢
  have HB := Lib.hid hb
  have HW := Lib.hid hW
  clear hb hW hr
  go_enter Try.func21, Try.ntmps21
  go_wp2_with fail
  rw [← HW.out, ← HB.out]
  refine (DWalk_good m A k c ls F HF.out W hr0 H.out).mono ?_
  rintro e w1 ⟨hb1, g1, g2, g3, rfl, o1, o2, o3⟩
  have hr1 := hr0.past hb1
  go_wp2_with fail
  refine (DLow_good m A k c ls F HF.out w1 hr1 H.out).mono ?_
  rintro e w2 ⟨hb2, g4, rfl, o4⟩
  have hb12 : Below W.heap.size W w2 := hb1.trans (hb2.mono hb1.size)
  have hh1 := (hb12.block b hlt).trans hh
  have hbw : Below b w w2 := hb0.trans (hb12.mono (by omega))
  have n1 := o1.base_le
  have n3 := o3.base_le
  have n4 := o4.base_le
  have s1 := hb1.size
  have p1 := o1.below hb2
  have p3 := o3.below hb2
  have f0 := frozen_of3 hh1 0
  have f1 := frozen_of3 hh1 1
  have f2 := frozen_of3 hh1 2
  have c0 := cell_of3 hh1 (i := 0) rfl
  have c1 := cell_of3 hh1 (i := 1) rfl
  have c2 := cell_of3 hh1 (i := 2) rfl
  have P1 := Lib.hid p1
  have P3 := Lib.hid p3
  have P4 := Lib.hid o4
  clear p1 p3 o1 o2 o3 o4 hr0 hr1
  go_wp2
  have hp := put3_heap hh1 (.slice (some ⟨g1, 0, none⟩) m m) (.slice (some ⟨g3, 0, none⟩) m m) (.slice (some ⟨g4, 0, none⟩) m m)
  have hl := load_search (put3 w2 b (.slice (some ⟨g1, 0, none⟩) m m) (.slice (some ⟨g3, 0, none⟩) m m) (.slice (some ⟨g4, 0, none⟩) m m)) b _ _ _ (cell_of3 hp (i := 0) rfl) (cell_of3 hp (i := 1) rfl) (cell_of3 hp (i := 2) rfl)
  refine bodyPost_ret (results_ct rfl _ _ _ ⟨b, 0, none⟩ _ rfl hl) rfl ?_
  refine ⟨put3_below hbw (Nat.le_refl _) _ _ _, g1, g3, g4, rfl, ?_, ?_, ?_⟩
  · exact (P1.out.same (fun k hk => by cases hk; exact put3_other _ _ _ _ _ _ (show g1 ≠ b by omega))).mono (by omega)
  · exact (P3.out.same (fun k hk => by cases hk; exact put3_other _ _ _ _ _ _ (show g3 ≠ b by omega))).mono (by omega)
  · exact (P4.out.same (fun k hk => by cases hk; exact put3_other _ _ _ _ _ _ (show g4 ≠ b by omega))).mono (by omega)

/-! ### the lines of the trees -/
set_option maxRecDepth 100000 in
set_option maxHeartbeats 1000000 in
theorem each_any (m g c : Nat) (A : Option Addr) (v1 v2 : Value) (cb : Array Value) (ps : List Int) (J : Nat → World → Prop) (w : World) (hm : m ≤ 8)
    (eg : ∀ args w, (callFunc g args).run Try.prog w = .ok (.enter g args) w)
    (hst : ∀ V, Below w.heap.size w V → J 0 V) (hrd : ∀ j V, J j V → Rd V V.heap.size A m c ps)
    (hskip : ∀ j V, j < m → ps.getD j 0 < 0 → J j V → J (j + 1) V)
    (hstep : ∀ j V, j < m → 0 ≤ ps.getD j 0 → J j V → Calls Try.prog g (#[.int .i64 (ps.getD j 0), .int .i64 (j : Int)] ++ cb) V fun e V' => e = .returned (.tuple #[]) ∧ J (j + 1) V') :
    Calls Try.prog 22 #[.agg #[v1, .slice A m c, v2], .func (.func g) #[] cb] w fun e w' => e = .returned (.tuple #[]) ∧ J m w' := by
  have HST := Lib.hid hst
  have HRD := Lib.hid hrd
  have HSK := Lib.hid hskip
  have HSP := Lib.hid hstep
  clear hst hrd hskip hstep
  have hst0 : Hid (J 0 (w.alloc (.cells #[v1, .slice A m c, v2] 51))) := HST.out _ ((Below.refl _ _).alloc (Nat.le_refl _) _)
  go_enter Try.func22, Try.ntmps22
  go_wp2
  go_loopw [9] (fun i wr => ∃ j : Nat, j ≤ m ∧ i = .int .i64 j ∧ Hid (J j wr)) (fun i _ => m - (intOf i).toNat)
  case atStart => exact ⟨0, Nat.zero_le _, rfl, hst0⟩
  case round =>
    obtain ⟨j, hj, rfl, hJ⟩ := hrel
    by_cases hlt : j < m
    · obtain ⟨b0, o0, rfl, hbw, hcell⟩ := (HRD.out j wr hJ.out).at_ (by omega)
      have g0 := hcell j hlt
      clear hcell
      have HS := Lib.hid (HSK.out j wr hlt)
      have HT := Lib.hid (HSP.out j wr hlt)
      obtain ⟨x, hx⟩ : ∃ x, x = ps.getD j 0 := ⟨_, rfl⟩
      rw [← hx] at g0 HS HT
      clear hx
      have k1 : (0 : Int) ≤ (j : Int) := by omega
      have k2 : (j : Int) < (m : Int) := by omega
      by_cases hx0 : 0 ≤ x
      · go_wp2_with fail
        refine (HT.out hx0 hJ.out).mono ?_
        rintro e w1 ⟨rfl, hJ1⟩
        have hn : Hid (J (j + 1) w1) := hJ1
        clear hJ1
        go_wp2
        go_roundw
        case rel => exact ⟨j + 1, by omega, by go_num, hn⟩
        case measure => simp [intOf]; omega
      · have hx1 : x < 0 := by omega
        have hn : Hid (J (j + 1) wr) := HS.out hx1 hJ.out
        go_wp2
        go_roundw
        case rel => exact ⟨j + 1, by omega, by go_num, hn⟩
        case measure => simp [intOf]; omega
    · obtain rfl : j = m := by omega
      go_wp2
      go_end0
      exact ⟨rfl, hJ.out⟩

/-! ### the points -/
/-- what is counted, as a list -/
def pl (m : Nat) (ls : List Gr.Ln) (F : Dp.Fo) (j : Nat) : List Int := (List.range m).map fun v => ((Dp.pcs m (Wa.nrow m ls) F j v : Nat) : Int)
theorem pl_len (m : Nat) (ls : List Gr.Ln) (F : Dp.Fo) (j : Nat) : (pl m ls F j).length = m := by simp [pl]
theorem pl_at {m : Nat} (ls : List Gr.Ln) (F : Dp.Fo) (j : Nat) {v : Nat} (hv : v < m) : (pl m ls F j).getD v 0 = ((Dp.pcs m (Wa.nrow m ls) F j v : Nat) : Int) := by simp [pl, List.getD, hv]
theorem pl_zero (m : Nat) (ls : List Gr.Ln) (F : Dp.Fo) : pl m ls F 0 = List.replicate m 0 := by
  unfold pl
  rw [List.eq_replicate_iff]
  refine ⟨by simp, fun x hx => ?_⟩
  obtain ⟨v, _, rfl⟩ := List.mem_map.1 hx
  simp [Dp.pcs_zero]
theorem getD_setZ (l : List Int) (w v : Nat) (x : Int) (hw : w < l.length) : (l.set w x).getD v 0 = if v = w then x else l.getD v 0 := by
  by_cases e : v = w
  · subst e; simp [List.getD, hw]
  · simp [List.getD, List.getElem?_set, e, Ne.symm e]
theorem shuts_par {m : Nat} {R : Nat → List Nat} {F : Dp.Fo} {j p : Nat} (hp : Dp.par F (-1) j = (p : Int)) (v : Nat) : Dp.shuts m R F v j = (decide (v = p) && decide (((Dp.met F 0 p : Nat) : Int) ≤ (Dp.lows m R F).getD j 0)) := by
  unfold Dp.shuts
  rw [hp]
  by_cases e : v = p
  · subst e; simp
  · simp [e, Ne.symm e]
    intro h; omega
theorem pl_none {m : Nat} {ls : List Gr.Ln} {F : Dp.Fo} {j : Nat} (hp : Dp.par F (-1) j = -1) : pl m ls F (j + 1) = pl m ls F j := by
  unfold pl
  refine List.map_congr_left (fun v hv => ?_)
  rw [Dp.pcs_succ, if_neg (by rintro ⟨_, h⟩; exact h hp), if_neg (by unfold Dp.shuts; rw [hp]; simp)]
  rfl
theorem pl_one {m : Nat} {ls : List Gr.Ln} {F : Dp.Fo} {j p : Nat} (hj : j < m) (hp : Dp.par F (-1) j = (p : Int)) (h : ¬ ((Dp.met F 0 p : Nat) : Int) ≤ (Dp.lows m (Wa.nrow m ls) F).getD j 0) :
    (pl m ls F j).set j ((pl m ls F j).getD j 0 + 1) = pl m ls F (j + 1) := by
  refine Wa.eq_of_getD (by rw [List.length_set, pl_len, pl_len]) (fun v hv => ?_)
  rw [List.length_set, pl_len] at hv
  rw [getD_setZ _ _ _ _ (by rw [pl_len]; exact hj), pl_at ls F j hj, pl_at ls F j hv, pl_at ls F (j + 1) hv, Dp.pcs_succ, shuts_par hp]
  generalize (Dp.lows m (Wa.nrow m ls) F).getD j 0 = L at h ⊢
  by_cases e : v = j
  · subst e
    have hne : Dp.par F (-1) v ≠ -1 := by omega
    simp [h, hne]
  · simp [e, h]
theorem pl_two {m : Nat} {ls : List Gr.Ln} {F : Dp.Fo} {j p : Nat} (hj : j < m) (hpm : p < m) (hpj : p ≠ j) (hp : Dp.par F (-1) j = (p : Int)) (h : ((Dp.met F 0 p : Nat) : Int) ≤ (Dp.lows m (Wa.nrow m ls) F).getD j 0) :
    ((pl m ls F j).set j ((pl m ls F j).getD j 0 + 1)).set p ((pl m ls F j).getD p 0 + 1) = pl m ls F (j + 1) := by
  refine Wa.eq_of_getD (by rw [List.length_set, List.length_set, pl_len, pl_len]) (fun v hv => ?_)
  rw [List.length_set, List.length_set, pl_len] at hv
  rw [getD_setZ _ _ _ _ (by rw [List.length_set, pl_len]; exact hpm), getD_setZ _ _ _ _ (by rw [pl_len]; exact hj), pl_at ls F j hj, pl_at ls F j hv, pl_at ls F (j + 1) hv, pl_at ls F j hpm, Dp.pcs_succ, shuts_par hp]
  generalize (Dp.lows m (Wa.nrow m ls) F).getD j 0 = L at h ⊢
  by_cases e : v = p
  · subst e
    simp [hpj, h]
  · by_cases e' : v = j
    · subst e'
      have hne : Dp.par F (-1) v ≠ -1 := by omega
      simp [Ne.symm hpj, e, hne]
    · simp [e, e']
theorem pl_le {m : Nat} (ls : List Gr.Ln) (F : Dp.Fo) (j v : Nat) (hj : j ≤ 8) : 0 ≤ (pl m ls F j).getD v 0 ∧ (pl m ls F j).getD v 0 ≤ 9 := by
  by_cases hv : v < m
  · rw [pl_at ls F j hv]
    have := Dp.pcs_le (m := m) (R := Wa.nrow m ls) (F := F) j v
    omega
  · simp [pl, List.getD, hv]

set_option maxRecDepth 100000 in
set_option maxHeartbeats 1000000 in
/-- the closure of Points: Lp is the box of the numbers, Ls that of the search -/
theorem pts1_any (base gp m c Lp Ls g1 gl p j : Nat) (zs : List Int) (x y : Int) (w : World) (hown : Own w base 3 (.slice (some ⟨gp, 0, none⟩) m c) zs)
    (hLp : w.cell? ⟨Lp, 0, none⟩ = some (.slice (some ⟨gp, 0, none⟩) m c)) (hL0 : w.cell? ⟨Ls, 0, none⟩ = some (.slice (some ⟨g1, 0, none⟩) m m)) (hL2 : w.cell? ⟨Ls, 2, none⟩ = some (.slice (some ⟨gl, 0, none⟩) m m))
    (n1 : Lp ≠ gp) (n2 : Ls ≠ gp) (n3 : g1 ≠ gp) (n4 : gl ≠ gp) (hx : w.cell? ⟨g1, p, none⟩ = some (.int .i64 x)) (hy : w.cell? ⟨gl, j, none⟩ = some (.int .i64 y)) (hp : p < m) (hj : j < m) (hpj : p ≠ j) (hz : ∀ v, 0 ≤ zs.getD v 0 ∧ zs.getD v 0 ≤ 9) :
    Calls Try.prog 23 #[.int .i64 (p : Int), .int .i64 (j : Int), .pointer (some ⟨Lp, 0, none⟩), .pointer (some ⟨Ls, 0, none⟩)] w fun e w' => e = .returned (.tuple #[]) ∧ w.grownBy w' (some gp) ∧
      Own w' base 3 (.slice (some ⟨gp, 0, none⟩) m c) (if x ≤ y then (zs.set j (zs.getD j 0 + 1)).set p (zs.getD p 0 + 1) else zs.set j (zs.getD j 0 + 1)) := by
  have hl : zs.length = m := hown.len.symm
  have c1 := hown.cell j hj
  have f1 := hown.frozen j
  have z1 := hz j
  have z2 := hz p
  have s1 := hown.store j (zs.getD j 0 + 1)
  have hp2 : (zs.set j (zs.getD j 0 + 1)).getD p 0 = zs.getD p 0 := by rw [getD_setZ _ _ _ _ (by omega), if_neg hpj]
  have c2 := s1.1.cell p hp
  have f2 := s1.1.frozen p
  have s2 := s1.1.store p (zs.getD p 0 + 1)
  rw [hp2] at c2
  obtain ⟨zj, hzj⟩ : ∃ zj, zj = zs.getD j 0 := ⟨_, rfl⟩
  obtain ⟨zp, hzp⟩ : ∃ zp, zp = zs.getD p 0 := ⟨_, rfl⟩
  rw [← hzj] at c1 z1 s1 s2 c2 f2 ⊢
  rw [← hzp] at c2 z2 s2 ⊢
  have k1 : IntKind.i64.wrap (zj + 1) = zj + 1 := by rw [IntKind.wrap_i64]; omega
  have k2 : IntKind.i64.wrap (zp + 1) = zp + 1 := by rw [IntKind.wrap_i64]; omega
  have b1 : (0 : Int) ≤ (j : Int) := by omega
  have b2 : (j : Int) < (m : Int) := by omega
  have b3 : (0 : Int) ≤ (p : Int) := by omega
  have b4 : (p : Int) < (m : Int) := by omega
  have t0 : ∀ a : Addr, a.block ≠ gp → (w.setCell ⟨gp, j, none⟩ (.int .i64 (zj + 1))).cell? a = w.cell? a := fun a ha => by
    have := Below.heap_setCell w ⟨gp, j, none⟩ (.int .i64 (zj + 1)) a.block ha
    unfold World.cell?
    rw [this]
  have d1 := (t0 ⟨Lp, 0, none⟩ n1).trans hLp
  have d2 := (t0 ⟨Ls, 0, none⟩ n2).trans hL0
  have d3 := (t0 ⟨Ls, 2, none⟩ n2).trans hL2
  have d4 := (t0 ⟨g1, p, none⟩ n3).trans hx
  have d5 := (t0 ⟨gl, j, none⟩ n4).trans hy
  have H1 := Lib.hid s1
  have H2 := Lib.hid s2
  obtain ⟨W1, hW1⟩ : ∃ W1, W1 = w.setCell ⟨gp, j, none⟩ (.int .i64 (zj + 1)) := ⟨_, rfl⟩
  rw [← hW1] at d1 d2 d3 d4 d5 c2 f2 H1 H2
  have HW := Lib.hid hW1
  clear hW1 t0 s1 s2 hzj hzp hp2 hown hz hl hpj
  go_enter Try.func23, Try.ntmps23
  go_wp2
  rw [← HW.out]
  by_cases hxy : x ≤ y
  · go_quiet (fail)
    go_wp2
    go_end0
    have hg := H1.out.2.trans H2.out.2
    exact ⟨rfl, ⟨hg.os, hg.tape, hg.output, hg.size, hg.block⟩, H2.out.1⟩
  · go_quiet (fail)
    go_wp2
    go_end0
    have hg := H1.out.2
    exact ⟨rfl, ⟨hg.os, hg.tape, hg.output, hg.size, hg.block⟩, H1.out.1⟩

end Go.Proofs.Ytjcdnkbandagoaa
