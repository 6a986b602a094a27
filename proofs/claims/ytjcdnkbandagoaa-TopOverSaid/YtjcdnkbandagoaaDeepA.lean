/-
  The contract of Walk of package deep: when each point is met, when it is left, and from which it is met, or what is wrong.
-/
import Derived.Test.YtjcdnkbandagoaaDeepJ
import Derived.Test.YtjcdnkbandagoaaIterA
import Derived.Test.YtjcdnkbandagoaaDeepO
import Derived.Test.YtjcdnkbandagoaaWalkG
namespace Go.Proofs.Ytjcdnkbandagoaa
open Go.RowKit Go.Shelf

attribute [local go_sem] Oper.semAt_some
set_option linter.unusedSimpArgs false

/-- three slices of noughts, made one behind the other -/
theorem made3 (U : World) (m g : Nat) (hm : m ≤ maxLen) (h1 : U.heap.size ≤ g) (h2 : g < U.heap.size + 3) :
    Own ((((U.alloc (.cells (madeCells (Value.int .i64 0).cells (m * 1)) 3)).alloc (.cells (madeCells (Value.int .i64 0).cells (m * 1)) 3)).alloc (.cells (madeCells (Value.int .i64 0).cells (m * 1)) 3)).drew) U.heap.size 3 (.slice (some ⟨g, 0, none⟩) m m) (List.replicate m 0) := by
  obtain ⟨z, hz⟩ : ∃ z, z = Obj.cells (madeCells (Value.int .i64 0).cells (m * 1)) 3 := ⟨_, rfl⟩
  have one : ∀ V : World, U.heap.size ≤ V.heap.size → Own (V.alloc z) U.heap.size 3 (.slice (some ⟨V.heap.size, 0, none⟩) m m) (List.replicate m 0) := fun V hV => by
    rw [hz]
    exact Own.made (World.ownsRow_lit V _ m hV hm (size_madeCells _ _))
  rw [← hz]
  have key : Own (((U.alloc z).alloc z).alloc z) U.heap.size 3 (.slice (some ⟨g, 0, none⟩) m m) (List.replicate m 0) := by
    obtain rfl | rfl | rfl : g = U.heap.size ∨ g = U.heap.size + 1 ∨ g = U.heap.size + 2 := by omega
    · exact (one U (Nat.le_refl _)).same (fun k hk => by cases hk; exact ((Below.heap_alloc _ _ _ (by simp; omega)).trans (Below.heap_alloc _ _ _ (by simp))))
    · have := one (U.alloc z) (by simp)
      rw [World.size_alloc] at this
      exact this.same (fun k hk => by cases hk; exact Below.heap_alloc _ _ _ (by simp))
    · have := one ((U.alloc z).alloc z) (by simp; omega)
      rw [World.size_alloc, World.size_alloc] at this
      exact this
  exact key

/-- the step that a round is given, in its own cell -/
def stpObj (x : Dp.Stp) : Obj := .cells #[.int .i64 (x.v : Int), .int .i64 x.p, .bool x.fin] 75

/-- what Walk's loop keeps -/
def DwI (m q B ga gb gc : Nat) (w : World) (d : Dp.Dt) (W : World) : Prop :=
  Own W B 3 (.slice (some ⟨ga, 0, none⟩) m m) d.met ∧ Own W B 3 (.slice (some ⟨gb, 0, none⟩) m m) d.left ∧ Own W B 3 (.slice (some ⟨gc, 0, none⟩) m m) d.par ∧
  Boxed W q 29 (.slice (some ⟨ga, 0, none⟩) m m) ∧ Boxed W (q + 1) 29 (.slice (some ⟨gb, 0, none⟩) m m) ∧ Boxed W (q + 2) 29 (.slice (some ⟨gc, 0, none⟩) m m) ∧ Below q w W
theorem DwI.keep {m q B ga gb gc s : Nat} {w : World} {d : Dp.Dt} {W W' : World} (h : DwI m q B ga gb gc w d W) (hb : Below s W W') (h1 : q + 2 < s) (h2 : ga < s) (h3 : gb < s) (h4 : gc < s) : DwI m q B ga gb gc w d W' := by
  obtain ⟨a1, a2, a3, a4, a5, a6, a7⟩ := h
  exact ⟨a1.same (fun k hk => by cases hk; exact hb.block ga h2), a2.same (fun k hk => by cases hk; exact hb.block gb h3), a3.same (fun k hk => by cases hk; exact hb.block gc h4),
    (hb.block q (by omega)).trans a4, (hb.block (q + 1) (by omega)).trans a5, (hb.block (q + 2) (by omega)).trans a6, a7.trans (hb.mono (by omega))⟩

theorem Boxed.cellset {W : World} {B : Nat} {t : TypeId} {v : Value} (h : Boxed W B t v) (p : Addr) (u : Value) (hne : B ≠ p.block) : Boxed (W.setCell p u) B t v := (Below.heap_setCell W p u B hne).trans h
theorem Own.cellset {W : World} {base e g n c : Nat} {zs : List Int} (h : Own W base e (.slice (some ⟨g, 0, none⟩) n c) zs) (p : Addr) (u : Value) (hne : g ≠ p.block) : Own (W.setCell p u) base e (.slice (some ⟨g, 0, none⟩) n c) zs :=
  h.same (fun k hk => by cases hk; exact Below.heap_setCell W p u g hne)
theorem DwI.setMet {m q B ga gb gc : Nat} {w : World} {d : Dp.Dt} {W : World} (h : DwI m q B ga gb gc w d W) (hx : ga ≠ gb ∧ ga ≠ gc ∧ q + 2 < ga) (v : Nat) (x : Int) : DwI m q B ga gb gc w { d with met := d.met.set v x } (W.setCell ⟨ga, v, none⟩ (.int .i64 x)) := by
  obtain ⟨a1, a2, a3, a4, a5, a6, a7⟩ := h
  exact ⟨(a1.store v x).1, a2.cellset _ _ (show gb ≠ ga by omega), a3.cellset _ _ (show gc ≠ ga by omega), Boxed.cellset a4 _ _ (show q ≠ ga by omega), Boxed.cellset a5 _ _ (show q + 1 ≠ ga by omega), Boxed.cellset a6 _ _ (show q + 2 ≠ ga by omega), a7.setCell (p := ⟨ga, v, none⟩) (show q ≤ ga by omega) _⟩
theorem DwI.setLeft {m q B ga gb gc : Nat} {w : World} {d : Dp.Dt} {W : World} (h : DwI m q B ga gb gc w d W) (hx : gb ≠ ga ∧ gb ≠ gc ∧ q + 2 < gb) (v : Nat) (x : Int) : DwI m q B ga gb gc w { d with left := d.left.set v x } (W.setCell ⟨gb, v, none⟩ (.int .i64 x)) := by
  obtain ⟨a1, a2, a3, a4, a5, a6, a7⟩ := h
  exact ⟨a1.cellset _ _ (show ga ≠ gb by omega), (a2.store v x).1, a3.cellset _ _ (show gc ≠ gb by omega), Boxed.cellset a4 _ _ (show q ≠ gb by omega), Boxed.cellset a5 _ _ (show q + 1 ≠ gb by omega), Boxed.cellset a6 _ _ (show q + 2 ≠ gb by omega), a7.setCell (p := ⟨gb, v, none⟩) (show q ≤ gb by omega) _⟩
theorem DwI.setPar {m q B ga gb gc : Nat} {w : World} {d : Dp.Dt} {W : World} (h : DwI m q B ga gb gc w d W) (hx : gc ≠ ga ∧ gc ≠ gb ∧ q + 2 < gc) (v : Nat) (x : Int) : DwI m q B ga gb gc w { d with par := d.par.set v x } (W.setCell ⟨gc, v, none⟩ (.int .i64 x)) := by
  obtain ⟨a1, a2, a3, a4, a5, a6, a7⟩ := h
  exact ⟨a1.cellset _ _ (show ga ≠ gc by omega), a2.cellset _ _ (show gb ≠ gc by omega), (a3.store v x).1, Boxed.cellset a4 _ _ (show q ≠ gc by omega), Boxed.cellset a5 _ _ (show q + 1 ≠ gc by omega), Boxed.cellset a6 _ _ (show q + 2 ≠ gc by omega), a7.setCell (p := ⟨gc, v, none⟩) (show q ≤ gc by omega) _⟩

theorem load_row (W : World) (g : Nat) (v : Value) (h : W.cell? ⟨g, 0, none⟩ = some v) : (loadVar 29 ⟨g, 0, none⟩).run Try.prog W = .ok v W := by
  go_simp
theorem results_ccct {fn : Func} {p1 p2 p3 u : Tmp} {ty : TypeId} (h : fn.results = #[.cell p1 ty, .cell p2 ty, .cell p3 ty, .tmp u]) (tmps : Array Value) (P : Program) (w : World) (a1 a2 a3 : Addr) (v1 v2 v3 : Value)
    (e1 : tmps.getD p1 undef = .pointer (some a1)) (e2 : tmps.getD p2 undef = .pointer (some a2)) (e3 : tmps.getD p3 undef = .pointer (some a3)) (l1 : (loadVar ty a1).run P w = .ok v1 w) (l2 : (loadVar ty a2).run P w = .ok v2 w) (l3 : (loadVar ty a3).run P w = .ok v3 w) :
    (results fn tmps).run P w = .ok (.tuple #[v1, v2, v3, tmps.getD u undef]) w := by
  have e1' : tmps[p1]?.getD undef = .pointer (some a1) := by simpa using e1
  have e2' : tmps[p2]?.getD undef = .pointer (some a2) := by simpa using e2
  have e3' : tmps[p3]?.getD undef = .pointer (some a3) := by simpa using e3
  simp [results, h, e1', e2', e3', l1, l2, l3, asAddr, Sem.run_bind, Result.andThen]

/-- what Walk hands back, if nothing is wrong -/
def DWPost (m : Nat) (F : Dp.Fo) (w : World) (e : Ending) (w' : World) : Prop :=
  Below w.heap.size w w' ∧ ∃ ga gb gc : Nat, e = .returned (.tuple #[.slice (some ⟨ga, 0, none⟩) m m, .slice (some ⟨gb, 0, none⟩) m m, .slice (some ⟨gc, 0, none⟩) m m, .nilIface]) ∧
    Own w' w.heap.size 3 (.slice (some ⟨ga, 0, none⟩) m m) (Dp.mets m F) ∧ Own w' w.heap.size 3 (.slice (some ⟨gb, 0, none⟩) m m) (Dp.lefts m F) ∧ Own w' w.heap.size 3 (.slice (some ⟨gc, 0, none⟩) m m) (Dp.pars m F)

set_option maxRecDepth 100000 in
set_option maxHeartbeats 4000000 in
theorem DWalk_ok (m : Nat) (A : Option Addr) (k c : Nat) (ls : List Gr.Ln) (F : Dp.Fo) (hF : Dp.Whole m (Wa.nrow m ls) F) (w : World) (hr : RdP w w.heap.size A k c ls) (h : Gr.code (m : Int) ls = 0) :
    CallsIn Fence.wide 10 Try.prog 28 #[.int .i64 (m : Int), .slice A k c] w (DWPost m F w) := by
  have hm8 : m ≤ 8 := by have := (Gr.code_zero.1 h).2.1; omega
  have hm1 : 1 ≤ m := by have := (Gr.code_zero.1 h).1; omega
  have H := Lib.hid h
  clear h
  have hro : Fence.wide.round = none := rfl
  have hF1 : Fence.wide.fn 33 := trivial
  have hF3 : Fence.wide.fn 34 := trivial
  obtain ⟨i0, hi, hz0, hz1, hz2⟩ := info_parts intInfo
  have hml : m ≤ maxLen := by simp only [maxLen]; omega
  obtain ⟨zc, hzc⟩ : ∃ zc, zc = madeCells (Value.int .i64 0).cells (m * 1) := ⟨_, rfl⟩
  have hmk : ∀ w : World, (Instr.makeSlice 29 (.int .i64 (m : Int)) (.int .i64 (m : Int))).run Try.prog w = .ok (.slice (some ⟨w.heap.size, 0, none⟩) m m) (w.alloc (.cells zc 3)) := fun w => by
    have := run_make (P := Try.prog) w 29 3 i0 (.int .i64 0) Try.underlying29 hi hz0 .i64 .i64 (m : Int) (m : Int) (by omega) (Int.le_refl _) (by rw [hz2]; omega) (by omega)
    simp only [Int.toNat_natCast, hz1, ← hzc] at this
    exact this
  have HZC := Lib.hid hzc
  clear hzc
  obtain ⟨q, hq⟩ : ∃ q, q = w.heap.size := ⟨_, rfl⟩
  obtain ⟨W0, hW0⟩ : ∃ W0, W0 = ((w.alloc (.cells #[.slice none 0 0] 29)).alloc (.cells #[.slice none 0 0] 29)).alloc (.cells #[.slice none 0 0] 29) := ⟨_, rfl⟩
  have hq0 : W0.heap.size = q + 3 := by rw [hW0, hq]; simp
  have hb0 : Below q w W0 := by rw [hW0, hq]; exact (((Below.refl _ _).alloc (Nat.le_refl _) _).alloc (by simp) _).alloc (by simp; omega) _
  have B0 : Boxed W0 q 29 (.slice none 0 0) := by rw [hW0, hq]; exact ((Boxed.new w _ _).alloc _).alloc _
  have B1 : Boxed W0 (q + 1) 29 (.slice none 0 0) := by
    have := (Boxed.new (w.alloc (.cells #[.slice none 0 0] 29)) 29 (.slice none 0 0)).alloc (.cells #[.slice none 0 0] 29)
    rw [← hW0, World.size_alloc, ← hq] at this
    exact this
  have B2 : Boxed W0 (q + 2) 29 (.slice none 0 0) := by
    have := Boxed.new ((w.alloc (.cells #[.slice none 0 0] 29)).alloc (.cells #[.slice none 0 0] 29)) 29 (.slice none 0 0)
    rw [← hW0, World.size_alloc, World.size_alloc, ← hq] at this
    exact this
  have hr0 : RdP W0 W0.heap.size A k c ls := by rw [← hq] at hr; exact (hr.below hb0).more (by omega)
  have HW0 := Lib.hid hW0
  have HQ := Lib.hid hq
  clear hW0 hq
  refine callsIn_of_wp_marks Try.func28 rfl trivial ?_ hro
  simp only [Try.ntmps28, List.size_toArray, List.length_cons, List.length_nil, Nat.reduceAdd, Nat.reduceSub, Array.replicate_succ, Array.replicate_zero, List.push_toArray, List.append_toArray, List.nil_append, List.cons_append]
  gi_wp2_with (first
    | (gi_at_call 33; rw [← HW0.out, ← HQ.out]; refine (callsIn_wide.2 (callsIn_wide.1 (Beside_far m A k c ls _ hr0 H.out))).mono ?_; rintro e w1 ⟨hb, A1, c1, rfl, hrr⟩))
  simp only [Nat.add_assoc, Nat.reduceAdd]
  have hk1 : Kept (fun _ => False) W0 w1 := ⟨hb.size, fun k hk _ => hb.block k hk⟩
  have C0 := hk1.boxed B0 (fun h => h)
  have C1 := hk1.boxed B1 (fun h => h)
  have C2 := hk1.boxed B2 (fun h => h)
  have g0 := C0.cell
  have g1 := C1.cell
  have g2 := C2.cell
  have f0 := C0.frozen
  have f1 := C1.frozen
  have f2 := C2.frozen
  have l0 := C0.lt
  have l1 := C1.lt
  have l2 := C2.lt
  have l01 : q < w1.heap.size + 1 := by omega
  have l02 : q < w1.heap.size + 1 + 1 := by omega
  have l11 : q + 1 < w1.heap.size + 1 := by omega
  have l12 : q + 1 < w1.heap.size + 1 + 1 := by omega
  have l21 : q + 2 < w1.heap.size + 1 := by omega
  have l22 : q + 2 < w1.heap.size + 1 + 1 := by omega
  rename_i K hK
  have key : ∀ ga gb gc : Nat, w1.heap.size ≤ ga ∧ ga < w1.heap.size + 3 ∧ w1.heap.size ≤ gb ∧ gb < w1.heap.size + 3 ∧ w1.heap.size ≤ gc ∧ gc < w1.heap.size + 3 ∧ ga ≠ gb ∧ gb ≠ gc ∧ ga ≠ gc →
      K { tmps := #[.int .i64 (m : Int), .slice A k c, undef, undef, .pointer (some ⟨q, 0, none⟩), .pointer (some ⟨q + 1, 0, none⟩), .pointer (some ⟨q + 2, 0, none⟩), .nilIface, .slice A1 m c1, undef, undef, .tuple #[.slice A1 m c1, .nilIface], .int .i64 (m : Int), .slice A k c, .tuple #[.slice A1 m c1, .nilIface], .slice A1 m c1, .nilIface, .nilIface, .bool false, undef, .int .i64 (m : Int), .slice (some ⟨ga, 0, none⟩) m m, .int .i64 (m : Int), .slice (some ⟨gb, 0, none⟩) m m, .int .i64 (m : Int), .slice (some ⟨gc, 0, none⟩) m m, undef, undef, undef, undef, undef, undef, undef, undef, undef, undef, undef, undef, undef, undef, undef, undef, undef, undef, undef, undef, undef, undef, undef, undef, undef], defers := [] } (((((((w1.setCell ⟨q, 0, none⟩ (.slice (some ⟨ga, 0, none⟩) m m)).setCell ⟨q + 1, 0, none⟩ (.slice (some ⟨gb, 0, none⟩) m m)).setCell ⟨q + 2, 0, none⟩ (.slice (some ⟨gc, 0, none⟩) m m)).alloc (.cells zc 3)).alloc (.cells zc 3)).alloc (.cells zc 3)).drew) := by
    rintro ga gb gc ⟨p1, p2, p3, p4, p5, p6, p7, p8, p9⟩
    obtain ⟨W6, hW6⟩ : ∃ W6, W6 = ((((((w1.setCell ⟨q, 0, none⟩ (.slice (some ⟨ga, 0, none⟩) m m)).setCell ⟨q + 1, 0, none⟩ (.slice (some ⟨gb, 0, none⟩) m m)).setCell ⟨q + 2, 0, none⟩ (.slice (some ⟨gc, 0, none⟩) m m)).alloc (.cells zc 3)).alloc (.cells zc 3)).alloc (.cells zc 3)).drew := ⟨_, rfl⟩
    obtain ⟨B, hB⟩ : ∃ B, B = w1.heap.size := ⟨_, rfl⟩
    rw [← hW6]
    rw [← hB] at p1 p2 p3 p4 p5 p6 l0 l1 l2
    have hsz6 : W6.heap.size = B + 3 := by rw [hW6, hB]; simp
    have hO : ∀ g, B ≤ g → g < B + 3 → Own W6 B 3 (.slice (some ⟨g, 0, none⟩) m m) (List.replicate m 0) := fun g e1 e2 => by
      have := made3 (((w1.setCell ⟨q, 0, none⟩ (.slice (some ⟨ga, 0, none⟩) m m)).setCell ⟨q + 1, 0, none⟩ (.slice (some ⟨gb, 0, none⟩) m m)).setCell ⟨q + 2, 0, none⟩ (.slice (some ⟨gc, 0, none⟩) m m)) m g hml (by simp; omega) (by simp; omega)
      rw [← HZC.out, ← hW6] at this
      simpa [hB] using this
    have E0 : Boxed W6 q 29 (.slice (some ⟨ga, 0, none⟩) m m) := by
      rw [hW6]
      exact ((((((C0.set (.slice (some ⟨ga, 0, none⟩) m m)).other (B' := q + 1) (by omega) (.slice (some ⟨gb, 0, none⟩) m m)).other (B' := q + 2) (by omega) (.slice (some ⟨gc, 0, none⟩) m m)).alloc (.cells zc 3)).alloc (.cells zc 3)).alloc (.cells zc 3))
    have E1 : Boxed W6 (q + 1) 29 (.slice (some ⟨gb, 0, none⟩) m m) := by
      rw [hW6]
      exact ((((((C1.other (B' := q) (by omega) (.slice (some ⟨ga, 0, none⟩) m m)).set (.slice (some ⟨gb, 0, none⟩) m m)).other (B' := q + 2) (by omega) (.slice (some ⟨gc, 0, none⟩) m m)).alloc (.cells zc 3)).alloc (.cells zc 3)).alloc (.cells zc 3))
    have E2 : Boxed W6 (q + 2) 29 (.slice (some ⟨gc, 0, none⟩) m m) := by
      rw [hW6]
      exact ((((((C2.other (B' := q) (by omega) (.slice (some ⟨ga, 0, none⟩) m m)).other (B' := q + 1) (by omega) (.slice (some ⟨gb, 0, none⟩) m m)).set (.slice (some ⟨gc, 0, none⟩) m m)).alloc (.cells zc 3)).alloc (.cells zc 3)).alloc (.cells zc 3))
    have hk6 : Kept (fun k => k = q ∨ k = q + 1 ∨ k = q + 2) w1 W6 := by
      rw [hW6]
      exact (((((Kept.set _ _ _ _ (.inl rfl)).trans (Kept.set _ _ _ _ (.inr (.inl rfl)))).trans (Kept.set _ _ _ _ (.inr (.inr rfl)))).trans (Kept.alloc _ _ _)).trans (Kept.alloc _ _ _)).trans (Kept.alloc _ _ _)
    have hbW6 : Below q w W6 := by
      have h1 : Below q w w1 := hb0.trans (hb.mono (by omega))
      have h2 := (((((h1.setCell (p := ⟨q, 0, none⟩) (show q ≤ q by omega) (.slice (some ⟨ga, 0, none⟩) m m)).setCell (p := ⟨q + 1, 0, none⟩) (show q ≤ q + 1 by omega) (.slice (some ⟨gb, 0, none⟩) m m)).setCell (p := ⟨q + 2, 0, none⟩) (show q ≤ q + 2 by omega) (.slice (some ⟨gc, 0, none⟩) m m)).alloc (by simp; omega) (.cells zc 3)).alloc (by simp; omega) (.cells zc 3)).alloc (by simp; omega) (.cells zc 3)
      rw [hW6]
      exact ⟨h2.os, h2.tape, h2.output, h2.size, h2.block⟩
    have hrr6 : RdR W6 B A1 m c1 (Gr.rows m ls) := by
      obtain ⟨V, hV⟩ : ∃ V, V = ((w1.setCell ⟨q, 0, none⟩ (.slice (some ⟨ga, 0, none⟩) m m)).setCell ⟨q + 1, 0, none⟩ (.slice (some ⟨gb, 0, none⟩) m m)).setCell ⟨q + 2, 0, none⟩ (.slice (some ⟨gc, 0, none⟩) m m) := ⟨_, rfl⟩
      have h1 : RdR V B A1 m c1 (Gr.rows m ls) := by
        have := hrr V (by rw [hV]; simp) (fun k hk => by
          rw [hV]
          exact (Below.heap_setCell _ _ _ _ (by show k ≠ q + 2; omega)).trans ((Below.heap_setCell _ _ _ _ (by show k ≠ q + 1; omega)).trans (Below.heap_setCell _ _ _ _ (by show k ≠ q; omega))))
        rw [← hB] at this
        exact this
      have hVs : V.heap.size = B := by rw [hV, hB]; simp
      have h2 : Below B V (((V.alloc (.cells zc 3)).alloc (.cells zc 3)).alloc (.cells zc 3)) := (((Below.refl _ _).alloc (by omega) _).alloc (by simp; omega) _).alloc (by simp; omega) _
      have h3 := h1.below h2
      rw [hW6, ← hV]
      exact h3
    have HOa := hO ga p1 p2
    have HOb := hO gb p3 p4
    have HOc := hO gc p5 p6
    have hnB : B ≤ W6.heap.size := by omega
    have HD : DwI m q B ga gb gc w ⟨List.replicate m 0, List.replicate m 0, List.replicate m 0⟩ W6 := ⟨HOa, HOb, HOc, E0, E1, E2, hbW6⟩
    clear hW6 hk6 hO HOa HOb HOc E0 E1 E2 hbW6
    apply hK
    clear hK hb hrr g0 g1 g2 f0 f1 f2 l01 l02 l11 l12 l21 l22 C0 C1 C2 hk1 B0 B1 B2 hb0 hr0 hq0 HW0
    clear hB
    gi_wp2_with (gi_at_call 34; refine (callsIn_wide.2 (search_any _ _ _ _)).mono ?_; rintro e w4 ⟨rfl, rfl⟩)
    obtain ⟨W7, hW7⟩ : ∃ W7, W7 = W6.alloc (.cells #[.slice A1 m c1] 24) := ⟨_, rfl⟩
    have hsz7 : W7.heap.size = B + 4 := by rw [hW7]; simp [hsz6]
    have hb67 : Below (B + 3) W6 W7 := by rw [hW7]; exact (Below.refl _ _).alloc (by omega) _
    have hbb : W7.cell? ⟨B + 3, 0, none⟩ = some (.slice A1 m c1) := by
      have := (Boxed.new W6 24 (.slice A1 m c1)).cell
      rw [← hW7, hsz6] at this
      exact this
    have hrr7 := hrr6.below (hb67.mono (by omega))
    have HD7 := HD.keep hb67 (by omega) (by omega) (by omega) (by omega)
    rw [← hW7]
    clear hW7 hrr6 HD hsz6
    refine wpIn_range_cells2 hro (by omega) (gf := 37) (lb := #[.pointer (some ⟨B + 3, 0, none⟩)]) rfl trivial (enters_of Try.func37 (by kernel_rfl) rfl) (encs := encS) (X := fun k => k = ga ∨ k = gb ∨ k = gc) (zs := Dp.emit 0 F (-1))
      (search1_seq m B (B + 3) hm8 hm1 (Wa.nrow m ls) (Wa.nrow_ok m ls) A1 c1 (Gr.rows m ls) (fun k hk => Wa.rows_nrow ls hk) _ F hF W7 (by omega) hrr7 hbb (fun k hk => by omega) (fun k hk => by omega) (by omega))
      (fun k hk => by omega) (fun _ => rfl)
      (fun pre W => DwI m q B ga gb gc w (Dp.lay ⟨List.replicate m 0, List.replicate m 0, List.replicate m 0⟩ pre) W)
      (fun _ _ => False)
      (fun pre U V h hb => h.keep hb (by omega) (by omega) (by omega) (by omega))
      (fun _ _ _ h _ => h) HD7
      (fun x b => { tmps := #[.int .i64 (m : Int), .slice A k c, undef, undef, .pointer (some ⟨q, 0, none⟩), .pointer (some ⟨q + 1, 0, none⟩), .pointer (some ⟨q + 2, 0, none⟩), .nilIface, .slice A1 m c1, .int .i64 (x.k : Int), .pointer (some ⟨b, 0, none⟩), .tuple #[.slice A1 m c1, .nilIface], .int .i64 (m : Int), .slice A k c, .tuple #[.slice A1 m c1, .nilIface], .slice A1 m c1, .nilIface, .nilIface, .bool false, undef, .int .i64 (m : Int), .slice (some ⟨ga, 0, none⟩) m m, .int .i64 (m : Int), .slice (some ⟨gb, 0, none⟩) m m, .int .i64 (m : Int), .slice (some ⟨gc, 0, none⟩) m m, .slice A1 m c1, .func (.func 37) #[] #[.pointer (some ⟨B + 3, 0, none⟩)], .int .i64 (x.k : Int), .agg #[.int .i64 (x.v : Int), .int .i64 x.p, .bool x.fin], undef, undef, undef, undef, undef, undef, undef, undef, undef, undef, undef, undef, undef, undef, undef, undef, undef, undef, undef, undef, undef], defers := [] }) stpObj ?assign ?body ?done ?stop
    case assign =>
      intro x l W K hK
      simp only [encS]
      gi_wp2
      exact hK
    case body =>
      rintro pre ⟨k0, v, pp, fin⟩ hpre l b W hI hb2 hob
      have hmem := Dp.mem_emit (hpre.subset (List.mem_append_right pre (List.mem_singleton.2 rfl)))
      have hv : v < m := ((hF.spec (Wa.nrow_ok m ls)).1 v).1 hmem.1
      have hlen := Dp.lay_len (m := m) (d := ⟨List.replicate m 0, List.replicate m 0, List.replicate m 0⟩) ⟨by simp, by simp, by simp⟩ pre
      clear hmem hpre
      have hv1 : (0 : Int) ≤ (v : Int) := by omega
      have hv2 : (v : Int) < (m : Int) := by omega
      have c0 : W.cell? ⟨b, 0, none⟩ = some (.int .i64 (v : Int)) := by simp only [World.cell?, hob, stpObj]; rfl
      have c1' : W.cell? ⟨b, 1, none⟩ = some (.int .i64 pp) := by simp only [World.cell?, hob, stpObj]; rfl
      have c2 : W.cell? ⟨b, 2, none⟩ = some (.bool fin) := by simp only [World.cell?, hob, stpObj]; rfl
      have HL := Lib.hid (Dp.lay_snoc ⟨List.replicate m 0, List.replicate m 0, List.replicate m 0⟩ pre ⟨k0, v, pp, fin⟩)
      generalize hd : Dp.lay ⟨List.replicate m 0, List.replicate m 0, List.replicate m 0⟩ pre = d at hI hlen HL
      clear hd
      cases fin with
      | true =>
        have g1 := hI.2.2.2.2.1.cell
        have g2 := hI.2.1.cell v hv
        have g3 := hI.2.1.frozen v
        have HF := hI.setLeft (by omega) v (k0 : Int)
        clear hI hob hlen
        gi_wp2
        refine ⟨Kept.set _ _ _ _ (.inr (.inl rfl)), ?_⟩
        show DwI m q B ga gb gc w (Dp.lay _ (pre ++ [⟨k0, v, pp, true⟩])) _
        rw [HL.out]
        exact HF
      | false =>
        have g1 := hI.2.2.2.1.cell
        have g2 := hI.1.cell v hv
        have g3 := hI.1.frozen v
        have HF1 := hI.setMet (by omega) v (k0 : Int)
        have g4 := HF1.2.2.2.2.2.1.cell
        have g5 := HF1.2.2.1.cell v hv
        have g6 := HF1.2.2.1.frozen v
        have HF := HF1.setPar (by omega) v pp
        have e1 : (W.setCell ⟨ga, v, none⟩ (.int .i64 (k0 : Int))).cell? ⟨b, 0, none⟩ = some (.int .i64 (v : Int)) := (World.cell?_setCell_other _ _ _ _ (fun e => by have : ga = b := (congrArg Addr.block e); omega)).trans c0
        have e2 : (W.setCell ⟨ga, v, none⟩ (.int .i64 (k0 : Int))).cell? ⟨b, 1, none⟩ = some (.int .i64 pp) := (World.cell?_setCell_other _ _ _ _ (fun e => by have : ga = b := (congrArg Addr.block e); omega)).trans c1'
        clear hI HF1 hob hlen
        gi_wp2
        refine ⟨(Kept.set _ _ _ _ (.inl rfl)).trans (Kept.set _ _ _ _ (.inr (.inr rfl))), ?_⟩
        show DwI m q B ga gb gc w (Dp.lay _ (pre ++ [⟨k0, v, pp, false⟩])) _
        rw [HL.out]
        exact HF
    case done =>
      rintro D W hD hI hK
      rw [Dp.lay_whole (Wa.nrow_ok m ls) hF _ ⟨by simp, by simp, by simp⟩] at hI
      have C0 := hI.2.2.2.1
      have C1 := hI.2.2.2.2.1
      have C2 := hI.2.2.2.2.2.1
      have g0 := C0.cell
      have g1 := C1.cell
      have g2 := C2.cell
      have f0 := C0.frozen
      have f1 := C1.frozen
      have f2 := C2.frozen
      have l0 := C0.lt
      have l1 := C1.lt
      have l2 := C2.lt
      gi_wp2
      rename_i K2 hK2
      gi_region
      refine hK2 _ _ ?_
      gi_wp2
      obtain ⟨W9, hW9⟩ : ∃ W9, W9 = (((W.setCell ⟨q, 0, none⟩ (.slice (some ⟨ga, 0, none⟩) m m)).setCell ⟨q + 1, 0, none⟩ (.slice (some ⟨gb, 0, none⟩) m m)).setCell ⟨q + 2, 0, none⟩ (.slice (some ⟨gc, 0, none⟩) m m)).drew := ⟨_, rfl⟩
      rw [← hW9]
      have hK9 : W9.heap[D]? = some (.deferred (some [])) := by
        rw [hW9]
        exact (Below.heap_setCell _ _ _ _ (show D ≠ q + 2 by omega)).trans ((Below.heap_setCell _ _ _ _ (show D ≠ q + 1 by omega)).trans ((Below.heap_setCell _ _ _ _ (show D ≠ q by omega)).trans hK))
      have hI9 : DwI m q B ga gb gc w ⟨Dp.mets m F, Dp.lefts m F, Dp.pars m F⟩ W9 := by
        obtain ⟨a1, a2, a3, a4, a5, a6, a7⟩ := hI
        have b7 := ((a7.setCell (p := ⟨q, 0, none⟩) (show q ≤ q by omega) (.slice (some ⟨ga, 0, none⟩) m m)).setCell (p := ⟨q + 1, 0, none⟩) (show q ≤ q + 1 by omega) (.slice (some ⟨gb, 0, none⟩) m m)).setCell (p := ⟨q + 2, 0, none⟩) (show q ≤ q + 2 by omega) (.slice (some ⟨gc, 0, none⟩) m m)
        rw [hW9]
        refine ⟨((a1.cellset _ _ (show ga ≠ q by omega)).cellset _ _ (show ga ≠ q + 1 by omega)).cellset _ _ (show ga ≠ q + 2 by omega), ((a2.cellset _ _ (show gb ≠ q by omega)).cellset _ _ (show gb ≠ q + 1 by omega)).cellset _ _ (show gb ≠ q + 2 by omega), ((a3.cellset _ _ (show gc ≠ q by omega)).cellset _ _ (show gc ≠ q + 1 by omega)).cellset _ _ (show gc ≠ q + 2 by omega), ?_, ?_, ?_, ⟨b7.os, b7.tape, b7.output, b7.size, b7.block⟩⟩
        · exact Boxed.cellset (Boxed.cellset (Boxed.set _ a4) ⟨q + 1, 0, none⟩ (.slice (some ⟨gb, 0, none⟩) m m) (show q ≠ q + 1 by omega)) ⟨q + 2, 0, none⟩ (.slice (some ⟨gc, 0, none⟩) m m) (show q ≠ q + 2 by omega)
        · exact Boxed.cellset (Boxed.set _ (Boxed.cellset a5 ⟨q, 0, none⟩ (.slice (some ⟨ga, 0, none⟩) m m) (show q + 1 ≠ q by omega))) ⟨q + 2, 0, none⟩ (.slice (some ⟨gc, 0, none⟩) m m) (show q + 1 ≠ q + 2 by omega)
        · exact Boxed.set _ (Boxed.cellset (Boxed.cellset a6 ⟨q, 0, none⟩ (.slice (some ⟨ga, 0, none⟩) m m) (show q + 2 ≠ q by omega)) ⟨q + 1, 0, none⟩ (.slice (some ⟨gb, 0, none⟩) m m) (show q + 2 ≠ q + 1 by omega))
      clear hI hW9 hK g0 g1 g2 f0 f1 f2 l0 l1 l2 C0 C1 C2
      have hDs : q + 2 < D := by omega
      have hbD := belowK_b (w := w) (Nat.le_refl _) W9 D _ (.deferred none) (by rw [← HQ.out]; omega) hK9 rfl rfl
      obtain ⟨a1, a2, a3, a4, a5, a6, a7⟩ := hI9
      have c4 : Boxed (W9.putObj D (.deferred none)) q 29 _ := (World.putObj_heap_other (by omega)).trans a4
      have c5 : Boxed (W9.putObj D (.deferred none)) (q + 1) 29 _ := (World.putObj_heap_other (by omega)).trans a5
      have c6 : Boxed (W9.putObj D (.deferred none)) (q + 2) 29 _ := (World.putObj_heap_other (by omega)).trans a6
      have b1 : Own (W9.putObj D (.deferred none)) B 3 (.slice (some ⟨ga, 0, none⟩) m m) (Dp.mets m F) := ownsRow_putObj a1 (.deferred none) hK9 rfl
      have b2 : Own (W9.putObj D (.deferred none)) B 3 (.slice (some ⟨gb, 0, none⟩) m m) (Dp.lefts m F) := ownsRow_putObj a2 (.deferred none) hK9 rfl
      have b3 : Own (W9.putObj D (.deferred none)) B 3 (.slice (some ⟨gc, 0, none⟩) m m) (Dp.pars m F) := ownsRow_putObj a3 (.deferred none) hK9 rfl
      refine ⟨by simp, .inl ⟨_, _, rfl, run_takeDeferred hK9, ?_⟩⟩
      refine ⟨_, results_ccct rfl _ _ _ _ _ _ _ _ _ rfl rfl rfl (load_row _ _ _ c4.cell) (load_row _ _ _ c5.cell) (load_row _ _ _ c6.cell), ?_⟩
      rw [HQ.out] at a7
      exact ⟨a7.trans hbD, ga, gb, gc, rfl, b1.mono (by rw [← HQ.out]; omega), b2.mono (by rw [← HQ.out]; omega), b3.mono (by rw [← HQ.out]; omega)⟩
    case stop =>
      rintro D pre W _ _ h _
      exact h.elim
  clear hK
  gi_region
  all_goals exact key _ _ _ (by omega)

end Go.Proofs.Ytjcdnkbandagoaa
