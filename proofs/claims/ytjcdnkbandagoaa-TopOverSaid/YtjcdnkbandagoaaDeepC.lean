/-
  The contract of Lowest of package deep: the lowest times that points come back to, or what is wrong.
-/
import Derived.Test.YtjcdnkbandagoaaDeepB
import Derived.Test.YtjcdnkbandagoaaDeepP
namespace Go.Proofs.Ytjcdnkbandagoaa
open Go.RowKit Go.Shelf

attribute [local go_sem] Oper.semAt_some
set_option linter.unusedSimpArgs false

/-- which of four objects lies in block g -/
def At4 (B : Nat) (o1 o2 o3 o4 : Obj) (g : Nat) (Z : Obj) : Prop := (g = B ∧ o1 = Z) ∨ (g = B + 1 ∧ o2 = Z) ∨ (g = B + 2 ∧ o3 = Z) ∨ (g = B + 3 ∧ o4 = Z)
theorem At4.look {U : World} {B : Nat} {o1 o2 o3 o4 : Obj} {g : Nat} {Z : Obj} (h : At4 B o1 o2 o3 o4 g Z) (hB : B = U.heap.size) : (((((U.alloc o1).alloc o2).alloc o3).alloc o4).drew).heap[g]? = some Z := by
  show ((((U.alloc o1).alloc o2).alloc o3).alloc o4).heap[g]? = some Z
  subst hB
  rcases h with ⟨rfl, rfl⟩ | ⟨rfl, rfl⟩ | ⟨rfl, rfl⟩ | ⟨rfl, rfl⟩
  · exact (Below.heap_alloc _ _ _ (by simp <;> omega)).trans ((Below.heap_alloc _ _ _ (by simp <;> omega)).trans ((Below.heap_alloc _ _ _ (by simp)).trans (World.alloc_heap_new U _)))
  · have := World.alloc_heap_new (U.alloc o1) o2
    rw [World.size_alloc] at this
    exact (Below.heap_alloc _ _ _ (by simp <;> omega)).trans ((Below.heap_alloc _ _ _ (by simp)).trans this)
  · have := World.alloc_heap_new ((U.alloc o1).alloc o2) o3
    rw [World.size_alloc, World.size_alloc] at this
    exact (Below.heap_alloc _ _ _ (by simp)).trans this
  · have := World.alloc_heap_new (((U.alloc o1).alloc o2).alloc o3) o4
    rw [World.size_alloc, World.size_alloc, World.size_alloc] at this
    exact this

/-- a slice of noughts, seen by its block -/
theorem made_at {W : World} {B g m : Nat} (hm : m ≤ maxLen) (hB : B ≤ g) (h : W.heap[g]? = some (.cells (madeCells (Value.int .i64 0).cells (m * 1)) 3)) : Own W B 3 (.slice (some ⟨g, 0, none⟩) m m) (List.replicate m 0) := by
  obtain ⟨V, hV⟩ : ∃ V : World, V.heap.size = g ∧ (V.alloc (.cells (madeCells (Value.int .i64 0).cells (m * 1)) 3)).heap[g]? = W.heap[g]? := by
    refine ⟨{ W with heap := W.heap.extract 0 g }, ?_, ?_⟩
    · have := (Array.getElem?_eq_some_iff.1 h).1
      simp
      omega
    · rw [h]
      have hs : ({ W with heap := W.heap.extract 0 g } : World).heap.size = g := by
        have := (Array.getElem?_eq_some_iff.1 h).1
        simp
        omega
      have := World.alloc_heap_new ({ W with heap := W.heap.extract 0 g } : World) (.cells (madeCells (Value.int .i64 0).cells (m * 1)) 3)
      rw [hs] at this
      exact this
  have h1 : Own (V.alloc (.cells (madeCells (Value.int .i64 0).cells (m * 1)) 3)) B 3 (.slice (some ⟨V.heap.size, 0, none⟩) m m) (List.replicate m 0) := Own.made (World.ownsRow_lit V _ m (show B ≤ V.heap.size by omega) hm (size_madeCells _ _))
  rw [hV.1] at h1
  exact h1.same (fun k hk => by cases hk; exact hV.2.symm)

/-- what Lowest's loop keeps -/
def DlI (m B g1 g2 a1 a2 : Nat) (A1 : Option Addr) (c1 : Nat) (rows : List (List Int)) (w : World) (d : Dp.D2) (W : World) : Prop :=
  Own W (B + 1) 3 (.slice (some ⟨g1, 0, none⟩) m m) d.met ∧ Own W (B + 1) 3 (.slice (some ⟨g2, 0, none⟩) m m) d.low ∧ Boxed W a1 29 (.slice (some ⟨g1, 0, none⟩) m m) ∧ Boxed W a2 29 (.slice (some ⟨g2, 0, none⟩) m m) ∧
  Boxed W B 24 (.slice A1 m c1) ∧ RdR W B A1 m c1 rows ∧ Below w.heap.size w W
theorem DlI.keep {m B g1 g2 a1 a2 s : Nat} {A1 : Option Addr} {c1 : Nat} {rows : List (List Int)} {w : World} {d : Dp.D2} {W W' : World} (h : DlI m B g1 g2 a1 a2 A1 c1 rows w d W) (hb : Below s W W') (h0 : w.heap.size ≤ s) (h1 : B < s) (h2 : g1 < s) (h3 : g2 < s) (h4 : a1 < s) (h5 : a2 < s) : DlI m B g1 g2 a1 a2 A1 c1 rows w d W' := by
  obtain ⟨p1, p2, p3, p4, p5, p6, p7⟩ := h
  exact ⟨p1.same (fun k hk => by cases hk; exact hb.block g1 h2), p2.same (fun k hk => by cases hk; exact hb.block g2 h3), (hb.block a1 h4).trans p3, (hb.block a2 h5).trans p4, (hb.block B h1).trans p5, p6.below (hb.mono (by omega)), p7.trans (hb.mono h0)⟩

theorem DlI.drew {m B g1 g2 a1 a2 : Nat} {A1 : Option Addr} {c1 : Nat} {rows : List (List Int)} {w : World} {d : Dp.D2} {W : World} (hI : DlI m B g1 g2 a1 a2 A1 c1 rows w d W) : DlI m B g1 g2 a1 a2 A1 c1 rows w d W.drew :=
  ⟨hI.1, hI.2.1, hI.2.2.1, hI.2.2.2.1, hI.2.2.2.2.1, hI.2.2.2.2.2.1, hI.2.2.2.2.2.2.trans ⟨rfl, rfl, rfl, Nat.le_refl _, fun _ _ => rfl⟩⟩
theorem DlI.setLow {m B g1 g2 a1 a2 : Nat} {A1 : Option Addr} {c1 : Nat} {rows : List (List Int)} {w : World} {mt lo : List Int} {W : World} (hI : DlI m B g1 g2 a1 a2 A1 c1 rows w ⟨mt, lo⟩ W) (hx : g2 ≠ g1 ∧ g2 ≠ a1 ∧ g2 ≠ a2 ∧ B < g2 ∧ w.heap.size ≤ g2) (i : Nat) (x : Int) :
    DlI m B g1 g2 a1 a2 A1 c1 rows w ⟨mt, lo.set i x⟩ (W.setCell ⟨g2, i, none⟩ (.int .i64 x)) := by
  obtain ⟨y1, y2, y3, y4, y5, y6, y7⟩ := hI
  exact ⟨y1.cellset _ _ (show g1 ≠ g2 by omega), (y2.store i x).1, Boxed.cellset y3 _ _ (show a1 ≠ g2 by omega), Boxed.cellset y4 _ _ (show a2 ≠ g2 by omega), Boxed.cellset y5 _ _ (show B ≠ g2 by omega), y6.below ((Below.refl B _).setCell (p := ⟨g2, i, none⟩) (show B ≤ g2 by omega) _), y7.setCell (p := ⟨g2, i, none⟩) (show w.heap.size ≤ g2 by omega) _⟩

set_option maxRecDepth 100000 in
set_option maxHeartbeats 4000000 in
theorem DLow_ok (m : Nat) (A : Option Addr) (k c : Nat) (ls : List Gr.Ln) (F : Dp.Fo) (hF : Dp.Whole m (Wa.nrow m ls) F) (w : World) (hr : RdP w w.heap.size A k c ls) (h : Gr.code (m : Int) ls = 0) :
    CallsIn Fence.wide 10 Try.prog 29 #[.int .i64 (m : Int), .slice A k c] w (fun e w' => Below w.heap.size w w' ∧ ∃ g, e = .returned (.tuple #[.slice (some ⟨g, 0, none⟩) m m, .nilIface]) ∧ Own w' w.heap.size 3 (.slice (some ⟨g, 0, none⟩) m m) (Dp.lows m (Wa.nrow m ls) F)) := by
  have hm8 : m ≤ 8 := by have := (Gr.code_zero.1 h).2.1; omega
  have hm1 : 1 ≤ m := by have := (Gr.code_zero.1 h).1; omega
  have H := Lib.hid h
  clear h
  have hro : Fence.wide.round = none := rfl
  have hF1 : Fence.wide.fn 33 := trivial
  have hF3 : Fence.wide.fn 34 := trivial
  obtain ⟨i0, hi, hz0, hz1, hz2⟩ := info_parts intInfo
  have hml : m ≤ maxLen := by simp only [maxLen]; omega
  obtain ⟨zc, hzc⟩ : ∃ zc, zc = madeCells (Value.int .i64 0).cells (m * 1) := ⟨_, rfl⟩
  have hmk : ∀ w : World, (Instr.makeSlice 29 (.int .i64 (m : Int)) (.int .i64 (m : Int))).run Try.prog w = .ok (.slice (some ⟨w.heap.size, 0, none⟩) m m) (w.alloc (.cells zc 3)) := fun w => by
    have := run_make (P := Try.prog) w 29 3 i0 (.int .i64 0) Try.underlying29 hi hz0 .i64 .i64 (m : Int) (m : Int) (by omega) (Int.le_refl _) (by rw [hz2]; omega) (by omega)
    simp only [Int.toNat_natCast, hz1, ← hzc] at this
    exact this
  have HZC := Lib.hid hzc
  clear hzc
  refine callsIn_of_wp_marks Try.func29 rfl trivial ?_ hro
  simp only [Try.ntmps29, List.size_toArray, List.length_cons, List.length_nil, Nat.reduceAdd, Nat.reduceSub, Array.replicate_succ, Array.replicate_zero, List.push_toArray, List.append_toArray, List.nil_append, List.cons_append]
  gi_wp2_with (first
    | (gi_at_call 33; refine (callsIn_wide.2 (callsIn_wide.1 (Beside_far m A k c ls _ hr H.out))).mono ?_; rintro e w1 ⟨hb, A1, c1, rfl, hrr⟩))
  rename_i K hK
  suffices key : ∀ (g1 g2 a1 a2 : Nat) (o1 o2 o3 o4 : Obj), At4 (w1.heap.size + 1) o1 o2 o3 o4 g1 (.cells zc 3) → At4 (w1.heap.size + 1) o1 o2 o3 o4 g2 (.cells zc 3) → At4 (w1.heap.size + 1) o1 o2 o3 o4 a1 (.cells #[.slice (some ⟨g1, 0, none⟩) m m] 29) → At4 (w1.heap.size + 1) o1 o2 o3 o4 a2 (.cells #[.slice (some ⟨g2, 0, none⟩) m m] 29) →
      g1 ≠ g2 ∧ g1 ≠ a1 ∧ g1 ≠ a2 ∧ g2 ≠ a1 ∧ g2 ≠ a2 ∧ a1 ≠ a2 →
      K { tmps := #[.int .i64 (m : Int), .slice A k c, undef, undef, .slice none 0 0, .nilIface, .pointer (some ⟨w1.heap.size, 0, none⟩), .nilIface, .pointer (some ⟨a1, 0, none⟩), .pointer (some ⟨a2, 0, none⟩), undef, undef, undef, undef, undef, .tuple #[.slice A1 m c1, .nilIface], .int .i64 (m : Int), .slice A k c, .tuple #[.slice A1 m c1, .nilIface], .slice A1 m c1, .nilIface, .nilIface, .bool false, undef, .int .i64 (m : Int), .slice (some ⟨g1, 0, none⟩) m m, .int .i64 (m : Int), .slice (some ⟨g2, 0, none⟩) m m, undef, undef, undef, undef, undef, undef, undef, undef, undef, undef, undef, undef, undef, undef, undef, undef, undef, undef, undef, undef, undef, undef, undef, undef, undef, undef, undef, undef, undef, undef, undef, undef, undef, undef, undef, undef, undef, undef, undef, undef, undef, undef, undef, undef, undef, undef, undef, undef, undef, undef, undef, undef, undef, undef, undef, undef, undef, undef, undef, undef, undef], defers := [] } ((((((w1.alloc (.cells #[.slice A1 m c1] 24)).alloc o1).alloc o2).alloc o3).alloc o4).drew) by
    clear hK
    gi_region
    all_goals
      refine key _ _ _ _ _ _ _ _ ?_ ?_ ?_ ?_ (by omega)
      all_goals first
        | exact .inl ⟨by omega, rfl⟩
        | exact .inr (.inl ⟨by omega, rfl⟩)
        | exact .inr (.inr (.inl ⟨by omega, rfl⟩))
        | exact .inr (.inr (.inr ⟨by omega, rfl⟩))
  intro g1 g2 a1 a2 o1 o2 o3 o4 t1 t2 t3 t4 ⟨n1, n2, n3, n4, n5, n6⟩
  have e1 := t1.look (U := w1.alloc (.cells #[.slice A1 m c1] 24)) (by simp)
  have e2 := t2.look (U := w1.alloc (.cells #[.slice A1 m c1] 24)) (by simp)
  have e3 := t3.look (U := w1.alloc (.cells #[.slice A1 m c1] 24)) (by simp)
  have e4 := t4.look (U := w1.alloc (.cells #[.slice A1 m c1] 24)) (by simp)
  unfold At4 at t1 t2 t3 t4
  obtain ⟨B, hB⟩ : ∃ B, B = w1.heap.size := ⟨_, rfl⟩
  obtain ⟨W6, hW6⟩ : ∃ W6, W6 = ((((((w1.alloc (.cells #[.slice A1 m c1] 24)).alloc o1).alloc o2).alloc o3).alloc o4).drew) := ⟨_, rfl⟩
  rw [← hW6] at e1 e2 e3 e4 ⊢
  rw [← hB] at t1 t2 t3 t4 ⊢
  have p1 : B + 1 ≤ g1 ∧ g1 < B + 5 := by omega
  have p2 : B + 1 ≤ g2 ∧ g2 < B + 5 := by omega
  have p3 : B + 1 ≤ a1 ∧ a1 < B + 5 := by omega
  have p4 : B + 1 ≤ a2 ∧ a2 < B + 5 := by omega
  have hsz6 : W6.heap.size = B + 5 := by rw [hW6, hB]; simp
  have hsw := hb.size
  have hb16 : Below B w1 W6 := by
    have h2 := (((((Below.refl B w1).alloc (by omega) (.cells #[.slice A1 m c1] 24)).alloc (by simp; omega) o1).alloc (by simp; omega) o2).alloc (by simp; omega) o3).alloc (by simp; omega) o4
    rw [hW6]
    exact ⟨h2.os, h2.tape, h2.output, h2.size, h2.block⟩
  have hbW6 : Below w.heap.size w W6 := hb.trans (hb16.mono (by omega))
  have hbox : Boxed W6 B 24 (.slice A1 m c1) := by
    rw [hW6, hB]
    exact ((((Boxed.new w1 24 (.slice A1 m c1)).alloc o1).alloc o2).alloc o3).alloc o4
  have hrr6 : RdR W6 B A1 m c1 (Gr.rows m ls) := by
    have := hrr w1 rfl (fun _ _ => rfl)
    rw [← hB] at this
    exact this.below hb16
  rw [HZC.out] at e1 e2
  have HD : DlI m B g1 g2 a1 a2 A1 c1 (Gr.rows m ls) w ⟨List.replicate m 0, List.replicate m 0⟩ W6 := ⟨made_at hml p1.1 e1, made_at hml p2.1 e2, e3, e4, hbox, hrr6, hbW6⟩
  have HS := Lib.hid hsw
  rw [← hB] at HS
  have gq := hbox.cell
  clear hW6 t1 t2 t3 t4 e1 e2 e3 e4 hb16 hbW6 hsw
  apply hK
  clear hK hb hrr hB
  gi_wp2_with (gi_at_call 34; refine (callsIn_wide.2 (search_any _ _ _ _)).mono ?_; rintro e w4 ⟨rfl, rfl⟩)
  obtain ⟨W7, hW7⟩ : ∃ W7, W7 = W6.alloc (.cells #[.slice A1 m c1] 24) := ⟨_, rfl⟩
  have hsz7 : W7.heap.size = B + 6 := by rw [hW7]; simp [hsz6]
  have hb67 : Below (B + 5) W6 W7 := by rw [hW7]; exact (Below.refl _ _).alloc (by omega) _
  have hbb : W7.cell? ⟨B + 5, 0, none⟩ = some (.slice A1 m c1) := by
    have := (Boxed.new W6 24 (.slice A1 m c1)).cell
    rw [← hW7, hsz6] at this
    exact this
  have hrr7 := hrr6.below (hb67.mono (by omega))
  have hws := HS.out
  have HD7 := HD.keep hb67 (by omega) (by omega) (by omega) (by omega) (by omega) (by omega)
  rw [← hW7]
  clear hW7 hrr6 HD hsz6 hbox gq hb67
  refine wpIn_range_cells2 hro (by omega) (gf := 37) (lb := #[.pointer (some ⟨B + 5, 0, none⟩)]) rfl trivial (enters_of Try.func37 (by kernel_rfl) rfl) (encs := encS) (X := fun k => k = g1 ∨ k = g2) (zs := Dp.emit 0 F (-1))
    (search1_seq m B (B + 5) hm8 hm1 (Wa.nrow m ls) (Wa.nrow_ok m ls) A1 c1 (Gr.rows m ls) (fun k hk => Wa.rows_nrow ls hk) _ F hF W7 (by omega) hrr7 hbb (fun k hk => by omega) (fun k hk => by omega) (by omega))
    (fun k hk => by omega) (fun _ => rfl)
    (fun pre W => DlI m B g1 g2 a1 a2 A1 c1 (Gr.rows m ls) w (Dp.lays2 (Wa.nrow m ls) ⟨List.replicate m 0, List.replicate m 0⟩ pre) W)
    (fun _ _ => False)
    (fun pre U V h hb => h.keep hb (by omega) (by omega) (by omega) (by omega) (by omega) (by omega))
    (fun _ _ _ h _ => h) HD7
    (fun x b => { tmps := #[.int .i64 (m : Int), .slice A k c, undef, undef, .slice none 0 0, .nilIface, .pointer (some ⟨B, 0, none⟩), .nilIface, .pointer (some ⟨a1, 0, none⟩), .pointer (some ⟨a2, 0, none⟩), .int .i64 (x.k : Int), .pointer (some ⟨b, 0, none⟩), undef, undef, undef, .tuple #[.slice A1 m c1, .nilIface], .int .i64 (m : Int), .slice A k c, .tuple #[.slice A1 m c1, .nilIface], .slice A1 m c1, .nilIface, .nilIface, .bool false, undef, .int .i64 (m : Int), .slice (some ⟨g1, 0, none⟩) m m, .int .i64 (m : Int), .slice (some ⟨g2, 0, none⟩) m m, .slice A1 m c1, .func (.func 37) #[] #[.pointer (some ⟨B + 5, 0, none⟩)], .int .i64 (x.k : Int), .agg #[.int .i64 (x.v : Int), .int .i64 x.p, .bool x.fin], undef, undef, undef, undef, undef, undef, undef, undef, undef, undef, undef, undef, undef, undef, undef, undef, undef, undef, undef, undef, undef, undef, undef, undef, undef, undef, undef, undef, undef, undef, undef, undef, undef, undef, undef, undef, undef, undef, undef, undef, undef, undef, undef, undef, undef, undef, undef, undef, undef, undef, undef, undef, undef, undef, undef, undef, undef], defers := [] }) stpObj ?assign ?body ?done ?stop
  case assign =>
    intro x l W K hK
    simp only [encS]
    gi_wp2
    exact hK
  case body =>
    rintro pre ⟨k0, v, pp, fin⟩ hpre l b W hI hb2 hob
    have hmem := Dp.mem_emit (hpre.subset (List.mem_append_right pre (List.mem_singleton.2 rfl)))
    have hspec := hF.spec (Wa.nrow_ok m ls)
    have hv : v < m := (hspec.1 v).1 hmem.1
    have hpq : pp = -1 ∨ ∃ q : Nat, q < m ∧ pp = (q : Int) := hmem.2.1.elim .inl (fun ⟨q, hq, e⟩ => .inr ⟨q, (hspec.1 q).1 hq, e⟩)
    have hlen := Dp.lays2_len (m := m) (R := Wa.nrow m ls) (d := ⟨List.replicate m 0, List.replicate m 0⟩) ⟨by simp, by simp⟩ pre
    have hvp : (v : Int) ≠ pp := Dp.emit_ne hspec.2 (fun u _ => by omega) (hpre.subset (List.mem_append_right pre (List.mem_singleton.2 rfl)))
    have HPQ := Lib.hid hpq
    clear hmem hpre hspec hpq
    have hv1 : (0 : Int) ≤ (v : Int) := by omega
    have hv2 : (v : Int) < (m : Int) := by omega
    have c0 : W.cell? ⟨b, 0, none⟩ = some (.int .i64 (v : Int)) := by simp only [World.cell?, hob, stpObj]; rfl
    have c1' : W.cell? ⟨b, 1, none⟩ = some (.int .i64 pp) := by simp only [World.cell?, hob, stpObj]; rfl
    have c2 : W.cell? ⟨b, 2, none⟩ = some (.bool fin) := by simp only [World.cell?, hob, stpObj]; rfl
    have HL := Lib.hid (Dp.lays2_snoc (Wa.nrow m ls) ⟨List.replicate m 0, List.replicate m 0⟩ pre ⟨k0, v, pp, fin⟩)
    generalize hd : Dp.lays2 (Wa.nrow m ls) ⟨List.replicate m 0, List.replicate m 0⟩ pre = d at hI hlen HL
    clear hd
    have j1 := hI.2.2.1.cell
    have j2 := hI.2.2.2.1.cell
    have j3 := hI.2.2.2.2.1.cell
    cases fin with
    | true =>
      obtain ⟨b3, o3, rfl, hb3, hrow⟩ := hI.2.2.2.2.2.1.at_ (by omega)
      obtain ⟨A', c', hx, hrr⟩ := hrow v hv
      rw [Wa.rows_nrow ls hv] at hx hrr
      obtain ⟨nr, hnr⟩ : ∃ nr, nr = (upL (Wa.nrow m ls v)).length := ⟨_, rfl⟩
      rw [← hnr] at hx hrr
      have HNR := Lib.hid (hnr.trans (upL_len (Wa.nrow m ls v)))
      have hbig := hrr.big
      have hbW := (Array.getElem?_eq_some_iff.1 hob).1
      have hI0 : DlI m B g1 g2 a1 a2 (some ⟨b3, o3, none⟩) c1 (Gr.rows m ls) w ⟨d.met, d.low.set v (Dp.accTo (Wa.nrow m ls) (fun u => d.met.getD u 0) pp v (d.low.getD v 0) 0)⟩ W := by
        rw [Dp.accTo_zero]
        have e : d.low.set v (d.low.getD v 0) = d.low := by
          refine List.ext_getElem (by simp) (fun i h1 h2 => ?_)
          rw [List.getElem_set]
          split
          · next e => subst e; simp [List.getD, h2]
          · rfl
        rw [e]
        exact hI
      have HBX : Hid (∀ wr : World, Kept (fun k => k = g1 ∨ k = g2) W wr → wr.heap[b]? = some (stpObj ⟨k0, v, pp, true⟩)) := fun wr hk => (hk.2 b hbW (by omega)).trans hob
      have HRR : Hid (∀ wr : World, Kept (fun k => k = g1 ∨ k = g2) W wr → Rd wr B A' nr c' (upL (Wa.nrow m ls v))) := fun wr hk => hrr.kept hk (fun k hk => by omega) (by omega)
      clear hrow hnr hob hI hrr
      gi_wp2
      gi_loopw [50] (fun jv wr => ∃ j : Nat, j ≤ nr ∧ jv = .int .i64 (j : Int) ∧ DlI m B g1 g2 a1 a2 (some ⟨b3, o3, none⟩) c1 (Gr.rows m ls) w ⟨d.met, d.low.set v (Dp.accTo (Wa.nrow m ls) (fun u => d.met.getD u 0) pp v (d.low.getD v 0) j)⟩ wr ∧ Kept (fun k => k = g1 ∨ k = g2) W wr) (fun jv _ => nr - (intOf jv).toNat)
      case atStart => exact ⟨0, Nat.zero_le _, rfl, hI0, Kept.refl _ _⟩
      case round =>
        obtain ⟨j, hjn, rfl, hI, hkW⟩ := hrel
        clear hI0
        have hbx := HBX.out wr hkW
        have c1x : wr.cell? ⟨b, 1, none⟩ = some (.int .i64 pp) := by simp only [World.cell?, hbx, stpObj]; rfl
        by_cases hlt : j < nr
        · have hjl : j < (Wa.nrow m ls v).length := by rw [← HNR.out]; exact hlt
          obtain ⟨b4, o4, rfl, hb4, hc4⟩ := (HRR.out wr hkW).at_ (by omega)
          have g6 := hc4 j hlt
          rw [upL_at] at g6
          have hu : (Wa.nrow m ls v).getD j 0 < m := Wa.nrow_ok m ls v hv _ (by simp [List.getD, hjl])
          have hacc := Dp.accTo_succ (R := Wa.nrow m ls) (M := fun u => d.met.getD u 0) (p := pp) (v := v) (a := d.low.getD v 0) hjl
          clear hc4 hjl
          generalize (Wa.nrow m ls v).getD j 0 = u at g6 hu hacc
          have hu1 : (0 : Int) ≤ (u : Int) := by omega
          have hu2 : (u : Int) < (m : Int) := by omega
          by_cases hup : (u : Int) = pp
          · have d1 : ((u : Int) != pp) = false := by simpa using hup
            rw [if_neg (fun h => h hup)] at hacc
            have hn : DlI m B g1 g2 a1 a2 (some ⟨b3, o3, none⟩) c1 (Gr.rows m ls) w ⟨d.met, d.low.set v (Dp.accTo (Wa.nrow m ls) (fun u => d.met.getD u 0) pp v (d.low.getD v 0) (j + 1))⟩ wr := by rw [hacc]; exact hI
            clear hacc hI hup
            gi_wp2
            go_roundw
            case rel => exact ⟨j + 1, by omega, by go_num, hn, hkW⟩
            case measure => simp [intOf]; omega
          · have d1 : ((u : Int) != pp) = true := by simpa using hup
            rw [if_pos hup] at hacc
            obtain ⟨acc, hac⟩ : ∃ acc, acc = Dp.accTo (Wa.nrow m ls) (fun u => d.met.getD u 0) pp v (d.low.getD v 0) j := ⟨_, rfl⟩
            obtain ⟨mu, hmu⟩ : ∃ mu, mu = d.met.getD u 0 := ⟨_, rfl⟩
            rw [← hac] at hI hacc
            obtain ⟨mn, hmn⟩ : ∃ mn, mn = if mu < acc then mu else acc := ⟨_, rfl⟩
            have HMN := Lib.hid hmn
            have hacc2 : Dp.accTo (Wa.nrow m ls) (fun u => d.met.getD u 0) pp v (d.low.getD v 0) (j + 1) = mn := by rw [hacc, ← hmu, hmn]; split <;> omega
            have SA : wr.drew.cell? ⟨a1, 0, none⟩ = some (.slice (some ⟨g1, 0, none⟩) m m) := hI.2.2.1.cell
            have SB : wr.drew.cell? ⟨a2, 0, none⟩ = some (.slice (some ⟨g2, 0, none⟩) m m) := hI.2.2.2.1.cell
            have SC : wr.drew.cell? ⟨g1, u, none⟩ = some (.int .i64 mu) := by rw [hmu]; exact hI.1.cell u hu
            have HACC := Lib.hid hacc2
            clear hacc hacc2 hac hmu hmn
            gi_wp2
            rename_i K1 hK1
            refine wpIn_round_held (S := fun w' => w'.cell? ⟨a1, 0, none⟩ = some (.slice (some ⟨g1, 0, none⟩) m m) ∧ w'.cell? ⟨a2, 0, none⟩ = some (.slice (some ⟨g2, 0, none⟩) m m) ∧ w'.cell? ⟨g1, u, none⟩ = some (.int .i64 mu)) (by kernel_rfl) ?hnd ?hno ⟨SA, SB, SC⟩ ?hgo
            case hnd =>
              intro j o ho c hd
              have hmem := Array.mem_of_getElem? ho
              simp only [List.mem_toArray, List.mem_cons, List.not_mem_nil, or_false] at hmem
              rcases hmem with rfl | rfl | rfl | rfl | rfl | rfl | rfl | rfl | rfl | rfl | rfl | rfl | rfl <;> cases hd
            case hno =>
              rintro ⟨_, _, h⟩
              exact h
            case hgo =>
              intro hS1
              obtain ⟨Wd, hWd⟩ : ∃ Wd, Wd = wr.drew := ⟨_, rfl⟩
              have hId := hI.drew
              rw [← hWd] at hId hS1 ⊢
              have hkd : Kept (fun k => k = g1 ∨ k = g2) W Wd := by rw [hWd]; exact ⟨hkW.1, hkW.2⟩
              clear hWd SA SB SC hI
              have G1 : Wd.cell? ⟨g2, v, none⟩ = some (.int .i64 acc) := by
                have := hId.2.1.cell v hv
                have e : (d.low.set v acc).getD v 0 = acc := by rw [Dp.getD_setI _ _ _ _ (by rw [hlen.2]; exact hv), if_pos rfl]
                rw [e] at this
                exact this
              have G2 := hId.2.1.frozen v
              have hn : DlI m B g1 g2 a1 a2 (some ⟨b3, o3, none⟩) c1 (Gr.rows m ls) w ⟨d.met, (d.low.set v acc).set v mn⟩ (Wd.setCell ⟨g2, v, none⟩ (.int .i64 mn)) := hId.setLow (by omega) v _
              have hSd : (Wd.setCell ⟨g2, v, none⟩ (.int .i64 mn)).cell? ⟨a1, 0, none⟩ = some (.slice (some ⟨g1, 0, none⟩) m m) ∧ (Wd.setCell ⟨g2, v, none⟩ (.int .i64 mn)).cell? ⟨a2, 0, none⟩ = some (.slice (some ⟨g2, 0, none⟩) m m) ∧ (Wd.setCell ⟨g2, v, none⟩ (.int .i64 mn)).cell? ⟨g1, u, none⟩ = some (.int .i64 mu) :=
                ⟨hn.2.2.1.cell, hn.2.2.2.1.cell, (World.cell?_setCell_other _ _ _ _ (fun e => by have : g2 = g1 := (congrArg Addr.block e); omega)).trans hS1.2.2⟩
              rw [List.set_set] at hn
              refine wpAnyH_take (i := 1) (v := .int .i64 (v : Int)) rfl (by kernel_rfl) (by kernel_rfl) (by kernel_rfl) (fun _ _ _ h => h) (Or.inl ⟨by rfl, ?_⟩) (by assumption) ?_
              · intro w hSw
                obtain ⟨hSa, hSb, hSc⟩ := hSw
                go_simp
              simp only [Act.put, List.setIfInBounds_toArray, List.set_cons_zero, List.set_cons_succ]
              refine wpAnyH_take (i := 3) (v := .int .i64 (v : Int)) rfl (by kernel_rfl) (by kernel_rfl) (by kernel_rfl) (fun _ _ _ h => h) (Or.inl ⟨by rfl, ?_⟩) (by assumption) ?_
              · intro w hSw
                obtain ⟨hSa, hSb, hSc⟩ := hSw
                go_simp
              simp only [Act.put, List.setIfInBounds_toArray, List.set_cons_zero, List.set_cons_succ]
              refine wpAnyH_take (i := 7) (v := .int .i64 (u : Int)) rfl (by kernel_rfl) (by kernel_rfl) (by kernel_rfl) (fun _ _ _ h => h) (Or.inl ⟨by rfl, ?_⟩) (by assumption) ?_
              · intro w hSw
                obtain ⟨hSa, hSb, hSc⟩ := hSw
                go_simp
              simp only [Act.put, List.setIfInBounds_toArray, List.set_cons_zero, List.set_cons_succ]
              refine wpAnyH_take (i := 0) (v := .slice (some ⟨g2, 0, none⟩) m m) rfl (by kernel_rfl) (by kernel_rfl) (by kernel_rfl) (fun _ _ _ h => h) (Or.inl ⟨by rfl, ?_⟩) (by assumption) ?_
              · intro w hSw
                obtain ⟨hSa, hSb, hSc⟩ := hSw
                go_simp
              simp only [Act.put, List.setIfInBounds_toArray, List.set_cons_zero, List.set_cons_succ]
              refine wpAnyH_take (i := 2) (v := .slice (some ⟨g2, 0, none⟩) m m) rfl (by kernel_rfl) (by kernel_rfl) (by kernel_rfl) (fun _ _ _ h => h) (Or.inl ⟨by rfl, ?_⟩) (by assumption) ?_
              · intro w hSw
                obtain ⟨hSa, hSb, hSc⟩ := hSw
                go_simp
              simp only [Act.put, List.setIfInBounds_toArray, List.set_cons_zero, List.set_cons_succ]
              refine wpAnyH_take (i := 6) (v := .slice (some ⟨g1, 0, none⟩) m m) rfl (by kernel_rfl) (by kernel_rfl) (by kernel_rfl) (fun _ _ _ h => h) (Or.inl ⟨by rfl, ?_⟩) (by assumption) ?_
              · intro w hSw
                obtain ⟨hSa, hSb, hSc⟩ := hSw
                go_simp
              simp only [Act.put, List.setIfInBounds_toArray, List.set_cons_zero, List.set_cons_succ]
              refine wpAnyH_take (i := 4) (v := .pointer (some ⟨g2, v, none⟩)) rfl (by kernel_rfl) (by kernel_rfl) (by kernel_rfl) (fun _ _ _ h => h) (Or.inl ⟨by rfl, ?_⟩) (by assumption) ?_
              · intro w hSw
                obtain ⟨hSa, hSb, hSc⟩ := hSw
                go_simp
              simp only [Act.put, List.setIfInBounds_toArray, List.set_cons_zero, List.set_cons_succ]
              refine wpAnyH_take (i := 8) (v := .pointer (some ⟨g1, u, none⟩)) rfl (by kernel_rfl) (by kernel_rfl) (by kernel_rfl) (fun _ _ _ h => h) (Or.inl ⟨by rfl, ?_⟩) (by assumption) ?_
              · intro w hSw
                obtain ⟨hSa, hSb, hSc⟩ := hSw
                go_simp
              simp only [Act.put, List.setIfInBounds_toArray, List.set_cons_zero, List.set_cons_succ]
              refine wpAnyH_take (i := 9) (v := .int .i64 mu) rfl (by kernel_rfl) (by kernel_rfl) (by kernel_rfl) (fun _ _ _ h => h) (Or.inl ⟨by rfl, ?_⟩) (by assumption) ?_
              · intro w hSw
                obtain ⟨hSa, hSb, hSc⟩ := hSw
                go_simp
              simp only [Act.put, List.setIfInBounds_toArray, List.set_cons_zero, List.set_cons_succ]
              refine wpAnyH_ready (rs := [5]) (by kernel_rfl) (by simp) ?_
              refine AllReadyH.cons rfl (fun K hK => ?_) AllReadyH.nil
              go_simp
              refine hK.out _ _ hS1 (fun _ => ?_)
              clear hK K
              refine wpAnyH_take (i := 10) (v := .int .i64 mn) rfl (by kernel_rfl) (by kernel_rfl) (by kernel_rfl) (fun _ _ _ h => h) (Or.inl ⟨by rfl, ?_⟩) (by assumption) ?_
              · intro w hSw
                obtain ⟨hSa, hSb, hSc⟩ := hSw
                go_simp
                exact HMN.out.symm
              simp only [Act.put, List.setIfInBounds_toArray, List.set_cons_zero, List.set_cons_succ]
              refine wpAnyH_take (i := 11) (v := .pointer (some ⟨g2, v, none⟩)) rfl (by kernel_rfl) (by kernel_rfl) (by kernel_rfl) (fun _ _ _ h => h) (Or.inl ⟨by rfl, ?_⟩) (by assumption) ?_
              · intro w hSw
                obtain ⟨hSa, hSb, hSc⟩ := hSw
                go_simp
              simp only [Act.put, List.setIfInBounds_toArray, List.set_cons_zero, List.set_cons_succ]
              refine wpAnyH_ready (rs := [12]) (by kernel_rfl) (by simp) ?_
              refine AllReadyH.cons rfl (fun K hK => ?_) AllReadyH.nil
              go_simp
              refine hK.out _ _ hSd (fun _ => ?_)
              clear hK K
              refine wpAnyH_done (by kernel_rfl) ?_ _
              refine hK1 _ _ ?_
              gi_wp2
              go_roundw
              case rel => exact ⟨j + 1, by omega, by go_num, by rw [HACC.out]; exact hn, hkd.trans (Kept.set _ _ _ _ (.inr rfl))⟩
              case measure => simp [intOf]; omega
        · obtain rfl : j = nr := by omega
          rw [HNR.out, Dp.accTo_all] at hI
          obtain ⟨lv, hlv⟩ : ∃ lv, lv = Dp.rmin (Wa.nrow m ls) (fun u => d.met.getD u 0) pp v (d.low.getD v 0) := ⟨_, rfl⟩
          rw [← hlv] at hI
          rcases HPQ.out with hp1 | ⟨q, hq, hp1⟩
          · have d1 : (pp != -1) = false := by simpa using hp1
            have hfin : Dp.lay2 (Wa.nrow m ls) d ⟨k0, v, pp, true⟩ = ⟨d.met, d.low.set v lv⟩ := by
              simp only [Dp.lay2, Dp.fin1, if_true]
              rw [if_neg (fun h => h hp1), hlv]
            have HFN := Lib.hid (HL.out.trans hfin)
            clear hfin hlv hp1
            gi_wp2
            refine ⟨hkW, ?_⟩
            show DlI m B g1 g2 a1 a2 _ c1 (Gr.rows m ls) w (Dp.lays2 _ _ (pre ++ [⟨k0, v, pp, true⟩])) _
            rw [HFN.out]
            exact hI
          · subst hp1
            have d1 : ((q : Int) != -1) = true := by simp
            have hqv : q ≠ v := fun e => hvp (by omega)
            have hvq : v ≠ q := fun e => hqv e.symm
            have hlo : d.low.length = m := hlen.2
            obtain ⟨lq, hlq⟩ : ∃ lq, lq = d.low.getD q 0 := ⟨_, rfl⟩
            have hat1 : (d.low.set v lv).getD q 0 = lq := by rw [Dp.getD_setI _ _ _ _ (by omega), if_neg hqv, hlq]
            have hat2 : (d.low.set v lv).getD v 0 = lv := by rw [Dp.getD_setI _ _ _ _ (by omega), if_pos rfl]
            obtain ⟨mn, hmn⟩ : ∃ mn, mn = if lv < lq then lv else lq := ⟨_, rfl⟩
            have HMN := Lib.hid hmn
            have hmn2 : min lq lv = mn := by rw [hmn]; split <;> omega
            have hfin : Dp.lay2 (Wa.nrow m ls) d ⟨k0, v, (q : Int), true⟩ = ⟨d.met, (d.low.set v lv).set q mn⟩ := by
              simp only [Dp.lay2, Dp.fin1, if_true]
              rw [if_pos (show (q : Int) ≠ -1 by omega), ← hlv, Int.toNat_natCast, hat1, hat2, hmn2]
            have HFN := Lib.hid (HL.out.trans hfin)
            have SA : wr.drew.cell? ⟨b, 1, none⟩ = some (.int .i64 (q : Int)) := c1x
            have SB : wr.drew.cell? ⟨a2, 0, none⟩ = some (.slice (some ⟨g2, 0, none⟩) m m) := hI.2.2.2.1.cell
            have SC : wr.drew.cell? ⟨g2, v, none⟩ = some (.int .i64 lv) := by have := hI.2.1.cell v hv; rw [hat2] at this; exact this
            have hq1 : (0 : Int) ≤ (q : Int) := by omega
            have hq2 : (q : Int) < (m : Int) := by omega
            have G5 : wr.drew.cell? ⟨g2, q, none⟩ = some (.int .i64 lq) := by have := hI.2.1.cell q hq; rw [hat1] at this; exact this
            have G6 : wr.drew.frozen? ⟨g2, q, none⟩ = false := hI.2.1.frozen q
            clear hfin hlv hlq hat1 hat2 hmn hmn2
            gi_wp2
            refine wpIn_round_held (S := fun w' => w'.cell? ⟨b, 1, none⟩ = some (.int .i64 (q : Int)) ∧ w'.cell? ⟨a2, 0, none⟩ = some (.slice (some ⟨g2, 0, none⟩) m m) ∧ w'.cell? ⟨g2, v, none⟩ = some (.int .i64 lv)) (by kernel_rfl) ?hnd ?hno ⟨SA, SB, SC⟩ ?hgo
            case hnd =>
              intro j o ho c hd
              have hmem := Array.mem_of_getElem? ho
              simp only [List.mem_toArray, List.mem_cons, List.not_mem_nil, or_false] at hmem
              rcases hmem with rfl | rfl | rfl | rfl | rfl | rfl | rfl | rfl | rfl | rfl | rfl | rfl | rfl | rfl | rfl <;> cases hd
            case hno =>
              rintro ⟨_, _, h⟩
              exact h
            case hgo =>
              intro hS1
              obtain ⟨Wd, hWd⟩ : ∃ Wd, Wd = wr.drew := ⟨_, rfl⟩
              have hId := hI.drew
              rw [← hWd] at hId hS1 G5 ⊢
              have G5x := G5
              have hkd : Kept (fun k => k = g1 ∨ k = g2) W Wd := by rw [hWd]; exact ⟨hkW.1, hkW.2⟩
              clear hWd SA SB SC hI
              have G6' := hId.2.1.frozen q
              have hn := hId.setLow (by omega) q mn
              have hSd : (Wd.setCell ⟨g2, q, none⟩ (.int .i64 mn)).cell? ⟨b, 1, none⟩ = some (.int .i64 (q : Int)) ∧ (Wd.setCell ⟨g2, q, none⟩ (.int .i64 mn)).cell? ⟨a2, 0, none⟩ = some (.slice (some ⟨g2, 0, none⟩) m m) ∧ (Wd.setCell ⟨g2, q, none⟩ (.int .i64 mn)).cell? ⟨g2, v, none⟩ = some (.int .i64 lv) :=
                ⟨(World.cell?_setCell_other _ _ _ _ (fun e => by have : g2 = b := (congrArg Addr.block e); omega)).trans hS1.1, hn.2.2.2.1.cell, (World.cell?_setCell_other _ _ _ _ (fun e => by have : q = v := (congrArg Addr.off e); omega)).trans hS1.2.2⟩
              refine wpAnyH_take (i := 9) (v := .int .i64 (v : Int)) rfl (by kernel_rfl) (by kernel_rfl) (by kernel_rfl) (fun _ _ _ h => h) (Or.inl ⟨by rfl, ?_⟩) (by assumption) ?_
              · intro w hSw
                obtain ⟨hSa, hSb, hSc⟩ := hSw
                go_simp
              simp only [Act.put, List.setIfInBounds_toArray, List.set_cons_zero, List.set_cons_succ]
              refine wpAnyH_take (i := 1) (v := .pointer (some ⟨b, 1, none⟩)) rfl (by kernel_rfl) (by kernel_rfl) (by kernel_rfl) (fun _ _ _ h => h) (Or.inl ⟨by rfl, ?_⟩) (by assumption) ?_
              · intro w hSw
                obtain ⟨hSa, hSb, hSc⟩ := hSw
                go_simp
              simp only [Act.put, List.setIfInBounds_toArray, List.set_cons_zero, List.set_cons_succ]
              refine wpAnyH_take (i := 4) (v := .pointer (some ⟨b, 1, none⟩)) rfl (by kernel_rfl) (by kernel_rfl) (by kernel_rfl) (fun _ _ _ h => h) (Or.inl ⟨by rfl, ?_⟩) (by assumption) ?_
              · intro w hSw
                obtain ⟨hSa, hSb, hSc⟩ := hSw
                go_simp
              simp only [Act.put, List.setIfInBounds_toArray, List.set_cons_zero, List.set_cons_succ]
              refine wpAnyH_take (i := 0) (v := .slice (some ⟨g2, 0, none⟩) m m) rfl (by kernel_rfl) (by kernel_rfl) (by kernel_rfl) (fun _ _ _ h => h) (Or.inl ⟨by rfl, ?_⟩) (by assumption) ?_
              · intro w hSw
                obtain ⟨hSa, hSb, hSc⟩ := hSw
                go_simp
              simp only [Act.put, List.setIfInBounds_toArray, List.set_cons_zero, List.set_cons_succ]
              refine wpAnyH_take (i := 3) (v := .slice (some ⟨g2, 0, none⟩) m m) rfl (by kernel_rfl) (by kernel_rfl) (by kernel_rfl) (fun _ _ _ h => h) (Or.inl ⟨by rfl, ?_⟩) (by assumption) ?_
              · intro w hSw
                obtain ⟨hSa, hSb, hSc⟩ := hSw
                go_simp
              simp only [Act.put, List.setIfInBounds_toArray, List.set_cons_zero, List.set_cons_succ]
              refine wpAnyH_take (i := 8) (v := .slice (some ⟨g2, 0, none⟩) m m) rfl (by kernel_rfl) (by kernel_rfl) (by kernel_rfl) (fun _ _ _ h => h) (Or.inl ⟨by rfl, ?_⟩) (by assumption) ?_
              · intro w hSw
                obtain ⟨hSa, hSb, hSc⟩ := hSw
                go_simp
              simp only [Act.put, List.setIfInBounds_toArray, List.set_cons_zero, List.set_cons_succ]
              refine wpAnyH_take (i := 2) (v := .int .i64 (q : Int)) rfl (by kernel_rfl) (by kernel_rfl) (by kernel_rfl) (fun _ _ _ h => h) (Or.inl ⟨by rfl, ?_⟩) (by assumption) ?_
              · intro w hSw
                obtain ⟨hSa, hSb, hSc⟩ := hSw
                go_simp
              simp only [Act.put, List.setIfInBounds_toArray, List.set_cons_zero, List.set_cons_succ]
              refine wpAnyH_take (i := 5) (v := .int .i64 (q : Int)) rfl (by kernel_rfl) (by kernel_rfl) (by kernel_rfl) (fun _ _ _ h => h) (Or.inl ⟨by rfl, ?_⟩) (by assumption) ?_
              · intro w hSw
                obtain ⟨hSa, hSb, hSc⟩ := hSw
                go_simp
              simp only [Act.put, List.setIfInBounds_toArray, List.set_cons_zero, List.set_cons_succ]
              refine wpAnyH_take (i := 6) (v := .pointer (some ⟨g2, q, none⟩)) rfl (by kernel_rfl) (by kernel_rfl) (by kernel_rfl) (fun _ _ _ h => h) (Or.inl ⟨by rfl, ?_⟩) (by assumption) ?_
              · intro w hSw
                obtain ⟨hSa, hSb, hSc⟩ := hSw
                go_simp
              simp only [Act.put, List.setIfInBounds_toArray, List.set_cons_zero, List.set_cons_succ]
              refine wpAnyH_take (i := 10) (v := .pointer (some ⟨g2, v, none⟩)) rfl (by kernel_rfl) (by kernel_rfl) (by kernel_rfl) (fun _ _ _ h => h) (Or.inl ⟨by rfl, ?_⟩) (by assumption) ?_
              · intro w hSw
                obtain ⟨hSa, hSb, hSc⟩ := hSw
                go_simp
              simp only [Act.put, List.setIfInBounds_toArray, List.set_cons_zero, List.set_cons_succ]
              refine wpAnyH_take (i := 11) (v := .int .i64 lv) rfl (by kernel_rfl) (by kernel_rfl) (by kernel_rfl) (fun _ _ _ h => h) (Or.inl ⟨by rfl, ?_⟩) (by assumption) ?_
              · intro w hSw
                obtain ⟨hSa, hSb, hSc⟩ := hSw
                go_simp
              simp only [Act.put, List.setIfInBounds_toArray, List.set_cons_zero, List.set_cons_succ]
              refine wpAnyH_ready (rs := [7]) (by kernel_rfl) (by simp) ?_
              refine AllReadyH.cons rfl (fun K hK => ?_) AllReadyH.nil
              go_simp
              refine hK.out _ _ hS1 (fun _ => ?_)
              clear hK K
              refine wpAnyH_take (i := 12) (v := .int .i64 mn) rfl (by kernel_rfl) (by kernel_rfl) (by kernel_rfl) (fun _ _ _ h => h) (Or.inl ⟨by rfl, ?_⟩) (by assumption) ?_
              · intro w hSw
                obtain ⟨hSa, hSb, hSc⟩ := hSw
                go_simp
                exact HMN.out.symm
              simp only [Act.put, List.setIfInBounds_toArray, List.set_cons_zero, List.set_cons_succ]
              refine wpAnyH_take (i := 13) (v := .pointer (some ⟨g2, q, none⟩)) rfl (by kernel_rfl) (by kernel_rfl) (by kernel_rfl) (fun _ _ _ h => h) (Or.inl ⟨by rfl, ?_⟩) (by assumption) ?_
              · intro w hSw
                obtain ⟨hSa, hSb, hSc⟩ := hSw
                go_simp
              simp only [Act.put, List.setIfInBounds_toArray, List.set_cons_zero, List.set_cons_succ]
              refine wpAnyH_ready (rs := [14]) (by kernel_rfl) (by simp) ?_
              refine AllReadyH.cons rfl (fun K hK => ?_) AllReadyH.nil
              go_simp
              refine hK.out _ _ hSd (fun _ => ?_)
              clear hK K
              refine wpAnyH_done (by kernel_rfl) ?_ _
              show Kept (fun k => k = g1 ∨ k = g2) W _ ∧ DlI m B g1 g2 a1 a2 (some ⟨b3, o3, none⟩) c1 (Gr.rows m ls) w (Dp.lays2 _ _ (pre ++ [⟨k0, v, (q : Int), true⟩])) _
              refine ⟨hkd.trans (Kept.set _ _ _ _ (.inr rfl)), ?_⟩
              rw [HFN.out]
              exact hn
    | false =>
      have G1 := hI.1.cell v hv
      have G2 := hI.1.frozen v
      gi_wp2
      rename_i K1 hK1
      have SA : W.drew.cell? ⟨a1, 0, none⟩ = some (.slice (some ⟨g1, 0, none⟩) m m) := j1
      have SB : W.drew.cell? ⟨a2, 0, none⟩ = some (.slice (some ⟨g2, 0, none⟩) m m) := j2
      refine wpIn_round_held (S := fun w' => w'.cell? ⟨a1, 0, none⟩ = some (.slice (some ⟨g1, 0, none⟩) m m) ∧ w'.cell? ⟨a2, 0, none⟩ = some (.slice (some ⟨g2, 0, none⟩) m m)) (by kernel_rfl) ?hnd ?hno ⟨SA, SB⟩ ?hgo
      case hnd =>
        intro j o ho c hd
        have hmem := Array.mem_of_getElem? ho
        simp only [List.mem_toArray, List.mem_cons, List.not_mem_nil, or_false] at hmem
        rcases hmem with rfl | rfl | rfl | rfl | rfl | rfl | rfl | rfl | rfl | rfl <;> cases hd
      case hno =>
        rintro ⟨_, _, h⟩
        exact h
      case hgo =>
        intro hS1
        obtain ⟨Wd, hWd⟩ : ∃ Wd, Wd = W.drew := ⟨_, rfl⟩
        have hId : DlI m B g1 g2 a1 a2 A1 c1 (Gr.rows m ls) w d Wd := by
          rw [hWd]
          exact ⟨hI.1, hI.2.1, hI.2.2.1, hI.2.2.2.1, hI.2.2.2.2.1, hI.2.2.2.2.2.1, hI.2.2.2.2.2.2.trans ⟨rfl, rfl, rfl, Nat.le_refl _, fun _ _ => rfl⟩⟩
        rw [← hWd] at hS1 ⊢
        have hkd : Kept (fun k => k = g1 ∨ k = g2) W Wd := by rw [hWd]; exact ⟨Nat.le_refl _, fun _ _ _ => rfl⟩
        clear hWd SA SB
        have G1 := hId.1.cell v hv
        have G2 := hId.1.frozen v
        have F1 := hId.1.store v (k0 : Int)
        have G3 := (hId.2.1.cellset ⟨g1, v, none⟩ (.int .i64 (k0 : Int)) (show g2 ≠ g1 by omega)).cell v hv
        have G4 := (hId.2.1.cellset ⟨g1, v, none⟩ (.int .i64 (k0 : Int)) (show g2 ≠ g1 by omega)).frozen v
        have hSd1 : (Wd.setCell ⟨g1, v, none⟩ (.int .i64 (k0 : Int))).cell? ⟨a1, 0, none⟩ = some (.slice (some ⟨g1, 0, none⟩) m m) ∧ (Wd.setCell ⟨g1, v, none⟩ (.int .i64 (k0 : Int))).cell? ⟨a2, 0, none⟩ = some (.slice (some ⟨g2, 0, none⟩) m m) :=
          ⟨(Boxed.cellset hId.2.2.1 ⟨g1, v, none⟩ (.int .i64 (k0 : Int)) (show a1 ≠ g1 by omega)).cell, (Boxed.cellset hId.2.2.2.1 ⟨g1, v, none⟩ (.int .i64 (k0 : Int)) (show a2 ≠ g1 by omega)).cell⟩
        have hSd2 : ((Wd.setCell ⟨g1, v, none⟩ (.int .i64 (k0 : Int))).setCell ⟨g2, v, none⟩ (.int .i64 (k0 : Int))).cell? ⟨a1, 0, none⟩ = some (.slice (some ⟨g1, 0, none⟩) m m) ∧ ((Wd.setCell ⟨g1, v, none⟩ (.int .i64 (k0 : Int))).setCell ⟨g2, v, none⟩ (.int .i64 (k0 : Int))).cell? ⟨a2, 0, none⟩ = some (.slice (some ⟨g2, 0, none⟩) m m) :=
          ⟨(Boxed.cellset (Boxed.cellset hId.2.2.1 ⟨g1, v, none⟩ (.int .i64 (k0 : Int)) (show a1 ≠ g1 by omega)) ⟨g2, v, none⟩ (.int .i64 (k0 : Int)) (show a1 ≠ g2 by omega)).cell, (Boxed.cellset (Boxed.cellset hId.2.2.2.1 ⟨g1, v, none⟩ (.int .i64 (k0 : Int)) (show a2 ≠ g1 by omega)) ⟨g2, v, none⟩ (.int .i64 (k0 : Int)) (show a2 ≠ g2 by omega)).cell⟩
        refine wpAnyH_take (i := 1) (v := .int .i64 (v : Int)) rfl (by kernel_rfl) (by kernel_rfl) (by kernel_rfl) (fun _ _ _ h => h) (Or.inl ⟨by rfl, ?_⟩) (by assumption) ?_
        · intro w hSw
          obtain ⟨hSa, hSb⟩ := hSw
          go_simp
        simp only [Act.put, List.setIfInBounds_toArray, List.set_cons_zero, List.set_cons_succ]
        refine wpAnyH_take (i := 3) (v := .int .i64 (v : Int)) rfl (by kernel_rfl) (by kernel_rfl) (by kernel_rfl) (fun _ _ _ h => h) (Or.inl ⟨by rfl, ?_⟩) (by assumption) ?_
        · intro w hSw
          obtain ⟨hSa, hSb⟩ := hSw
          go_simp
        simp only [Act.put, List.setIfInBounds_toArray, List.set_cons_zero, List.set_cons_succ]
        refine wpAnyH_take (i := 4) (v := .int .i64 (k0 : Int)) rfl (by kernel_rfl) (by kernel_rfl) (by kernel_rfl) (fun _ _ _ h => h) (Or.inl ⟨by rfl, ?_⟩) (by assumption) ?_
        · intro w hSw
          obtain ⟨hSa, hSb⟩ := hSw
          go_simp
        simp only [Act.put, List.setIfInBounds_toArray, List.set_cons_zero, List.set_cons_succ]
        refine wpAnyH_take (i := 5) (v := .int .i64 (k0 : Int)) rfl (by kernel_rfl) (by kernel_rfl) (by kernel_rfl) (fun _ _ _ h => h) (Or.inl ⟨by rfl, ?_⟩) (by assumption) ?_
        · intro w hSw
          obtain ⟨hSa, hSb⟩ := hSw
          go_simp
        simp only [Act.put, List.setIfInBounds_toArray, List.set_cons_zero, List.set_cons_succ]
        refine wpAnyH_take (i := 0) (v := .slice (some ⟨g1, 0, none⟩) m m) rfl (by kernel_rfl) (by kernel_rfl) (by kernel_rfl) (fun _ _ _ h => h) (Or.inl ⟨by rfl, ?_⟩) (by assumption) ?_
        · intro w hSw
          obtain ⟨hSa, hSb⟩ := hSw
          go_simp
        simp only [Act.put, List.setIfInBounds_toArray, List.set_cons_zero, List.set_cons_succ]
        refine wpAnyH_take (i := 2) (v := .slice (some ⟨g2, 0, none⟩) m m) rfl (by kernel_rfl) (by kernel_rfl) (by kernel_rfl) (fun _ _ _ h => h) (Or.inl ⟨by rfl, ?_⟩) (by assumption) ?_
        · intro w hSw
          obtain ⟨hSa, hSb⟩ := hSw
          go_simp
        simp only [Act.put, List.setIfInBounds_toArray, List.set_cons_zero, List.set_cons_succ]
        refine wpAnyH_take (i := 6) (v := .pointer (some ⟨g1, v, none⟩)) rfl (by kernel_rfl) (by kernel_rfl) (by kernel_rfl) (fun _ _ _ h => h) (Or.inl ⟨by rfl, ?_⟩) (by assumption) ?_
        · intro w hSw
          obtain ⟨hSa, hSb⟩ := hSw
          go_simp
        simp only [Act.put, List.setIfInBounds_toArray, List.set_cons_zero, List.set_cons_succ]
        refine wpAnyH_ready (rs := [7]) (by kernel_rfl) (by simp) ?_
        refine AllReadyH.cons rfl (fun K hK => ?_) AllReadyH.nil
        go_simp
        refine hK.out _ _ hSd1 (fun _ => ?_)
        clear hK K
        refine wpAnyH_take (i := 8) (v := .pointer (some ⟨g2, v, none⟩)) rfl (by kernel_rfl) (by kernel_rfl) (by kernel_rfl) (fun _ _ _ h => h) (Or.inl ⟨by rfl, ?_⟩) (by assumption) ?_
        · intro w hSw
          obtain ⟨hSa, hSb⟩ := hSw
          go_simp
        simp only [Act.put, List.setIfInBounds_toArray, List.set_cons_zero, List.set_cons_succ]
        refine wpAnyH_ready (rs := [9]) (by kernel_rfl) (by simp) ?_
        refine AllReadyH.cons rfl (fun K hK => ?_) AllReadyH.nil
        go_simp
        refine hK.out _ _ hSd2 (fun _ => ?_)
        clear hK K
        refine wpAnyH_done (by kernel_rfl) ?_ _
        refine hK1 _ _ ?_
        gi_wp2
        refine ⟨hkd.trans ((Kept.set _ _ _ _ (.inl rfl)).trans (Kept.set _ _ _ _ (.inr rfl))), ?_⟩
        show DlI m B g1 g2 a1 a2 A1 c1 (Gr.rows m ls) w (Dp.lays2 _ _ (pre ++ [⟨k0, v, pp, false⟩])) _
        rw [HL.out]
        obtain ⟨y1, y2, y3, y4, y5, y6, y7⟩ := hId
        refine ⟨(y1.store v (k0 : Int)).1.cellset _ _ (show g1 ≠ g2 by omega), ((y2.cellset ⟨g1, v, none⟩ (.int .i64 (k0 : Int)) (show g2 ≠ g1 by omega)).store v (k0 : Int)).1, ?_, ?_, ?_, ?_, ?_⟩
        · exact Boxed.cellset (Boxed.cellset y3 ⟨g1, v, none⟩ (.int .i64 (k0 : Int)) (show a1 ≠ g1 by omega)) ⟨g2, v, none⟩ (.int .i64 (k0 : Int)) (show a1 ≠ g2 by omega)
        · exact Boxed.cellset (Boxed.cellset y4 ⟨g1, v, none⟩ (.int .i64 (k0 : Int)) (show a2 ≠ g1 by omega)) ⟨g2, v, none⟩ (.int .i64 (k0 : Int)) (show a2 ≠ g2 by omega)
        · exact Boxed.cellset (Boxed.cellset y5 ⟨g1, v, none⟩ (.int .i64 (k0 : Int)) (show B ≠ g1 by omega)) ⟨g2, v, none⟩ (.int .i64 (k0 : Int)) (show B ≠ g2 by omega)
        · exact y6.below (((Below.refl B _).setCell (p := ⟨g1, v, none⟩) (show B ≤ g1 by omega) _).setCell (p := ⟨g2, v, none⟩) (show B ≤ g2 by omega) _)
        · exact (y7.setCell (p := ⟨g1, v, none⟩) (show w.heap.size ≤ g1 by omega) _).setCell (p := ⟨g2, v, none⟩) (show w.heap.size ≤ g2 by omega) _
  case done =>
    rintro D W hD hI hK
    rw [Dp.Whole.lay2 (Wa.nrow_ok m ls) hF _ ⟨by simp, by simp⟩] at hI
    have g2' := hI.2.2.2.1.cell
    have hB' := hI.2.2.2.2.2.2.trans (belowK_b (w := w) (Nat.le_refl _) W D _ (.deferred none) (by omega) hK rfl rfl)
    have hown' : Own (W.putObj D (.deferred none)) (B + 1) 3 (.slice (some ⟨g2, 0, none⟩) m m) (Dp.lows m (Wa.nrow m ls) F) := ownsRow_putObj hI.2.1 (.deferred none) hK rfl
    gi_wp2
    refine ⟨by simp, .inl ⟨_, _, rfl, run_takeDeferred hK, ?_⟩⟩
    exact ⟨_, results_tmp2 rfl _ _ _, hB', g2, rfl, hown'.mono (by omega)⟩
  case stop =>
    rintro D pre W _ _ h _
    exact h.elim

end Go.Proofs.Ytjcdnkbandagoaa
