/-
  The contract of Few of package close: the fewest lines by which ways go, or what is wrong.
-/
import Derived.Test.YthlgloefeigcbaaDoorCloseC
import Derived.Test.YthlgloefeigcbaaDoorTopoO
namespace Go.Proofs.YthlgloefeigcbaaDoor
open Go.RowKit Go.Shelf

attribute [local go_sem] Oper.semAt_some
set_option linter.unusedSimpArgs false
set_option linter.unusedVariables false

/-- the lines that are put down, of pairs that have come -/
def fw {m : Nat} (r : Nat → Nat → Bool) (pre : List (Fin m × Fin m)) : List Gr.Ln := ((pre.map nat2).filter fun p => !Cl.thr r p.1 p.2 8).map fun p => ((p.1 : Int), (p.2 : Int))
theorem fw_yes {m : Nat} {r : Nat → Nat → Bool} (pre : List (Fin m × Fin m)) (x : Fin m × Fin m) (h : Cl.thr r x.1.val x.2.val 8 = false) : fw r (pre ++ [x]) = fw r pre ++ [((x.1.val : Int), (x.2.val : Int))] := by
  unfold fw
  rw [List.map_append, List.filter_append, List.map_append]
  have : ([x].map nat2).filter (fun p => !Cl.thr r p.1 p.2 8) = [nat2 x] := by
    show List.filter _ [nat2 x] = _
    rw [List.filter_cons_of_pos]
    · rfl
    · show (!Cl.thr r x.1.val x.2.val 8) = true
      rw [h]; rfl
  rw [this]
  rfl
theorem fw_no {m : Nat} {r : Nat → Nat → Bool} (pre : List (Fin m × Fin m)) (x : Fin m × Fin m) (h : Cl.thr r x.1.val x.2.val 8 = true) : fw r (pre ++ [x]) = fw r pre := by
  unfold fw
  rw [List.map_append, List.filter_append, List.map_append]
  have : ([x].map nat2).filter (fun p => !Cl.thr r p.1 p.2 8) = [] := by
    show List.filter _ [nat2 x] = _
    rw [List.filter_cons_of_neg]
    · rfl
    · show ¬ (!Cl.thr r x.1.val x.2.val 8) = true
      rw [h]; simp
  rw [this]
  simp
theorem fw_len {m : Nat} (r : Nat → Nat → Bool) (pre : List (Fin m × Fin m)) : (fw r pre).length ≤ pre.length := by
  unfold fw
  rw [List.length_map]
  have := List.length_filter_le (fun p : Nat × Nat => !Cl.thr r p.1 p.2 8) (pre.map nat2)
  rwa [List.length_map] at this

theorem Few_code (n : Int) (A : Option Addr) (k c : Nat) (ls : List Gr.Ln) (w : World) (hr : RdP w w.heap.size A k c ls) (h : Gr.code n ls ≠ 0) :
    Calls Tryd.prog 13 #[.int .i64 n, .slice A k c] w fun e w' => e = .returned (.tuple #[.slice none 0 0, errv (Gr.code n ls)]) ∧ Below w.heap.size w w' := by
  have H := Lib.hid h
  clear h
  go_enter Tryd.func13, Tryd.ntmps13
  go_wp2_with fail
  refine (Order_code n A k c ls _ hr H.out).mono ?_
  rintro e w1 ⟨rfl, hb⟩
  go_wp2
  go_ret2
  exact ⟨rfl, hb⟩
theorem Few_none (m : Nat) (A : Option Addr) (k c : Nat) (ls : List Gr.Ln) (o : List Int) (w : World) (hr : RdP w w.heap.size A k c ls) (h : Gr.code (m : Int) ls = 0) (hstep : To.Step m ls o) (hstuck : To.Stuck m ls o) (hlt : o.length < m) :
    Calls Tryd.prog 13 #[.int .i64 (m : Int), .slice A k c] w fun e w' => e = .returned (.tuple #[.slice none 0 0, errv 5]) ∧ Below w.heap.size w w' := by
  have H := Lib.hid h
  have HL := Lib.hid hlt
  clear h hlt
  go_enter Tryd.func13, Tryd.ntmps13
  go_wp2_with fail
  refine (Order_bad m A k c ls o _ hr H.out hstep hstuck HL.out).mono ?_
  rintro e w1 ⟨rfl, hb⟩
  go_wp2
  go_ret2
  exact ⟨rfl, hb⟩

set_option maxRecDepth 100000 in
set_option maxHeartbeats 4000000 in
theorem Few_in (m : Nat) (A : Option Addr) (k c : Nat) (ls : List Gr.Ln) (o : List Int) (w : World) (hr : RdP w w.heap.size A k c ls) (h : Gr.code (m : Int) ls = 0) (hstep : To.Step m ls o) (hl : o.length = m) :
    CallsIn Fence.wide 10 Tryd.prog 13 #[.int .i64 (m : Int), .slice A k c] w (fun e w' => Below w.heap.size w w' ∧ ∃ A c N, e = .returned (.tuple #[.slice A N c, .nilIface]) ∧ RdP w' w'.heap.size A N c (Cl.few m ls)) := by
  have hm8 : m ≤ 8 := by have := (Gr.code_zero.1 h).2.1; omega
  have HG := Lib.hid (Gr.code_zero.1 h).2.2.2
  have H := Lib.hid h
  have HST := Lib.hid hstep
  have HL := Lib.hid hl
  clear h hstep hl
  have hro : Fence.wide.round = none := rfl
  have hF1 : Fence.wide.fn 25 := trivial
  have hF2 : Fence.wide.fn 21 := trivial
  have hF3 : Fence.wide.fn 22 := trivial
  have hF4 : Fence.wide.fn 26 := trivial
  obtain ⟨i0, hi, hz0, hz1, hz2⟩ := info_parts lineInfo
  obtain ⟨r, hrr⟩ : ∃ r, r = Cl.tb m ls := ⟨_, rfl⟩
  have etb : Cl.tbl (Cl.cl ls 8) = Cl.tbl r := by rw [hrr]; exact Cl.tbl_congr fun a b _ _ => Cl.cl_tb HG.out hm8 a b
  have hrlt : ∀ a b, r a b = true → a < m ∧ b < m := by rw [hrr]; exact fun a b h => Cl.tb_lt HG.out h
  have HR := Lib.hid hrr
  clear hrr
  have hcl : ∀ (w : World), RdP w w.heap.size A k c ls → Calls Tryd.prog 21 #[.slice A k c] w fun e w' => e = .returned (.agg ((Cl.tbl r).map Value.bool).toArray) ∧ Below w.heap.size w w' := fun w hr => by
    have := closure_any m hm8 A k c ls w hr HG.out
    rw [etb] at this
    exact this
  have hts : (Tryd.prog.info? 52).map (·.size) = some (Cl.tbl r).length := by rw [Cl.tbl_len]; exact relInfo
  have hl64 : (List.replicate 64 false).length = (Cl.tbl r).length := by rw [Cl.tbl_len]; simp
  have hz64 : ∀ w : World, ArB (w.alloc (.cells #[.bool false, .bool false, .bool false, .bool false, .bool false, .bool false, .bool false, .bool false, .bool false, .bool false, .bool false, .bool false, .bool false, .bool false, .bool false, .bool false, .bool false, .bool false, .bool false, .bool false, .bool false, .bool false, .bool false, .bool false, .bool false, .bool false, .bool false, .bool false, .bool false, .bool false, .bool false, .bool false, .bool false, .bool false, .bool false, .bool false, .bool false, .bool false, .bool false, .bool false, .bool false, .bool false, .bool false, .bool false, .bool false, .bool false, .bool false, .bool false, .bool false, .bool false, .bool false, .bool false, .bool false, .bool false, .bool false, .bool false, .bool false, .bool false, .bool false, .bool false, .bool false, .bool false, .bool false, .bool false] 52)) w.heap.size 52 (List.replicate 64 false) := fun w => by
    have := ArB.new w 52 (List.replicate 64 false)
    rw [false64] at this
    exact this
  have hbz : ∀ w : World, Below w.heap.size w (w.alloc (.cells #[.bool false, .bool false, .bool false, .bool false, .bool false, .bool false, .bool false, .bool false, .bool false, .bool false, .bool false, .bool false, .bool false, .bool false, .bool false, .bool false, .bool false, .bool false, .bool false, .bool false, .bool false, .bool false, .bool false, .bool false, .bool false, .bool false, .bool false, .bool false, .bool false, .bool false, .bool false, .bool false, .bool false, .bool false, .bool false, .bool false, .bool false, .bool false, .bool false, .bool false, .bool false, .bool false, .bool false, .bool false, .bool false, .bool false, .bool false, .bool false, .bool false, .bool false, .bool false, .bool false, .bool false, .bool false, .bool false, .bool false, .bool false, .bool false, .bool false, .bool false, .bool false, .bool false, .bool false, .bool false] 52)) := fun w => (Below.refl _ _).alloc (Nat.le_refl _) _
  clear etb
  refine callsIn_of_wp_marks Tryd.func13 rfl trivial ?_ hro
  simp only [Tryd.ntmps13, List.size_toArray, List.length_cons, List.length_nil, Nat.reduceAdd, Nat.reduceSub, Array.replicate_succ, Array.replicate_zero, List.push_toArray, List.append_toArray, List.nil_append, List.cons_append]
  gi_wp2_with (first
    | (gi_at_call 25; refine (callsIn_wide.2 (Order_good m A k c ls o _ hr H.out HST.out HL.out)).mono ?_; rintro e w1 ⟨A1, c1, rfl, _, hb1⟩)
    | (gi_at_call 21; refine (callsIn_wide.2 (hcl _ (hr.past hb1))).mono ?_; rintro e w2 ⟨rfl, hb2⟩)
    | (refine wpListIn_storeB rfl 52 (.tmp 8) (.tmp 22) rfl _ rfl (Cl.tbl r) rfl _ _ (hz64 _) hts hl64 ?_; intro w3 u1 u2 u3)
    | (refine wpListIn_loadB rfl 52 (.tmp 8) rfl _ rfl _ _ (u1.alloc _) _ _ Tryd.underlying52 hts ?_)
    | (gi_at_call 22; refine (callsIn_wide.2 (tpairs_any r _)).mono ?_; rintro e w4 ⟨rfl, rfl⟩))
  obtain ⟨s, hs⟩ : ∃ s, s = w2.heap.size := ⟨_, rfl⟩
  have hs3 : w3.heap.size = s + 1 := by rw [u3, hs]; simp
  have hb3 : Below s w2 w3 := by
    have h1 := hbz w2
    rw [← hs] at h1 u2
    exact h1.trans (u2 _ (Nat.le_refl _))
  obtain ⟨W0, hW0⟩ : ∃ W0, W0 = (w3.alloc (Obj.cells #[Value.slice none 0 0] 22)).alloc (Obj.cells ((Cl.tbl r).map Value.bool).toArray 52) := ⟨_, rfl⟩
  have hsz : W0.heap.size = s + 3 := by rw [hW0]; simp [hs3]
  have hb2s := hb2.size
  have hb1s := hb1.size
  have hws : w.heap.size ≤ s := by omega
  have hB3 : Below w.heap.size w w3 := (hb1.trans (hb2.mono hb1s)).trans (hb3.mono hws)
  have hB0 : Below w.heap.size w W0 := by
    rw [hW0]
    exact (hB3.alloc (by omega) _).alloc (by simp; omega) _
  rw [← hs] at u1
  have hA8 : ArB W0 s 52 (Cl.tbl r) := by rw [hW0]; exact (u1.alloc _).alloc _
  have bF : Boxed W0 (s + 1) 22 (.slice none 0 0) := by
    rw [hW0]
    have := Boxed.new w3 22 (.slice none 0 0)
    rw [hs3] at this
    exact this.alloc _
  have hA9 : ArB W0 (s + 2) 52 (Cl.tbl r) := by
    rw [hW0]
    have := ArB.new (w3.alloc (Obj.cells #[Value.slice none 0 0] 22)) 52 (Cl.tbl r)
    rw [World.size_alloc, hs3] at this
    exact this
  simp only [World.size_alloc, hs3, ← hs, Nat.add_assoc, Nat.reduceAdd]
  rw [← hW0]
  clear hW0 hs hs3 hb1 hb2 hb3 hb2s hb1s hB3 u1 u2 u3 hz64 hbz
  refine wpIn_rangeFunc_ownG hro (by omega) (gf := 28) (lb := #[.pointer (some ⟨s + 2, 0, none⟩)]) rfl trivial (enters_of Tryd.func28 (by kernel_rfl) rfl)
    (tpairs1_stops m (s + 2) r hm8 hrlt W0 hA9)
    (fun _ _ => trivial) (fun _ _ _ _ _ _ _ _ => trivial) (Below.refl _ _) (fun _ => rfl)
    (fun pre W => (∃ v, Boxed W (s + 1) 22 v ∧ W.ownsRow (s + 3) 44 2 v (fw r pre).length (pcells (fw r pre)) ∧ True) ∧ (ArB W s 52 (Cl.tbl r) ∧ (Below w.heap.size w W ∧ s + 3 ≤ W.heap.size)))
    (fun _ _ _ => False)
    (OwnFrom.and (Go.Own.from (holdsRow_own (s + 3) (s + 1) 22 44 2 (fun pre => (fw r pre).length) (fun pre => pcells (fw r pre)) (fun _ _ => True)) _) (OwnFrom.and (fun _ W W' row hs hg hr => hs.same (hg.block s hs.lt (fun e => by have := (hr s e.symm).1; omega))) (OwnFrom.and (ownFrom_below (Nat.le_refl _) (by omega)) (fun _ _ _ _ hs hg _ => Nat.le_trans hs hg.size))))
    (fun _ _ _ _ _ hs _ _ => hs)
    ⟨⟨_, bF, World.ownsRow_nil _ _ _ _, trivial⟩, hA8, hB0, by omega⟩
    (fun x => { tmps := #[.int .i64 (m : Int), .slice A k c, undef, undef, .slice none 0 0, .nilIface, .slice A1 m c1, .nilIface, .pointer (some ⟨s, 0, none⟩), .pointer (some ⟨s + 1, 0, none⟩), .int .i64 (x.1.val : Int), .int .i64 (x.2.val : Int), .tuple #[.slice A1 m c1, .nilIface], .int .i64 (m : Int), .slice A k c,
      .tuple #[.slice A1 m c1, .nilIface], .slice A1 m c1, .nilIface, .nilIface, .bool false, undef, .slice A k c, .agg ((Cl.tbl r).map Value.bool).toArray, .agg ((Cl.tbl r).map Value.bool).toArray,
      .func (.func 28) #[] #[.pointer (some ⟨s + 2, 0, none⟩)], .int .i64 (x.1.val : Int), .int .i64 (x.2.val : Int), undef, undef, undef, undef, undef, undef, undef, undef, undef, undef, undef, undef], defers := [] }) ?assign ?body ?done ?stop
  case assign =>
    intro l x W K hK
    simp only [enc2]
    gi_wp2
    exact hK
  case body =>
    rintro l pre x W ⟨⟨v, hv, hrow, _⟩, hA, hB, hW5⟩ hlt
    have hpl : (fw r pre).length ≤ 64 := by have := fw_len r pre; omega
    have hml : (fw r pre).length + 1 ≤ maxLen := by simp only [maxLen]; omega
    have hx1 : x.1.val < 8 := by have := x.1.isLt; omega
    have hx2 : x.2.val < 8 := by have := x.2.isLt; omega
    cases ht : Cl.thr r x.1.val x.2.val 8
    · have efw : Hid (fw r (pre ++ [x]) = fw r pre ++ [((x.1.val : Int), (x.2.val : Int))]) := fw_yes pre x ht
      have HTH := Lib.hid (through_any r x.1.val x.2.val hx1 hx2 false ht)
      clear ht
      gi_wp2_with (first
        | (refine wpListIn_loadB rfl 52 (.tmp 8) rfl _ rfl _ _ hA _ _ Tryd.underlying52 hts ?_)
        | (gi_at_call 26; refine (CallsIn.inRound l (callsIn_wide.2 (HTH.out _))).mono ?_; rintro e w4 ⟨rfl, hb4⟩; have hv4 : Boxed w4 (s + 1) 22 v := (hb4.block (s + 1) (by omega)).trans hv; have hrow4 := World.ownsRow.kept hrow (grown_of_below hb4 none) (by cases v.ownBlock <;> simp); have hA4 := hA.past hb4; have hB4 := hB.trans (hb4.mono hB.size); have hW4 := Nat.le_trans hW5 hb4.size; have hk4 := KeepsOthers.of_grownBy (grown_of_below hb4 none) (fun j o ej _ => by cases ej); have hc4 := hv4.cell)
        | (gi_at_builtin; refine wpListIn_append_own _ rfl _ _ 22 rfl (s + 3) 44 i0 (.agg #[.int .i64 0, .int .i64 0]) 2 16 Tryd.underlying22 hi hz0 hz1 hz2 rfl (by decide) _ _ _ rfl (hrow4.alloc _) ⟨w4.heap.size, 0, none⟩ 1 1 [.int .i64 (x.1.val : Int), .int .i64 (x.2.val : Int)] rfl rfl (cell_pair_new _ _ _ _) (by simp [Value.oneCell']) hml (by omega) (by simp; omega) ?_; intro v' w5 hown' hgrow _; obtain ⟨g', cap', rfl⟩ := ownsRow_succ hown'; obtain ⟨hv1, hv2, hr2, hk2, hb2⟩ := hv4.appended (n₀ := w.heap.size) (by decide) (ownsRow_mono hrow4 (by omega)) hB4.size (by omega) (ownsRow_mono hown' (by omega)) hgrow; have hc1 := hv1.cell; have hf1 := hv1.frozen))
      have hgr : (w4.alloc (.cells #[.int .i64 (x.1.val : Int), .int .i64 (x.2.val : Int)] 44)).grownBy w5 v.ownBlock := hgrow
      have hb5 : Below (s + 3) w4 w5 := ((Below.refl (s + 3) w4).alloc hW4 _).grown hgr (by simp; omega) (fun j ej => (World.ownsRow.lt hrow4 j ej).1)
      have hsz2 := hb5.size
      refine ⟨(hk4.trans hk2).from _, trivial, ⟨_, hv2, ?_, trivial⟩, ?_, hB4.trans hb2, ?_⟩
      · rw [efw.out, List.length_append, pcells_app]
        exact World.ownsRow.kept hown' (grownBy_setCell' w5 (s + 1) _) (.inr (hv1.not_row (by decide) hown').symm)
      · exact (hA4.below hb5 (by omega)).other _ (by simp)
      · simp; omega
    · have efw : Hid (fw r (pre ++ [x]) = fw r pre) := fw_no pre x ht
      have HTH := Lib.hid (through_any r x.1.val x.2.val hx1 hx2 true ht)
      clear ht
      gi_wp2_with (first
        | (refine wpListIn_loadB rfl 52 (.tmp 8) rfl _ rfl _ _ hA _ _ Tryd.underlying52 hts ?_)
        | (gi_at_call 26; refine (CallsIn.inRound l (callsIn_wide.2 (HTH.out _))).mono ?_; rintro e w4 ⟨rfl, hb4⟩; have hv4 : Boxed w4 (s + 1) 22 v := (hb4.block (s + 1) (by omega)).trans hv; have hrow4 := World.ownsRow.kept hrow (grown_of_below hb4 none) (by cases v.ownBlock <;> simp); have hA4 := hA.past hb4; have hB4 := hB.trans (hb4.mono hB.size); have hW4 := Nat.le_trans hW5 hb4.size; have hk4 := KeepsOthers.of_grownBy (grown_of_below hb4 none) (fun j o ej _ => by cases ej)))
      refine ⟨hk4.from _, trivial, ⟨_, hv4, ?_, trivial⟩, hA4, hB4, hW4⟩
      rw [efw.out]
      exact hrow4
  case done =>
    rintro E xs W hE hS ⟨⟨v, hv, hrow, _⟩, hA, hB, hW5⟩ hK
    have hown : OwnP W (s + 3) 44 v (fw r xs) := hrow
    have efw : fw r xs = Cl.few m ls := by
      unfold fw
      rw [hS, HR.out]
      exact Cl.few_is HG.out hm8
    rw [efw] at hown
    clear hrow
    have hown' : OwnP (W.putObj E (.deferred none)) (s + 3) 44 v (Cl.few m ls) := ownsRow_putObj hown (.deferred none) hK rfl
    have hB' := hB.trans (belowK_b (w := w) (Nat.le_refl _) W E _ (.deferred none) (by omega) hK rfl rfl)
    obtain ⟨A', c', rfl, hrd⟩ := OwnP.rd hown'
    have hc := hv.cell
    clear hown hown' hv
    gi_wp2
    refine ⟨by simp, .inl ⟨_, _, rfl, run_takeDeferred hK, ?_⟩⟩
    exact ⟨_, results_tmp2 rfl _ _ _, hB', _, _, _, rfl, hrd⟩
  case stop =>
    rintro E c pre W _ _ h _
    exact h.elim

theorem Few_yes (m : Nat) (A : Option Addr) (k c : Nat) (ls : List Gr.Ln) (o : List Int) (w : World) (hr : RdP w w.heap.size A k c ls) (h : Gr.code (m : Int) ls = 0) (hstep : To.Step m ls o) (hl : o.length = m) :
    Calls Tryd.prog 13 #[.int .i64 (m : Int), .slice A k c] w fun e w' => ∃ A1 c1 N, e = .returned (.tuple #[.slice A1 N c1, .nilIface]) ∧ RdP w' w'.heap.size A1 N c1 (Cl.few m ls) ∧ Below w.heap.size w w' := by
  refine (callsIn_wide.1 (Few_in m A k c ls o w hr h hstep hl)).mono ?_
  rintro e w' ⟨hb, A1, c1, N, rfl, hrd⟩
  exact ⟨A1, c1, N, rfl, hrd, hb⟩

end Go.Proofs.YthlgloefeigcbaaDoor
