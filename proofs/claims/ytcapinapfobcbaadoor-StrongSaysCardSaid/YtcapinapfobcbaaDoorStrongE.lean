/-
  The contract of Fold of package strong: the parts' numbers, and the lines between parts, or what is wrong. No statement of the program is proved here; there is no condition.
-/
import Derived.Test.YtcapinapfobcbaaDoorStrongC
import Derived.Test.YtcapinapfobcbaaDoorStrongD
import Derived.Deep.RegionHeld3
import Derived.ControlIn
namespace Go.Proofs.YtcapinapfobcbaaDoor
open Go.RowKit Go.Shelf

attribute [local go_sem] Oper.semAt_some
set_option linter.unusedSimpArgs false
set_option linter.unusedVariables false

theorem cell_put {W : World} {D : Nat} {o o' : Obj} (hK : W.heap[D]? = some o) (h1 : o.isCells = false) (h2 : o'.isCells = false) (p : Addr) : (W.putObj D o').cell? p = W.cell? p := by
  unfold World.cell?
  by_cases e : p.block = D
  · rw [e, hK, World.putObj_heap_same (Array.getElem?_eq_some_iff.1 hK).1]
    cases o <;> cases o' <;> simp_all [Obj.isCells]
  · rw [World.putObj_heap_other e]

theorem Fold_code (n : Int) (A : Option Addr) (k c : Nat) (ls : List Gr.Ln) (w : World) (hr : RdP w w.heap.size A k c ls) (h : Gr.code n ls ≠ 0) :
    Calls Tryd.prog 10 #[.int .i64 n, .slice A k c] w fun e w' => e = .returned (.tuple #[.slice none 0 0, .slice none 0 0, errv (Gr.code n ls)]) ∧ Below w.heap.size w w' := by
  have H := Lib.hid h
  clear h
  go_enter Tryd.func10, Tryd.ntmps10
  go_wp2_with fail
  refine (All_code n A k c ls _ hr H.out).mono ?_
  rintro e w1 ⟨rfl, hb⟩
  go_wp2
  go_ret3
  exact ⟨rfl, hb⟩

set_option maxRecDepth 100000 in
set_option maxHeartbeats 4000000 in
theorem Fold_in (m : Nat) (A : Option Addr) (k c : Nat) (ls : List Gr.Ln) (w : World) (hr : RdP w w.heap.size A k c ls) (h : Gr.code (m : Int) ls = 0) :
    CallsIn Fence.wide 10 Tryd.prog 10 #[.int .i64 (m : Int), .slice A k c] w (fun e w' => Below w.heap.size w w' ∧ ∃ g A2 L c2, e = .returned (.tuple #[.slice (some ⟨g, 0, none⟩) m m, .slice A2 L c2, .nilIface]) ∧ Own w' w.heap.size 3 (.slice (some ⟨g, 0, none⟩) m m) (Sg.nums m ls) ∧ RdP w' w'.heap.size A2 L c2 (Sg.folded m ls)) := by
  have hm8 : m ≤ 8 := by have := (Gr.code_zero.1 h).2.1; omega
  have hm1 : 1 ≤ m := by have := (Gr.code_zero.1 h).1; omega
  have hk24 : k ≤ 1048576 := by have := (Gr.code_zero.1 h).2.2.1; have := hr.len; omega
  have HG := Lib.hid (Gr.code_zero.1 h).2.2.2
  have H := Lib.hid h
  clear h
  have hro : Fence.wide.round = none := rfl
  have hF1 : Fence.wide.fn 14 := trivial
  have hF2 : Fence.wide.fn 15 := trivial
  have hF3 : Fence.wide.fn 17 := trivial
  have hml : m ≤ maxLen := by simp only [maxLen]; omega
  obtain ⟨i0, hi, hz0, hz1, hz2⟩ := info_parts intInfo
  have hby : i0.bytes * m ≤ 281474976710656 := by rw [hz2]; omega
  refine callsIn_of_wp_marks Tryd.func10 rfl trivial ?_ hro
  simp only [Tryd.ntmps10, List.size_toArray, List.length_cons, List.length_nil, Nat.reduceAdd, Nat.reduceSub, Array.replicate_succ, Array.replicate_zero, List.push_toArray, List.append_toArray, List.nil_append, List.cons_append]
  gi_wp2_with (first
    | (gi_at_call 14; refine (callsIn_wide.2 (All_good m A k c ls _ hr H.out)).mono ?_; rintro e w1 ⟨A1, c1, rfl, hrr, hb⟩; have hbs := hb.size)
    | (gi_at_make; refine wpListIn_mk _ rfl (.tmp 23) (.tmp 23) 24 rfl w1.heap.size 3 i0 (.int .i64 0) 1 Tryd.underlying24 hi hz0 hz1 .i64 .i64 m rfl rfl hby hml (Nat.le_refl _) ?_; intro w2 hrow2 hg2 hsz2)
    | (gi_at_call 15; refine (callsIn_wide.2 (components_any _ _ _ _)).mono ?_; rintro e w4 ⟨rfl, rfl⟩))
  obtain ⟨s, hs⟩ : ∃ s, s = w1.heap.size := ⟨_, rfl⟩
  rw [← hs] at hsz2 hrow2 hbs hrr ⊢
  simp only [Nat.add_assoc, Nat.reduceAdd]
  obtain ⟨W0, hW0⟩ : ∃ W0, W0 = (w2.alloc (Obj.cells #[Value.slice (some ⟨s, 0, none⟩) m m] 24)).alloc (Obj.cells #[Value.slice A1 m c1] 40) := ⟨_, rfl⟩
  rw [← hW0]
  have hW0s : W0.heap.size = s + 3 := by rw [hW0]; simp [hsz2]
  have hb12 : Below s w1 w2 := (Below.refl _ _).grown hg2 (by omega) (fun _ e => by cases e)
  have hb20 : Below (s + 1) w2 W0 := by rw [hW0]; exact ((Below.refl _ _).alloc (by omega) _).alloc (by simp; omega) _
  have hb10 : Below s w1 W0 := hb12.trans (hb20.mono (by omega))
  have hB0 : Below w.heap.size w W0 := hb.trans (hb10.mono hbs)
  have hbx0 : W0.cell? ⟨s + 2, 0, none⟩ = some (.slice A1 m c1) := by
    rw [hW0]
    have := Boxed.new (w2.alloc (Obj.cells #[Value.slice (some ⟨s, 0, none⟩) m m] 24)) 40 (.slice A1 m c1)
    rw [World.size_alloc, hsz2] at this
    exact this.cell
  have hbo0 : W0.cell? ⟨s + 1, 0, none⟩ = some (.slice (some ⟨s, 0, none⟩) m m) := by
    rw [hW0]
    have := (Boxed.new w2 24 (.slice (some ⟨s, 0, none⟩) m m)).alloc (Obj.cells #[Value.slice A1 m c1] 40)
    rw [hsz2] at this
    exact this.cell
  have hcells : (madeCells (Value.int .i64 0).cells (m * 1)).toList = (List.replicate m (0 : Int)).map (Value.int .i64) := by
    rw [Nat.mul_one, show (Value.int .i64 0).cells = #[Value.int .i64 0] from rfl, toList_madeCells_one, List.map_replicate]
  rw [hcells] at hrow2
  have hown2 : Own w2 s 3 (.slice (some ⟨s, 0, none⟩) m m) (List.replicate m (0 : Int)) := by
    unfold Own
    rw [List.length_replicate]
    exact hrow2
  have hI0 : FiI w.heap.size s m (fun i => ((Sg.nm m ls i : Nat) : Int)) (Sg.inn m ls []) w W0 := by
    refine ⟨?_, hbo0, hB0⟩
    rw [Sg.fil_none (fun i _ => Sg.inn_nil i)]
    exact hown2.same (fun k hk => by cases hk; exact hb20.block s (by omega))
  have hrr0 := hrr.below hb10
  have hws : w.heap.size ≤ s := hbs
  clear hW0 hs hb hbs hrow2 hg2 hsz2 hb12 hb20 hb10 hown2 hrr hcells hbo0
  refine wpIn_range_mem hro (by omega) (gf := 22) (lb := #[.pointer (some ⟨s + 2, 0, none⟩)]) rfl trivial (enters_of Tryd.func22 (by kernel_rfl) rfl) (X := fun k => k = s)
    (comps1_seq m hm8 ls HG.out A1 c1 s (s + 2) (fun k => k = s) W0 (by omega) hrr0 hbx0 (fun k hk => by omega) (fun k hk => by omega) (by omega))
    (fun k hk => by omega) (fun _ => rfl) (fun pre x W r r' hl h => PtG.put _ pre x W r r' hl h)
    (fun (pre : List Part) W => FiI w.heap.size s m (fun i => ((Sg.nm m ls i : Nat) : Int)) (Sg.inn m ls (pre.map (fun y : Part => y.1))) w W)
    (fun _ _ => False)
    (fun pre U V h hb => h.below (hb.mono (by omega)) hws)
    (fun _ _ _ h _ => h) hI0
    (fun x => { tmps := #[.int .i64 (m : Int), .slice A k c, undef, undef, .slice none 0 0, .slice none 0 0, .nilIface, .slice A1 m c1, .nilIface, .pointer (some ⟨s + 1, 0, none⟩), .int .i64 ((Sg.below m ls x.1 : Nat) : Int), .slice x.2.1 (Sg.mem m ls x.1).length x.2.2, undef, undef, .tuple #[.slice A1 m c1, .nilIface], .int .i64 (m : Int), .slice A k c,
      .tuple #[.slice A1 m c1, .nilIface], .slice A1 m c1, .nilIface, .nilIface, .bool false, undef, .int .i64 (m : Int), .slice (some ⟨s, 0, none⟩) m m, .slice A1 m c1, .func (.func 22) #[] #[.pointer (some ⟨s + 2, 0, none⟩)],
      .int .i64 ((Sg.below m ls x.1 : Nat) : Int), .slice x.2.1 (Sg.mem m ls x.1).length x.2.2, undef, undef, undef, undef, undef, undef, undef, undef, undef, undef, undef, undef, undef, undef, undef], defers := [] }) ?assign ?body ?done ?stop
  case assign =>
    intro x l W K hK
    simp only [encPt]
    gi_wp2
    exact hK
  case body =>
    rintro pre ⟨v, A5, c5⟩ l W hI ⟨hpre, hisl, hv, hown⟩
    simp only at hpre hisl hv hown ⊢
    have HPT := Lib.hid (Sg.pt_of hisl)
    have HAT := Lib.hid (fun j (h : j < (Sg.mem m ls v).length) => Sg.mem_at h)
    have HALL := Lib.hid (fun i (hi : i < m) => Sg.inj_all (s := pre.map (fun y => y.1)) hv hisl hi)
    have HSUC := Lib.hid (fun j k (h : j < (Sg.mem m ls v).length) (e : (Sg.mem m ls v).getD j 0 = ((k : Nat) : Int)) => Sg.inj_succ (s := pre.map (fun y => y.1)) h e)
    have hLp := Sg.mem_pos (ls := ls) hv
    have hLs := Sg.mem_len (n := m) (ls := ls) v
    obtain ⟨L, hL⟩ : ∃ L, L = (Sg.mem m ls v).length := ⟨_, rfl⟩
    rw [← hL] at hown hLp hLs HAT HALL HSUC ⊢
    obtain ⟨g5, rfl, hg5, hg5'⟩ := hown.addr hLp
    have hLi : (0 : Int) < (L : Int) := by omega
    have hI1 : FiI w.heap.size s m (fun i => ((Sg.nm m ls i : Nat) : Int)) (Sg.inj m ls (pre.map (fun y => y.1)) v 0) w W := hI.congr (fun i _ => (Sg.inj_zero _ v i).symm)
    obtain ⟨sn, hsn⟩ : ∃ sn, sn = pre.map (fun y => y.1) := ⟨_, rfl⟩
    rw [← hsn] at hI1 HALL HSUC
    have HSN := Lib.hid hsn
    obtain ⟨nb, hnb⟩ : ∃ nb, nb = Sg.below m ls v := ⟨_, rfl⟩
    rw [← hnb]
    have HNB := Lib.hid hnb
    clear hI hpre hisl hL hsn hnb
    gi_wp2
    gi_loopw [13, 31] (fun _ iv wr => ∃ j : Nat, j ≤ L ∧ iv = .int .i64 (j : Int) ∧ FiI w.heap.size s m (fun i => ((Sg.nm m ls i : Nat) : Int)) (Sg.inj m ls sn v j) w wr ∧ Own wr (s + 3) 3 (.slice (some ⟨g5, 0, none⟩) L c5) (Sg.mem m ls v) ∧ Kept (fun k => k = s) W wr) (fun _ iv _ => L - (intOf iv).toNat)
    case atStart => exact ⟨0, Nat.zero_le _, rfl, hI1, hown.mono (by omega), Kept.refl _ _⟩
    case round =>
      clear hI1 hown
      obtain ⟨j, hj, rfl, hI, hown, hkW⟩ := hrel
      by_cases hlt : j < L
      · obtain ⟨i, hi, hbi, hgi⟩ := HAT.out j hlt
        have k5 := hown.cell j hlt
        rw [hgi] at k5
        have HN := Lib.hid (HSUC.out j i hlt hgi)
        have hpt : Hid ((nb : Int) = ((Sg.nm m ls i : Nat) : Int)) := by
          show _ = _
          have := (Sg.pt_eq hv hi).2 hbi
          unfold Sg.nm
          rw [← this, HPT.out, HNB.out]
        have i1 : (0 : Int) ≤ (i : Int) := by omega
        have i2 : (i : Int) < (m : Int) := by omega
        have c1 := hI.2.1
        have G1 := hI.1.cell i hi
        have G2 := hI.1.frozen i
        have hn := (hI.store hws hi (nb : Int) hpt.out).congr (fun q _ => (HN.out q).symm)
        have ho2 : Own (wr.setCell ⟨s, i, none⟩ (.int .i64 (nb : Int))) (s + 3) 3 (.slice (some ⟨g5, 0, none⟩) L c5) (Sg.mem m ls v) := hown.same (fun q hq => by cases hq; exact Below.heap_setCell wr _ _ g5 (by show g5 ≠ s; omega))
        clear hgi hbi hI hown
        gi_wp2
        go_roundw
        case rel => exact ⟨j + 1, by omega, by go_num, hn, ho2, hkW.on (Kept.set _ _ _ _ rfl)⟩
        case measure => simp [intOf]; omega
      · obtain rfl : j = L := by omega
        gi_wp2
        refine ⟨hkW, ?_⟩
        show FiI w.heap.size s m (fun i => ((Sg.nm m ls i : Nat) : Int)) (Sg.inn m ls ((pre ++ [((v, some ⟨g5, 0, none⟩, c5) : Part)]).map (fun y : Part => y.1))) w wr
        rw [List.map_append, ← HSN.out]
        exact hI.congr (fun i hi => HALL.out i hi)
  case done =>
    rintro D xs W hD hS hI hK
    have hI2 : FiI w.heap.size s m (fun i => ((Sg.nm m ls i : Nat) : Int)) (Sg.inn m ls (Sg.lsN m ls m)) w W := by
      have := hI
      rwa [show xs.map (fun y : Part => y.1) = Sg.lsN m ls m from hS] at this
    have hown := hI2.1
    rw [Sg.fil_all (fun i hi => Sg.inn_done hi)] at hown
    have hc := hI2.2.1
    have hBW := hI2.2.2
    have hWlt := (Array.getElem?_eq_some_iff.1 hK).1
    have hBW0 : Below w.heap.size w W.drew := hBW.drew
    clear hI hI2
    have hrW : RdP W.drew W.drew.heap.size A k c ls := hr.past hBW0
    have hnW : Rd W.drew W.drew.heap.size (some ⟨s, 0, none⟩) m m (Sg.nums m ls) := hown.rd'
    have HB := Lib.hid (between_any m hm8 ls HG.out A k c (some ⟨s, 0, none⟩) m W.drew hrW hnW hk24)
    have g0 : W.drew.cell? ⟨s + 1, 0, none⟩ = some (.slice (some ⟨s, 0, none⟩) m m) := hc
    have hclt : s + 1 < W.drew.heap.size := World.block_lt_of_cell? W _ hc
    clear hrW hnW
    gi_wp2
    refine wpIn_wide.2 ?_
    go_region_held3 (fun w' : World => w'.cell? ⟨s + 1, 0, none⟩ = some (.slice (some ⟨s, 0, none⟩) m m)) (first | exact g0 | assumption)
      (first
        | (go_at_call 17; refine HB.out.mono ?_; rintro e w5 ⟨A5, L5, c5, rfl, hr5, hb5⟩; have hS5 := (hb5.cell (p := ⟨s + 1, 0, none⟩) hclt).trans g0))
    have hK5 : w5.heap[D]? = some (.deferred (some [])) := (hb5.block D hWlt).trans hK
    have hB5 : Below w.heap.size w w5 := hBW0.trans (hb5.mono hBW0.size)
    have hB' := hB5.trans (belowK_b (w := w) (Nat.le_refl _) w5 D _ (.deferred none) (by omega) hK5 rfl rfl)
    have hown5 : Own w5 s 3 (.slice (some ⟨s, 0, none⟩) m m) (Sg.nums m ls) := Own.below (w := W.drew) hown hb5
    have hown' : Own (w5.putObj D (.deferred none)) s 3 (.slice (some ⟨s, 0, none⟩) m m) (Sg.nums m ls) := ownsRow_putObj hown5 (.deferred none) hK5 rfl
    have hr' : RdP (w5.putObj D (.deferred none)) (w5.putObj D (.deferred none)).heap.size A5 L5 c5 (Sg.folded m ls) := hr5.keep (by simp) fun p _ => cell_put hK5 rfl rfl p
    clear hown hown5 hr5 hb5 HB
    gi_wp2
    refine ⟨by simp, .inl ⟨_, _, rfl, run_takeDeferred hK5, ?_⟩⟩
    exact ⟨_, results_tmp3 rfl _ _ _, hB', s, A5, L5, c5, rfl, hown'.mono hws, hr'⟩
  case stop =>
    rintro D pre W _ h _
    exact h.elim


theorem Fold_yes (m : Nat) (A : Option Addr) (k c : Nat) (ls : List Gr.Ln) (w : World) (hr : RdP w w.heap.size A k c ls) (h : Gr.code (m : Int) ls = 0) :
    Calls Tryd.prog 10 #[.int .i64 (m : Int), .slice A k c] w fun e w' => ∃ A1 c1 A2 L c2, e = .returned (.tuple #[.slice A1 m c1, .slice A2 L c2, .nilIface]) ∧ Rd w' w'.heap.size A1 m c1 (Sg.nums m ls) ∧ RdP w' w'.heap.size A2 L c2 (Sg.folded m ls) ∧ Below w.heap.size w w' := by
  refine (callsIn_wide.1 (Fold_in m A k c ls w hr h)).mono ?_
  rintro e w' ⟨hb, g, A2, L, c2, rfl, hown, hrd⟩
  exact ⟨_, _, _, _, _, rfl, hown.rd', hrd, hb⟩

end Go.Proofs.YtcapinapfobcbaaDoor
