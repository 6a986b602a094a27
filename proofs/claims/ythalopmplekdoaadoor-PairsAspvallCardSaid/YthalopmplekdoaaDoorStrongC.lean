/-
  The contract of Parts of package strong: for each point the least one of its part, or what is wrong. No statement of the program is proved here; there is no condition.
-/
import Derived.Test.YthalopmplekdoaaDoorStrongB
import Derived.Test.YthalopmplekdoaaDoorCloseC
namespace Go.Proofs.YthalopmplekdoaaDoor
open Go.RowKit Go.Shelf

attribute [local go_sem] Oper.semAt_some
set_option linter.unusedSimpArgs false
set_option linter.unusedVariables false

/-- while the list is being filled: the list lies in block s, its variable in block s + 1 -/
def FiI (B s m : Nat) (f : Nat → Int) (P : Nat → Bool) (w W : World) : Prop :=
  Own W s 3 (.slice (some ⟨s, 0, none⟩) m m) (Sg.fil m f P) ∧ W.cell? ⟨s + 1, 0, none⟩ = some (.slice (some ⟨s, 0, none⟩) m m) ∧ Below B w W
theorem FiI.below {B s m : Nat} {f : Nat → Int} {P : Nat → Bool} {w W W' : World} (h : FiI B s m f P w W) (hb : Below (s + 2) W W') (hB : B ≤ s) : FiI B s m f P w W' :=
  ⟨h.1.same (fun k hk => by cases hk; exact hb.block s (by omega)), (hb.cell (p := ⟨s + 1, 0, none⟩) (show s + 1 < s + 2 by omega)).trans h.2.1, h.2.2.trans (hb.mono (by omega))⟩
theorem FiI.store {B s m : Nat} {f : Nat → Int} {P : Nat → Bool} {w W : World} (h : FiI B s m f P w W) (hB : B ≤ s) {k : Nat} (hk : k < m) (x : Int) (hx : x = f k) : FiI B s m f (fun i => P i || decide (i = k)) w (W.setCell ⟨s, k, none⟩ (.int .i64 x)) := by
  subst hx
  refine ⟨?_, ?_, h.2.2.setCell (p := ⟨s, k, none⟩) (show B ≤ s by omega) _⟩
  · have := (h.1.store k (f k)).1
    rwa [Sg.fil_set hk] at this
  · rw [World.cell?_setCell_other _ _ _ _ (fun e => by have : s = s + 1 := (congrArg Addr.block e); omega)]
    exact h.2.1
theorem FiI.congr {B s m : Nat} {f : Nat → Int} {P Q : Nat → Bool} {w W : World} (h : FiI B s m f P w W) (hp : ∀ i, i < m → P i = Q i) : FiI B s m f Q w W := ⟨by rw [← Sg.fil_congr hp]; exact h.1, h.2⟩
theorem FiI.drew {B s m : Nat} {f : Nat → Int} {P : Nat → Bool} {w W : World} (h : FiI B s m f P w W) : FiI B s m f P w W.drew := ⟨h.1, h.2.1, h.2.2.drew⟩

theorem All_good (m : Nat) (A : Option Addr) (k c : Nat) (ls : List Gr.Ln) (w : World) (hr : RdP w w.heap.size A k c ls) (h : Gr.code (m : Int) ls = 0) :
    Calls Tryd.prog 25 #[.int .i64 (m : Int), .slice A k c] w fun e w' => ∃ A1 c1, e = .returned (.tuple #[.slice A1 m c1, .nilIface]) ∧ RdR w' w'.heap.size A1 m c1 (Cl.crows m ls) ∧ Below w.heap.size w w' := All_yes m A k c ls w hr h

theorem Parts_code (n : Int) (A : Option Addr) (k c : Nat) (ls : List Gr.Ln) (w : World) (hr : RdP w w.heap.size A k c ls) (h : Gr.code n ls ≠ 0) :
    Calls Tryd.prog 16 #[.int .i64 n, .slice A k c] w fun e w' => e = .returned (.tuple #[.slice none 0 0, errv (Gr.code n ls)]) ∧ Below w.heap.size w w' := by
  have H := Lib.hid h
  clear h
  go_enter Tryd.func16, Tryd.ntmps16
  go_wp2_with fail
  refine (All_code n A k c ls _ hr H.out).mono ?_
  rintro e w1 ⟨rfl, hb⟩
  go_wp2
  go_ret2
  exact ⟨rfl, hb⟩

set_option maxRecDepth 100000 in
set_option maxHeartbeats 4000000 in
theorem Parts_in (m : Nat) (A : Option Addr) (k c : Nat) (ls : List Gr.Ln) (w : World) (hr : RdP w w.heap.size A k c ls) (h : Gr.code (m : Int) ls = 0) :
    CallsIn Fence.wide 10 Tryd.prog 16 #[.int .i64 (m : Int), .slice A k c] w (fun e w' => Below w.heap.size w w' ∧ ∃ g, e = .returned (.tuple #[.slice (some ⟨g, 0, none⟩) m m, .nilIface]) ∧ Own w' w.heap.size 3 (.slice (some ⟨g, 0, none⟩) m m) (Sg.parts m ls)) := by
  have hm8 : m ≤ 8 := by have := (Gr.code_zero.1 h).2.1; omega
  have hm1 : 1 ≤ m := by have := (Gr.code_zero.1 h).1; omega
  have HG := Lib.hid (Gr.code_zero.1 h).2.2.2
  have H := Lib.hid h
  clear h
  have hro : Fence.wide.round = none := rfl
  have hF1 : Fence.wide.fn 25 := trivial
  have hF2 : Fence.wide.fn 26 := trivial
  have hml : m ≤ maxLen := by simp only [maxLen]; omega
  obtain ⟨i0, hi, hz0, hz1, hz2⟩ := info_parts intInfo
  have hby : i0.bytes * m ≤ 281474976710656 := by rw [hz2]; omega
  refine callsIn_of_wp_marks Tryd.func16 rfl trivial ?_ hro
  simp only [Tryd.ntmps16, List.size_toArray, List.length_cons, List.length_nil, Nat.reduceAdd, Nat.reduceSub, Array.replicate_succ, Array.replicate_zero, List.push_toArray, List.append_toArray, List.nil_append, List.cons_append]
  gi_wp2_with (first
    | (gi_at_call 25; refine (callsIn_wide.2 (All_good m A k c ls _ hr H.out)).mono ?_; rintro e w1 ⟨A1, c1, rfl, hrr, hb⟩; have hbs := hb.size)
    | (gi_at_make; refine wpListIn_mk _ rfl (.tmp 22) (.tmp 22) 46 rfl w1.heap.size 3 i0 (.int .i64 0) 1 Tryd.underlying46 hi hz0 hz1 .i64 .i64 m rfl rfl hby hml (Nat.le_refl _) ?_; intro w2 hrow2 hg2 hsz2)
    | (gi_at_call 26; refine (callsIn_wide.2 (components_any _ _ _ _)).mono ?_; rintro e w4 ⟨rfl, rfl⟩))
  obtain ⟨s, hs⟩ : ∃ s, s = w1.heap.size := ⟨_, rfl⟩
  rw [← hs] at hsz2 hrow2 hbs hrr ⊢
  simp only [Nat.add_assoc, Nat.reduceAdd]
  obtain ⟨W0, hW0⟩ : ∃ W0, W0 = (w2.alloc (Obj.cells #[Value.slice (some ⟨s, 0, none⟩) m m] 46)).alloc (Obj.cells #[Value.slice A1 m c1] 59) := ⟨_, rfl⟩
  rw [← hW0]
  have hW0s : W0.heap.size = s + 3 := by rw [hW0]; simp [hsz2]
  have hb12 : Below s w1 w2 := (Below.refl _ _).grown hg2 (by omega) (fun _ e => by cases e)
  have hb20 : Below (s + 1) w2 W0 := by rw [hW0]; exact ((Below.refl _ _).alloc (by omega) _).alloc (by simp; omega) _
  have hb10 : Below s w1 W0 := hb12.trans (hb20.mono (by omega))
  have hB0 : Below w.heap.size w W0 := hb.trans (hb10.mono hbs)
  have hbx0 : W0.cell? ⟨s + 2, 0, none⟩ = some (.slice A1 m c1) := by
    rw [hW0]
    have := Boxed.new (w2.alloc (Obj.cells #[Value.slice (some ⟨s, 0, none⟩) m m] 46)) 59 (.slice A1 m c1)
    rw [World.size_alloc, hsz2] at this
    exact this.cell
  have hbo0 : W0.cell? ⟨s + 1, 0, none⟩ = some (.slice (some ⟨s, 0, none⟩) m m) := by
    rw [hW0]
    have := (Boxed.new w2 46 (.slice (some ⟨s, 0, none⟩) m m)).alloc (Obj.cells #[Value.slice A1 m c1] 59)
    rw [hsz2] at this
    exact this.cell
  have hcells : (madeCells (Value.int .i64 0).cells (m * 1)).toList = (List.replicate m (0 : Int)).map (Value.int .i64) := by
    rw [Nat.mul_one, show (Value.int .i64 0).cells = #[Value.int .i64 0] from rfl, toList_madeCells_one, List.map_replicate]
  rw [hcells] at hrow2
  have hown2 : Own w2 s 3 (.slice (some ⟨s, 0, none⟩) m m) (List.replicate m (0 : Int)) := by
    unfold Own
    rw [List.length_replicate]
    exact hrow2
  have hI0 : FiI w.heap.size s m (fun i => ((Sg.pt m ls i : Nat) : Int)) (Sg.inn m ls []) w W0 := by
    refine ⟨?_, hbo0, hB0⟩
    rw [Sg.fil_none (fun i _ => Sg.inn_nil i)]
    exact hown2.same (fun k hk => by cases hk; exact hb20.block s (by omega))
  have hrr0 := hrr.below hb10
  have hws : w.heap.size ≤ s := hbs
  clear hW0 hs hb hbs hrow2 hg2 hsz2 hb12 hb20 hb10 hown2 hrr hcells hbo0
  refine wpIn_range_mem hro (by omega) (gf := 33) (lb := #[.pointer (some ⟨s + 2, 0, none⟩)]) rfl trivial (enters_of Tryd.func33 (by kernel_rfl) rfl) (X := fun k => k = s)
    (comps1_seq m hm8 ls HG.out A1 c1 s (s + 2) (fun k => k = s) W0 (by omega) hrr0 hbx0 (fun k hk => by omega) (fun k hk => by omega) (by omega))
    (fun k hk => by omega) (fun _ => rfl) (fun pre x W r r' hl h => PtG.put _ pre x W r r' hl h)
    (fun (pre : List Part) W => FiI w.heap.size s m (fun i => ((Sg.pt m ls i : Nat) : Int)) (Sg.inn m ls (pre.map (fun y : Part => y.1))) w W)
    (fun _ _ => False)
    (fun pre U V h hb => h.below (hb.mono (by omega)) hws)
    (fun _ _ _ h _ => h) hI0
    (fun x => { tmps := #[.int .i64 (m : Int), .slice A k c, undef, undef, .slice none 0 0, .nilIface, .slice A1 m c1, .nilIface, .pointer (some ⟨s + 1, 0, none⟩), undef, .slice x.2.1 (Sg.mem m ls x.1).length x.2.2, undef, undef, .tuple #[.slice A1 m c1, .nilIface], .int .i64 (m : Int), .slice A k c,
      .tuple #[.slice A1 m c1, .nilIface], .slice A1 m c1, .nilIface, .nilIface, .bool false, undef, .int .i64 (m : Int), .slice (some ⟨s, 0, none⟩) m m, .slice A1 m c1, .func (.func 33) #[] #[.pointer (some ⟨s + 2, 0, none⟩)],
      .int .i64 ((Sg.below m ls x.1 : Nat) : Int), .slice x.2.1 (Sg.mem m ls x.1).length x.2.2, undef, undef, undef, undef, undef, undef, undef, undef, undef, undef, undef, undef, undef, undef], defers := [] }) ?assign ?body ?done ?stop
  case assign =>
    intro x l W K hK
    simp only [encPt]
    gi_wp2
    exact hK
  case body =>
    rintro pre ⟨v, A5, c5⟩ l W hI ⟨hpre, hisl, hv, hown⟩
    simp only at hpre hisl hv hown ⊢
    have HPT := Lib.hid (Sg.pt_of hisl)
    have hmh := Sg.mem_head (ls := ls) hv
    rw [HPT.out] at hmh
    have HAT := Lib.hid (fun j (h : j < (Sg.mem m ls v).length) => Sg.mem_at h)
    have HALL := Lib.hid (fun i (hi : i < m) => Sg.inj_all (s := pre.map (fun y => y.1)) hv hisl hi)
    have HSUC := Lib.hid (fun j k (h : j < (Sg.mem m ls v).length) (e : (Sg.mem m ls v).getD j 0 = ((k : Nat) : Int)) => Sg.inj_succ (s := pre.map (fun y => y.1)) h e)
    have hLp := Sg.mem_pos (ls := ls) hv
    have hLs := Sg.mem_len (n := m) (ls := ls) v
    obtain ⟨L, hL⟩ : ∃ L, L = (Sg.mem m ls v).length := ⟨_, rfl⟩
    rw [← hL] at hown hLp hLs HAT HALL HSUC ⊢
    obtain ⟨g5, rfl, hg5, hg5'⟩ := hown.addr hLp
    have hLi : (0 : Int) < (L : Int) := by omega
    have hI1 : FiI w.heap.size s m (fun i => ((Sg.pt m ls i : Nat) : Int)) (Sg.inj m ls (pre.map (fun y => y.1)) v 0) w W := hI.congr (fun i _ => (Sg.inj_zero _ v i).symm)
    obtain ⟨sn, hsn⟩ : ∃ sn, sn = pre.map (fun y => y.1) := ⟨_, rfl⟩
    rw [← hsn] at hI1 HALL HSUC
    have HSN := Lib.hid hsn
    have HMH := Lib.hid hmh
    clear hI hpre hisl hL hsn hmh
    gi_wp2
    gi_loopw [12, 30] (fun _ iv wr => ∃ j : Nat, j ≤ L ∧ iv = .int .i64 (j : Int) ∧ FiI w.heap.size s m (fun i => ((Sg.pt m ls i : Nat) : Int)) (Sg.inj m ls sn v j) w wr ∧ Own wr (s + 3) 3 (.slice (some ⟨g5, 0, none⟩) L c5) (Sg.mem m ls v) ∧ Kept (fun k => k = s) W wr) (fun _ iv _ => L - (intOf iv).toNat)
    case atStart => exact ⟨0, Nat.zero_le _, rfl, hI1, hown.mono (by omega), Kept.refl _ _⟩
    case round =>
      clear hI1 hown
      obtain ⟨j, hj, rfl, hI, hown, hkW⟩ := hrel
      by_cases hlt : j < L
      · obtain ⟨i, hi, hbi, hgi⟩ := HAT.out j hlt
        have k5 := hown.cell j hlt
        rw [hgi] at k5
        have HN := Lib.hid (HSUC.out j i hlt hgi)
        have hpt : Hid ((v : Int) = ((Sg.pt m ls i : Nat) : Int)) := by
          show _ = _
          have := (Sg.pt_eq hv hi).2 hbi
          rw [← this, HPT.out]
        have i1 : (0 : Int) ≤ (i : Int) := by omega
        have i2 : (i : Int) < (m : Int) := by omega
        have SA : wr.drew.cell? ⟨s + 1, 0, none⟩ = some (.slice (some ⟨s, 0, none⟩) m m) := hI.2.1
        have SB : wr.drew.cell? ⟨g5, 0, none⟩ = some (.int .i64 (v : Int)) := by
          have := hown.cell 0 hLp
          rw [HMH.out] at this
          exact this
        clear hgi hbi
        gi_wp2
        rename_i K1 hK1
        refine wpIn_round_held (S := fun w' => w'.cell? ⟨s + 1, 0, none⟩ = some (.slice (some ⟨s, 0, none⟩) m m) ∧ w'.cell? ⟨g5, 0, none⟩ = some (.int .i64 (v : Int))) (by kernel_rfl) ?hnd ?hno ⟨SA, SB⟩ ?hgo
        case hnd =>
          intro j o ho c hd
          have hmem := Array.mem_of_getElem? ho
          simp only [List.mem_toArray, List.mem_cons, List.not_mem_nil, or_false] at hmem
          rcases hmem with rfl | rfl | rfl | rfl | rfl | rfl | rfl <;> cases hd
        case hno =>
          rintro ⟨_, _, h⟩
          exact h
        case hgo =>
            intro hS1
            obtain ⟨Wd, hWd⟩ : ∃ Wd, Wd = wr.drew := ⟨_, rfl⟩
            have hId := hI.drew
            have hod : Own wr.drew (s + 3) 3 (.slice (some ⟨g5, 0, none⟩) L c5) (Sg.mem m ls v) := hown
            rw [← hWd] at hId hod hS1 ⊢
            have hkd : Kept (fun k => k = s) W Wd := by rw [hWd]; exact ⟨hkW.1, hkW.2⟩
            clear hWd SA SB hI hown
            have G1 := hId.1.cell i hi
            have G2 := hId.1.frozen i
            have hn := hId.store hws hi (v : Int) hpt.out
            have hn2 : FiI w.heap.size s m (fun i => ((Sg.pt m ls i : Nat) : Int)) (Sg.inj m ls sn v (j + 1)) w (Wd.setCell ⟨s, i, none⟩ (.int .i64 (v : Int))) := hn.congr (fun q _ => (HN.out q).symm)
            have ho2 : Own (Wd.setCell ⟨s, i, none⟩ (.int .i64 (v : Int))) (s + 3) 3 (.slice (some ⟨g5, 0, none⟩) L c5) (Sg.mem m ls v) := hod.same (fun q hq => by cases hq; exact Below.heap_setCell Wd _ _ g5 (by show g5 ≠ s; omega))
            have hSd : (Wd.setCell ⟨s, i, none⟩ (.int .i64 (v : Int))).cell? ⟨s + 1, 0, none⟩ = some (.slice (some ⟨s, 0, none⟩) m m) ∧ (Wd.setCell ⟨s, i, none⟩ (.int .i64 (v : Int))).cell? ⟨g5, 0, none⟩ = some (.int .i64 (v : Int)) :=
              ⟨hn2.2.1, (World.cell?_setCell_other _ _ _ _ (fun e => by have : s = g5 := (congrArg Addr.block e); omega)).trans hS1.2⟩
            clear hn hod
            refine wpAnyH_take (i := 1) (v := .int .i64 (i : Int)) rfl (by kernel_rfl) (by kernel_rfl) (by kernel_rfl) (fun _ _ _ h => h) (Or.inl ⟨by rfl, ?_⟩) (by assumption) ?_
            · intro w hSw
              obtain ⟨hSa, hSb⟩ := hSw
              go_simp
            simp only [Act.put, List.setIfInBounds_toArray, List.set_cons_zero, List.set_cons_succ]
            refine wpAnyH_take (i := 2) (v := .slice (some ⟨g5, 0, none⟩) L c5) rfl (by kernel_rfl) (by kernel_rfl) (by kernel_rfl) (fun _ _ _ h => h) (Or.inl ⟨by rfl, ?_⟩) (by assumption) ?_
            · intro w hSw
              obtain ⟨hSa, hSb⟩ := hSw
              go_simp
            simp only [Act.put, List.setIfInBounds_toArray, List.set_cons_zero, List.set_cons_succ]
            refine wpAnyH_take (i := 0) (v := .slice (some ⟨s, 0, none⟩) m m) rfl (by kernel_rfl) (by kernel_rfl) (by kernel_rfl) (fun _ _ _ h => h) (Or.inl ⟨by rfl, ?_⟩) (by assumption) ?_
            · intro w hSw
              obtain ⟨hSa, hSb⟩ := hSw
              go_simp
            simp only [Act.put, List.setIfInBounds_toArray, List.set_cons_zero, List.set_cons_succ]
            refine wpAnyH_take (i := 3) (v := .pointer (some ⟨g5, 0, none⟩)) rfl (by kernel_rfl) (by kernel_rfl) (by kernel_rfl) (fun _ _ _ h => h) (Or.inl ⟨by rfl, ?_⟩) (by assumption) ?_
            · intro w hSw
              obtain ⟨hSa, hSb⟩ := hSw
              go_simp
            simp only [Act.put, List.setIfInBounds_toArray, List.set_cons_zero, List.set_cons_succ]
            refine wpAnyH_take (i := 4) (v := .int .i64 (v : Int)) rfl (by kernel_rfl) (by kernel_rfl) (by kernel_rfl) (fun _ _ _ h => h) (Or.inl ⟨by rfl, ?_⟩) (by assumption) ?_
            · intro w hSw
              obtain ⟨hSa, hSb⟩ := hSw
              go_simp
            simp only [Act.put, List.setIfInBounds_toArray, List.set_cons_zero, List.set_cons_succ]
            refine wpAnyH_take (i := 5) (v := .pointer (some ⟨s, i, none⟩)) rfl (by kernel_rfl) (by kernel_rfl) (by kernel_rfl) (fun _ _ _ h => h) (Or.inl ⟨by rfl, ?_⟩) (by assumption) ?_
            · intro w hSw
              obtain ⟨hSa, hSb⟩ := hSw
              go_simp
            simp only [Act.put, List.setIfInBounds_toArray, List.set_cons_zero, List.set_cons_succ]
            refine wpAnyH_ready (rs := [6]) (by kernel_rfl) (by simp) ?_
            refine AllReadyH.cons rfl (fun K hK => ?_) AllReadyH.nil
            go_simp
            refine hK.out _ _ hSd (fun _ => ?_)
            clear hK K
            refine wpAnyH_done (by kernel_rfl) ?_ _
            refine hK1 _ _ ?_
            gi_wp2
            go_roundw
            case rel => exact ⟨j + 1, by omega, by go_num, hn2, ho2, hkd.on (Kept.set _ _ _ _ rfl)⟩
            case measure => simp [intOf]; omega
      · obtain rfl : j = L := by omega
        gi_wp2
        refine ⟨hkW, ?_⟩
        show FiI w.heap.size s m (fun i => ((Sg.pt m ls i : Nat) : Int)) (Sg.inn m ls ((pre ++ [((v, some ⟨g5, 0, none⟩, c5) : Part)]).map (fun y : Part => y.1))) w wr
        rw [List.map_append, ← HSN.out]
        exact hI.congr (fun i hi => HALL.out i hi)
  case done =>
    rintro D xs W hD hS hI hK
    have hB' := hI.2.2.trans (belowK_b (w := w) (Nat.le_refl _) W D _ (.deferred none) (by omega) hK rfl rfl)
    have hown' : Own (W.putObj D (.deferred none)) s 3 (.slice (some ⟨s, 0, none⟩) m m) _ := ownsRow_putObj hI.1 (.deferred none) hK rfl
    rw [show xs.map (fun y : Part => y.1) = Sg.lsN m ls m from hS, Sg.fil_all (fun i hi => Sg.inn_done hi)] at hown'
    have hc := hI.2.1
    clear hI
    gi_wp2
    refine ⟨by simp, .inl ⟨_, _, rfl, run_takeDeferred hK, ?_⟩⟩
    exact ⟨_, results_tmp2 rfl _ _ _, hB', s, rfl, hown'.mono hws⟩
  case stop =>
    rintro D pre W _ h _
    exact h.elim

theorem Parts_yes (m : Nat) (A : Option Addr) (k c : Nat) (ls : List Gr.Ln) (w : World) (hr : RdP w w.heap.size A k c ls) (h : Gr.code (m : Int) ls = 0) :
    Calls Tryd.prog 16 #[.int .i64 (m : Int), .slice A k c] w fun e w' => ∃ A1 c1, e = .returned (.tuple #[.slice A1 m c1, .nilIface]) ∧ Rd w' w'.heap.size A1 m c1 (Sg.parts m ls) ∧ Below w.heap.size w w' := by
  refine (callsIn_wide.1 (Parts_in m A k c ls w hr h)).mono ?_
  rintro e w' ⟨hb, g, rfl, hown⟩
  exact ⟨_, _, rfl, hown.rd', hb⟩

end Go.Proofs.YthalopmplekdoaaDoor
