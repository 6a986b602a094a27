/-
  The walk of the law TopDeep: for every number of points and lines it returns true.
-/
import Derived.Test.YtehkkpkhpbbpnaaCutsE
import Derived.Test.YtehkkpkhpbbpnaaCutsH
namespace Go.Proofs.Ytehkkpkhpbbpnaa.topDeep
open Go.RowKit

set_option linter.unusedSimpArgs false
set_option linter.unusedVariables false

/-- how many were met from i, and whether one of them comes back no higher, below j -/
def kids (F : Dp.Fo) (i j : Nat) : Nat := (List.range j).countP fun c => decide (Dp.par F (-1) c = (i : Int))
def held (m : Nat) (R : Nat → List Nat) (F : Dp.Fo) (i j : Nat) : Bool := (List.range j).any (Dp.shuts m R F i)
theorem kids_hit {F : Dp.Fo} {i j : Nat} (h : Dp.par F (-1) j = (i : Int)) : kids F i (j + 1) = kids F i j + 1 := by
  unfold kids; rw [List.range_succ, List.countP_append]; simp [h]
theorem kids_miss {F : Dp.Fo} {i j : Nat} (h : ¬ Dp.par F (-1) j = (i : Int)) : kids F i (j + 1) = kids F i j := by
  unfold kids; rw [List.range_succ, List.countP_append]; simp [h]
theorem kids_le (F : Dp.Fo) (i j : Nat) : kids F i j ≤ j := by
  have := List.countP_le_length (p := fun c => decide (Dp.par F (-1) c = (i : Int))) (l := List.range j)
  simpa [kids] using this
theorem held_succ (m : Nat) (R : Nat → List Nat) (F : Dp.Fo) (i j : Nat) : held m R F i (j + 1) = (held m R F i j || Dp.shuts m R F i j) := by
  unfold held; rw [List.range_succ, List.any_append]; simp
theorem held_miss {m : Nat} {R : Nat → List Nat} {F : Dp.Fo} {i j : Nat} (h : ¬ Dp.par F (-1) j = (i : Int)) : held m R F i (j + 1) = held m R F i j := by
  rw [held_succ]
  have : Dp.shuts m R F i j = false := by unfold Dp.shuts; simp [h]
  rw [this, Bool.or_false]
theorem held_hit {m : Nat} {R : Nat → List Nat} {F : Dp.Fo} {i j : Nat} (h : Dp.par F (-1) j = (i : Int)) : held m R F i (j + 1) = (held m R F i j || decide (((Dp.met F 0 i : Nat) : Int) ≤ (Dp.lows m R F).getD j 0)) := by
  rw [held_succ]
  congr 1
  unfold Dp.shuts
  rw [h]; simp

theorem is_root {m : Nat} {R : Nat → List Nat} {F : Dp.Fo} (hR : Wa.Ok m R) (hs : Wa.Sym m R) (hirr : ∀ a, a < m → a ∉ R a) (hF : Dp.Whole m R F) {i : Nat} (hi : i < m) (hp : Dp.par F (-1) i < 0) : Dp.cutB m R i = decide (1 < kids F i m) := by
  have hpi : Dp.par F (-1) i = -1 := (hF.par hR hi).elim id (fun ⟨q, _, h, _⟩ => by omega)
  rw [Bool.eq_iff_iff, Dp.cutB_iff, hF.cut_root hR hs hirr hi hpi, decide_eq_true_eq]
  unfold kids
  rw [show (1 < (List.range m).countP fun c => decide (Dp.par F (-1) c = (i : Int))) ↔ 2 ≤ (List.range m).countP fun c => decide (Dp.par F (-1) c = (i : Int)) from Iff.rfl, Dp.two_of List.nodup_range]
  simp only [List.mem_range, decide_eq_true_eq]
theorem is_inner {m : Nat} {R : Nat → List Nat} {F : Dp.Fo} (hR : Wa.Ok m R) (hs : Wa.Sym m R) (hirr : ∀ a, a < m → a ∉ R a) (hF : Dp.Whole m R F) {i : Nat} (hi : i < m) (hp : ¬ Dp.par F (-1) i < 0) : Dp.cutB m R i = held m R F i m := by
  rw [Bool.eq_iff_iff, Dp.cutB_iff, hF.cut_inner hR hs hirr hi (by omega)]
  unfold held Dp.shuts
  simp only [List.any_eq_true, List.mem_range, Bool.and_eq_true, decide_eq_true_eq]

/-! ### the fact at two points -/
def ttree : Dp.Fo := .cons 0 (.cons 1 .nil .nil) .nil
theorem tfact0 : Gr.code (2 : Int) [(0, 1)] = 0 := by kernel_rfl
theorem tfact1 : Dp.lows 2 (Wa.nrow 2 [(0, 1)]) ttree = [0, 1] := by kernel_rfl
theorem twhole : Dp.Whole 2 (Wa.nrow 2 [(0, 1)]) ttree := by
  have e0 : Wa.nrow 2 [(0, 1)] 0 = [1] := by kernel_rfl
  have e1 : Wa.nrow 2 [(0, 1)] 1 = [0] := by kernel_rfl
  generalize Wa.nrow 2 [(0, 1)] = R at e0 e1
  refine ⟨[true, true], ?_⟩
  show Dp.Dfs R [false, false] [0, 1] ttree _
  refine .go (s1 := [true, true]) rfl ?_ (.skip rfl (.nil _))
  rw [e0]
  refine .go (s1 := [true, true]) rfl ?_ (.nil _)
  rw [e1]
  exact .skip rfl (.nil _)
theorem Low_fact (A : Option Addr) (w : World) (hr : RdP w w.heap.size A 1 1 [(0, 1)]) :
    Calls Try.prog 19 #[.int .i64 2, .slice A 1 1] w fun e w' => Below w.heap.size w w' ∧ ∃ g, e = .returned (.tuple #[.slice (some ⟨g, 0, none⟩) 2 2, .nilIface]) ∧ Rd w' w'.heap.size (some ⟨g, 0, none⟩) 2 2 [0, 1] := by
  refine Calls.mono (DLow_good 2 A 1 1 _ ttree twhole w hr tfact0) ?_
  rintro e w1 ⟨hb, g, rfl, ho⟩
  rw [tfact1] at ho
  exact ⟨hb, g, rfl, ho.rd'⟩

set_option maxRecDepth 100000 in
set_option maxHeartbeats 1000000 in
theorem walk (w : World) (a0 : Int) (_w0 : (Lit.int .i64 a0).wf = true) (a1 : Option Addr) (n1 c1 : Nat) (z1 : List Gr.Ln) (w1 : RdP w w.heap.size a1 n1 c1 z1) :
    Calls Try.prog 7 #[.int .i64 a0, .slice a1 n1 c1] w fun e w' => e = .returned (.bool true) ∧ Below w.heap.size w w' := by
  by_cases hc : Gr.code a0 z1 = 0
  · obtain ⟨m, rfl⟩ : ∃ m : Nat, a0 = (m : Int) := ⟨a0.toNat, by have := (Gr.code_zero.1 hc).1; omega⟩
    have hm8 : m ≤ 8 := by have := (Gr.code_zero.1 hc).2.1; omega
    have hm1 : 1 ≤ m := by have := (Gr.code_zero.1 hc).1; omega
    obtain ⟨F, hF⟩ := Dp.whole_exist (Wa.nrow_ok m z1)
    have hroot : Hid (∀ i, i < m → Dp.par F (-1) i < 0 → (upL (Dp.cpts m (Wa.nrow m z1))).contains (i : Int) = decide (1 < kids F i m)) := fun i hi hp => by
      rw [Dp.has_cpts hi, is_root (Wa.nrow_ok m z1) (Wa.nrow_sym m z1) (Dp.nrow_irr hc) hF hi hp]
    have hinner : Hid (∀ i, i < m → 0 ≤ Dp.par F (-1) i → (upL (Dp.cpts m (Wa.nrow m z1))).contains (i : Int) = held m (Wa.nrow m z1) F i m) := fun i hi hp => by
      rw [Dp.has_cpts hi, is_inner (Wa.nrow_ok m z1) (Wa.nrow_sym m z1) (Dp.nrow_irr hc) hF hi (by omega)]
    have H0 := Lib.hid hc
    have HF := Lib.hid hF
    have hnn : ((m : Int) != (m : Int)) = false := by simp
    have hnn2 : (m != m) = false := by simp
    clear hc hF
    go_enter Try.func7, Try.ntmps7
    go_wp2_with fail
    refine (DWalk_good m a1 n1 c1 z1 F HF.out _ w1 H0.out).mono ?_
    rintro e x1 ⟨hb1, ga, gb, gc, rfl, oa, ob, oc⟩
    have hr1 := w1.past hb1
    go_wp2_with fail
    refine (DLow_good m a1 n1 c1 z1 F HF.out _ hr1 H0.out).mono ?_
    rintro e x2 ⟨hb2, gl, rfl, ol⟩
    have hr2 := hr1.past hb2
    have oa2 := oa.below hb2
    have oc2 := oc.below hb2
    have hb02 := hb1.trans (hb2.mono hb1.size)
    clear oa ob oc hb1 hb2 hr1
    obtain ⟨y2, hy2⟩ : ∃ y2, y2 = x2.alloc (.cells #[.int .i64 0, .int .i64 1] 35) := ⟨_, rfl⟩
    have hby : Below x2.heap.size x2 y2 := by rw [hy2]; exact (Below.refl _ _).alloc (Nat.le_refl _) _
    have hry : RdP y2 y2.heap.size (some ⟨x2.heap.size, 0, none⟩) 1 1 [(0, 1)] := by rw [hy2]; exact (RdP.one x2 (0, 1) _).more (by simp)
    go_wp2_with fail
    rw [← hy2]
    clear hy2
    refine (Low_fact _ _ hry).mono ?_
    rintro e x3 ⟨hb3, g3, rfl, r3⟩
    have hb23 := hby.trans (hb3.mono hby.size)
    have hr3 := hr2.past hb23
    have oa3 := oa2.below hb23
    have oc3 := oc2.below hb23
    have ol3 := ol.below hb23
    have hb03 := hb02.trans (hb23.mono hb02.size)
    clear oa2 oc2 ol hb23 hb3 hby hry hr2 hb02
    obtain ⟨y3, hy3⟩ : ∃ y3, y3 = x3.alloc (.cells #[.int .i64 0, .int .i64 1] 3) := ⟨_, rfl⟩
    have hby : Below x3.heap.size x3 y3 := by rw [hy3]; exact (Below.refl _ _).alloc (Nat.le_refl _) _
    have s3 : Rd y3 y3.heap.size (some ⟨x3.heap.size, 0, none⟩) 2 2 [0, 1] := by rw [hy3]; exact (Rd.new x3 [0, 1] _ 2 rfl (by omega)).more (by simp)
    go_wp2_with fail
    rw [← hy3]
    clear hy3
    refine (Ints_t _ _ 2 2 _ 2 [0, 1] [0, 1] true _ (r3.past hby) s3 (by decide)).mono ?_
    rintro e x4 ⟨rfl, hb4⟩
    have hb34 := hby.trans (hb4.mono hby.size)
    have hr4 := hr3.past hb34
    have oa4 := oa3.below hb34
    have oc4 := oc3.below hb34
    have ol4 := ol3.below hb34
    have hb04 := hb03.trans (hb34.mono hb03.size)
    clear oa3 oc3 ol3 hb34 hb4 hby s3 hr3 hb03 r3
    go_wp2_with fail
    refine (Points_rd m a1 n1 c1 z1 _ hr4 H0.out).mono ?_
    rintro e x5 ⟨hb5, B5, n5, c5, rfl, HN5, r5⟩
    have oa5 := oa4.below hb5
    have oc5 := oc4.below hb5
    have ol5 := ol4.below hb5
    have hb := hb04.trans (hb5.mono hb04.size)
    have HC : Hid (∀ V : World, Below x5.heap.size x5 V → ∀ j, j < m → V.cell? ⟨ga, j, none⟩ = some (.int .i64 ((Dp.met F 0 j : Nat) : Int)) ∧ V.cell? ⟨gc, j, none⟩ = some (.int .i64 (Dp.par F (-1) j)) ∧ V.cell? ⟨gl, j, none⟩ = some (.int .i64 ((Dp.lows m (Wa.nrow m z1) F).getD j 0))) := by
      intro V hV j hj
      have q1 := oa5.cell j hj
      have q2 := oc5.cell j hj
      have q3 := ol5.cell j hj
      rw [Dp.mets_at F hj] at q1
      rw [Dp.pars_at F hj] at q2
      exact ⟨(hV.cell (p := ⟨ga, j, none⟩) (World.block_lt_of_cell? _ _ q1)).trans q1, (hV.cell (p := ⟨gc, j, none⟩) (World.block_lt_of_cell? _ _ q2)).trans q2, (hV.cell (p := ⟨gl, j, none⟩) (World.block_lt_of_cell? _ _ q3)).trans q3⟩
    clear oa4 oc4 ol4 oa5 oc5 ol5 hb5 hb04 hr4 w1
    go_wp2
    go_loopw [14] (fun iv wr => ∃ i : Nat, i ≤ m ∧ iv = .int .i64 (i : Int) ∧ Below x5.heap.size x5 wr) (fun iv _ => m - (intOf iv).toNat)
    case atStart => exact ⟨0, Nat.zero_le _, rfl, Below.refl _ _⟩
    case round =>
      obtain ⟨i, him, rfl, hbel⟩ := hrel
      by_cases hlt : i < m
      · have ki1 : (0 : Int) ≤ (i : Int) := by omega
        have ki2 : (i : Int) < (m : Int) := by omega
        obtain ⟨W, hW⟩ : ∃ W, W = wr := ⟨_, rfl⟩
        subst hW
        go_wp2
        go_loopw [15, 16, 17] (fun kv hv jv wr => ∃ (j k : Nat) (h : Bool), j ≤ m ∧ jv = .int .i64 (j : Int) ∧ kv = .int .i64 (k : Int) ∧ hv = .bool h ∧ k ≤ j ∧ Hid (k = kids F i j) ∧ Hid (h = held m (Wa.nrow m z1) F i j) ∧ Below x5.heap.size x5 wr) (fun _ _ jv _ => m - (intOf jv).toNat)
        case atStart => exact ⟨0, 0, false, Nat.zero_le _, rfl, rfl, rfl, Nat.le_refl _, rfl, rfl, hbel⟩
        case round =>
          obtain ⟨j, k, h, hj, rfl, rfl, rfl, hkj, HK, HH, hbel2⟩ := hrel
          by_cases hlj : j < m
          · have kj1 : (0 : Int) ≤ (j : Int) := by omega
            have kj2 : (j : Int) < (m : Int) := by omega
            obtain ⟨_, p2, p3⟩ := HC.out wr hbel2 j hlj
            obtain ⟨p1, _, _⟩ := HC.out wr hbel2 i hlt
            have hw : IntKind.i64.wrap ((k : Int) + 1) = ((k + 1 : Nat) : Int) := by rw [IntKind.wrap_i64]; omega
            have hyes : Hid (Dp.par F (-1) j = (i : Int) → k + 1 = kids F i (j + 1) ∧ (h || decide (((Dp.met F 0 i : Nat) : Int) ≤ (Dp.lows m (Wa.nrow m z1) F).getD j 0)) = held m (Wa.nrow m z1) F i (j + 1)) := fun e => ⟨by rw [kids_hit e, HK.out], by rw [held_hit e, HH.out]⟩
            have hno : Hid (¬ Dp.par F (-1) j = (i : Int) → k = kids F i (j + 1) ∧ h = held m (Wa.nrow m z1) F i (j + 1)) := fun e => ⟨by rw [kids_miss e, HK.out], by rw [held_miss e, HH.out]⟩
            generalize Dp.par F (-1) j = pj at p2 hyes hno
            generalize (Dp.lows m (Wa.nrow m z1) F).getD j 0 = lj at p3 hyes
            generalize ((Dp.met F 0 i : Nat) : Int) = mi at p1 hyes
            by_cases e1 : pj = (i : Int)
            · have d1 : (pj == (i : Int)) = true := by simpa using e1
              obtain ⟨r1, r2⟩ := hyes.out e1
              have R1 := Lib.hid r1
              have R2 := Lib.hid r2
              clear e1 r1 r2
              cases h
              · by_cases e2 : mi ≤ lj
                · have R3 : Hid (true = held m (Wa.nrow m z1) F i (j + 1)) := by show _ = _; rw [← R2.out]; simp [e2]
                  have de : decide (mi ≤ lj) = true := by simpa using e2
                  go_wp2
                  go_quiet (fail)
                  go_wp2
                  go_roundw
                  case rel => exact ⟨j + 1, k + 1, true, by omega, by go_num, by go_num, rfl, by omega, R1, R3, hbel2.trans (Below.drewN' _ _ _)⟩
                  case measure => simp [intOf]; omega
                · have R3 : Hid (false = held m (Wa.nrow m z1) F i (j + 1)) := by show _ = _; rw [← R2.out]; simp [e2]
                  have de : decide (mi ≤ lj) = false := by simpa using e2
                  go_wp2
                  go_quiet (fail)
                  go_wp2
                  go_roundw
                  case rel => exact ⟨j + 1, k + 1, false, by omega, by go_num, by go_num, rfl, by omega, R1, R3, hbel2.trans (Below.drewN' _ _ _)⟩
                  case measure => simp [intOf]; omega
              · have R3 : Hid (true = held m (Wa.nrow m z1) F i (j + 1)) := by show _ = _; rw [← R2.out]; simp
                go_wp2
                go_quiet (fail)
                go_wp2
                go_roundw
                case rel => exact ⟨j + 1, k + 1, true, by omega, by go_num, by go_num, rfl, by omega, R1, R3, hbel2.trans (Below.drewN' _ _ _)⟩
                case measure => simp [intOf]; omega
            · have d1 : (pj == (i : Int)) = false := by simpa using e1
              obtain ⟨r1, r2⟩ := hno.out e1
              have R1 := Lib.hid r1
              have R2 := Lib.hid r2
              clear e1 r1 r2
              go_wp2
              go_roundw
              case rel => exact ⟨j + 1, k, h, by omega, by go_num, rfl, rfl, by omega, R1, R2, hbel2⟩
              case measure => simp [intOf]; omega
          · obtain rfl : j = m := by omega
            obtain ⟨_, p2, _⟩ := HC.out wr hbel2 i hlt
            have h1 : Hid (Dp.par F (-1) i < 0 → (upL (Dp.cpts j (Wa.nrow j z1))).contains (i : Int) = decide (1 < k)) := fun hp => by rw [hroot.out i hlt hp, HK.out]
            have h2 : Hid (¬ Dp.par F (-1) i < 0 → (upL (Dp.cpts j (Wa.nrow j z1))).contains (i : Int) = h) := fun hp => by rw [hinner.out i hlt (by omega), HH.out]
            generalize Dp.par F (-1) i = pi at p2 h1 h2
            by_cases e1 : pi < 0
            · have T0 := h1.out e1
              by_cases e2 : 1 < k
              · have d2 : (1 : Int) < (k : Int) := by omega
                have d3 : decide (1 < k) = true := by simpa using e2
                have T := Lib.hid (T0.trans d3)
                clear T0
                go_wp2_with fail
                refine (Has_any B5 n5 c5 _ (i : Int) true _ (r5.past hbel2) T.out).mono ?_
                rintro e _ ⟨rfl, rfl⟩
                go_wp2
                go_roundw
                case rel => exact ⟨i + 1, by omega, by go_num, hbel2⟩
                case measure => simp [intOf]; omega
              · have d2 : ¬ (1 : Int) < (k : Int) := by omega
                have d3 : decide (1 < k) = false := by simpa using e2
                have T := Lib.hid (T0.trans d3)
                clear T0
                go_wp2_with fail
                refine (Has_any B5 n5 c5 _ (i : Int) false _ (r5.past hbel2) T.out).mono ?_
                rintro e _ ⟨rfl, rfl⟩
                go_wp2
                go_roundw
                case rel => exact ⟨i + 1, by omega, by go_num, hbel2⟩
                case measure => simp [intOf]; omega
            · have T := Lib.hid (h2.out e1)
              go_wp2_with fail
              refine (Has_any B5 n5 c5 _ (i : Int) h _ (r5.past hbel2) T.out).mono ?_
              rintro e _ ⟨rfl, rfl⟩
              have hbb : (h != h) = false := by cases h <;> rfl
              go_wp2
              go_roundw
              case rel => exact ⟨i + 1, by omega, by go_num, hbel2⟩
              case measure => simp [intOf]; omega
      · obtain rfl : i = m := by omega
        go_wp2
        go_ret
        exact ⟨rfl, hb.trans (hbel.mono hb.size)⟩
  · have H := Lib.hid hc
    clear hc
    go_enter Try.func7, Try.ntmps7
    go_wp2_with fail
    refine (DWalk_err a0 a1 n1 c1 z1 _ w1 H.out).mono ?_
    rintro e x1 ⟨rfl, hb1⟩
    have hr1 := w1.past hb1
    go_wp2_with fail
    refine (DLow_err a0 a1 n1 c1 z1 _ hr1 H.out).mono ?_
    rintro e x2 ⟨rfl, hb2⟩
    have hb02 := hb1.trans (hb2.mono hb1.size)
    clear hb1 hb2 hr1
    obtain ⟨y2, hy2⟩ : ∃ y2, y2 = x2.alloc (.cells #[.int .i64 0, .int .i64 1] 35) := ⟨_, rfl⟩
    have hby : Below x2.heap.size x2 y2 := by rw [hy2]; exact (Below.refl _ _).alloc (Nat.le_refl _) _
    have hry : RdP y2 y2.heap.size (some ⟨x2.heap.size, 0, none⟩) 1 1 [(0, 1)] := by rw [hy2]; exact (RdP.one x2 (0, 1) _).more (by simp)
    go_wp2_with fail
    rw [← hy2]
    clear hy2
    refine (Low_fact _ _ hry).mono ?_
    rintro e x3 ⟨hb3, g3, rfl, r3⟩
    have hb23 := hby.trans (hb3.mono hby.size)
    have hb03 := hb02.trans (hb23.mono hb02.size)
    clear hb23 hb3 hby hry hb02
    obtain ⟨y3, hy3⟩ : ∃ y3, y3 = x3.alloc (.cells #[.int .i64 0, .int .i64 1] 3) := ⟨_, rfl⟩
    have hby : Below x3.heap.size x3 y3 := by rw [hy3]; exact (Below.refl _ _).alloc (Nat.le_refl _) _
    have s3 : Rd y3 y3.heap.size (some ⟨x3.heap.size, 0, none⟩) 2 2 [0, 1] := by rw [hy3]; exact (Rd.new x3 [0, 1] _ 2 rfl (by omega)).more (by simp)
    go_wp2_with fail
    rw [← hy3]
    clear hy3
    refine (Ints_t _ _ 2 2 _ 2 [0, 1] [0, 1] true _ (r3.past hby) s3 (by decide)).mono ?_
    rintro e x4 ⟨rfl, hb4⟩
    have hb34 := hby.trans (hb4.mono hby.size)
    have hb04 := hb03.trans (hb34.mono hb03.size)
    go_wp2
    go_ret
    exact ⟨rfl, hb04⟩

end Go.Proofs.Ytehkkpkhpbbpnaa.topDeep
