/-
  The contract of Deep of package topo: how deep each point is, or what is wrong.
-/
import Derived.Test.YtinglgnddmadaaaDoorTopoO
import Derived.Test.YtinglgnddmadaaaDoorTopoT
namespace Go.Proofs.YtinglgnddmadaaaDoor
open Go.RowKit Go.Shelf

attribute [local go_sem] Oper.semAt_some
set_option linter.unusedSimpArgs false
set_option linter.unusedVariables false

/-- what Deep hands back -/
def DepPost (n : Int) (ls : List Gr.Ln) (w : World) (e : Ending) (w' : World) : Prop :=
  Below w.heap.size w w' ∧ ((Gr.code n ls ≠ 0 ∧ e = .returned (.tuple #[.slice none 0 0, errv (Gr.code n ls)])) ∨
    (Gr.code n ls = 0 ∧ ∃ o, To.Step n.toNat ls o ∧ To.Stuck n.toNat ls o ∧ ((o.length < n.toNat ∧ e = .returned (.tuple #[.slice none 0 0, errv 5])) ∨
      (o.length = n.toNat ∧ ∃ v, e = .returned (.tuple #[v, .nilIface]) ∧ Own w' w.heap.size 3 v (To.deps n.toNat ls)))))

theorem Deep_err (n : Int) (A : Option Addr) (k c : Nat) (ls : List Gr.Ln) (w : World) (hr : RdP w w.heap.size A k c ls) (h : Gr.code n ls ≠ 0) :
    Calls Tryd.prog 16 #[.int .i64 n, .slice A k c] w (DepPost n ls w) := by
  have H := Lib.hid h
  clear h
  go_enter Tryd.func16, Tryd.ntmps16
  go_wp2_with fail
  refine (Order_any n A k c ls _ hr).mono ?_
  rintro e w1 ⟨hb, (⟨_, rfl⟩ | ⟨h0, _⟩)⟩
  · go_wp2
    go_ret2
    exact ⟨hb, .inl ⟨H.out, rfl⟩⟩
  · exact absurd h0 H.out

theorem Deep_bad (m : Nat) (A : Option Addr) (k c : Nat) (ls : List Gr.Ln) (o : List Int) (w : World) (hr : RdP w w.heap.size A k c ls) (h : Gr.code (m : Int) ls = 0) (hstep : To.Step m ls o) (hstuck : To.Stuck m ls o) (hlt : o.length < m) :
    Calls Tryd.prog 16 #[.int .i64 (m : Int), .slice A k c] w (DepPost (m : Int) ls w) := by
  have H := Lib.hid h
  have HL := Lib.hid hlt
  clear h hlt
  go_enter Tryd.func16, Tryd.ntmps16
  go_wp2_with fail
  refine (Order_bad m A k c ls o _ hr H.out hstep hstuck HL.out).mono ?_
  rintro e w1 ⟨rfl, hb⟩
  go_wp2
  go_ret2
  exact ⟨hb, .inr ⟨H.out, o, by rw [Int.toNat_natCast]; exact hstep, by rw [Int.toNat_natCast]; exact hstuck, .inl ⟨by rw [Int.toNat_natCast]; exact HL.out, rfl⟩⟩⟩

/-- what holds between two rounds: i points of the order have been asked -/
def DepI (m : Nat) (A : Option Addr) (k c : Nat) (ls : List Gr.Ln) (o : List Int) (w : World) (A1 : Option Addr) (c1 s1 i : Nat) (Ds : List Nat) (W : World) : Prop :=
  ∃ zs, Own W s1 3 (.slice (some ⟨s1, 0, none⟩) m m) zs ∧ To.Cnt m (fun j => To.dpF ls m (j : Int)) (To.qk ls o i) zs ∧ W.cell? ⟨s1 + 1, 0, none⟩ = some (.slice (some ⟨s1, 0, none⟩) m m) ∧ Below w.heap.size w W ∧
  Rd W s1 A1 m c1 o ∧ RdP W s1 A k c ls ∧ s1 + 1 < W.heap.size ∧ Ds.Nodup ∧ ∀ D ∈ Ds, s1 + 1 < D ∧ W.heap[D]? = some (.deferred (some []))
theorem run_max2 (x p : Int) (ats : Array TypeId) (ty : TypeId) (W : World) : (Builtin.max_ ats ty #[.int .i64 x, .int .i64 p]).run Tryd.prog W = .ok (.int .i64 (max x p)) W := by
  by_cases h1 : x < p
  · have e1 : max x p = p := by omega
    simp [Builtin.max_, Builtin.max2, h1, e1]
  · have e1 : max x p = x := by omega
    simp [Builtin.max_, Builtin.max2, h1, e1]

set_option maxRecDepth 100000 in
set_option maxHeartbeats 4000000 in
theorem Deep_ok (m : Nat) (A : Option Addr) (k c : Nat) (ls : List Gr.Ln) (o : List Int) (w : World) (hr : RdP w w.heap.size A k c ls) (h : Gr.code (m : Int) ls = 0) (hstep : To.Step m ls o) (hl : o.length = m) :
    CallsIn Fence.wide 10 Tryd.prog 16 #[.int .i64 (m : Int), .slice A k c] w (DepPost (m : Int) ls w) := by
  have hm8 : m ≤ 8 := by have := (Gr.code_zero.1 h).2.1; omega
  have hm1 : 1 ≤ m := by have := (Gr.code_zero.1 h).1; omega
  have HG := Lib.hid (Gr.code_zero.1 h).2.2.2
  have H := Lib.hid h
  have HST := Lib.hid hstep
  have HL := Lib.hid hl
  clear h hstep hl
  obtain ⟨i0, hi, hz0, hz1, hz2⟩ := info_parts intInfo
  have hml : m ≤ maxLen := by simp only [maxLen]; omega
  have hby : i0.bytes * m ≤ 281474976710656 := by rw [hz2]; omega
  have hro : Fence.wide.round = none := rfl
  have hF1 : Fence.wide.fn 24 := trivial
  have hF3 : Fence.wide.fn 27 := trivial
  refine callsIn_of_wp_marks Tryd.func16 rfl trivial ?_ hro
  simp only [Tryd.ntmps16, List.size_toArray, List.length_cons, List.length_nil, Nat.reduceAdd, Nat.reduceSub, Array.replicate_succ, Array.replicate_zero, List.push_toArray, List.append_toArray, List.nil_append, List.cons_append]
  gi_wp2_with (first
    | (gi_at_call 24; refine (callsIn_wide.2 (Order_good m A k c ls o _ hr H.out HST.out HL.out)).mono ?_; rintro e w1 ⟨A1, c1, rfl, hown, hb⟩; have hbs := hb.size; have hr1 := hr.below hb)
    | (gi_at_make; refine wpListIn_mk _ rfl (.tmp 21) (.tmp 21) 24 rfl w1.heap.size 3 i0 (.int .i64 0) 1 Tryd.underlying24 hi hz0 hz1 .i64 .i64 m rfl rfl hby hml (Nat.le_refl _) ?_; intro w2 hrow2 hg2 hsz2))
  obtain ⟨s1, hs1⟩ : ∃ s1, s1 = w1.heap.size := ⟨_, rfl⟩
  rw [← hs1] at hrow2 hsz2 hbs ⊢
  obtain ⟨W0, hW0⟩ : ∃ W0, W0 = w2.alloc (.cells #[.slice (some ⟨s1, 0, none⟩) m m] 24) := ⟨_, rfl⟩
  rw [← hW0]
  have hsz : W0.heap.size = s1 + 2 := by rw [hW0]; simp [hsz2]
  have hb12 : Below s1 w1 w2 := (Below.refl _ _).grown hg2 (by omega) (fun _ e => by cases e)
  have hb02 : Below w2.heap.size w2 W0 := by rw [hW0]; exact (Below.refl _ _).alloc (Nat.le_refl _) _
  have hb1w : Below s1 w1 W0 := hb12.trans (hb02.mono (by omega))
  have hrd : Rd W0 s1 A1 m c1 o := by have := hown.rd'; rw [← hs1] at this; exact this.below hb1w
  have hI0 : DepI m A k c ls o w A1 c1 s1 0 [] W0 := by
    refine ⟨List.replicate m 0, ?_, To.Cnt.first HST.out HL.out HG.out _, ?_, hb.trans (hb1w.mono hbs), hrd, (hr1.more hbs).below hb1w, by omega, List.nodup_nil, fun D hD => by simp at hD⟩
    · exact (Own.made hrow2).below hb02
    · rw [hW0]
      have := Boxed.new w2 24 (.slice (some ⟨s1, 0, none⟩) m m)
      rw [hsz2] at this
      exact this.cell
  clear hW0 hrow2 hg2 hsz2 hb12 hb02 hb1w hrd hown hr1 hb hs1 hsz
  refine wpIn_loop (fun a' w' => ∃ (i : Nat) (Ds : List Nat) (u10 u11 u26 u27 u28 u29 u30 u31 u32 u33 u34 u35 u36 u37 u38 u39 u40 u41 u42 u43 u44 u45 u46 : Value), a' = { tmps := #[.int .i64 (m : Int), .slice A k c, undef, undef, .slice none 0 0, .nilIface, .slice A1 m c1, .nilIface, .pointer (some ⟨s1 + 1, 0, none⟩), undef, u10, u11, .tuple #[.slice A1 m c1, .nilIface], .int .i64 (m : Int), .slice A k c,
      .tuple #[.slice A1 m c1, .nilIface], .slice A1 m c1, .nilIface, .nilIface, .bool false, undef, .int .i64 (m : Int), .slice (some ⟨s1, 0, none⟩) m m, .slice A1 m c1, .int .i64 (m : Int), .int .i64 (i : Int), u26, u27, u28, u29, u30, u31, u32, u33, u34, u35, u36, u37, u38, u39, u40, u41, u42, u43, u44, u45, u46, undef], defers := Ds.map fun D => { target := .collected D, args := #[] } } ∧ i ≤ m ∧ DepI m A k c ls o w A1 c1 s1 i Ds w')
    (fun a' _ => m - (intOf (a'.tmps.getD 25 undef)).toNat) ⟨0, [], _, _, _, _, _, _, _, _, _, _, _, _, _, _, _, _, _, _, _, _, _, _, _, rfl, Nat.zero_le _, hI0⟩ ?_
  clear hI0
  rintro a' W ⟨i, Ds, u10, u11, u26, u27, u28, u29, u30, u31, u32, u33, u34, u35, u36, u37, u38, u39, u40, u41, u42, u43, u44, u45, u46, rfl, him, zs, hown, hcnt, hc, hB, hrd, hrp, hsW, hnd, hDs⟩
  have HDs := Lib.hid hDs
  clear hDs
  by_cases hlt : i < m
  · have hi1 : (0 : Int) ≤ (i : Int) := by omega
    have hi2 : (i : Int) < (m : Int) := by omega
    obtain ⟨v, hv, hx, _⟩ := HST.out i (by rw [HL.out]; exact hlt)
    obtain ⟨bo, oo, rfl, hbo, hco⟩ := hrd.at_ (by omega)
    have g1 := hco i hlt
    rw [hx] at g1
    clear hco
    have HX := Lib.hid hx
    clear hx
    have hv1 : (0 : Int) ≤ (v : Int) := by omega
    have hv2 : (v : Int) < (m : Int) := by omega
    obtain ⟨sW, hsW2⟩ : ∃ sW, sW = W.heap.size := ⟨_, rfl⟩
    obtain ⟨V, hV⟩ : ∃ V, V = (((W.alloc (.cells #[.int .i64 (v : Int)] 3)).alloc (.cells #[.slice A k c] 22)).alloc (.cells #[.int .i64 (v : Int)] 3)) := ⟨_, rfl⟩
    have HV := Lib.hid hV
    have HSW := Lib.hid hsW2
    have hVs : V.heap.size = sW + 3 := by rw [hV]; simp [hsW2]
    have hVb : Below W.heap.size W V := by rw [hV]; exact (((Below.refl _ _).alloc (Nat.le_refl _) _).alloc (by simp) _).alloc (by simp; omega) _
    have hVc : V.cell? ⟨sW, 0, none⟩ = some (.int .i64 (v : Int)) := by
      rw [hV, hsW2]
      exact ((Boxed.new W 3 (.int .i64 (v : Int))).alloc _).alloc _ |>.cell
    have hG0 : TaG s1 (sW + 1) (sW + 2) A k c ls (v : Int) V := by
      refine ⟨by omega, hrp.below (hVb.mono (by omega)), ?_, ?_⟩
      · rw [hV]
        have := Boxed.new (W.alloc (.cells #[.int .i64 (v : Int)] 3)) 22 (.slice A k c)
        rw [World.size_alloc, ← hsW2] at this
        exact (this.alloc _).cell
      · rw [hV]
        have := Boxed.new ((W.alloc (.cells #[.int .i64 (v : Int)] 3)).alloc (.cells #[.slice A k c] 22)) 3 (.int .i64 (v : Int))
        rw [World.size_alloc, World.size_alloc, ← hsW2] at this
        exact this.cell
    have hownV := hown.below hVb
    have hcV := (hVb.cell (p := ⟨s1 + 1, 0, none⟩) (show s1 + 1 < _ by omega)).trans hc
    have hBV := hB.trans (hVb.mono hB.size)
    have HDV : Hid (∀ D ∈ Ds, s1 + 1 < D ∧ D < V.heap.size ∧ V.heap[D]? = some (.deferred (some []))) := by
      intro D hD
      have h1 := HDs.out D hD
      have h2 := (Array.getElem?_eq_some_iff.1 h1.2).1
      exact ⟨h1.1, by have := hVb.size; omega, (hVb.block D h2).trans h1.2⟩
    have hrdV := hrd.below (hVb.mono (by omega))
    have hrpV := hrp.below (hVb.mono (by omega))
    rw [← hsW2] at hsW
    clear hV hsW2 hVb hown hc hB hrd hrp HDs
    have hcb : (W.alloc (.cells #[.int .i64 (v : Int)] 3)).cell? ⟨W.heap.size, 0, none⟩ = some (.int .i64 (v : Int)) := by simp
    gi_wp2_with (gi_at_call 27; refine (callsIn_wide.2 (targets_any _ _ _ _ _)).mono ?_; rintro e w4 ⟨rfl, rfl⟩)
    clear hcb g1
    rw [← HV.out]
    simp only [World.size_alloc, ← HSW.out, Nat.add_assoc, Nat.reduceAdd]
    clear HV HSW
    refine wpIn_range_cells hro (by omega) (gf := 34) (lb := #[.pointer (some ⟨sW + 1, 0, none⟩), .pointer (some ⟨sW + 2, 0, none⟩)]) rfl trivial (enters_of Tryd.func34 (by kernel_rfl) rfl) (X := fun k => k = s1) (zs := To.tg ls (v : Int))
      (targets1_seq s1 (sW + 1) (sW + 2) A k c ls (v : Int) _ V hG0 (fun k hk => by omega) (fun k hk => by omega) (by omega) (by omega))
      (fun k hk => by omega) (fun _ => rfl)
      (fun pre U => ∃ zs, Own U s1 3 (.slice (some ⟨s1, 0, none⟩) m m) zs ∧ To.Cnt m (fun j => To.dpF ls m (j : Int)) (To.qm ls o i v pre) zs ∧ U.cell? ⟨s1 + 1, 0, none⟩ = some (.slice (some ⟨s1, 0, none⟩) m m) ∧ U.cell? ⟨sW, 0, none⟩ = some (.int .i64 (v : Int)) ∧ Below w.heap.size w U ∧ Rd U s1 (some ⟨bo, oo, none⟩) m c1 o ∧ RdP U s1 A k c ls ∧ sW < U.heap.size ∧ ∀ D ∈ Ds, U.heap[D]? = some (.deferred (some [])))
      (fun _ _ => False)
      (fun pre U U' h hb => by
        obtain ⟨zs, h1, h2, h3, h4, h5, h6, h7, h8, h9⟩ := h
        exact ⟨zs, h1.same (fun k hk => by cases hk; exact hb.block s1 (by omega)), h2, (hb.cell (p := ⟨s1 + 1, 0, none⟩) (show s1 + 1 < _ by omega)).trans h3, (hb.cell (p := ⟨sW, 0, none⟩) (show sW < _ by omega)).trans h4, h5.trans (hb.mono (by omega)), h6.below (hb.mono (by omega)), h7.below (hb.mono (by omega)), by have := hb.size; omega, fun D hD => (hb.block D (HDV.out D hD).2.1).trans (h9 D hD)⟩)
      (fun _ _ _ h _ => h) ⟨zs, hownV, hcnt.begin, hcV, hVc, hBV, hrdV, hrpV, by omega, fun D hD => (HDV.out D hD).2.2⟩
      (fun x => { tmps := #[.int .i64 (m : Int), .slice A k c, undef, undef, .slice none 0 0, .nilIface, .slice (some ⟨bo, oo, none⟩) m c1, .nilIface, .pointer (some ⟨s1 + 1, 0, none⟩), undef, .pointer (some ⟨sW, 0, none⟩), .int .i64 x, .tuple #[.slice (some ⟨bo, oo, none⟩) m c1, .nilIface], .int .i64 (m : Int), .slice A k c,
        .tuple #[.slice (some ⟨bo, oo, none⟩) m c1, .nilIface], .slice (some ⟨bo, oo, none⟩) m c1, .nilIface, .nilIface, .bool false, undef, .int .i64 (m : Int), .slice (some ⟨s1, 0, none⟩) m m, .slice (some ⟨bo, oo, none⟩) m c1, .int .i64 (m : Int), .int .i64 (i : Int), .bool true, .pointer (some ⟨bo, oo + i, none⟩), .int .i64 (v : Int),
        .slice A k c, .int .i64 (v : Int), .func (.func 34) #[] #[.pointer (some ⟨sW + 1, 0, none⟩), .pointer (some ⟨sW + 2, 0, none⟩)], .int .i64 x, u33, u34, u35, u36, u37, u38, u39, u40, u41, u42, u43, u44, u45, u46, undef], defers := [] }) ?assign ?body ?done ?stop
    case assign =>
      intro x l W K hK
      simp only [encI]
      gi_wp2
      exact hK
    case body =>
      rintro pre x hpre l W ⟨zs, hown, hcnt, hc, hc2, hB, hrd, hrp, hsU, hDs⟩
      have hh := To.mem_tg.1 (hpre.subset (show x ∈ pre ++ [x] by simp))
      obtain ⟨v', u, e1, rfl, _, hu, hne⟩ := To.ends HG.out hh
      obtain rfl : v = v' := by omega
      have hpre2 : ∀ y ∈ pre, Gr.has ls (v : Int) y = true := fun y hy => To.mem_tg.1 (hpre.subset (List.mem_append_left _ hy))
      have hd := hcnt.val (ls := ls) hv (fun c => To.qm_val HG.out HST.out HL.out hlt HX.out hpre2 c) (To.dep_lines HG.out HST.out HL.out hv)
      have hds := To.dep_small HG.out HST.out HL.out hv
      have hnext := hcnt.snoc (w := u) hu
      have hyn := hcnt.nn hu
      have HNX := Lib.hid hnext
      clear hnext hh hpre2 hpre e1
      have hu1 : (0 : Int) ≤ (u : Int) := by omega
      have hu2 : (u : Int) < (m : Int) := by omega
      have g1 := hown.cell u hu
      have g2 := hown.cell v hv
      have g3 := hown.frozen u
      rw [hd] at g2
      obtain ⟨d, hdd⟩ : ∃ d : Int, d = (To.dpF ls m (v : Int) : Int) := ⟨_, rfl⟩
      obtain ⟨y, hy⟩ : ∃ y : Int, y = zs.getD u 0 := ⟨_, rfl⟩
      obtain ⟨d1, hd1⟩ : ∃ d1 : Int, d1 = d + 1 := ⟨_, rfl⟩
      obtain ⟨z, hz⟩ : ∃ z : Int, z = max y d1 := ⟨_, rfl⟩
      have hmx : ∀ ats ty W, (Builtin.max_ ats ty #[.int .i64 y, .int .i64 d1]).run Tryd.prog W = .ok (.int .i64 z) W := fun ats ty W => by rw [hz]; exact run_max2 y d1 ats ty W
      have hwr : IntKind.i64.wrap (d + 1) = d1 := by rw [IntKind.wrap_i64] <;> omega
      have HZ : Hid (z = max (zs.getD u 0) ((To.dpF ls m (v : Int) : Int) + 1)) := by show _ = _; rw [hz, hy, hd1, hdd]
      rw [← hdd] at g2
      rw [← hy] at g1
      clear hd hds hyn hdd hy hd1 hz hcnt
      have HD2 := Lib.hid hDs
      clear hDs
      gi_wp2
      have hS0 : W.drew.cell? ⟨s1 + 1, 0, none⟩ = some (.slice (some ⟨s1, 0, none⟩) m m) ∧ W.drew.cell? ⟨sW, 0, none⟩ = some (.int .i64 (v : Int)) ∧ W.drew.cell? ⟨s1, v, none⟩ = some (.int .i64 d) := ⟨hc, hc2, g2⟩
      refine wpIn_round_held (S := fun w' => w'.cell? ⟨s1 + 1, 0, none⟩ = some (.slice (some ⟨s1, 0, none⟩) m m) ∧ w'.cell? ⟨sW, 0, none⟩ = some (.int .i64 (v : Int)) ∧ w'.cell? ⟨s1, v, none⟩ = some (.int .i64 d)) (by kernel_rfl) ?hnd ?hno hS0 ?hgo
      case hnd =>
        intro j o ho c hd
        have hmem := Array.mem_of_getElem? ho
        simp only [List.mem_toArray, List.mem_cons, List.not_mem_nil, or_false] at hmem
        rcases hmem with rfl | rfl | rfl | rfl | rfl | rfl | rfl | rfl | rfl | rfl | rfl | rfl | rfl | rfl <;> cases hd
      case hno =>
        rintro ⟨_, _, h⟩
        exact h
      case hgo =>
          intro hS1
          clear hS0
          obtain ⟨Wd, hWd⟩ : ∃ Wd, Wd = W.drew := ⟨_, rfl⟩
          have hownD : Own Wd s1 3 (.slice (some ⟨s1, 0, none⟩) m m) zs := by rw [hWd]; exact hown
          have hbD : Below W.heap.size W Wd := by rw [hWd]; exact ⟨rfl, rfl, rfl, Nat.le_refl _, fun _ _ => rfl⟩
          have gD1 : Wd.cell? ⟨s1, u, none⟩ = some (.int .i64 y) := by rw [hWd]; exact g1
          have gD3 : Wd.frozen? ⟨s1, u, none⟩ = false := by rw [hWd]; exact g3
          have hkD : Kept (fun k => k = s1) W Wd := by rw [hWd]; exact ⟨Nat.le_refl _, fun _ _ _ => rfl⟩
          rw [← hWd] at hS1 ⊢
          clear hWd g1 g2 g3 hown
          have hSd : (Wd.setCell ⟨s1, u, none⟩ (.int .i64 z)).cell? ⟨s1 + 1, 0, none⟩ = some (.slice (some ⟨s1, 0, none⟩) m m) ∧ (Wd.setCell ⟨s1, u, none⟩ (.int .i64 z)).cell? ⟨sW, 0, none⟩ = some (.int .i64 (v : Int)) ∧ (Wd.setCell ⟨s1, u, none⟩ (.int .i64 z)).cell? ⟨s1, v, none⟩ = some (.int .i64 d) := by
            obtain ⟨a1, a2, a3⟩ := hS1
            refine ⟨?_, ?_, ?_⟩
            · rw [World.cell?_setCell_other _ _ _ _ (fun e => by have : s1 = s1 + 1 := (congrArg Addr.block e); omega)]; exact a1
            · rw [World.cell?_setCell_other _ _ _ _ (fun e => by have : s1 = sW := (congrArg Addr.block e); omega)]; exact a2
            · rw [World.cell?_setCell_other _ _ _ _ (fun e => by have : u = v := (congrArg Addr.off e); omega)]; exact a3
          refine wpAnyH_take (i := 0) (v := .slice (some ⟨s1, 0, none⟩) m m) rfl (by kernel_rfl) (by kernel_rfl) (by kernel_rfl) (fun _ _ _ h => h) (Or.inl ⟨by rfl, ?_⟩) (by assumption) ?_
          · intro w hSw
            obtain ⟨hSa, hSb, hSc⟩ := hSw
            go_simp
          simp only [Act.put, List.setIfInBounds_toArray, List.set_cons_zero, List.set_cons_succ]
          refine wpAnyH_take (i := 1) (v := .int .i64 (u : Int)) rfl (by kernel_rfl) (by kernel_rfl) (by kernel_rfl) (fun _ _ _ h => h) (Or.inl ⟨by rfl, ?_⟩) (by assumption) ?_
          · intro w hSw
            obtain ⟨hSa, hSb, hSc⟩ := hSw
            go_simp
          simp only [Act.put, List.setIfInBounds_toArray, List.set_cons_zero, List.set_cons_succ]
          refine wpAnyH_take (i := 2) (v := .slice (some ⟨s1, 0, none⟩) m m) rfl (by kernel_rfl) (by kernel_rfl) (by kernel_rfl) (fun _ _ _ h => h) (Or.inl ⟨by rfl, ?_⟩) (by assumption) ?_
          · intro w hSw
            obtain ⟨hSa, hSb, hSc⟩ := hSw
            go_simp
          simp only [Act.put, List.setIfInBounds_toArray, List.set_cons_zero, List.set_cons_succ]
          refine wpAnyH_take (i := 3) (v := .int .i64 (u : Int)) rfl (by kernel_rfl) (by kernel_rfl) (by kernel_rfl) (fun _ _ _ h => h) (Or.inl ⟨by rfl, ?_⟩) (by assumption) ?_
          · intro w hSw
            obtain ⟨hSa, hSb, hSc⟩ := hSw
            go_simp
          simp only [Act.put, List.setIfInBounds_toArray, List.set_cons_zero, List.set_cons_succ]
          refine wpAnyH_take (i := 4) (v := .pointer (some ⟨s1, u, none⟩)) rfl (by kernel_rfl) (by kernel_rfl) (by kernel_rfl) (fun _ _ _ h => h) (Or.inl ⟨by rfl, ?_⟩) (by assumption) ?_
          · intro w hSw
            obtain ⟨hSa, hSb, hSc⟩ := hSw
            go_simp
          simp only [Act.put, List.setIfInBounds_toArray, List.set_cons_zero, List.set_cons_succ]
          refine wpAnyH_take (i := 6) (v := .slice (some ⟨s1, 0, none⟩) m m) rfl (by kernel_rfl) (by kernel_rfl) (by kernel_rfl) (fun _ _ _ h => h) (Or.inl ⟨by rfl, ?_⟩) (by assumption) ?_
          · intro w hSw
            obtain ⟨hSa, hSb, hSc⟩ := hSw
            go_simp
          simp only [Act.put, List.setIfInBounds_toArray, List.set_cons_zero, List.set_cons_succ]
          refine wpAnyH_take (i := 7) (v := .int .i64 (v : Int)) rfl (by kernel_rfl) (by kernel_rfl) (by kernel_rfl) (fun _ _ _ h => h) (Or.inl ⟨by rfl, ?_⟩) (by assumption) ?_
          · intro w hSw
            obtain ⟨hSa, hSb, hSc⟩ := hSw
            go_simp
          simp only [Act.put, List.setIfInBounds_toArray, List.set_cons_zero, List.set_cons_succ]
          refine wpAnyH_take (i := 8) (v := .pointer (some ⟨s1, v, none⟩)) rfl (by kernel_rfl) (by kernel_rfl) (by kernel_rfl) (fun _ _ _ h => h) (Or.inl ⟨by rfl, ?_⟩) (by assumption) ?_
          · intro w hSw
            obtain ⟨hSa, hSb, hSc⟩ := hSw
            go_simp
          simp only [Act.put, List.setIfInBounds_toArray, List.set_cons_zero, List.set_cons_succ]
          refine wpAnyH_take (i := 9) (v := .int .i64 d) rfl (by kernel_rfl) (by kernel_rfl) (by kernel_rfl) (fun _ _ _ h => h) (Or.inl ⟨by rfl, ?_⟩) (by assumption) ?_
          · intro w hSw
            obtain ⟨hSa, hSb, hSc⟩ := hSw
            go_simp
          simp only [Act.put, List.setIfInBounds_toArray, List.set_cons_zero, List.set_cons_succ]
          refine wpAnyH_take (i := 10) (v := .int .i64 d1) rfl (by kernel_rfl) (by kernel_rfl) (by kernel_rfl) (fun _ _ _ h => h) (Or.inl ⟨by rfl, ?_⟩) (by assumption) ?_
          · intro w hSw
            obtain ⟨hSa, hSb, hSc⟩ := hSw
            go_simp
          simp only [Act.put, List.setIfInBounds_toArray, List.set_cons_zero, List.set_cons_succ]
          refine wpAnyH_ready (rs := [5]) (by kernel_rfl) (by simp) ?_
          refine AllReadyH.cons rfl (fun K hK => ?_) AllReadyH.nil
          go_simp
          refine hK.out _ _ hS1 (fun _ => ?_)
          clear hK K
          try simp only [Act.put, List.setIfInBounds_toArray, List.set_cons_zero, List.set_cons_succ]
          refine wpAnyH_take (i := 11) (v := .int .i64 z) rfl (by kernel_rfl) (by kernel_rfl) (by kernel_rfl) (fun _ _ _ h => h) (Or.inl ⟨by rfl, ?_⟩) (by assumption) ?_
          · intro w hSw
            obtain ⟨hSa, hSb, hSc⟩ := hSw
            go_simp
          simp only [Act.put, List.setIfInBounds_toArray, List.set_cons_zero, List.set_cons_succ]
          refine wpAnyH_take (i := 12) (v := .pointer (some ⟨s1, u, none⟩)) rfl (by kernel_rfl) (by kernel_rfl) (by kernel_rfl) (fun _ _ _ h => h) (Or.inl ⟨by rfl, ?_⟩) (by assumption) ?_
          · intro w hSw
            obtain ⟨hSa, hSb, hSc⟩ := hSw
            go_simp
          simp only [Act.put, List.setIfInBounds_toArray, List.set_cons_zero, List.set_cons_succ]
          refine wpAnyH_ready (rs := [13]) (by kernel_rfl) (by simp) ?_
          refine AllReadyH.cons rfl (fun K hK => ?_) AllReadyH.nil
          go_simp
          refine hK.out _ _ hSd (fun _ => ?_)
          clear hK K
          refine wpAnyH_done (by kernel_rfl) ?_ _
          have hbS : Below s1 W (Wd.setCell ⟨s1, u, none⟩ (.int .i64 z)) := (hbD.mono (by omega)).setCell (p := ⟨s1, u, none⟩) (show s1 ≤ s1 by omega) _
          refine ⟨⟨by have := hkD.1; simp; exact this, fun j hj hx => ?_⟩, zs.set u z, (hownD.store u z).1, ?_, hSd.1, hSd.2.1, hB.trans (hbS.mono hbs), hrd.below hbS, hrp.below hbS, ?_, fun D hD => ?_⟩
          · rw [Below.heap_setCell _ _ _ _ (fun e => hx e)]
            exact hkD.2 j hj hx
          · rw [HZ.out]; exact HNX.out
          · have := hbS.size; omega
          · have hlt := (Array.getElem?_eq_some_iff.1 (HD2.out D hD)).1
            rw [Below.heap_setCell _ _ _ _ (show D ≠ s1 by have := (HDV.out D hD).1; omega)]
            exact (hbD.block D hlt).trans (HD2.out D hD)
    case done =>
      rintro D U hD ⟨zs, hown, hcnt, hc, _, hB, hrd, hrp, hsU, hDs⟩ hK
      have HF : DepI m A k c ls o w (some ⟨bo, oo, none⟩) c1 s1 (i + 1) (D :: Ds) U := by
        refine ⟨zs, hown, hcnt.next HG.out HST.out HL.out hlt HX.out, hc, hB, hrd, hrp, by omega, List.nodup_cons.2 ⟨fun hx => by have := (HDV.out D hx).2.1; omega, hnd⟩, fun E hE => ?_⟩
        rcases List.mem_cons.1 hE with rfl | hE
        · exact ⟨by omega, hK⟩
        · exact ⟨(HDV.out E hE).1, hDs E hE⟩
      clear hown hc hB hrd hrp hDs hK hcnt
      gi_wp2
      refine ⟨⟨i + 1, D :: Ds, ?_⟩, by simp [intOf]; omega⟩
      (repeat apply Exists.intro)
      exact ⟨rfl, by omega, HF⟩
    case stop =>
      rintro D pre W _ _ h _
      exact h.elim
  · obtain rfl : i = m := by omega
    gi_wp2
    refine leaves_marks (fun U => Own U s1 3 (.slice (some ⟨s1, 0, none⟩) i i) (To.deps i ls) ∧ Below w.heap.size w U) (s1 + 2) ?_ ?_ Ds W hnd (fun D hD => ⟨by have := (HDs.out D hD).1; omega, (HDs.out D hD).2⟩) ⟨by rw [← hcnt.done HG.out HST.out HL.out]; exact hown, hB⟩
    · rintro U D ⟨h1, h2⟩ hD hK
      exact ⟨ownsRow_putObj h1 (.deferred none) hK rfl, h2.trans (below_put U D _ (by omega))⟩
    · rintro U ⟨h1, h2⟩
      refine ⟨_, results_tmp2 rfl _ _ _, h2, .inr ⟨H.out, o, by rw [Int.toNat_natCast]; exact HST.out, by rw [Int.toNat_natCast]; exact HST.out.full HL.out, .inr ⟨by rw [Int.toNat_natCast]; exact HL.out, _, rfl, ?_⟩⟩⟩
      rw [Int.toNat_natCast]
      exact h1.mono hbs

theorem Deep_any (n : Int) (A : Option Addr) (k c : Nat) (ls : List Gr.Ln) (w : World) (hr : RdP w w.heap.size A k c ls) :
    Calls Tryd.prog 16 #[.int .i64 n, .slice A k c] w (DepPost n ls w) := by
  by_cases h : Gr.code n ls = 0
  · obtain ⟨m, rfl⟩ : ∃ m : Nat, n = (m : Int) := ⟨n.toNat, by have := (Gr.code_zero.1 h).1; omega⟩
    obtain ⟨o, hstep, hstuck⟩ := To.Step.all m ls
    rcases Nat.lt_or_ge o.length m with hl | hl
    · exact Deep_bad m A k c ls o w hr h hstep hstuck hl
    · exact callsIn_wide.1 (Deep_ok m A k c ls o w hr h hstep (Nat.le_antisymm hstep.le hl))
  · exact Deep_err n A k c ls w hr h

end Go.Proofs.YtinglgnddmadaaaDoor
