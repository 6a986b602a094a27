/-
  The contract of ringThrough of package walk: the number of points of a shortest ring over a step, or 0.
-/
import Derived.Test.YtghmpdhopdmmiaaDoorWalkG
import Derived.Test.YtghmpdhopdmmiaaDoorWalkP
import Derived.Test.YtghmpdhopdmmiaaDoorDelete
namespace Go.Proofs.YtghmpdhopdmmiaaDoor
open Go.RowKit Go.Shelf

attribute [local go_sem] Oper.semAt_some
set_option linter.unusedSimpArgs false
set_option linter.unusedVariables false

theorem results_cell1 {P : Program} {fn : Func} {p : Tmp} {ty : TypeId} (h : fn.results = #[.cell p ty]) (tmps : Array Value) (w : World) (B : Nat) (v : Value) (hp : tmps.getD p undef = .pointer (some ⟨B, 0, none⟩)) (hc : w.cell? ⟨B, 0, none⟩ = some v) (ha : ∀ w, (isAgg ty).run P w = .ok false w) :
    (results fn tmps).run P w = .ok v w := by
  have hp' : tmps[p]?.getD undef = .pointer (some ⟨B, 0, none⟩) := by simpa using hp
  simp [results, h, hp', asAddr, loadVar, Sem.run_bind, ha, go_sem, hc]

/-- the rows without the step from a to b, as they lie in memory -/
def restRows (m : Nat) (R : Nat → List Nat) (a b : Nat) : List (List Int) := (List.range m).map fun k => upL (Wa.rest R a b k)
theorem restRows_at {m : Nat} (R : Nat → List Nat) (a b : Nat) {k : Nat} (hk : k < m) : (restRows m R a b).getD k [] = upL (Wa.rest R a b k) := by simp [restRows, List.getD, hk]
theorem upL_filter (l : List Nat) (b : Nat) : (upL l).filter (fun x => !(x == (b : Int))) = upL (l.filter fun v => !decide (v = b)) := by
  unfold upL
  rw [List.filter_map]
  congr 1
  refine List.filter_congr fun x _ => ?_
  by_cases h : x = b
  · subst h; simp
  · have : ((x : Int) == (b : Int)) = false := by simpa using fun e => h (by omega)
    simp [this, h]

/-- where a number stands first in a list -/
theorem first_at {l : List Nat} {b : Nat} (h : b ∈ l) : ∃ k, k < l.length ∧ (upL l).getD k 0 = (b : Int) ∧ ∀ j, j < k → (upL l).getD j 0 ≠ (b : Int) := by
  induction l with
  | nil => simp at h
  | cons x l ih =>
    by_cases e : x = b
    · exact ⟨0, by simp, by simp [upL, e], fun j hj => by omega⟩
    · obtain ⟨k, h1, h2, h3⟩ := ih (by simpa [Ne.symm e] using h)
      refine ⟨k + 1, by simpa using h1, by simpa [upL] using h2, fun j hj => ?_⟩
      cases j with
      | zero => simpa [upL] using fun e' => e (by omega)
      | succ j => simpa [upL] using h3 j (by omega)

theorem row_slice {w : World} {base e n : Nat} {v : Value} {xs : List Value} (h : w.ownsRow base e 1 v n xs) (hn : 0 < n) : ∃ g cap, v = .slice (some ⟨g, 0, none⟩) n cap ∧ base ≤ g ∧ g < w.heap.size := by
  rcases h.2 with ⟨_, h0⟩ | ⟨g, cap, cur, rfl, hb, hg, _⟩
  · omega
  · exact ⟨g, cap, rfl, hb, (Array.getElem?_eq_some_iff.1 hg).1⟩

set_option maxRecDepth 100000 in
set_option maxHeartbeats 4000000 in
theorem ringThrough_in (m a b : Nat) (hm8 : m ≤ 8) (ha : a < m) (R : Nat → List Nat) (hR : Wa.Ok m R) (hb : b ∈ R a) (hlen : (R a).length ≤ 8) (A : Option Addr) (c : Nat) (rows : List (List Int)) (hrows : ∀ k, k < m → rows.getD k [] = upL (R k)) (w : World) (hrd : RdR w w.heap.size A m c rows) :
    CallsIn Fence.wide 10 Tryd.prog 20 #[.slice A m c, .int .i64 (a : Int), .int .i64 (b : Int)] w fun e w' => e = .returned (.int .i64 (Wa.rt m R a b)) ∧ Below w.heap.size w w' := by
  have hbm := hR a ha b hb
  have hro : Fence.wide.round = none := rfl
  have hF1 : Fence.wide.fn 30 := trivial
  have hF2 : Fence.wide.fn 32 := trivial
  have hF3 : Fence.wide.fn 18 := trivial
  have hF4 : Fence.wide.fn 31 := trivial
  have hmf : ∀ (fn : Fn) (first cap : Array Value) (w : World), (Instr.makeFunc fn first cap).run Tryd.prog w = .ok (.func fn first cap) w := fun _ _ _ _ => rfl
  have ha1 : (0 : Int) ≤ (a : Int) := by omega
  have ha2 : (a : Int) < (m : Int) := by omega
  obtain ⟨kf, hk1, hk2, hk3⟩ := first_at hb
  have HK2 := Lib.hid hk2
  have HK3 := Lib.hid hk3
  clear hk2 hk3
  obtain ⟨b0, o0, rfl, hb0, hcells⟩ := hrd.at_ (by omega)
  have HC := Lib.hid hcells
  -- the values of the rows
  obtain ⟨vs, hvs⟩ : ∃ vs : List Value, vs = (List.range m).map fun k => (w.cell? ⟨b0, o0 + k, none⟩).getD undef := ⟨_, rfl⟩
  have hvl : vs.length = m := by rw [hvs]; simp
  have hvat : ∀ k, k < m → ∃ A' c', vs.getD k undef = .slice A' (R k).length c' ∧ w.cell? ⟨b0, o0 + k, none⟩ = some (vs.getD k undef) ∧ Rd w w.heap.size A' (R k).length c' (upL (R k)) := by
    intro k hk
    obtain ⟨A', c', h1, h2⟩ := HC.out k hk
    rw [hrows k hk, upL_len] at h1 h2
    have : vs.getD k undef = .slice A' (R k).length c' := by rw [hvs]; simp [List.getD, hk, h1]
    exact ⟨A', c', this, by rw [h1, this], h2⟩
  have HV := Lib.hid hvat
  have hv1c : ∀ u ∈ vs, u.oneCell' = true := by
    intro u hu
    obtain ⟨k, hk, rfl⟩ := List.getElem_of_mem hu
    obtain ⟨A', c', h1, _⟩ := hvat k (by omega)
    have : vs.getD k undef = vs[k] := by simp [List.getD, hk]
    rw [this] at h1
    rw [h1]
    rfl
  have HV1 := Lib.hid hv1c
  clear hcells hvs hvat hv1c
  obtain ⟨Ar, cr, er, hcr, hrr⟩ := HV.out a ha
  have hnr : 0 < (R a).length := List.length_pos_of_mem hb
  obtain ⟨br, or, rfl, hbr, _⟩ := hrr.at_ hnr
  rw [er] at hcr
  have HER := Lib.hid er
  clear er
  obtain ⟨s, hs⟩ : ∃ s, s = w.heap.size := ⟨_, rfl⟩
  -- the boxes of b and of the result
  obtain ⟨W1, hW1⟩ : ∃ W1, W1 = (w.alloc (.cells #[.int .i64 (b : Int)] 3)).alloc (.cells #[.int .i64 0] 3) := ⟨_, rfl⟩
  have hb1 : Below w.heap.size w W1 := by rw [hW1]; exact ((Below.refl _ _).alloc (Nat.le_refl _) _).alloc (by simp) _
  have hs1 : W1.heap.size = s + 2 := by rw [hW1, hs]; simp
  have bx1 : Boxed W1 s 3 (.int .i64 (b : Int)) := by rw [hW1, hs]; exact (Boxed.new w _ _).alloc _
  have bx2 : Boxed W1 (s + 1) 3 (.int .i64 0) := by
    have := Boxed.new (w.alloc (.cells #[.int .i64 (b : Int)] 3)) 3 (.int .i64 0)
    rw [World.size_alloc, ← hs] at this
    rw [hW1]
    exact this
  have hcW : ∀ j, j < m → W1.cell? ⟨b0, o0 + j, none⟩ = some (vs.getD j undef) := by
    intro j hj
    obtain ⟨_, _, _, h2, _⟩ := HV.out j hj
    exact (hb1.cell (p := ⟨b0, o0 + j, none⟩) hb0).trans h2
  have HCW := Lib.hid hcW
  have HW1 := Lib.hid hW1
  have HS := Lib.hid hs
  have HS1 := Lib.hid hs1
  clear hcW hW1 hs hs1
  refine callsIn_of_wp_marks Tryd.func20 rfl trivial ?_ hro
  simp only [Tryd.ntmps20, List.size_toArray, List.length_cons, List.length_nil, Nat.reduceAdd, Nat.reduceSub, Array.replicate_succ, Array.replicate_zero, List.push_toArray, List.append_toArray, List.nil_append, List.cons_append]
  have hsle : w.heap.size ≤ s := by rw [HS.out]; exact Nat.le_refl _
  have hsle2 : s ≤ w.heap.size := by rw [HS.out]; exact Nat.le_refl _
  obtain ⟨nr, hnr2⟩ : ∃ nr, nr = (R a).length := ⟨_, rfl⟩
  rw [← hnr2] at hcr hrr hk1 hlen hnr
  have HNR := Lib.hid hnr2
  clear hnr2
  gi_wp2_with (first
    | (gi_at_call 30; rw [← HW1.out, ← HS.out]; refine (callsIn_wide.2 (CloneR b0 o0 m c vs W1 hm8 hvl HCW.out HV1.out)).mono ?_; rintro e w2 ⟨v2, rfl, hown2, hb2⟩; rw [HS1.out] at hown2 hb2; obtain ⟨g, cap, rfl, hg1, hg2⟩ := row_slice hown2 (by omega); have hb12 : Below w.heap.size w w2 := hb1.trans (hb2.mono (by omega)); have hcr2 := (hb12.cell (p := ⟨b0, o0 + a, none⟩) hb0).trans hcr; have hrr2 := hrr.past hb12)
    | (gi_at_call 32; refine (callsIn_wide.2 (CloneI br or nr cr (upL (R a)) w2 hrr2 (by omega))).mono ?_; rintro e w3 ⟨v3, rfl, hown3, hb3⟩; obtain ⟨g3, cap3, rfl, hg31, hg32⟩ := row_slice hown3 (by rw [upL_len, ← HNR.out]; exact hnr); rw [upL_len, ← HNR.out]; have hown3' := hown3; rw [upL_len, ← HNR.out] at hown3'; have hx3 : w3.cell? ⟨s, 0, none⟩ = some (.int .i64 (b : Int)) := (hb3.cell (p := ⟨s, 0, none⟩) (show s < _ by omega)).trans ((hb2.cell (p := ⟨s, 0, none⟩) (show s < s + 2 by omega)).trans bx1.cell); clear hown3)
    | (gi_at_call 31; refine (callsIn_wide.2 (DeleteFunc_own s w2.heap.size g3 nr cap3 kf (b : Int) (upL (R a)) w3 hown3' hx3 (by omega) hk1 HK2.out HK3.out (by omega))).mono ?_; rintro e w4 ⟨v4, rfl, hown4, hob4, hg4⟩; have row4 : w4.ownsRow (s + 2) 24 1 (.slice (some ⟨g, 0, none⟩) m cap) m vs := World.ownsRow.kept (World.ownsRow.kept hown2 (grown_of_below hb3 none) (.inr (by simp [Value.ownBlock]))) hg4 (.inr (fun e => by have : g = g3 := (by simpa [Value.ownBlock] using e); omega)); obtain ⟨A4, c4, rfl, hr4⟩ := hown4.rd; have gc4 : w4.cell? ⟨g, a, none⟩ = some (vs.getD a undef) := (by rw [row4.cellAt a (by omega)]; simp [List.getD, hvl, ha]); have gf4 := row4.frozenAt a)
    | (gi_at_call 18; refine (callsIn_wide.2 (outward_any _ _ _ _ _)).mono ?_; rintro e w5 ⟨rfl, rfl⟩))
  obtain ⟨lf, hlf⟩ : ∃ lf, lf = (List.filter (fun x => !(x == (b : Int))) (upL (R a))).length := ⟨_, rfl⟩
  rw [← hlf] at hown4 hob4 ⊢
  clear hr4
  obtain ⟨s4, hs4⟩ : ∃ s4, s4 = w4.heap.size := ⟨_, rfl⟩
  simp only [← hs4]
  obtain ⟨V, hV⟩ : ∃ V, V = ((w4.setCell ⟨g, a, none⟩ (.slice A4 lf c4)).alloc (.cells #[.slice (some ⟨g, 0, none⟩) m cap] 25)).alloc (.cells #[.int .i64 (a : Int)] 3) := ⟨_, rfl⟩
  rw [← hV]
  have hw23 := hb3.size
  have hw34 := hg4.size
  have hb4 : Below (s + 2) W1 w4 := (hb2.trans (hb3.mono (by omega))).grown hg4 (by omega) (fun k e => by cases e; omega)
  have hsV : V.heap.size = s4 + 2 := by rw [hV, hs4]; simp
  have hst := row4.stored a (.slice A4 lf c4)
  have rowV : V.ownsRow (s + 2) 24 1 (.slice (some ⟨g, 0, none⟩) m cap) m (vs.set a (.slice A4 lf c4)) := by rw [hV]; exact (hst.1.alloc _).alloc _
  have ownV : Own V w2.heap.size 3 (.slice A4 lf c4) (List.filter (fun x => !(x == (b : Int))) (upL (R a))) := by
    have h1 := hown4.grown hst.2 (fun k hk e => by rw [hob4] at hk; cases hk; cases e; omega)
    rw [hV]
    exact (h1.below ((Below.refl _ _).alloc (Nat.le_refl _) _)).below ((Below.refl _ _).alloc (Nat.le_refl _) _)
  have hbV : Below (s + 2) W1 V := by
    rw [hV]
    exact ((hb4.setCell (p := ⟨g, a, none⟩) hg1 _).alloc (by simp; omega) _).alloc (by simp; omega) _
  have hBV : Below w.heap.size w V := hb1.trans (hbV.mono (by omega))
  have bV1 : Boxed V s 3 (.int .i64 (b : Int)) := (hbV.block s (by omega)).trans bx1
  have bV2 : Boxed V (s + 1) 3 (.int .i64 0) := (hbV.block (s + 1) (by omega)).trans bx2
  have hrdV : RdR V V.heap.size (some ⟨g, 0, none⟩) m cap (restRows m R a b) := by
    obtain ⟨hc1, hc2⟩ : m ≤ cap ∧ cap ≤ maxLen := by
      rcases rowV.2 with ⟨h', _⟩ | ⟨g', cap', cur, h', _, _, h5, h6, _⟩
      · cases h'
      · simp only [Value.slice.injEq, Option.some.injEq, Addr.mk.injEq, and_true, true_and] at h'
        obtain ⟨rfl, rfl⟩ := h'
        exact ⟨h5, h6⟩
    refine ⟨by simp [restRows], hc1, by simpa [maxLen] using hc2, fun h => (by cases h), fun _ => ⟨g, 0, rfl, by omega, fun k hk => ?_⟩⟩
    rw [restRows_at R a b hk, Nat.zero_add, rowV.cellAt k (by omega)]
    by_cases e : k = a
    · subst e
      have e2 : upL (Wa.rest R k b k) = List.filter (fun x => !(x == (b : Int))) (upL (R k)) := by rw [upL_filter]; simp [Wa.rest]
      rw [e2]
      have e3 := ownV.rd'
      rw [hlf] at e3
      refine ⟨A4, c4, ?_, e3⟩
      rw [← hlf]
      simp [hvl, hk]
    · have e2 : Wa.rest R a b k = R k := by simp [Wa.rest, e]
      rw [e2]
      obtain ⟨A', c', h1, h2, h3⟩ := HV.out k hk
      rw [upL_len]
      refine ⟨A', c', ?_, (h3.below hBV).more hBV.size⟩
      have : a ≠ k := fun h => e h.symm
      rw [← h1]
      simp [List.getElem?_set, this, List.getD, hvl, hk]
  have hG0 : OutG V.heap.size s4 (s4 + 1) (some ⟨g, 0, none⟩) m cap (restRows m R a b) a V := by
    refine ⟨Nat.le_refl _, hrdV, ?_, ?_⟩
    · rw [hV]
      have := Boxed.new (w4.setCell ⟨g, a, none⟩ (.slice A4 lf c4)) 25 (.slice (some ⟨g, 0, none⟩) m cap)
      simp only [World.size_setCell, ← hs4] at this
      exact (this.alloc _).cell
    · rw [hV]
      have := Boxed.new ((w4.setCell ⟨g, a, none⟩ (.slice A4 lf c4)).alloc (.cells #[.slice (some ⟨g, 0, none⟩) m cap] 25)) 3 (.int .i64 (a : Int))
      simp only [World.size_alloc, World.size_setCell, ← hs4] at this
      exact this.cell
  have hRr := Wa.rest_ok hR a b
  have hs4' : s + 2 ≤ s4 := by omega
  clear hV hs4 hst rowV ownV hbV hrdV hb4 hlf hown4 hob4 row4 gc4 gf4 hg4 hb3 hown3' hx3 hb2 hown2 hcr2 hrr2 hb12 bx1 bx2 hb1 hcr hrr hw23 hw34
  refine wpIn_range_cells hro (by omega) (gf := 28) (lb := #[.pointer (some ⟨s4, 0, none⟩), .pointer (some ⟨s4 + 1, 0, none⟩)]) rfl trivial (enters_of Tryd.func28 (by kernel_rfl) rfl) (X := fun _ => False) (zs := Wa.out m (Wa.rest R a b) a)
    (outward1_seq m a V.heap.size s4 (s4 + 1) hm8 ha (Wa.rest R a b) hRr (some ⟨g, 0, none⟩) cap (restRows m R a b) (fun k hk => restRows_at R a b hk) _ V hG0 (fun k hk => hk.elim) (fun k hk => hk.elim) id id)
    (fun k hk => hk.elim) (fun _ => rfl)
    (fun pre U => (∀ x ∈ pre, x.1 ≠ b) ∧ Boxed U s 3 (.int .i64 (b : Int)) ∧ Boxed U (s + 1) 3 (.int .i64 0) ∧ Below w.heap.size w U)
    (fun _ U => ∃ d : Nat, (b, d) ∈ Wa.out m (Wa.rest R a b) a ∧ Boxed U (s + 1) 3 (.int .i64 ((d : Int) + 1)) ∧ Below w.heap.size w U)
    (fun pre U U' h hb => ⟨h.1, (hb.block s (by omega)).trans h.2.1, (hb.block (s + 1) (by omega)).trans h.2.2.1, h.2.2.2.trans (hb.mono (by omega))⟩)
    (fun pre U U' h hb => by obtain ⟨d, h1, h2, h3⟩ := h; exact ⟨d, h1, (hb.block (s + 1) (by omega)).trans h2, h3.trans (hb.mono (by omega))⟩)
    ⟨fun x hx => by simp at hx, bV1, bV2, hBV⟩
    (fun x => { tmps := #[.slice (some ⟨b0, o0, none⟩) m c, .int .i64 (a : Int), .int .i64 (b : Int), undef, undef, .pointer (some ⟨s, 0, none⟩), .pointer (some ⟨s + 1, 0, none⟩), .slice (some ⟨g, 0, none⟩) m cap, .int .i64 (x.1 : Int), .int .i64 (x.2 : Int), .slice (some ⟨b0, o0, none⟩) m c, .slice (some ⟨g, 0, none⟩) m cap, .slice (some ⟨g, 0, none⟩) m cap, .int .i64 (a : Int),
      .slice (some ⟨b0, o0, none⟩) m c, .int .i64 (a : Int), .pointer (some ⟨b0, o0 + a, none⟩), .slice (some ⟨br, or, none⟩) nr cr, .slice (some ⟨g3, 0, none⟩) nr cap3, .func (.func 33) #[] #[.pointer (some ⟨s, 0, none⟩)], .slice A4 lf c4, .pointer (some ⟨g, a, none⟩), .slice (some ⟨g, 0, none⟩) m cap, .int .i64 (a : Int),
      .func (.func 28) #[] #[.pointer (some ⟨s4, 0, none⟩), .pointer (some ⟨s4 + 1, 0, none⟩)], .int .i64 (x.1 : Int), .int .i64 (x.2 : Int), undef, undef, undef, undef, undef], defers := [] }) ?assign ?body ?done ?stop
  case assign =>
    intro x l W K hK
    simp only [encP]
    gi_wp2
    exact hK
  case body =>
    rintro pre ⟨v, d⟩ hpre l W ⟨hno, hc1, hc2, hB⟩
    have hmem : (v, d) ∈ Wa.out m (Wa.rest R a b) a := hpre.subset (by simp)
    have hd := ((Wa.mem_out hRr ha v d).1 hmem).small hRr ha
    have g1 := hc1.cell
    have g2 := hc2.cell
    have g3 := hc2.frozen
    by_cases e : v = b
    · have ht : ((v : Int) == (b : Int)) = true := by simp [e]
      have hd0 : (0 : Int) ≤ (d : Int) := by omega
      have hd8 : (d : Int) < 8 := by omega
      rw [e] at hmem
      have HM := Lib.hid hmem
      clear e hmem hpre
      gi_wp2
      exact ⟨Kept.set _ _ _ _ (show s + 1 < V.heap.size by omega), d, HM.out, hc2.set _, hB.setCell (p := ⟨s + 1, 0, none⟩) (show w.heap.size ≤ s + 1 by omega) _⟩
    · have ht : ((v : Int) == (b : Int)) = false := by simpa using fun e' => e (by omega)
      have HE := Lib.hid e
      clear e hmem hpre
      gi_wp2
      refine ⟨Kept.refl _ _, fun x hx => ?_, hc1, hc2, hB⟩
      rcases List.mem_append.1 hx with hx | hx
      · exact hno x hx
      · have : x = (v, d) := by simpa using hx
        rw [this]; exact HE.out
  case done =>
    rintro D W hD ⟨hno, hc1, hc2, hB⟩ hK
    have hfin : Wa.rt m R a b = 0 := by
      unfold Wa.rt
      rcases Wa.dist_cases b hRr ha with ⟨k, hd, _⟩ | ⟨_, he⟩
      · exact absurd rfl (hno (b, k) ((Wa.mem_out hRr ha b k).2 hd))
      · rw [he]; omega
    have HF := Lib.hid hfin
    have g2 := hc2.cell
    have g3 := hc2.frozen
    have hK' : (W.setCell ⟨s + 1, 0, none⟩ (.int .i64 0)).heap[D]? = some (.deferred (some [])) := (KeepsOthers.setCell W _ _).same D _ hK rfl
    have hb' := hc2.set (.int .i64 0)
    have hB' := hB.setCell (p := ⟨s + 1, 0, none⟩) (show w.heap.size ≤ s + 1 by omega) (.int .i64 0)
    clear hno hc1 hc2 hB hfin
    gi_wp2
    refine ⟨by simp, .inl ⟨_, _, rfl, run_takeDeferred hK', ?_⟩⟩
    have hcD : Boxed ((W.setCell ⟨s + 1, 0, none⟩ (.int .i64 0)).putObj D (.deferred none)) (s + 1) 3 (.int .i64 0) := (World.putObj_heap_other (by omega)).trans hb'
    exact ⟨_, results_cell1 rfl _ _ (s + 1) _ rfl hcD.cell Tryd.isAgg3, by rw [HF.out], hB'.trans (below_put _ _ _ (by omega))⟩
  case stop =>
    rintro D pre W hD hpre ⟨d, hmem, hc2, hB⟩ hK
    have hfin : Wa.rt m R a b = (d : Int) + 1 := by
      unfold Wa.rt
      rw [Wa.dist_some hRr ha ((Wa.mem_out hRr ha b d).1 hmem)]
    have HF := Lib.hid hfin
    clear hmem hfin hpre
    gi_wp2
    refine ⟨by simp, .inl ⟨_, _, rfl, run_takeDeferred hK, ?_⟩⟩
    have hcD : Boxed (W.putObj D (.deferred none)) (s + 1) 3 (.int .i64 ((d : Int) + 1)) := (World.putObj_heap_other (by omega)).trans hc2
    exact ⟨_, results_cell1 rfl _ _ (s + 1) _ rfl hcD.cell Tryd.isAgg3, by rw [HF.out], hB.trans (below_put _ _ _ (by omega))⟩

theorem ringThrough_any (m a b : Nat) (hm8 : m ≤ 8) (ha : a < m) (R : Nat → List Nat) (hR : Wa.Ok m R) (hb : b ∈ R a) (hlen : (R a).length ≤ 8) (A : Option Addr) (c : Nat) (rows : List (List Int)) (hrows : ∀ k, k < m → rows.getD k [] = upL (R k)) (w : World) (hrd : RdR w w.heap.size A m c rows) :
    Calls Tryd.prog 20 #[.slice A m c, .int .i64 (a : Int), .int .i64 (b : Int)] w fun e w' => e = .returned (.int .i64 (Wa.rt m R a b)) ∧ Below w.heap.size w w' :=
  callsIn_wide.1 (ringThrough_in m a b hm8 ha R hR hb hlen A c rows hrows w hrd)

end Go.Proofs.YtghmpdhopdmmiaaDoor
