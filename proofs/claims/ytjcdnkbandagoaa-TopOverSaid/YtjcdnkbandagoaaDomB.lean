/-
  The contract of dominates of package dom: can one come to a point no more, without another one? No statement of the program is proved here; there is no condition.
-/
import Derived.Test.YtjcdnkbandagoaaDomA
namespace Go.Proofs.Ytjcdnkbandagoaa
open Go.RowKit Go.Shelf

attribute [local go_sem] Oper.semAt_some
set_option linter.unusedSimpArgs false
set_option linter.unusedVariables false

theorem results_one {P : Program} {fn : Func} {p : Tmp} {ty : TypeId} (h : fn.results = #[.cell p ty]) (tmps : Array Value) (w : World) (B : Nat) (v : Value) (hp : tmps.getD p undef = .pointer (some ⟨B, 0, none⟩)) (hc : w.cell? ⟨B, 0, none⟩ = some v) (ha : ∀ w, (isAgg ty).run P w = .ok false w) :
    (results fn tmps).run P w = .ok v w := by
  have hp' : tmps[p]?.getD undef = .pointer (some ⟨B, 0, none⟩) := by simpa using hp
  simp [results, h, hp', asAddr, loadVar, Sem.run_bind, ha, go_sem, hc]

set_option maxRecDepth 100000 in
set_option maxHeartbeats 4000000 in
theorem dominates_in (m st : Nat) (A : Option Addr) (n c : Nat) (ls : List Gr.Ln) (d v : Int) (t : Bool) (w : World) (hr : RdP w w.heap.size A n c ls) (hm8 : m ≤ 8) (hst : st < m) (hg : ∀ p ∈ ls, Gr.Good (m : Int) p) (ht : (Do.out m ls d (st : Int)).contains v = !t) :
    CallsIn Fence.wide 10 Try.prog 19 #[.slice A n c, .int .i64 (st : Int), .int .i64 d, .int .i64 v] w fun e w' => e = .returned (.bool t) ∧ Below w.heap.size w w' := by
  have hro : Fence.wide.round = none := rfl
  have hF1 : Fence.wide.fn 18 := trivial
  have HG := Lib.hid hg
  have HT := Lib.hid ht
  clear hg ht
  obtain ⟨s, hs⟩ : ∃ s, s = w.heap.size := ⟨_, rfl⟩
  obtain ⟨W1, hW1⟩ : ∃ W1, W1 = (w.alloc (.cells #[.int .i64 v] 3)).alloc (.cells #[.bool false] 4) := ⟨_, rfl⟩
  have hb1 : Below s w W1 := by rw [hW1, hs]; exact ((Below.refl _ _).alloc (Nat.le_refl _) _).alloc (by simp) _
  have hs1 : W1.heap.size = s + 2 := by rw [hW1, hs]; simp
  have bx1 : Boxed W1 s 3 (.int .i64 v) := by rw [hW1, hs]; exact (Boxed.new w _ _).alloc _
  have bx2 : Boxed W1 (s + 1) 4 (.bool false) := by
    have := Boxed.new (w.alloc (.cells #[.int .i64 v] 3)) 4 (.bool false)
    rw [World.size_alloc, ← hs] at this
    rw [hW1]
    exact this
  have HS := Lib.hid hs
  have HS1 := Lib.hid hs1
  have HW1 := Lib.hid hW1
  rw [← hs] at hr
  clear hs hs1 hW1
  refine callsIn_of_wp_marks Try.func19 rfl trivial ?_ hro
  simp only [Try.ntmps19, List.size_toArray, List.length_cons, List.length_nil, Nat.reduceAdd, Nat.reduceSub, Array.replicate_succ, Array.replicate_zero, List.push_toArray, List.append_toArray, List.nil_append, List.cons_append]
  gi_wp2_with (first
    | (gi_at_call 18; rw [← HW1.out, ← HS.out]; refine (callsIn_wide.2 (reached_any _ _ _ _ _ _)).mono ?_; rintro e w5 ⟨rfl, rfl⟩))
  simp only [HS1.out, Nat.add_assoc, Nat.reduceAdd]
  obtain ⟨V, hV⟩ : ∃ V, V = ((W1.alloc (.cells #[.slice A n c] 22)).alloc (.cells #[.int .i64 (st : Int)] 3)).alloc (.cells #[.int .i64 d] 3) := ⟨_, rfl⟩
  rw [← hV]
  have hbV : Below (s + 2) W1 V := by
    rw [hV]
    exact (((Below.refl _ _).alloc (by rw [HS1.out]; exact Nat.le_refl _) _).alloc (by simp; rw [HS1.out]; omega) _).alloc (by simp; rw [HS1.out]; omega) _
  have hsV : V.heap.size = s + 5 := by rw [hV]; simp [HS1.out]
  have hBV : Below s w V := hb1.trans (hbV.mono (by omega))
  have bV1 : Boxed V s 3 (.int .i64 v) := (hbV.block s (by omega)).trans bx1
  have bV2 : Boxed V (s + 1) 4 (.bool false) := (hbV.block (s + 1) (by omega)).trans bx2
  have hG0 : ReG s (s + 3) (s + 4) (s + 2) A n c ls (st : Int) d V := by
    refine ⟨by omega, hr.below hBV, ?_, ?_, ?_⟩
    · rw [hV]
      have := Boxed.new (W1.alloc (.cells #[.slice A n c] 22)) 3 (.int .i64 (st : Int))
      simp only [World.size_alloc, HS1.out, Nat.add_assoc, Nat.reduceAdd] at this
      exact (this.alloc _).cell
    · rw [hV]
      have := Boxed.new ((W1.alloc (.cells #[.slice A n c] 22)).alloc (.cells #[.int .i64 (st : Int)] 3)) 3 (.int .i64 d)
      simp only [World.size_alloc, HS1.out, Nat.add_assoc, Nat.reduceAdd] at this
      exact this.cell
    · rw [hV]
      have := Boxed.new W1 22 (.slice A n c)
      simp only [HS1.out] at this
      exact ((this.alloc _).alloc _).cell
  clear hV hbV bx1 bx2 hb1 hr
  refine wpIn_range_cells hro (by omega) (gf := 25) (lb := #[.pointer (some ⟨s + 3, 0, none⟩), .pointer (some ⟨s + 4, 0, none⟩), .pointer (some ⟨s + 2, 0, none⟩)]) rfl trivial (enters_of Try.func25 (by kernel_rfl) rfl) (X := fun _ => False) (zs := Do.out m ls d (st : Int))
    (reached1_seq s (s + 3) (s + 4) (s + 2) A n c ls m st d hm8 hst HG.out _ V hG0 (fun k hk => hk.elim) (fun k hk => hk.elim) id id id)
    (fun k hk => hk.elim) (fun _ => rfl)
    (fun pre U => v ∉ pre ∧ Boxed U s 3 (.int .i64 v) ∧ Boxed U (s + 1) 4 (.bool false) ∧ Below s w U)
    (fun _ U => v ∈ Do.out m ls d (st : Int) ∧ Boxed U (s + 1) 4 (.bool false) ∧ Below s w U)
    (fun pre U U' h hb => ⟨h.1, (hb.block s (by omega)).trans h.2.1, (hb.block (s + 1) (by omega)).trans h.2.2.1, h.2.2.2.trans (hb.mono (by omega))⟩)
    (fun pre U U' h hb => ⟨h.1, (hb.block (s + 1) (by omega)).trans h.2.1, h.2.2.trans (hb.mono (by omega))⟩)
    ⟨by simp, bV1, bV2, hBV⟩
    (fun x => { tmps := #[.slice A n c, .int .i64 (st : Int), .int .i64 d, .int .i64 v, undef, undef, undef, .pointer (some ⟨s, 0, none⟩), .pointer (some ⟨s + 1, 0, none⟩), .int .i64 x, .slice A n c, .int .i64 (st : Int), .int .i64 d,
      .func (.func 25) #[] #[.pointer (some ⟨s + 3, 0, none⟩), .pointer (some ⟨s + 4, 0, none⟩), .pointer (some ⟨s + 2, 0, none⟩)], .int .i64 x, undef, undef, undef], defers := [] }) ?assign ?body ?done ?stop
  case assign =>
    intro x l W K hK
    simp only [encI]
    gi_wp2
    exact hK
  case body =>
    rintro pre x hpre l W ⟨hno, hc1, hc2, hB⟩
    have hmem : x ∈ Do.out m ls d (st : Int) := hpre.subset (by simp)
    have g1 := hc1.cell
    have g2 := hc2.cell
    have g3 := hc2.frozen
    by_cases e : x = v
    · have ht : (x == v) = true := by simp [e]
      rw [e] at hmem
      have HM := Lib.hid hmem
      clear e hmem hpre
      gi_wp2
      exact ⟨Kept.set _ _ _ _ (show s + 1 < V.heap.size by omega), HM.out, hc2.set _, hB.setCell (p := ⟨s + 1, 0, none⟩) (show s ≤ s + 1 by omega) _⟩
    · have ht : (x == v) = false := by simpa using e
      have HE := Lib.hid e
      clear e hmem hpre
      gi_wp2
      refine ⟨Kept.refl _ _, fun hx => ?_, hc1, hc2, hB⟩
      rcases List.mem_append.1 hx with hx | hx
      · exact hno hx
      · exact HE.out (show v = x by simpa using hx).symm
  case done =>
    rintro D W hD ⟨hno, hc1, hc2, hB⟩ hK
    have hfin : t = true := by
      cases t with
      | true => rfl
      | false => exact absurd (show v ∈ _ by simpa using HT.out) hno
    have HF := Lib.hid hfin
    have g2 := hc2.cell
    have g3 := hc2.frozen
    have hK' : (W.setCell ⟨s + 1, 0, none⟩ (.bool true)).heap[D]? = some (.deferred (some [])) := (KeepsOthers.setCell W _ _).same D _ hK rfl
    have hb' := hc2.set (.bool true)
    have hB' := hB.setCell (p := ⟨s + 1, 0, none⟩) (show s ≤ s + 1 by omega) (.bool true)
    clear hno hc1 hc2 hB hfin
    gi_wp2
    refine ⟨by simp, .inl ⟨_, _, rfl, run_takeDeferred hK', ?_⟩⟩
    have hcD : Boxed ((W.setCell ⟨s + 1, 0, none⟩ (.bool true)).putObj D (.deferred none)) (s + 1) 4 (.bool true) := (World.putObj_heap_other (by omega)).trans hb'
    refine ⟨_, results_one rfl _ _ (s + 1) _ rfl hcD.cell Try.isAgg4, by rw [HF.out], ?_⟩
    rw [← HS.out]
    exact hB'.trans (below_put _ _ _ (by omega))
  case stop =>
    rintro D pre W hD hpre ⟨hmem, hc2, hB⟩ hK
    have hfin : t = false := by
      cases t with
      | false => rfl
      | true =>
        have := HT.out
        have h2 : (Do.out m ls d (st : Int)).contains v = true := by simpa using hmem
        rw [h2] at this
        cases this
    have HF := Lib.hid hfin
    clear hmem hfin hpre
    gi_wp2
    refine ⟨by simp, .inl ⟨_, _, rfl, run_takeDeferred hK, ?_⟩⟩
    have hcD : Boxed (W.putObj D (.deferred none)) (s + 1) 4 (.bool false) := (World.putObj_heap_other (by omega)).trans hc2
    refine ⟨_, results_one rfl _ _ (s + 1) _ rfl hcD.cell Try.isAgg4, by rw [HF.out], ?_⟩
    rw [← HS.out]
    exact hB.trans (below_put _ _ _ (by omega))

theorem dominates_any (m st : Nat) (A : Option Addr) (n c : Nat) (ls : List Gr.Ln) (d v : Int) (t : Bool) (w : World) (hr : RdP w w.heap.size A n c ls) (hm8 : m ≤ 8) (hst : st < m) (hg : ∀ p ∈ ls, Gr.Good (m : Int) p) (ht : (Do.out m ls d (st : Int)).contains v = !t) :
    Calls Try.prog 19 #[.slice A n c, .int .i64 (st : Int), .int .i64 d, .int .i64 v] w fun e w' => e = .returned (.bool t) ∧ Below w.heap.size w w' :=
  callsIn_wide.1 (dominates_in m st A n c ls d v t w hr hm8 hst hg ht)

end Go.Proofs.Ytjcdnkbandagoaa
