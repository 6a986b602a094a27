/-
  The contract of Order of package topo: the points in an order in which lines go on, or what is wrong.
-/
import Derived.Test.YtcapinapfobcbaaTopoA
import Derived.Test.YtcapinapfobcbaaGraphE
import Derived.Test.YtcapinapfobcbaaGraphC
namespace Go.Proofs.Ytcapinapfobcbaa
open Go.RowKit Go.Shelf

attribute [local go_sem] Oper.semAt_some
set_option linter.unusedSimpArgs false
set_option linter.unusedVariables false

/-- what Order hands back -/
def OrdPost (n : Int) (ls : List Gr.Ln) (w : World) (e : Ending) (w' : World) : Prop :=
  Below w.heap.size w w' ∧ ((Gr.code n ls ≠ 0 ∧ e = .returned (.tuple #[.slice none 0 0, errv (Gr.code n ls)])) ∨
    (Gr.code n ls = 0 ∧ ∃ o, To.Step n.toNat ls o ∧ To.Stuck n.toNat ls o ∧ ((o.length < n.toNat ∧ e = .returned (.tuple #[.slice none 0 0, errv 5])) ∨
      (o.length = n.toNat ∧ ∃ v, e = .returned (.tuple #[v, .nilIface]) ∧ Own w' w.heap.size 3 v o))))

theorem Order_err (n : Int) (A : Option Addr) (k c : Nat) (ls : List Gr.Ln) (w : World) (hr : RdP w w.heap.size A k c ls) (h : Gr.code n ls ≠ 0) :
    Calls Try.prog 15 #[.int .i64 n, .slice A k c] w (OrdPost n ls w) := by
  have H := Lib.hid h
  clear h
  go_enter Try.func15, Try.ntmps15
  go_wp2_with fail
  refine (GCheck_err n A k c ls _ hr H.out).mono ?_
  rintro e w1 ⟨rfl, hb⟩
  go_wp2
  go_ret2
  exact ⟨hb, .inl ⟨H.out, rfl⟩⟩

set_option maxRecDepth 100000 in
set_option maxHeartbeats 4000000 in
theorem Order_ok (m : Nat) (A : Option Addr) (k c : Nat) (ls : List Gr.Ln) (w : World) (hr : RdP w w.heap.size A k c ls) (h : Gr.code (m : Int) ls = 0) :
    CallsIn Fence.wide 10 Try.prog 15 #[.int .i64 (m : Int), .slice A k c] w (OrdPost (m : Int) ls w) := by
  have hm8 : m ≤ 8 := by have := (Gr.code_zero.1 h).2.1; omega
  have hgood := (Gr.code_zero.1 h).2.2.2
  obtain ⟨o, hstep, hstuck⟩ := To.Step.all m ls
  have hol := hstep.le
  have H := Lib.hid h
  clear h
  obtain ⟨i0, hi, hz0, hz1, hz2⟩ := info_parts intInfo
  have hro : Fence.wide.round = none := rfl
  have hF1 : Fence.wide.fn 18 := trivial
  have hF3 : Fence.wide.fn 22 := trivial
  refine callsIn_of_wp_marks Try.func15 rfl trivial ?_ hro
  simp only [Try.ntmps15, List.size_toArray, List.length_cons, List.length_nil, Nat.reduceAdd, Nat.reduceSub, Array.replicate_succ, Array.replicate_zero, List.push_toArray, List.append_toArray, List.nil_append, List.cons_append]
  gi_wp2_with (first
    | (gi_at_call 18; refine (callsIn_wide.2 (GCheck_nil (m : Int) A k c ls _ hr H.out)).mono ?_; rintro e w1 ⟨rfl, hb⟩; have hbs := hb.size; have hr1 := hr.below hb)
    | (gi_at_make; refine wpListIn_make_own _ rfl (.const (.int .i64 0)) (.tmp 15) 24 rfl w.heap.size 3 i0 (.int .i64 0) 1 Try.underlying24 hi hz0 hz1 .i64 .i64 (m : Int) m rfl rfl rfl (by rw [hz2]; omega) (by simp only [maxLen]; omega) hbs ?_; intro w2 hrow2 hg2)
    | (gi_at_call 22; refine (callsIn_wide.2 (free_any _ _ _ _ _)).mono ?_; rintro e w4 ⟨rfl, rfl⟩))
  obtain ⟨s1, hs1⟩ : ∃ s1, s1 = w1.heap.size := ⟨_, rfl⟩
  obtain ⟨s2, hs2⟩ : ∃ s2, s2 = w2.heap.size := ⟨_, rfl⟩
  rw [← hs1] at hrow2 hbs ⊢
  simp only [← hs2, Nat.add_assoc, Nat.reduceAdd]
  obtain ⟨W0, hW0⟩ : ∃ W0, W0 = (((w2.alloc (.cells #[.slice (some ⟨s1, 0, none⟩) 0 m] 24)).alloc (.cells #[.int .i64 (m : Int)] 3)).alloc (.cells #[.slice A k c] 22)) := ⟨_, rfl⟩
  rw [← hW0]
  have hs12 : s1 < s2 := by have := (World.ownsRow.lt hrow2 s1 rfl).2; omega
  have hsz : W0.heap.size = s2 + 3 := by rw [hW0]; simp [hs2]
  have hb12 : Below s1 w1 w2 := (Below.refl _ _).grown hg2 (by omega) (fun _ e => by cases e)
  have hb02 : Below w2.heap.size w2 W0 := by rw [hW0]; exact (((Below.refl _ _).alloc (Nat.le_refl _) _).alloc (by simp) _).alloc (by simp; omega) _
  have hb1w : Below s1 w1 W0 := hb12.trans (hb02.mono (by omega))
  have hB0 : Below w.heap.size w W0 := hb.trans (hb1w.mono hbs)
  have hown0 : W0.ownsRow w.heap.size 3 1 (.slice (some ⟨s1, 0, none⟩) 0 m) 0 [] := World.ownsRow.kept hrow2 (grown_of_below hb02 none) (.inr (fun e => by cases e))
  have hbx0 : Boxed W0 s2 24 (.slice (some ⟨s1, 0, none⟩) 0 m) := by
    rw [hW0, hs2]
    exact ((Boxed.new w2 24 (.slice (some ⟨s1, 0, none⟩) 0 m)).alloc _).alloc _
  have hG0 : FrG s1 (s2 + 1) (s2 + 2) m A k c ls W0 := by
    refine ⟨by omega, (hr1.more hbs).below hb1w, ?_, ?_⟩
    · rw [hW0]
      have := Boxed.new (w2.alloc (.cells #[.slice (some ⟨s1, 0, none⟩) 0 m] 24)) 3 (.int .i64 (m : Int))
      rw [World.size_alloc, ← hs2] at this
      exact (this.alloc _).cell
    · rw [hW0]
      have := Boxed.new ((w2.alloc (.cells #[.slice (some ⟨s1, 0, none⟩) 0 m] 24)).alloc (.cells #[.int .i64 (m : Int)] 3)) 22 (.slice A k c)
      rw [World.size_alloc, World.size_alloc, ← hs2] at this
      exact this.cell
  clear hW0 hs2 hrow2 hg2 hr1 hb hb12 hb02 hb1w hs1
  refine wpIn_range_cells hro (by omega) (gf := 32) (lb := #[.pointer (some ⟨s2 + 1, 0, none⟩), .pointer (some ⟨s2 + 2, 0, none⟩)]) rfl trivial (enters_of Try.func32 (by kernel_rfl) rfl) (X := fun k => k = s1 ∨ k = s2) (zs := o)
    (free1_seq s1 (s2 + 1) (s2 + 2) m k c hm8 A ls hgood o hstep hstuck _ W0 hG0 (fun k hk => by omega) (fun k hk => by omega) (by omega) (by omega))
    (fun k hk => by omega) (fun _ => rfl)
    (fun pre W => Boxed W s2 24 (.slice (some ⟨s1, 0, none⟩) pre.length m) ∧ W.ownsRow w.heap.size 3 1 (.slice (some ⟨s1, 0, none⟩) pre.length m) pre.length (pre.map (Value.int .i64)) ∧ Below w.heap.size w W ∧ s2 + 3 ≤ W.heap.size)
    (fun _ _ => False)
    (fun pre U V h hb => ⟨(hb.block s2 (by omega)).trans h.1, ownsRow_same h.2.1 (fun k hk => by cases hk; exact hb.block s1 (by omega)), h.2.2.1.trans (hb.mono (by omega)), Nat.le_trans h.2.2.2 hb.size⟩)
    (fun _ _ _ h _ => h) ⟨hbx0, hown0, hB0, by omega⟩
    (fun x => { tmps := #[.int .i64 (m : Int), .slice A k c, undef, undef, .slice none 0 0, .nilIface, .nilIface, .pointer (some ⟨s2, 0, none⟩), .int .i64 x, .int .i64 (m : Int), .slice A k c, .nilIface, .nilIface, .bool false, undef, .int .i64 (m : Int),
      .slice (some ⟨s1, 0, none⟩) 0 m, .int .i64 (m : Int), .slice A k c, .func (.func 32) #[] #[.pointer (some ⟨s2 + 1, 0, none⟩), .pointer (some ⟨s2 + 2, 0, none⟩)], .int .i64 x, undef, undef, undef, undef, undef, undef, undef, undef, undef, undef], defers := [] }) ?assign ?body ?done ?stop
  case assign =>
    intro x l W K hK
    simp only [encI]
    gi_wp2
    exact hK
  case body =>
    rintro pre x hpre l W ⟨hbox, hown, hB, hsW⟩
    have hlen := hpre.length_le
    rw [List.length_append, List.length_singleton] at hlen
    have hc := hbox.cell
    obtain ⟨q, hq⟩ : ∃ q, q = pre.length := ⟨_, rfl⟩
    rw [← hq] at hlen hbox hown hc
    have HQ := Lib.hid hq
    clear hq
    have hown1 : (W.alloc (.cells #[.int .i64 x] 3)).ownsRow w.heap.size 3 1 (.slice (some ⟨s1, 0, none⟩) q m) q (pre.map (Value.int .i64)) := World.ownsRow.alloc hown _
    gi_wp2_with (gi_at_builtin; refine wpListIn_append_fits _ rfl (.tmp 21) (.tmp 23) 24 rfl w.heap.size 3 i0 1 Try.underlying24 hi hz1 s1 q m _ rfl hown1 ⟨W.heap.size, 0, none⟩ 1 1 [.int .i64 x] rfl rfl (cell_one_new W _ _) (by simp [Value.oneCell']) (by omega) ?_; intro w3 hown3 hg3; have hbx3 := (hbox.alloc (.cells #[.int .i64 x] 3)).kept hg3 (by simp; omega); have g1 := hbx3.cell; have g2 := hbx3.frozen)
    have hbo : W.grownBy (W.alloc (.cells #[.int .i64 x] 3)) none := World.grownBy_alloc W _ none
    have e0 : (pre ++ [x]).length = q + 1 := by rw [List.length_append, List.length_singleton, HQ.out]
    have e1 : (pre ++ [x]).map (Value.int .i64) = pre.map (Value.int .i64) ++ [.int .i64 x] := by simp
    have hsz3 := hg3.size
    simp only [World.size_alloc] at hsz3
    have hB3 : Below w.heap.size w w3 := (hB.alloc hB.size _).grown hg3 (by have := hB.size; simp; omega) (fun j ej => by cases ej; omega)
    refine ⟨⟨by simp; omega, fun j hj hx => ?_⟩, ?_, ?_, hB3.setCell (p := ⟨s2, 0, none⟩) (show w.heap.size ≤ s2 by omega) _, by simp; omega⟩
    · rw [Below.heap_setCell _ _ _ _ (fun e => hx (.inr e)), hg3.block j (by simp; omega) (fun e => hx (.inl (by cases e; rfl)))]
      exact Below.heap_alloc _ _ _ hj
    · rw [e0]
      exact hbx3.set _
    · rw [e0, e1]
      exact World.ownsRow.kept hown3 (grownBy_setCell' w3 s2 _) (.inr (fun e => by simp [Value.ownBlock] at e; omega))
  case done =>
    rintro D W hD ⟨hbox, hown, hB, hsW⟩ hK
    have hB' := hB.trans (belowK_b (w := w) (Nat.le_refl _) W D _ (.deferred none) (by omega) hK rfl rfl)
    have hown' : Own (W.putObj D (.deferred none)) w.heap.size 3 (.slice (some ⟨s1, 0, none⟩) o.length m) o := ownsRow_putObj hown (.deferred none) hK rfl
    have hc := hbox.cell
    clear hown hbox
    obtain ⟨q, hq⟩ : ∃ q, q = o.length := ⟨_, rfl⟩
    rw [← hq] at hc hown' hol
    have HQ := Lib.hid hq
    clear hq
    by_cases hlt : q < m
    · gi_wp2
      refine ⟨by simp, .inl ⟨_, _, rfl, run_takeDeferred hK, ?_⟩⟩
      refine ⟨_, results_tmp2 rfl _ _ _, hB', .inr ⟨H.out, o, hstep, hstuck, .inl ⟨by rw [← HQ.out]; simpa using hlt, rfl⟩⟩⟩
    · obtain rfl : q = m := by omega
      gi_wp2
      refine ⟨by simp, .inl ⟨_, _, rfl, run_takeDeferred hK, ?_⟩⟩
      refine ⟨_, results_tmp2 rfl _ _ _, hB', .inr ⟨H.out, o, hstep, hstuck, .inr ⟨by rw [← HQ.out]; simp, _, rfl, hown'⟩⟩⟩
  case stop =>
    rintro D pre W _ _ h _
    exact h.elim

theorem Order_any (n : Int) (A : Option Addr) (k c : Nat) (ls : List Gr.Ln) (w : World) (hr : RdP w w.heap.size A k c ls) :
    Calls Try.prog 15 #[.int .i64 n, .slice A k c] w (OrdPost n ls w) := by
  by_cases h : Gr.code n ls = 0
  · obtain ⟨m, rfl⟩ : ∃ m : Nat, n = (m : Int) := ⟨n.toNat, by have := (Gr.code_zero.1 h).1; omega⟩
    exact callsIn_wide.1 (Order_ok m A k c ls w hr h)
  · exact Order_err n A k c ls w hr h

end Go.Proofs.Ytcapinapfobcbaa
