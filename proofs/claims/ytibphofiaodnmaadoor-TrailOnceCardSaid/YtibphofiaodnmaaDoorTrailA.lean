/-
  Contracts of what package trail takes from package slices, at slices of lines: IndexFunc, ContainsFunc (with whatever closure that answers), Grow at nil, Concat of two; and of the closures of package trail that are handed to them.
-/
import Derived.Test.YtibphofiaodnmaaDoorBase
import Derived.Test.YtibphofiaodnmaaDoorLibP
import Derived.Test.YtibphofiaodnmaaDoorGraphA
import Derived.Test.YtibphofiaodnmaaDoorTrailF
import Derived.Lib.AppendZeros
import Derived.RangeFuncBox
import Derived.Shelf.Abstract
namespace Go.Proofs.YtibphofiaodnmaaDoor
open Go.RowKit

set_option linter.unusedSimpArgs false
set_option linter.unusedVariables false

/-! ### pieces of a slice of lines -/
theorem getD_dropP (ps : List Gr.Ln) (k j : Nat) : (ps.drop k).getD j (0, 0) = ps.getD (k + j) (0, 0) := by simp [List.getD, List.getElem?_drop]
theorem getD_takeP (ps : List Gr.Ln) (k j : Nat) (h : j < k) : (ps.take k).getD j (0, 0) = ps.getD j (0, 0) := by simp [List.getD, h]
theorem RdP.take {w : World} {B : Nat} {A : Option Addr} {n c : Nat} {ps : List Gr.Ln} (h : RdP w B A n c ps) {k : Nat} (hk : k ≤ n) : RdP w B A k c (ps.take k) := by
  have hl := h.len
  refine ⟨by simp; omega, Nat.le_trans hk h.le, h.cap, h.2.2.2.1, fun h0 => ?_⟩
  obtain ⟨b, o, hA, hb, hc⟩ := h.at_ (by omega)
  refine ⟨b, o, hA, hb, fun j hj => ?_⟩
  rw [getD_takeP ps k j hj]
  exact hc j (by omega)
theorem RdP.drop {w : World} {B : Nat} {b o n c : Nat} {ps : List Gr.Ln} (h : RdP w B (some ⟨b, o, none⟩) n c ps) {k : Nat} (hk : k ≤ n) : RdP w B (some ⟨b, o + k * 2, none⟩) (n - k) (c - k) (ps.drop k) := by
  have hl := h.len
  have h1 := h.le
  have h2 := h.cap
  refine ⟨by simp; omega, by omega, by omega, fun e => (by cases e), fun h0 => ?_⟩
  obtain ⟨b', o', hA, hb, hc⟩ := h.at_ (by omega)
  cases hA
  refine ⟨b, o + k * 2, rfl, hb, fun j hj => ?_⟩
  rw [getD_dropP ps k j]
  have := hc (k + j) (by omega)
  rw [Nat.add_mul, ← Nat.add_assoc] at this
  exact this
theorem RdP.none_left {w : World} {B : Nat} {A : Option Addr} {n c : Nat} {ps : List Gr.Ln} (h : RdP w B A n c ps) {k : Nat} (hk : n = k) : RdP w B A (n - k) 0 (ps.drop k) := by
  have hl := h.len
  subst hk
  exact ⟨by simp; omega, by omega, by omega, fun _ => rfl, fun h0 => by omega⟩

/-! ### slices.IndexFunc, slices.ContainsFunc -/
/-- r is where a line lies that f takes, or -1 -/
def Idx (ls : List Gr.Ln) (f : Gr.Ln → Bool) (r : Int) : Prop := (r = -1 ∧ ∀ i, i < ls.length → f (ls.getD i (0, 0)) = false) ∨ ∃ i : Nat, r = (i : Int) ∧ i < ls.length ∧ f (ls.getD i (0, 0)) = true

set_option maxRecDepth 100000 in
set_option maxHeartbeats 1000000 in
theorem IndexFn_any (g : Nat) (cb : Array Value) (f : Gr.Ln → Bool) (A : Option Addr) (n c : Nat) (ls : List Gr.Ln) (w : World) (hr : RdP w w.heap.size A n c ls)
    (eg : ∀ args w, (callFunc g args).run Tryd.prog w = .ok (.enter g args) w)
    (hcall : ∀ V p, p ∈ ls → Below w.heap.size w V → Calls Tryd.prog g (#[.agg #[.int .i64 p.1, .int .i64 p.2]] ++ cb) V fun e V' => e = .returned (.bool (f p)) ∧ Below V.heap.size V V') :
    Calls Tryd.prog 44 #[.slice A n c, .func (.func g) #[] cb] w fun e w' => Below w.heap.size w w' ∧ ∃ r : Int, e = .returned (.int .i64 r) ∧ Hid (Idx ls f r) := by
  have HX := Lib.hid hr.len
  have hbig := hr.big
  have HC := Lib.hid hcall
  clear hcall
  go_enter Tryd.func44, Tryd.ntmps44
  go_wp2
  go_loopw [8] (fun iv wr => ∃ k : Nat, k ≤ n ∧ iv = .int .i64 (k : Int) ∧ Below w.heap.size w wr ∧ Hid (∀ i, i < k → f (ls.getD i (0, 0)) = false)) (fun iv _ => n - (intOf iv).toNat)
  case atStart => exact ⟨0, Nat.zero_le _, rfl, Below.refl _ _, fun i h => by omega⟩
  case round =>
    obtain ⟨k, hk, rfl, hbel, HF⟩ := hrel
    by_cases hlt : k < n
    · obtain ⟨b1, o1, rfl, hbb, hcc⟩ := (hr.below hbel).at_ (by omega)
      obtain ⟨g1, g2⟩ := hcc k hlt
      clear hcc
      have hm : ls.getD k (0, 0) ∈ ls := by simp [List.getD, show k < ls.length by rw [HX.out]; exact hlt]
      have HK := Lib.hid (HC.out wr _ hm hbel)
      clear hm
      have hstep : Hid (f (ls.getD k (0, 0)) = false → ∀ i, i < k + 1 → f (ls.getD i (0, 0)) = false) := fun h i hi => by
        rcases Nat.lt_or_ge i k with h1 | h1
        · exact HF.out i h1
        · have : i = k := by omega
          rw [this]; exact h
      have hfin : Hid (f (ls.getD k (0, 0)) = true → Idx ls f (k : Int)) := fun h => .inr ⟨k, rfl, by rw [HX.out]; exact hlt, h⟩
      obtain ⟨⟨p, q⟩, hp⟩ : ∃ p, p = ls.getD k (0, 0) := ⟨_, rfl⟩
      rw [← hp] at g1 g2 HK hstep hfin
      simp only at g1 g2 HK
      clear hp
      have k1 : (0 : Int) ≤ (k : Int) := by omega
      have k2 : (k : Int) < (n : Int) := by omega
      cases hf : f (p, q) with
      | true =>
        have hI := Lib.hid (hfin.out hf)
        rw [hf] at HK
        clear hf hstep hfin
        go_wp2_with fail
        refine HK.out.mono ?_
        rintro e w1 ⟨rfl, hb1⟩
        go_wp2
        go_ret
        exact ⟨hbel.trans (hb1.mono hbel.size), _, rfl, hI⟩
      | false =>
        have hI := Lib.hid (hstep.out hf)
        rw [hf] at HK
        clear hf hstep hfin
        go_wp2_with fail
        refine HK.out.mono ?_
        rintro e w1 ⟨rfl, hb1⟩
        go_wp2
        go_roundw
        case rel => exact ⟨k + 1, by omega, by go_num, hbel.trans (hb1.mono hbel.size), hI⟩
        case measure => simp [intOf]; omega
    · obtain rfl : k = n := by omega
      have hI : Hid (Idx ls f (-1)) := .inl ⟨rfl, fun i hi => HF.out i (by rw [← HX.out]; exact hi)⟩
      go_wp2
      go_ret
      exact ⟨hbel, _, rfl, hI⟩

theorem ContainsFn_any (g : Nat) (cb : Array Value) (f : Gr.Ln → Bool) (A : Option Addr) (n c : Nat) (ls : List Gr.Ln) (w : World) (hr : RdP w w.heap.size A n c ls)
    (eg : ∀ args w, (callFunc g args).run Tryd.prog w = .ok (.enter g args) w)
    (hcall : ∀ V p, p ∈ ls → Below w.heap.size w V → Calls Tryd.prog g (#[.agg #[.int .i64 p.1, .int .i64 p.2]] ++ cb) V fun e V' => e = .returned (.bool (f p)) ∧ Below V.heap.size V V') :
    Calls Tryd.prog 48 #[.slice A n c, .func (.func g) #[] cb] w fun e w' => Below w.heap.size w w' ∧ ∃ t, e = .returned (.bool t) ∧ Hid (t = ls.any f) := by
  have HI := Lib.hid (IndexFn_any g cb f A n c ls w hr eg hcall)
  clear hcall
  go_enter Tryd.func48, Tryd.ntmps48
  go_wp2_with fail
  refine HI.out.mono ?_
  rintro e w1 ⟨hb1, r, rfl, hI⟩
  by_cases h : 0 ≤ r
  · have ht : Hid (true = ls.any f) := by
      show _ = _
      rcases hI.out with ⟨h1, _⟩ | ⟨i, h1, h2, h3⟩
      · omega
      · exact (List.any_eq_true.2 ⟨ls.getD i (0, 0), by simp [List.getD, h2], h3⟩).symm
    go_wp2
    go_ret
    exact ⟨hb1, _, rfl, ht⟩
  · have ht : Hid (false = ls.any f) := by
      show _ = _
      rcases hI.out with ⟨h1, h2⟩ | ⟨i, h1, h2, h3⟩
      · refine (List.any_eq_false.2 fun p hp => ?_).symm
        obtain ⟨i, hi, rfl⟩ := List.getElem_of_mem hp
        have := h2 i hi
        simp [List.getD, hi] at this
        simp [this]
      · omega
    have hd : decide (0 ≤ r) = false := by simpa using h
    go_wp2
    go_ret
    exact ⟨hb1, _, rfl, ht⟩

/-! ### the closures -/
set_option maxRecDepth 100000 in
set_option maxHeartbeats 1000000 in
/-- the closure of without, which has captured the boxes of a and b -/
theorem wout1_any (ba bb : Nat) (a b p q : Int) (w : World) (ha : w.cell? ⟨ba, 0, none⟩ = some (.int .i64 a)) (hb : w.cell? ⟨bb, 0, none⟩ = some (.int .i64 b)) :
    Calls Tryd.prog 45 #[.agg #[.int .i64 p, .int .i64 q], .pointer (some ⟨ba, 0, none⟩), .pointer (some ⟨bb, 0, none⟩)] w fun e w' => e = .returned (.bool (Tl.jn a b (p, q))) ∧ Below w.heap.size w w' := by
  have hal : Below w.heap.size w (w.alloc (.cells #[.int .i64 p, .int .i64 q] 37)) := (Below.refl _ _).alloc (Nat.le_refl _) _
  have ka : (w.alloc (.cells #[.int .i64 p, .int .i64 q] 37)).cell? ⟨ba, 0, none⟩ = some (.int .i64 a) := (hal.cell (p := ⟨ba, 0, none⟩) (World.block_lt_of_cell? w _ ha)).trans ha
  have kb : (w.alloc (.cells #[.int .i64 p, .int .i64 q] 37)).cell? ⟨bb, 0, none⟩ = some (.int .i64 b) := (hal.cell (p := ⟨bb, 0, none⟩) (World.block_lt_of_cell? w _ hb)).trans hb
  have HJ : Hid (Tl.jn a b (p, q) = ((p == a) && (q == b) || (p == b) && (q == a))) := by
    exact rfl
  rw [HJ.out]
  clear HJ
  cases e0 : (p == a) <;> cases e1 : (q == b) <;> cases e2 : (p == b) <;> cases e3 : (q == a)
  all_goals
    go_enter Tryd.func45, Tryd.ntmps45
    go_wp2
    go_ret
    exact ⟨rfl, hal⟩

set_option maxRecDepth 100000 in
/-- the closure of reachesAll, which has captured the box of the distances -/
theorem reach1_any (bd g m : Nat) (zs : List Int) (p q : Nat) (w : World) (hb : w.cell? ⟨bd, 0, none⟩ = some (.slice (some ⟨g, 0, none⟩) m m)) (hc : w.cell? ⟨g, p, none⟩ = some (.int .i64 (zs.getD p 0))) (hp : p < m) :
    Calls Tryd.prog 49 #[.agg #[.int .i64 (p : Int), .int .i64 (q : Int)], .pointer (some ⟨bd, 0, none⟩)] w fun e w' => e = .returned (.bool (decide (zs.getD p 0 < 0))) ∧ Below w.heap.size w w' := by
  have hal : Below w.heap.size w (w.alloc (.cells #[.int .i64 (p : Int), .int .i64 (q : Int)] 37)) := (Below.refl _ _).alloc (Nat.le_refl _) _
  have kb := (hal.cell (p := ⟨bd, 0, none⟩) (World.block_lt_of_cell? w _ hb)).trans hb
  have kc := (hal.cell (p := ⟨g, p, none⟩) (World.block_lt_of_cell? w _ hc)).trans hc
  generalize zs.getD p 0 = d at kc ⊢
  clear hc
  have k1 : (0 : Int) ≤ (p : Int) := by omega
  have k2 : (p : Int) < (m : Int) := by omega
  go_enter Tryd.func49, Tryd.ntmps49
  go_wp2
  go_ret
  exact ⟨rfl, hal⟩

end Go.Proofs.YtibphofiaodnmaaDoor
