/-
  The iterator that topo.free hands back: it yields the points in their order, each the least that may come next, for every loop body that keeps what the iterator reads and makes; the closures that it calls.
-/
import Derived.Test.YtcapinapfobcbaaTopoP
import Derived.Test.YtcapinapfobcbaaFindFn
import Derived.Test.YtcapinapfobcbaaSeen
import Derived.Laws.EntriesVeiled
namespace Go.Proofs.Ytcapinapfobcbaa
open Go.RowKit Go.Shelf

attribute [local go_sem] Oper.semAt_some
set_option linter.unusedSimpArgs false
set_option linter.unusedVariables false

/-- the marks of those that are out, and the box of their slice -/
def FrM (bt s m : Nat) (o : List Int) (W : World) : Prop := W.cell? ⟨bt, 0, none⟩ = some (.slice (some ⟨s, 0, none⟩) m m) ∧ SeenAt W s m (To.mk m o)
theorem FrM.lt {bt s m : Nat} {o : List Int} {W : World} (h : FrM bt s m o W) : bt < W.heap.size := by have := World.block_lt_of_cell? W _ h.1; exact this
theorem FrM.below {bt s m : Nat} {o : List Int} {W W' : World} (h : FrM bt s m o W) (hb : Below W.heap.size W W') : FrM bt s m o W' :=
  ⟨(hb.cell (p := ⟨bt, 0, none⟩) h.lt).trans h.1, h.2.same (hb.block s h.2.lt)⟩

/-! ### the closures -/
theorem line_free_any (bv bt s m : Nat) (o : List Int) (v q : Int) (a : Nat) (ha : a < m) (t : Bool) (w : World) (hv : w.cell? ⟨bv, 0, none⟩ = some (.int .i64 v)) (hM : FrM bt s m o w) (ht : (decide (q = v) && !o.contains (a : Int)) = t) :
    Calls Try.prog 35 #[.agg #[.int .i64 (a : Int), .int .i64 q], .pointer (some ⟨bv, 0, none⟩), .pointer (some ⟨bt, 0, none⟩)] w fun e w' => e = .returned (.bool t) ∧ Below w.heap.size w w' := by
  have hal : Below w.heap.size w (w.alloc (.cells #[.int .i64 (a : Int), .int .i64 q] 42)) := (Below.refl _ _).alloc (Nat.le_refl _) _
  have kv := (hal.cell (p := ⟨bv, 0, none⟩) (World.block_lt_of_cell? w _ hv)).trans hv
  have kM := hM.below hal
  obtain ⟨k1, k2⟩ := kM
  have kc := k2.cell ha
  rw [To.mk_at ha] at kc
  generalize o.contains (a : Int) = c at kc ht
  clear hM hv k2
  have a1 : (0 : Int) ≤ (a : Int) := by omega
  have a2 : (a : Int) < (m : Int) := by omega
  by_cases hq : q = v
  · have d1 : (q == v) = true := by simpa using hq
    have e1 : Hid (t = !c) := by show _ = _; rw [← ht]; simp [hq]
    clear hq ht
    cases c
    · go_enter Try.func35, Try.ntmps35
      go_wp2
      go_ret
      exact ⟨by rw [e1.out]; rfl, hal⟩
    · go_enter Try.func35, Try.ntmps35
      go_wp2
      go_ret
      exact ⟨by rw [e1.out]; rfl, hal⟩
  · have d1 : (q == v) = false := by simpa using hq
    have e1 : Hid (t = false) := by show _ = _; rw [← ht]; simp [hq]
    clear hq ht kc
    go_enter Try.func35, Try.ntmps35
    go_wp2
    go_ret
    exact ⟨by rw [e1.out]; rfl, hal⟩

theorem held_any (bl bt s nB m k c : Nat) (A : Option Addr) (ls : List Gr.Ln) (hg : ∀ p ∈ ls, Gr.Good (m : Int) p) (o : List Int) (v : Int) (t : Bool) (w : World) (hr : RdP w nB A k c ls) (hnB : nB ≤ w.heap.size)
    (hl : w.cell? ⟨bl, 0, none⟩ = some (.slice A k c)) (hM : FrM bt s m o w) (ht : To.heldB ls o v = t) :
    Calls Try.prog 33 #[.int .i64 v, .pointer (some ⟨bl, 0, none⟩), .pointer (some ⟨bt, 0, none⟩)] w fun e w' => e = .returned (.bool t) ∧ Below w.heap.size w w' := by
  obtain ⟨W0, hW0⟩ : ∃ W0, W0 = w.alloc (.cells #[.int .i64 v] 3) := ⟨_, rfl⟩
  have hal : Below w.heap.size w W0 := by rw [hW0]; exact (Below.refl _ _).alloc (Nat.le_refl _) _
  have kl : W0.cell? ⟨bl, 0, none⟩ = some (.slice A k c) := (hal.cell (p := ⟨bl, 0, none⟩) (World.block_lt_of_cell? w _ hl)).trans hl
  have kM := hM.below hal
  have kv : W0.cell? ⟨w.heap.size, 0, none⟩ = some (.int .i64 v) := by rw [hW0]; simp
  have kr : RdP W0 W0.heap.size A k c ls := (hr.more hnB).past hal
  have HC : Hid (∀ V p, p ∈ ls → Below W0.heap.size W0 V → Calls Try.prog 35 (#[.agg #[.int .i64 p.1, .int .i64 p.2]] ++ #[.pointer (some ⟨w.heap.size, 0, none⟩), .pointer (some ⟨bt, 0, none⟩)]) V fun e V' => e = .returned (.bool (decide (p.2 = v) && !o.contains p.1)) ∧ Below V.heap.size V V') := by
    intro V p hp hb
    obtain ⟨p, q⟩ := p
    have hgp := hg _ hp
    unfold Gr.Good at hgp
    simp only at hgp ⊢
    obtain ⟨a, rfl⟩ : ∃ a : Nat, p = (a : Int) := ⟨p.toNat, by omega⟩
    exact line_free_any w.heap.size bt s m o v q a (by omega) _ V ((hb.cell (p := ⟨w.heap.size, 0, none⟩) (World.block_lt_of_cell? W0 _ kv)).trans kv) (kM.below hb) rfl
  have HT : Hid (ls.any (fun p => decide (p.2 = v) && !o.contains p.1) = t) := ht
  have hsz : Hid (w.heap.size ≤ W0.heap.size) := hal.size
  have HAL := Lib.hid hal
  have hmf : ∀ (fn : Fn) (first cap : Array Value) (w : World), (Instr.makeFunc fn first cap).run Try.prog w = .ok (.func fn first cap) w := fun _ _ _ _ => rfl
  clear ht hM hl hr kM kv hal
  obtain ⟨s0, hs0⟩ : ∃ s0, s0 = w.heap.size := ⟨_, rfl⟩
  rw [← hs0] at HC
  have HS0 := Lib.hid hs0
  rw [hW0] at kl
  have HW0 := Lib.hid hW0
  clear hs0 hW0
  go_enter Try.func33, Try.ntmps33
  go_wp2_with fail
  rw [← HW0.out, ← HS0.out]
  refine (ContainsFn_any 35 #[.pointer (some ⟨s0, 0, none⟩), .pointer (some ⟨bt, 0, none⟩)] (fun p => decide (p.2 = v) && !o.contains p.1) A k c ls W0 kr (enters_of Try.func35 (by kernel_rfl) rfl) HC.out).mono ?_
  rintro e w1 ⟨hb1, r, rfl, hI⟩
  have hfin : Hid (r = t) := by show _ = _; rw [hI.out, HT.out]
  go_wp2
  go_ret
  exact ⟨by rw [hfin.out]; rfl, HAL.out.trans (hb1.mono hsz.out)⟩

/-! ### the iterator -/
theorem free_any (n : Int) (A : Option Addr) (k c : Nat) (w : World) :
    Calls Try.prog 22 #[.int .i64 n, .slice A k c] w fun e w' => e = .returned (.func (.func 32) #[] #[.pointer (some ⟨w.heap.size, 0, none⟩), .pointer (some ⟨w.heap.size + 1, 0, none⟩)]) ∧
      w' = (w.alloc (.cells #[.int .i64 n] 3)).alloc (.cells #[.slice A k c] 22) := by
  have hmf : ∀ (fn : Fn) (first cap : Array Value) (w : World), (Instr.makeFunc fn first cap).run Try.prog w = .ok (.func fn first cap) w := fun _ _ _ _ => rfl
  go_enter Try.func22, Try.ntmps22
  go_wp2
  go_ret
  exact ⟨rfl, rfl⟩

/-- what the iterator reads -/
def FrG (nB bn bl m : Nat) (A : Option Addr) (k c : Nat) (ls : List Gr.Ln) (W : World) : Prop :=
  nB ≤ W.heap.size ∧ RdP W nB A k c ls ∧ W.cell? ⟨bn, 0, none⟩ = some (.int .i64 (m : Int)) ∧ W.cell? ⟨bl, 0, none⟩ = some (.slice A k c)
theorem FrG.below {nB bn bl m s : Nat} {A : Option Addr} {k c : Nat} {ls : List Gr.Ln} {W W' : World} (h : FrG nB bn bl m A k c ls W) (h1 : nB ≤ s) (h2 : bn < s) (h3 : bl < s) (hb : Below s W W') : FrG nB bn bl m A k c ls W' :=
  ⟨Nat.le_trans h.1 hb.size, h.2.1.below (hb.mono h1), (hb.cell (p := ⟨bn, 0, none⟩) h2).trans h.2.2.1, (hb.cell (p := ⟨bl, 0, none⟩) h3).trans h.2.2.2⟩
theorem FrG.kept {nB bn bl m : Nat} {X : Nat → Prop} {A : Option Addr} {k c : Nat} {ls : List Gr.Ln} {W W' : World} (h : FrG nB bn bl m A k c ls W) (hX : ∀ k, X k → nB ≤ k) (h2 : ¬ X bn) (h3 : ¬ X bl) (hb : Kept X W W') : FrG nB bn bl m A k c ls W' :=
  ⟨Nat.le_trans h.1 hb.1, h.2.1.kept hb hX h.1, hb.cell h.2.2.1 h2, hb.cell h.2.2.2 h3⟩

/-- how many of the marks are not set -/
def openAt (s m : Nat) (W : World) : Nat := ((List.range m).filter fun i => match W.cell? ⟨s, i, none⟩ with
  | some (.bool true) => false
  | _ => true).length
theorem openAt_seen {W : World} {s m : Nat} {o : List Int} (h : SeenAt W s m (To.mk m o)) : openAt s m W = ((List.range m).filter fun i : Nat => !o.contains (i : Int)).length := by
  unfold openAt
  congr 1
  refine List.filter_congr fun i hi => ?_
  have hi' := List.mem_range.1 hi
  rw [h.cell hi', To.mk_at hi']
  cases o.contains (i : Int) <;> rfl
theorem filter_less {p q : Nat → Bool} (hpq : ∀ i, q i = true → p i = true) : ∀ {l : List Nat} {x : Nat}, x ∈ l → p x = true → q x = false → (l.filter q).length < (l.filter p).length
  | [], _, h, _, _ => absurd h (by simp)
  | y :: l, x, h, hp, hq => by
    have hle : ∀ l : List Nat, (l.filter q).length ≤ (l.filter p).length := fun l => by
      induction l with
      | nil => simp
      | cons z l ih =>
        cases hz : q z with
        | true => rw [List.filter_cons_of_pos hz, List.filter_cons_of_pos (hpq z hz)]; simpa using ih
        | false =>
          rw [List.filter_cons_of_neg (by simp [hz])]
          cases hw : p z with
          | true => rw [List.filter_cons_of_pos hw]; simp; omega
          | false => rw [List.filter_cons_of_neg (by simp [hw])]; exact ih
    rcases List.mem_cons.1 h with rfl | h
    · rw [List.filter_cons_of_pos hp, List.filter_cons_of_neg (by simp [hq])]
      have := hle l
      simp
      omega
    · have ih := filter_less hpq h hp hq
      cases hz : q y with
      | true => rw [List.filter_cons_of_pos hz, List.filter_cons_of_pos (hpq y hz)]; simpa using ih
      | false =>
        rw [List.filter_cons_of_neg (by simp [hz])]
        cases hw : p y with
        | true => rw [List.filter_cons_of_pos hw]; simp; omega
        | false => rw [List.filter_cons_of_neg (by simp [hw])]; exact ih
theorem open_less {m i : Nat} {o : List Int} (hi : i < m) (hn : (i : Int) ∉ o) : ((List.range m).filter fun j : Nat => !(o ++ [(i : Int)]).contains (j : Int)).length < ((List.range m).filter fun j : Nat => !o.contains (j : Int)).length := by
  refine filter_less (fun j hj => ?_) (List.mem_range.2 hi) ?_ ?_
  · simp at hj ⊢; exact hj.1
  · simpa using hn
  · simp

/-- at the head of a round: j are out -/
def FreI (s m : Nat) (o : List Int) (J : List Int → World → Prop) (G : World → Prop) (j : Nat) (W : World) : Prop :=
  j ≤ o.length ∧ J (o.take j) W ∧ G W ∧ FrM (s + 1) s m (o.take j) W ∧ s + 2 ≤ W.heap.size
theorem FreI.below {s m : Nat} {o : List Int} {J : List Int → World → Prop} {G : World → Prop} {j : Nat} {W W' : World} (h : FreI s m o J G j W) (hJ : Stays s J) (hG : ∀ A C, G A → Below s A C → G C) (hb : Below W.heap.size W W') : FreI s m o J G j W' := by
  obtain ⟨a0, a1, a2, a3, a4⟩ := h
  have hb' := hb.mono (show s ≤ W.heap.size by omega)
  exact ⟨a0, hJ _ _ _ a1 hb', hG _ _ a2 hb', a3.below hb, Nat.le_trans a4 hb.size⟩

set_option maxRecDepth 100000 in
set_option maxHeartbeats 4000000 in
theorem free1_in (l nB bn bl s m k c : Nat) (hm8 : m ≤ 8) (A : Option Addr) (ls : List Gr.Ln) (hgood : ∀ p ∈ ls, Gr.Good (m : Int) p) (o : List Int) (hstep : To.Step m ls o) (hstuck : To.Stuck m ls o) (X : Nat → Prop)
    (h1 : nB ≤ s) (h2 : bn < s) (h3 : bl < s) (hX1 : ∀ k, X k → nB ≤ k) (hX2 : ∀ k, X k → k < s) (hXb : ¬ X bn) (hXf : ¬ X bl)
    (J Jx : List Int → World → Prop) (hJ : Stays s J)
    (hY : ∀ pre x W1, J pre W1 → (pre ++ [x]) <+: o → YieldAt Fence.wide 8 Try.prog l (encI x) W1 fun e W' =>
      (e = .returned (.bool true) ∧ J (pre ++ [x]) W' ∧ Kept X W1 W') ∨ (e = .returned (.bool false) ∧ Jx (pre ++ [x]) W'))
    (W : World) (hs : W.heap.size = s) (hG : FrG nB bn bl m A k c ls W) (h0 : J [] W) :
    CallsIn Fence.wide 9 Try.prog 32 #[.func (.yield l) #[] #[], .pointer (some ⟨bn, 0, none⟩), .pointer (some ⟨bl, 0, none⟩)] W fun e W' => (∃ v, e = .returned v) ∧
      (J o W' ∨ ∃ pre, pre <+: o ∧ Jx pre W') := by
  have hro : Fence.wide.round = none := rfl
  obtain ⟨i0, hi, hz0, hz1, hz2⟩ := info_parts boolInfo
  have hml : m ≤ maxLen := by simp only [maxLen]; omega
  obtain ⟨zc, hzc⟩ : ∃ zc, zc = madeCells (Value.bool false).cells (m * 1) := ⟨_, rfl⟩
  have hmk : ∀ w : World, (Instr.makeSlice 68 (.int .i64 (m : Int)) (.int .i64 (m : Int))).run Try.prog w = .ok (.slice (some ⟨w.heap.size, 0, none⟩) m m) (w.alloc (.cells zc 4)) := fun w => by
    have := run_make (P := Try.prog) w 68 4 i0 (.bool false) Try.underlying68 hi hz0 .i64 .i64 (m : Int) (m : Int) (by omega) (Int.le_refl _) (by rw [hz2]; omega) (by omega)
    simp only [Int.toNat_natCast, hz1, ← hzc] at this
    exact this
  have hmf : ∀ (fn : Fn) (first cap : Array Value) (w : World), (Instr.makeFunc fn first cap).run Try.prog w = .ok (.func fn first cap) w := fun _ _ _ _ => rfl
  have hF1 : Fence.wide.fn 33 := trivial
  have g1 := hG.2.2.1
  have HY := Lib.hid hY
  have HJ := Lib.hid hJ
  have HGS : Hid (∀ A' C, FrG nB bn bl m A k c ls A' → Below s A' C → FrG nB bn bl m A k c ls C) := fun A' C h hb => h.below h1 h2 h3 hb
  have HO := Lib.hid hstep
  have HK := Lib.hid hstuck
  have HGD := Lib.hid hgood
  obtain ⟨W0, hW0⟩ : ∃ W0, W0 = (W.alloc (.cells zc 4)).alloc (.cells #[.slice (some ⟨s, 0, none⟩) m m] 68) := ⟨_, rfl⟩
  have hB1 : Below s W (W.alloc (.cells zc 4)) := (Below.refl _ _).alloc (by omega) _
  have hB0 : Below s W W0 := by rw [hW0]; exact hB1.alloc (by simp; omega) _
  have hsz1 : (W.alloc (.cells zc 4)).heap.size = s + 1 := by simp [hs]
  have hS0 : SeenAt W0 s m (To.mk m (o.take 0)) := by
    rw [List.take_zero, To.mk_nil, hW0]
    have := World.ownsRow_lit W zc (e := 4) (base := s) m (by omega) hml (by rw [hzc]; exact size_madeCells _ _)
    rw [hs, hzc] at this
    have := SeenAt.made this
    rw [← hzc] at this
    exact this.same (Below.heap_alloc _ _ _ (by omega))
  have hI0 : FreI s m o J (FrG nB bn bl m A k c ls) 0 W0 := by
    refine ⟨Nat.zero_le _, by rw [List.take_zero]; exact hJ _ _ _ h0 hB0, hG.below h1 h2 h3 hB0, ⟨?_, hS0⟩, by rw [hW0]; simp; omega⟩
    rw [hW0]
    have := Boxed.new (W.alloc (.cells zc 4)) 68 (.slice (some ⟨s, 0, none⟩) m m)
    rw [hsz1] at this
    exact this.cell
  have HW0 := Lib.hid hW0
  have HS := Lib.hid hs
  clear hY hJ hstep hstuck hzc hW0 hB1 hB0 hS0 hG h0 hs hgood
  refine callsIn_of_wp Try.func32 rfl trivial ?_ hro
  simp only [Try.ntmps32, List.size_toArray, List.length_cons, List.length_nil, Nat.reduceAdd, Nat.reduceSub, Array.replicate_succ, Array.replicate_zero, List.push_toArray, List.append_toArray, List.nil_append, List.cons_append]
  gi_wp2
  rw [HS.out, ← HW0.out]
  clear HW0 hsz1
  gi_loopw [6] (fun _ wr => ∃ j : Nat, FreI s m o J (FrG nB bn bl m A k c ls) j wr) (fun _ wr => openAt s m wr)
  case atStart => exact ⟨0, hI0⟩
  case round =>
    obtain ⟨j, hI⟩ := hrel
    clear hI0
    obtain ⟨V, hV⟩ : ∃ V, V = wr := ⟨_, rfl⟩
    subst hV
    have HOP : Hid (openAt s m V = ((List.range m).filter fun i : Nat => !(o.take j).contains (i : Int)).length) := openAt_seen hI.2.2.2.1.2
    gi_wp2
    gi_loopw [6] (fun vv wr => ∃ v : Nat, v ≤ m ∧ vv = .int .i64 (v : Int) ∧ Hid (∀ i : Nat, i < v → To.freeAt ls (o.take j) (i : Int) = false) ∧ FreI s m o J (FrG nB bn bl m A k c ls) j wr) (fun vv _ => m - (intOf vv).toNat)
    case atStart => exact ⟨0, Nat.zero_le _, rfl, (fun i hi => by omega), hI⟩
    case round =>
      clear hI
      obtain ⟨v, hvm, rfl, HF, hI⟩ := hrel
      obtain ⟨q0, q1, q2, q3, q4⟩ := hI
      have g1 := q2.2.2.1
      have g2 := q3.1
      have v1 : (0 : Int) ≤ (v : Int) := by omega
      by_cases hlt : v < m
      · have v2 : (v : Int) < (m : Int) := by omega
        have g3 := q3.2.cell hlt
        rw [To.mk_at hlt] at g3
        cases hc : (o.take j).contains (v : Int) with
        | true =>
          rw [hc] at g3
          have HN : Hid (∀ i : Nat, i < v + 1 → To.freeAt ls (o.take j) (i : Int) = false) := fun i hi => by
            by_cases e : i = v
            · rw [e, To.free_held, hc]; rfl
            · exact HF.out i (by omega)
          have HI : FreI s m o J (FrG nB bn bl m A k c ls) j wr := ⟨q0, q1, q2, q3, q4⟩
          clear hc q1 q2 q3
          gi_wp2
          refine ⟨fun _ h => (by cases h), ?_⟩
          gi_wp2
          go_roundw
          case rel => exact ⟨v + 1, by omega, by go_num, HN, HI⟩
          case measure => simp [intOf]; omega
        | false =>
          rw [hc] at g3
          have hnB : nB ≤ wr.heap.size := q2.1
          cases hh : To.heldB ls (o.take j) (v : Int) with
          | true =>
            have HN : Hid (∀ i : Nat, i < v + 1 → To.freeAt ls (o.take j) (i : Int) = false) := fun i hi => by
              by_cases e : i = v
              · rw [e, To.free_held, hc, hh]; rfl
              · exact HF.out i (by omega)
            have HC := Lib.hid (held_any bl (s + 1) s nB m k c A ls HGD.out (o.take j) (v : Int) true wr q2.2.1 hnB q2.2.2.2 q3 hh)
            have HI : FreI s m o J (FrG nB bn bl m A k c ls) j wr := ⟨q0, q1, q2, q3, q4⟩
            clear hc hh q1 q2 q3
            gi_wp2_with (gi_at_call 33; refine (callsIn_wide.2 HC.out).mono ?_; rintro e w1 ⟨rfl, hb1⟩)
            go_roundw
            case rel => exact ⟨v + 1, by omega, by go_num, HN, HI.below HJ.out HGS.out hb1⟩
            case measure => simp [intOf]; omega
          | false =>
            have hfree : To.freeAt ls (o.take j) (v : Int) = true := by rw [To.free_held, hc, hh]; rfl
            have hjl : j < o.length := by
              rcases Nat.lt_or_ge j o.length with h | h
              · exact h
              · rw [List.take_of_length_le h] at hfree
                have := HK.out v hlt
                rw [hfree] at this
                cases this
            have hx : o.getD j 0 = (v : Int) := by
              obtain ⟨i, hi, e, hf, hm⟩ := HO.out j hjl
              rcases Nat.lt_trichotomy i v with h | h | h
              · have := HF.out i h; rw [hf] at this; cases this
              · rw [e, h]
              · have := hm v h; rw [hfree] at this; cases this
            have hnin : ¬ (v : Int) ∈ o.take j := (To.freeAt_iff.1 hfree).1
            have htake : Hid (o.take j ++ [(v : Int)] = o.take (j + 1)) := by
              show _ = _
              rw [List.take_succ_eq_append_getElem hjl, ← hx]
              simp [List.getD, hjl]
            have HJL := Lib.hid hjl
            have HLESS : Hid (((List.range m).filter fun i : Nat => !(o.take (j + 1)).contains (i : Int)).length < ((List.range m).filter fun i : Nat => !(o.take j).contains (i : Int)).length) := by
              show _ < _
              rw [← htake.out]
              exact open_less hlt hnin
            have HC := Lib.hid (held_any bl (s + 1) s nB m k c A ls HGD.out (o.take j) (v : Int) false wr q2.2.1 hnB q2.2.2.2 q3 hh)
            have HI : FreI s m o J (FrG nB bn bl m A k c ls) j wr := ⟨q0, q1, q2, q3, q4⟩
            have d1 : ((v : Int) == (m : Int)) = false := by simp; omega
            clear hc hh q1 q2 q3 hfree hx hnin hjl HF
            gi_wp2_with (gi_at_call 33; refine (callsIn_wide.2 HC.out).mono ?_; rintro e w1 ⟨rfl, hb1⟩; have hIw := HI.below HJ.out HGS.out hb1; clear HI hb1 g1 g2 g3; have g1 := hIw.2.2.1.2.2.1; obtain ⟨fn, tmps, assign, body, hy, hRd⟩ := HY.out (o.take j) (v : Int) w1 hIw.2.1 (by rw [htake.out]; exact List.take_prefix _ _); simp only [encI] at hy)
            refine hRd.mono ?_
            obtain ⟨q0, q1, q2, q3, q4⟩ := hIw
            rintro e W3 (⟨rfl, hJ3, hk3⟩ | ⟨rfl, hJx3⟩)
            · have hG3 := q2.kept hX1 hXb hXf hk3
              have hM3 : FrM (s + 1) s m (o.take j) W3 := ⟨hk3.cell q3.1 (fun hx => by have := hX2 _ hx; simp only at this; omega), q3.2.same (hk3.2 s (by omega) (fun hx => by have := hX2 _ hx; omega))⟩
              have hs3 : s + 2 ≤ W3.heap.size := Nat.le_trans q4 hk3.1
              clear q1 q2 q3 q4 hk3 g1
              have g2 := hM3.1
              have g3 := hM3.2.cell hlt
              have g4 := World.ownsRow.frozenAt hM3.2 v
              have hset := hM3.2.set v true
              rw [To.mk_set hlt, htake.out] at hset
              rw [htake.out] at hJ3
              have hb4 : Below s W3 (W3.setCell ⟨s, v, none⟩ (.bool true)) := (Below.refl _ _).setCell (p := ⟨s, v, none⟩) (by simp) _
              have HF3 : FreI s m o J (FrG nB bn bl m A k c ls) (j + 1) (W3.setCell ⟨s, v, none⟩ (.bool true)) :=
                ⟨HJL.out, HJ.out _ _ _ hJ3 hb4, HGS.out _ _ hG3 hb4, ⟨by rw [World.cell?_setCell_other _ _ _ _ (fun e => by have : s = s + 1 := (congrArg Addr.block e); omega)]; exact g2, hset.1⟩, by simp; exact hs3⟩
              have HLE : Hid (openAt s m (W3.setCell ⟨s, v, none⟩ (.bool true)) < openAt s m V) := by
                show _ < _
                rw [openAt_seen hset.1, HOP.out]
                exact HLESS.out
              clear hset hJ3 hG3 hM3 hb4
              gi_wp2
              go_roundw
              case rel => exact ⟨j + 1, HF3⟩
              case measure => exact HLE.out
            · gi_wp2
              refine bodyPost_ret (results_none rfl _ _ _) rfl ?_
              exact ⟨⟨_, rfl⟩, .inr ⟨_, by rw [htake.out]; exact List.take_prefix _ _, hJx3⟩⟩
      · obtain rfl : v = m := by omega
        have hjo : o.take j = o := by
          rcases Nat.lt_or_ge j o.length with h | h
          · exfalso
            obtain ⟨i, hi, e, hf, _⟩ := HO.out j h
            have := HF.out i hi
            rw [hf] at this
            cases this
          · exact List.take_of_length_le h
        rw [hjo] at q1
        clear hjo q2 q3
        gi_wp2
        any_goals (exfalso; have hud : ∀ b : Bool, some undef ≠ some (Value.bool b) := (fun b => by simp [undef]); exact hud _ (by assumption))
        refine ⟨fun _ _ => trivial, ?_⟩
        gi_wp2
        refine bodyPost_ret (results_none rfl _ _ _) rfl ?_
        exact ⟨⟨_, rfl⟩, .inl q1⟩
/-- the same, as the caller's law asks for it -/
theorem free1_seq (nB bn bl m k c : Nat) (hm8 : m ≤ 8) (A : Option Addr) (ls : List Gr.Ln) (hgood : ∀ p ∈ ls, Gr.Good (m : Int) p) (o : List Int) (hstep : To.Step m ls o) (hstuck : To.Stuck m ls o) (X : Nat → Prop) (w : World)
    (hG : FrG nB bn bl m A k c ls w) (hX1 : ∀ k, X k → nB ≤ k) (hX2 : ∀ k, X k → k < w.heap.size) (hXb : ¬ X bn) (hXf : ¬ X bl) :
    SeqCells Fence.wide 9 Try.prog 32 #[.pointer (some ⟨bn, 0, none⟩), .pointer (some ⟨bl, 0, none⟩)] encI X o w := by
  intro l J Jx W hb hsz hJ _ hY h0
  have e1 := World.block_lt_of_cell? w _ hG.2.2.1
  have e2 := World.block_lt_of_cell? w _ hG.2.2.2
  have e3 := hG.1
  simp only at e1 e2
  exact free1_in l nB bn bl W.heap.size m k c hm8 A ls hgood o hstep hstuck _ (by omega) (by omega) (by omega) (fun k hk => hk.elim (hX1 k) (fun h => by omega)) (fun k hk => hk.elim (fun h => by have := hX2 k h; omega) (fun h => h.2))
    (fun hx => hx.elim hXb (fun h => by omega)) (fun hx => hx.elim hXf (fun h => by omega)) J Jx hJ hY W rfl (hG.below e3 e1 e2 hb) h0

end Go.Proofs.Ytcapinapfobcbaa
