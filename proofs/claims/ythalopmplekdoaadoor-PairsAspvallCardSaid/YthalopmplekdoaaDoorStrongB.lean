/-
  The iterator of package strong over the parts of a graph: it gives each part's number and its points, in the order of their least points. No statement of the program is proved here; there is no condition.
-/
import Derived.Test.YthalopmplekdoaaDoorStrongA
import Derived.Test.YthalopmplekdoaaDoorIterM
import Derived.Test.YthalopmplekdoaaDoorLibT
import Derived.Laws.EntriesVeiled
namespace Go.Proofs.YthalopmplekdoaaDoor
open Go.RowKit Go.Shelf

attribute [local go_sem] Oper.semAt_some
set_option linter.unusedSimpArgs false
set_option linter.unusedVariables false

theorem Kept.cellEq {X : Nat → Prop} {W W' : World} (h : Kept X W W') {p : Addr} (hlt : p.block < W.heap.size) (hx : ¬ X p.block) : W'.cell? p = W.cell? p := by
  unfold World.cell?
  rw [h.2 p.block hlt hx]
theorem Kept.on {X : Nat → Prop} {A B C : World} (h : Kept X A B) (k : Kept X B C) : Kept X A C := ⟨Nat.le_trans h.1 k.1, fun q hq hx => (k.2 q (Nat.lt_of_lt_of_le hq h.1) hx).trans (h.2 q hq hx)⟩
theorem Own.addr {w : World} {base e : Nat} {A : Option Addr} {n c : Nat} {zs : List Int} (h : Own w base e (.slice A n c) zs) (hn : 0 < n) : ∃ g, A = some ⟨g, 0, none⟩ ∧ base ≤ g ∧ g < w.heap.size := by
  have hl := h.len
  rcases h.2 with ⟨h2, h0⟩ | ⟨g, cap, cur, h2, hb, hg, _⟩
  · omega
  · simp only [Value.slice.injEq] at h2
    exact ⟨g, h2.1, hb, (Array.getElem?_eq_some_iff.1 hg).1⟩

/-- a part, and where its list lies -/
abbrev Part := Nat × Option Addr × Nat
def encPt (m : Nat) (ls : List Gr.Ln) (x : Part) : Array Value := #[.int .i64 ((Sg.below m ls x.1 : Nat) : Int), .slice x.2.1 (Sg.mem m ls x.1).length x.2.2]
/-- in each round -/
def PtG (m : Nat) (ls : List Gr.Ln) (D : Nat) (pre : List Part) (x : Part) (W : World) : Prop :=
  pre.map (fun y => y.1) = Sg.lsN m ls x.1 ∧ Sg.isl m ls x.1 = true ∧ x.1 < m ∧ Own W D 3 (.slice x.2.1 (Sg.mem m ls x.1).length x.2.2) (Sg.mem m ls x.1)
theorem PtG.put {m : Nat} {ls : List Gr.Ln} {D : Nat} (s : Nat) (pre : List Part) (x : Part) (W : World) (r r' : Loop) (hl : W.heap[s + 1]? = some (.loop r)) (h : PtG m ls D pre x W) : PtG m ls D pre x (W.putObj (s + 1) (.loop r')) :=
  ⟨h.1, h.2.1, h.2.2.1, ownsRow_putObj h.2.2.2 (.loop r') hl rfl⟩

set_option maxRecDepth 100000 in
set_option maxHeartbeats 4000000 in
theorem comps1_seq (m : Nat) (hm8 : m ≤ 8) (ls : List Gr.Ln) (hg : ∀ p ∈ ls, Gr.Good (m : Int) p) (A : Option Addr) (c B bx : Nat) (X : Nat → Prop) (w : World) (hB : B ≤ w.heap.size) (hr : RdR w B A m c (Cl.crows m ls)) (hbx : w.cell? ⟨bx, 0, none⟩ = some (.slice A m c))
    (hX1 : ∀ k, X k → B ≤ k) (hX2 : ∀ k, X k → k < w.heap.size) (hXb : ¬ X bx) :
    SeqMem Fence.wide 9 Tryd.prog 33 #[.pointer (some ⟨bx, 0, none⟩)] (encPt m ls) X (PtG m ls w.heap.size) (fun xs => xs.map (fun y => y.1) = Sg.lsN m ls m) w := by
  intro l J Jx W hb hsz hJ _ hY h0
  have hblt := World.block_lt_of_cell? w _ hbx
  simp only at hblt
  have HG := Lib.hid hg
  clear hg
  have hro : Fence.wide.round = none := rfl
  have hF1 : Fence.wide.fn 34 := trivial
  have c0 := (hb.cell (p := ⟨bx, 0, none⟩) hblt).trans hbx
  have r0 := hr.below (hb.mono hB)
  obtain ⟨D, hD⟩ : ∃ D, D = w.heap.size := ⟨_, rfl⟩
  rw [← hD] at hsz hY hX2 hB hblt
  have HD := Lib.hid hD
  have HB := Lib.hid hb
  clear hr hbx hD hb
  simp only [Nat.reduceSub] at hY
  show CallsIn Fence.wide 9 Tryd.prog 33 #[.func (.yield l) #[] #[], .pointer (some ⟨bx, 0, none⟩)] W fun e W' => (∃ v, e = .returned v) ∧ ((∃ xs : List Part, xs.map (fun y => y.1) = Sg.lsN m ls m ∧ J xs W') ∨ ∃ pre, Jx pre W')
  refine callsIn_of_wp Tryd.func33 rfl trivial ?_ hro
  simp only [Tryd.ntmps33, List.size_toArray, List.length_cons, List.length_nil, Nat.reduceAdd, Nat.reduceSub, Array.replicate_succ, Array.replicate_zero, List.push_toArray, List.append_toArray, List.nil_append, List.cons_append]
  gi_wp2
  gi_loopw [3, 4, 5, 8] (fun nv _ _ iv wr => ∃ (j : Nat) (pre : List Part), j ≤ m ∧ iv = .int .i64 (j : Int) ∧ nv = .int .i64 ((Sg.below m ls j : Nat) : Int) ∧ Hid (pre.map (fun y => y.1) = Sg.lsN m ls j) ∧ J pre wr ∧ wr.cell? ⟨bx, 0, none⟩ = some (.slice A m c) ∧ RdR wr B A m c (Cl.crows m ls) ∧ W.heap.size ≤ wr.heap.size) (fun _ _ _ iv _ => m - (intOf iv).toNat)
  case atStart => exact ⟨0, [], Nat.zero_le _, rfl, by rw [Sg.below_zero]; rfl, rfl, h0, c0, r0, Nat.le_refl _⟩
  case round =>
    clear h0 c0 r0
    obtain ⟨j, pre, hj, rfl, rfl, HP, hjp, hc, hrr, hws⟩ := hrel
    by_cases hlt : j < m
    · have hbl := Sg.below_le (n := m) (ls := ls) j
      obtain ⟨nb, hnb⟩ : ∃ nb, nb = Sg.below m ls j := ⟨_, rfl⟩
      rw [← hnb] at hbl ⊢
      have HNB := Lib.hid hnb
      clear hnb
      have HC := Lib.hid (component_any m hm8 ls HG.out A c j hlt wr (hrr.more (by omega)))
      obtain ⟨L, hL⟩ : ∃ L, L = (Sg.mem m ls j).length := ⟨_, rfl⟩
      have hLp : 0 < L := by rw [hL]; exact Sg.mem_pos hlt
      have hLi : (0 : Int) < (L : Int) := by omega
      have hmh := Sg.mem_head (ls := ls) hlt
      have HL := Lib.hid hL
      clear hL
      by_cases hp : Sg.pt m ls j = j
      · have hisl := Sg.isl_of hp
        rw [hp] at hmh
        clear hp
        have hN1 : Hid (∀ y : Option Addr × Nat, (pre ++ [((j, y) : Part)]).map (fun y => y.1) = Sg.lsN m ls (j + 1)) := by
          show ∀ y, _
          intro y
          rw [List.map_append, HP.out, Sg.lsN_hit hisl]
          rfl
        have hN2 := Lib.hid (Sg.below_hit hisl)
        gi_wp2_with (first | (gi_at_call 34; refine (callsIn_wide.2 HC.out).mono ?_; rintro e w5 ⟨u, rfl, hown, hb5⟩; obtain ⟨A5, c5, rfl, hrd⟩ := hown.rd; rw [← HL.out] at hown hrd ⊢; obtain ⟨g5, rfl, hg5, hg5'⟩ := hown.addr hLp; have k5 := hown.cell 0 hLp; rw [hmh] at k5; have hJ5 := hJ _ _ _ hjp (hb5.mono hws); have hG5 : PtG m ls D pre (j, some ⟨g5, 0, none⟩, c5) w5 := ⟨HP.out, hisl, hlt, by rw [← HL.out]; exact hown.mono (by omega)⟩; have hc5 := (hb5.cell (p := ⟨bx, 0, none⟩) (World.block_lt_of_cell? wr _ hc)).trans hc; have hr5 := hrr.below (hb5.mono (by omega)); have hs5 := hb5.size; obtain ⟨fn, tmps, assign, body, hy, hR⟩ := hY pre (j, some ⟨g5, 0, none⟩, c5) w5 hJ5 hG5; simp only [encPt, ← HL.out, ← HNB.out] at hy))
        refine hR.mono ?_
        rintro e W3 (⟨rfl, hJ3, hk3⟩ | ⟨rfl, hJx3⟩)
        · have hc3 := hk3.cell hc5 (fun h => h.elim hXb (fun h => by simp only at h; omega))
          have hr3 : RdR W3 B A m c (Cl.crows m ls) := hr5.keep (Nat.le_refl _) fun p hp => hk3.cellEq (by omega) (fun h => h.elim (fun h => by have := hX1 _ h; omega) (fun h => by omega))
          have hs3 := hk3.1
          gi_wp2
          go_roundw
          case rel => exact ⟨j + 1, _, by omega, by go_num, by rw [hN2.out, ← HNB.out]; go_num, hN1.out _, hJ3, hc3, hr3, by omega⟩
          case measure => simp [intOf]; omega
        · gi_wp2
          refine bodyPost_ret (results_none rfl _ _ _) rfl ?_
          exact ⟨⟨_, rfl⟩, .inr ⟨_, hJx3⟩⟩
      · have hisl := Sg.isl_no hp
        have hd : ((((Sg.pt m ls j : Nat) : Int)) != (j : Int)) = true := by simp; omega
        obtain ⟨q, hq⟩ : ∃ q : Int, q = ((Sg.pt m ls j : Nat) : Int) := ⟨_, rfl⟩
        rw [← hq] at hmh hd
        clear hp hq
        have hN1 : Hid (pre.map (fun y => y.1) = Sg.lsN m ls (j + 1)) := by show _ = _; rw [HP.out, Sg.lsN_miss hisl]
        have hN2 := Lib.hid (Sg.below_miss hisl)
        gi_wp2_with (first | (gi_at_call 34; refine (callsIn_wide.2 HC.out).mono ?_; rintro e w5 ⟨u, rfl, hown, hb5⟩; obtain ⟨A5, c5, rfl, hrd⟩ := hown.rd; rw [← HL.out] at hown hrd ⊢; obtain ⟨g5, rfl, hg5, hg5'⟩ := hown.addr hLp; have k5 := hown.cell 0 hLp; rw [hmh] at k5))
        have hJ5 := hJ _ _ _ hjp (hb5.mono hws)
        have hc5 := (hb5.cell (p := ⟨bx, 0, none⟩) (World.block_lt_of_cell? wr _ hc)).trans hc
        have hr5 := hrr.below (hb5.mono (by omega))
        have hs5 := hb5.size
        gi_wp2
        go_roundw
        case rel => exact ⟨j + 1, pre, by omega, by go_num, by rw [hN2.out, ← HNB.out], hN1, hJ5, hc5, hr5, by omega⟩
        case measure => simp [intOf]; omega
    · obtain rfl : j = m := by omega
      gi_wp2
      go_end0
      exact ⟨⟨_, rfl⟩, .inl ⟨pre, HP.out, hjp⟩⟩

theorem components_any (A : Option Addr) (n c : Nat) (w : World) :
    Calls Tryd.prog 26 #[.slice A n c] w fun e w' => e = .returned (.func (.func 33) #[] #[.pointer (some ⟨w.heap.size, 0, none⟩)]) ∧
      w' = w.alloc (.cells #[.slice A n c] 59) := by
  have hmf : ∀ (fn : Fn) (first cap : Array Value) (w : World), (Instr.makeFunc fn first cap).run Tryd.prog w = .ok (.func fn first cap) w := fun _ _ _ _ => rfl
  go_enter Tryd.func26, Tryd.ntmps26
  go_wp2
  go_ret
  exact ⟨rfl, rfl⟩

end Go.Proofs.YthalopmplekdoaaDoor
