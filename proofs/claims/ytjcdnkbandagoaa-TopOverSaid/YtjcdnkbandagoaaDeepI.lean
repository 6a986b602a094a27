/-
  The iterator that deep.search hands back: it yields the steps of the search, each with its time, for every loop body that keeps what the iterator reads and makes.
-/
import Derived.Test.YtjcdnkbandagoaaWalkG
import Derived.Test.YtjcdnkbandagoaaDeepO
namespace Go.Proofs.Ytjcdnkbandagoaa
open Go.RowKit Go.Shelf

attribute [local go_sem] Oper.semAt_some
set_option linter.unusedSimpArgs false

/-- a step, as it is yielded -/
def encS (x : Dp.Stp) : Array Value := #[.int .i64 (x.k : Int), .agg #[.int .i64 (x.v : Int), .int .i64 x.p, .bool x.fin]]

theorem Kept.trans {X : Nat → Prop} {W W' W'' : World} (h : Kept X W W') (h' : Kept X W' W'') : Kept X W W'' :=
  ⟨Nat.le_trans h.1 h'.1, fun k hk hx => (h'.2 k (Nat.lt_of_lt_of_le hk h.1) hx).trans (h.2 k hk hx)⟩
theorem Kept.mono {X Y : Nat → Prop} {W W' : World} (h : Kept X W W') (hxy : ∀ k, X k → Y k) : Kept Y W W' := ⟨h.1, fun k hk hx => h.2 k hk (fun e => hx (hxy k e))⟩
theorem Kept.alloc (X : Nat → Prop) (W : World) (o : Obj) : Kept X W (W.alloc o) := ⟨by simp, fun k hk _ => Below.heap_alloc W o k hk⟩
theorem Kept.boxed {X : Nat → Prop} {W W' : World} (h : Kept X W W') {B : Nat} {t : TypeId} {v : Value} (hb : Boxed W B t v) (hx : ¬ X B) : Boxed W' B t v := (h.2 B hb.lt hx).trans hb
theorem yieldAt_wide {n n' : Nat} {P : Program} {l : Nat} {args : Array Value} {W : World} {R : Ending → World → Prop} (h : YieldAt Fence.wide n P l args W R) : YieldAt Fence.wide n' P l args W R := by
  obtain ⟨fn, tmps, assign, body, h1, h2, h3⟩ := h
  exact ⟨fn, tmps, assign, body, h1, h2, fun c cs _ => h3 c cs (room_wide _)⟩

set_option maxRecDepth 100000 in
set_option maxHeartbeats 4000000 in
theorem tick_in (l s k k' v : Nat) (p : Int) (fin : Bool) (hk : k < 100) (hk' : k' = k + 1) (X : Nat → Prop) (J Jx : List Dp.Stp → World → Prop) (zs : List Dp.Stp) (hJ : Stays s J)
    (hY : ∀ pre x W1, J pre W1 → (pre ++ [x]) <+: zs → YieldAt Fence.wide 8 Try.prog l (encS x) W1 fun e W' =>
      (e = .returned (.bool true) ∧ J (pre ++ [x]) W' ∧ Kept X W1 W') ∨ (e = .returned (.bool false) ∧ Jx (pre ++ [x]) W'))
    (hX : ¬ X (s + 1)) (pre : List Dp.Stp) (hpre : (pre ++ [⟨k, v, p, fin⟩]) <+: zs) (W : World) (hc : Boxed W (s + 1) 3 (.int .i64 (k : Int))) (hy0 : Boxed W s 80 (.func (.yield l) #[] #[])) (hs : s ≤ W.heap.size) (hj : J pre W) :
    CallsIn Fence.wide 9 Try.prog 38 #[.agg #[.int .i64 (v : Int), .int .i64 p, .bool fin], .pointer (some ⟨s + 1, 0, none⟩), .pointer (some ⟨s, 0, none⟩)] W fun e W' =>
      (e = .returned (.bool true) ∧ J (pre ++ [⟨k, v, p, fin⟩]) W' ∧ Boxed W' (s + 1) 3 (.int .i64 (k' : Int)) ∧ Kept (fun b => X b ∨ b = s + 1) W W') ∨
      (e = .returned (.bool false) ∧ Jx (pre ++ [⟨k, v, p, fin⟩]) W') := by
  have hro : Fence.wide.round = none := rfl
  have hcs := hc.lt
  have hss : s < W.heap.size := by omega
  obtain ⟨W0, hW0⟩ : ∃ W0, W0 = W.setCell ⟨s + 1, 0, none⟩ (.int .i64 ((k : Int) + 1)) := ⟨_, rfl⟩
  have hsz0 : W0.heap.size = W.heap.size := by rw [hW0]; simp
  have hc0 : Boxed W0 (s + 1) 3 (.int .i64 ((k : Int) + 1)) := by rw [hW0]; exact hc.set _
  have hy1 : Boxed W0 s 80 (.func (.yield l) #[] #[]) := by rw [hW0]; exact hy0.other (by omega) _
  obtain ⟨W1, hW1⟩ : ∃ W1, W1 = W0.alloc (.cells #[.int .i64 (v : Int), .int .i64 p, .bool fin] 75) := ⟨_, rfl⟩
  have hc1 : Boxed W1 (s + 1) 3 (.int .i64 (k' : Int)) := by rw [hW1, hk']; have := hc0.alloc (.cells #[.int .i64 (v : Int), .int .i64 p, .bool fin] 75); simpa using this
  have hj1 : J pre W1 := hJ _ _ _ hj (by rw [hW1, hW0]; exact ((Below.refl _ _).setCell (p := ⟨s + 1, 0, none⟩) (by simp) _).alloc (by simp; omega) _)
  have hkp : Kept (fun b => X b ∨ b = s + 1) W W1 := by rw [hW1, hW0]; exact (Kept.set _ _ _ _ (.inr rfl)).trans (Kept.alloc _ _ _)
  have g1 := hc.cell
  have g2 := hc.frozen
  have g3 : W1.cell? ⟨s, 0, none⟩ = some (.func (.yield l) #[] #[]) := by rw [hW1]; exact (hy1.alloc _).cell
  have hbx : W1.heap[W.heap.size]? = some (.cells #[.int .i64 (v : Int), .int .i64 p, .bool fin] 75) := by rw [hW1, ← hsz0]; exact World.alloc_heap_new W0 _
  have g4 : W1.cell? ⟨W.heap.size, 0, none⟩ = some (.int .i64 (v : Int)) := by simp only [World.cell?, hbx]; rfl
  have g5 : W1.cell? ⟨W.heap.size, 1, none⟩ = some (.int .i64 p) := by simp only [World.cell?, hbx]; rfl
  have g6 : W1.cell? ⟨W.heap.size, 2, none⟩ = some (.bool fin) := by simp only [World.cell?, hbx]; rfl
  obtain ⟨fn, tmps, assign, body, hy, hRd⟩ := hY pre _ _ hj1 hpre
  simp only [encS] at hy
  rw [hW1, hW0] at g3 g4 g5 g6 hy
  have HW : Hid (W1 = (W.setCell ⟨s + 1, 0, none⟩ (.int .i64 ((k : Int) + 1))).alloc (.cells #[.int .i64 (v : Int), .int .i64 p, .bool fin] 75)) := by show _ = _; rw [hW1, hW0]
  clear hW0 hW1 hc0 hc hbx hy1 hy0 hj1 hY hk' hsz0
  refine callsIn_of_wp Try.func38 rfl trivial ?_ hro
  simp only [Try.ntmps38, List.size_toArray, List.length_cons, List.length_nil, Nat.reduceAdd, Nat.reduceSub, Array.replicate_succ, Array.replicate_zero, List.push_toArray, List.append_toArray, List.nil_append, List.cons_append]
  gi_wp2
  rw [← HW.out]
  refine hRd.mono ?_
  rintro e W3 (⟨rfl, hJ3, hk3⟩ | ⟨rfl, hJx3⟩)
  · gi_wp2
    go_ret
    exact .inl ⟨rfl, hJ3, hk3.boxed hc1 hX, hkp.trans (hk3.mono fun b hb => .inl hb)⟩
  · gi_wp2
    go_ret
    exact .inr ⟨rfl, hJx3⟩

/-- what stands still while the search goes on -/
def DpG (l s nB bb : Nat) (A : Option Addr) (m c : Nat) (rows : List (List Int)) (W : World) : Prop :=
  nB ≤ W.heap.size ∧ RdR W nB A m c rows ∧ W.cell? ⟨bb, 0, none⟩ = some (.slice A m c) ∧ Boxed W s 80 (.func (.yield l) #[] #[]) ∧
  Boxed W (s + 2) 81 (.func (.func 38) #[] #[.pointer (some ⟨s + 1, 0, none⟩), .pointer (some ⟨s, 0, none⟩)]) ∧
  Boxed W (s + 4) 49 (.slice (some ⟨s + 3, 0, none⟩) m m) ∧
  Boxed W (s + 5) 56 (.func (.func 39) #[] #[.pointer (some ⟨s + 4, 0, none⟩), .pointer (some ⟨s + 2, 0, none⟩), .pointer (some ⟨bb, 0, none⟩), .pointer (some ⟨s + 5, 0, none⟩)])
theorem DpG.kept {l s nB bb : Nat} {A : Option Addr} {m c : Nat} {rows : List (List Int)} {W W' : World} {X : Nat → Prop} (h : DpG l s nB bb A m c rows W) (hb : Kept X W W')
    (hX : ∀ k, X k → nB ≤ k ∧ k ≠ bb ∧ k ≠ s ∧ k ≠ s + 2 ∧ k ≠ s + 4 ∧ k ≠ s + 5) : DpG l s nB bb A m c rows W' := by
  obtain ⟨a1, a2, a3, a4, a5, a6, a7⟩ := h
  refine ⟨Nat.le_trans a1 hb.1, a2.keep (Nat.le_refl _) (fun p hp => ?_), hb.cell a3 (fun e => (hX _ e).2.1 rfl), hb.boxed a4 (fun e => (hX _ e).2.2.1 rfl), hb.boxed a5 (fun e => (hX _ e).2.2.2.1 rfl), hb.boxed a6 (fun e => (hX _ e).2.2.2.2.1 rfl), hb.boxed a7 (fun e => (hX _ e).2.2.2.2.2 rfl)⟩
  have := hb.2 p.block (by omega) (fun hx => by have := (hX _ hx).1; omega)
  unfold World.cell?
  rw [this]
theorem SeenAt.kept {W W' : World} {s m : Nat} {seen : List Bool} {X : Nat → Prop} (h : SeenAt W s m seen) (hb : Kept X W W') (hx : ¬ X s) (hs : s < W.heap.size) : SeenAt W' s m seen :=
  ownsRow_same h (fun k hk => by cases hk; exact hb.2 s hs hx)

theorem Rd.kept {W W' : World} {nB : Nat} {A : Option Addr} {n c : Nat} {zs : List Int} {X : Nat → Prop} (h : Rd W nB A n c zs) (hb : Kept X W W') (hX : ∀ k, X k → nB ≤ k) (hB : nB ≤ W.heap.size) : Rd W' nB A n c zs := by
  refine h.keep (Nat.le_refl _) (fun p hp => ?_)
  have := hb.2 p.block (by omega) (fun hx => by have := hX _ hx; omega)
  unfold World.cell?
  rw [this]

/-- how a visit may end -/
def VisPost (l s nB bb : Nat) (A : Option Addr) (m c : Nat) (rows : List (List Int)) (J Jx : List Dp.Stp → World → Prop) (zs pre : List Dp.Stp) (k : Nat) (seen : List Bool) (W : World) (e : Ending) (W' : World) : Prop :=
  (e = .returned (.bool true) ∧ J pre W' ∧ DpG l s nB bb A m c rows W' ∧ SeenAt W' (s + 3) m seen ∧ Boxed W' (s + 1) 3 (.int .i64 (k : Int)) ∧ Kept (fun k => nB ≤ k) W W') ∨
  (e = .returned (.bool false) ∧ ∃ pre', pre' <+: zs ∧ Jx pre' W')

/-- within a point's row: j of its points are done -/
def VisI (l s nB bb : Nat) (A : Option Addr) (m c : Nat) (rows : List (List Int)) (R : Nat → List Nat) (J : List Dp.Stp → World → Prop) (zt : List Dp.Stp) (f v : Nat) (last : Dp.Stp) (s1 : List Bool) (row : List Nat) (A' : Option Addr) (c' : Nat) (W0 : World) (j : Nat) (W : World) : Prop :=
  ∃ (F : Dp.Fo) (sj : List Bool) (kj : Nat) (prej : List Dp.Stp), F.depth ≤ f ∧ sj.length = m ∧ Dp.Dfs R sj (row.drop j) F s1 ∧ kj + 2 * F.size = last.k ∧ (prej ++ Dp.emit kj F (v : Int)) ++ [last] = zt ∧
    DpG l s nB bb A m c rows W ∧ SeenAt W (s + 3) m sj ∧ Boxed W (s + 1) 3 (.int .i64 (kj : Int)) ∧ J prej W ∧ Rd W nB A' row.length c' (upL row) ∧ Kept (fun k => nB ≤ k) W0 W

set_option maxRecDepth 100000 in
set_option maxHeartbeats 4000000 in
theorem visit_in (l m nB bb s : Nat) (hm8 : m ≤ 8) (R : Nat → List Nat) (hR : Wa.Ok m R) (A : Option Addr) (c : Nat) (rows : List (List Int)) (hrows : ∀ k, k < m → rows.getD k [] = upL (R k)) (X : Nat → Prop)
    (h1 : nB ≤ s) (h2 : bb < s) (hX1 : ∀ k, X k → nB ≤ k) (hX2 : ∀ k, X k → k < s) (hXb : ¬ X bb)
    (J Jx : List Dp.Stp → World → Prop) (zs : List Dp.Stp) (hJ : Stays s J)
    (hY : ∀ pre x W1, J pre W1 → (pre ++ [x]) <+: zs → YieldAt Fence.wide 8 Try.prog l (encS x) W1 fun e W' =>
      (e = .returned (.bool true) ∧ J (pre ++ [x]) W' ∧ Kept X W1 W') ∨ (e = .returned (.bool false) ∧ Jx (pre ++ [x]) W')) :
    ∀ (f : Nat) (ch : Dp.Fo), ch.depth < f → ∀ (v : Nat) (p : Int) (seen s1 : List Bool) (k k1 k2 : Nat) (pre zt : List Dp.Stp) (W : World), v < m → seen.length = m → Dp.Dfs R (seen.set v true) (R v) ch s1 → k1 = k + 2 * ch.size + 1 → k2 = k1 + 1 → k2 ≤ 90 →
      (pre ++ [⟨k, v, p, false⟩] ++ Dp.emit (k + 1) ch (v : Int)) ++ [⟨k1, v, p, true⟩] = zt → zt <+: zs → DpG l s nB bb A m c rows W → SeenAt W (s + 3) m seen → Boxed W (s + 1) 3 (.int .i64 (k : Int)) → J pre W →
      CallsIn Fence.wide 9 Try.prog 39 #[.int .i64 (v : Int), .int .i64 p, .pointer (some ⟨s + 4, 0, none⟩), .pointer (some ⟨s + 2, 0, none⟩), .pointer (some ⟨bb, 0, none⟩), .pointer (some ⟨s + 5, 0, none⟩)] W
        (VisPost l s nB bb A m c rows J Jx zs zt k2 s1 W) := by
  intro f
  induction f with
  | zero => intro ch h; omega
  | succ f ih =>
  intro ch hdep v p seen s1 k k1 k2 pre zt W hv hlen hd hk1 hk2 hk90 hzt hzs hG hS hC hj
  have hro : Fence.wide.round = none := rfl
  have hF1 : Fence.wide.fn 38 := trivial
  have hF2 : Fence.wide.fn 39 := trivial
  have hYn : ∀ k, X k → nB ≤ k ∧ k ≠ bb ∧ k ≠ s ∧ k ≠ s + 2 ∧ k ≠ s + 4 ∧ k ≠ s + 5 := fun k hk => ⟨hX1 k hk, fun e => hXb (e ▸ hk), by have := hX2 k hk; omega, by have := hX2 k hk; omega, by have := hX2 k hk; omega, by have := hX2 k hk; omega⟩
  have hYc : ∀ k, (X k ∨ k = s + 1) → nB ≤ k ∧ k ≠ bb ∧ k ≠ s ∧ k ≠ s + 2 ∧ k ≠ s + 4 ∧ k ≠ s + 5 := fun k hk => hk.elim (hYn k) (fun e => by omega)
  have hXs : ¬ X (s + 1) := fun e => by have := hX2 _ e; omega
  have hX3 : ¬ (X (s + 3) ∨ s + 3 = s + 1) := fun e => e.elim (fun e => by have := hX2 _ e; omega) (fun e => by omega)
  have hXn : ∀ k, (X k ∨ k = s + 1) → nB ≤ k := fun k hk => hk.elim (hX1 k) (fun e => by omega)
  have HIH := Lib.hid ih
  have HY := Lib.hid hY
  have HYc := Lib.hid hYc
  have HXs := Lib.hid hXs
  have HX3 := Lib.hid hX3
  have HXn := Lib.hid hXn
  have HD := Lib.hid hd
  have HK1 := Lib.hid hk1
  have HK2 := Lib.hid hk2
  have HZT := Lib.hid hzt
  have HZ := Lib.hid hzs
  have HJ := Lib.hid hJ
  have HRows := Lib.hid hrows
  have HOk := Lib.hid hR
  have hk1b : k1 < 100 := by omega
  have hk1c : k1 ≤ 89 := by omega
  have hkb : k < 100 := by omega
  clear ih hY hYc hYn hXs hX3 hXn hX1 hX2 hXb hd hk1 hk2 hzs hzt hJ hrows hR
  have hs5 := hG.2.2.2.2.2.2.lt
  have hv1 : (0 : Int) ≤ (v : Int) := by omega
  have hv2 : (v : Int) < (m : Int) := by omega
  -- the mark
  have g1 := hG.2.2.2.2.2.1.cell
  have g2 := hS.cell hv
  have g3 := World.ownsRow.frozenAt hS v
  obtain ⟨W0, hW0⟩ : ∃ W0, W0 = W.setCell ⟨s + 3, v, none⟩ (.bool true) := ⟨_, rfl⟩
  have hS0 : SeenAt W0 (s + 3) m (seen.set v true) := by rw [hW0]; exact (hS.set v true).1
  have hK0 : Kept (fun k => k = s + 3) W W0 := by rw [hW0]; exact Kept.set _ _ _ _ rfl
  have hG0 := hG.kept hK0 (fun k e => by omega)
  have hC0 := hK0.boxed hC (by omega)
  have hj0 : J pre W0 := by rw [hW0]; exact HJ.out _ _ _ hj ((Below.refl _ _).setCell (p := ⟨s + 3, v, none⟩) (by simp) _)
  have hs0 : s + 5 < W0.heap.size := by have := hK0.1; omega
  have hs0' : s ≤ W0.heap.size := by omega
  have hK00 : Kept (fun k => nB ≤ k) W W0 := hK0.mono (fun k e => by omega)
  have g4 := hG0.2.2.2.2.1.cell
  rw [hW0] at g4
  have HW0 := Lib.hid hW0
  have hzp : (pre ++ [⟨k, v, p, false⟩]) <+: zs := List.IsPrefix.trans ⟨Dp.emit (k + 1) ch (v : Int) ++ [⟨k1, v, p, true⟩], by rw [← HZT.out]; simp⟩ HZ.out
  have HZP := Lib.hid hzp
  clear hW0 hG hS hC hj hK0 hzp
  refine callsIn_of_wp Try.func39 rfl trivial ?_ hro
  simp only [Try.ntmps39, List.size_toArray, List.length_cons, List.length_nil, Nat.reduceAdd, Nat.reduceSub, Array.replicate_succ, Array.replicate_zero, List.push_toArray, List.append_toArray, List.nil_append, List.cons_append]
  gi_wp2_with fail
  rw [← HW0.out]
  refine (callsIn_wide.2 (callsIn_wide.1 (tick_in l s k (k + 1) v p false hkb rfl X J Jx zs HJ.out HY.out HXs.out pre HZP.out W0 hC0 hG0.2.2.2.1 hs0' hj0))).mono ?_
  rintro e W1 (⟨rfl, hj1, hC1, hK1⟩ | ⟨rfl, hJx⟩)
  · have hG1 := hG0.kept hK1 HYc.out
    have hS1 := hS0.kept hK1 HX3.out (by omega)
    have hK01 : Kept (fun k => nB ≤ k) W W1 := hK00.trans (hK1.mono HXn.out)
    obtain ⟨b2, o2, rfl, hb2, hrow⟩ := hG1.2.1.at_ (by omega)
    obtain ⟨A', c', hx, hrr⟩ := hrow v hv
    rw [HRows.out v hv] at hx hrr
    obtain ⟨nr, hnr⟩ : ∃ nr, nr = (upL (R v)).length := ⟨_, rfl⟩
    have HNR := Lib.hid (hnr.trans (upL_len (R v)))
    rw [← hnr] at hx hrr
    have hbig2 := hrr.big
    have g5 := hG1.2.2.1
    have HI : VisI l s nB bb (some ⟨b2, o2, none⟩) m c rows R J zt f v ⟨k1, v, p, true⟩ s1 (R v) A' c' W 0 W1 := ⟨ch, seen.set v true, k + 1, _, by omega, by simp [hlen], HD.out, by show k + 1 + 2 * ch.size = k1; rw [HK1.out]; omega, by rw [← HZT.out], hG1, hS1, hC1, hj1, by rw [← HNR.out]; exact hrr, hK01⟩
    clear hG1 hS1 hC1 hj1 hK1 hK01 hG0 hS0 hC0 hj0 hK00 hrow hnr g1 g2 g3 g4 hrr
    gi_wp2
    gi_loopw [25] (fun jv wr => ∃ j : Nat, j ≤ nr ∧ jv = .int .i64 (j : Int) ∧ VisI l s nB bb (some ⟨b2, o2, none⟩) m c rows R J zt f v ⟨k1, v, p, true⟩ s1 (R v) A' c' W j wr) (fun jv _ => nr - (intOf jv).toNat)
    case atStart => exact ⟨0, Nat.zero_le _, rfl, HI⟩
    case round =>
      obtain ⟨j, hjn, rfl, F, sj, kj, prej, hdj, hlj, hDj, hkj, hzj, hG, hS, hC, hj, hrr, hKK⟩ := hrel
      have HDj := Lib.hid hDj
      have HKj := Lib.hid hkj
      have HZj := Lib.hid hzj
      clear HI hDj hkj hzj
      rw [← HNR.out] at hrr
      by_cases hlt : j < nr
      · have hjl : j < (R v).length := by rw [← HNR.out]; exact hlt
        obtain ⟨b3, o3, rfl, hb3, hc3⟩ := hrr.at_ (by omega)
        have g6 := hc3 j hlt
        rw [upL_at] at g6
        clear hc3
        have hu : (R v).getD j 0 < m := HOk.out v hv _ (by simp [List.getD, hjl])
        have hdrop : (R v).drop j = (R v).getD j 0 :: (R v).drop (j + 1) := by rw [List.drop_eq_getElem_cons hjl]; simp [List.getD, hjl]
        have HDj2 : Hid (Dp.Dfs R sj ((R v).getD j 0 :: (R v).drop (j + 1)) F s1) := by show Dp.Dfs _ _ _ _ _; rw [← hdrop]; exact HDj.out
        clear hdrop HDj hjl
        generalize (R v).getD j 0 = u at g6 hu HDj2
        have g7 := hS.cell hu
        have g8 := hG.2.2.2.2.2.1.cell
        have hu1 : (0 : Int) ≤ (u : Int) := by omega
        have hu2 : (u : Int) < (m : Int) := by omega
        cases ht : sj.getD u false with
        | true =>
          rw [ht] at g7
          have HF : VisI l s nB bb (some ⟨b2, o2, none⟩) m c rows R J zt f v ⟨k1, v, p, true⟩ s1 (R v) (some ⟨b3, o3, none⟩) c' W (j + 1) wr := ⟨F, sj, kj, prej, hdj, hlj, HDj2.out.hit ht, HKj.out, HZj.out, hG, hS, hC, hj, by rw [← HNR.out]; exact hrr, hKK⟩
          clear ht HDj2 hG hS hC hj hrr hKK
          gi_wp2
          refine ⟨fun _ h => (by cases h), ?_⟩
          gi_wp2
          go_roundw
          case rel => exact ⟨j + 1, by omega, by go_num, HF⟩
          case measure => simp [intOf]; omega
        | false =>
          rw [ht] at g7
          obtain ⟨ch2, rest2, s2, hF, hd2, hd3⟩ := HDj2.out.miss ht
          have hdd : ch2.depth < f ∧ rest2.depth ≤ f := by rw [hF] at hdj; simp only [Dp.Fo.depth] at hdj; omega
          have hkk : kj + 2 * (ch2.size + rest2.size + 1) = k1 := by have := HKj.out; rw [hF] at this; exact this
          have hzz : (((prej ++ [⟨kj, u, (v : Int), false⟩] ++ Dp.emit (kj + 1) ch2 (u : Int)) ++ [⟨kj + 2 * ch2.size + 1, u, (v : Int), true⟩]) ++ Dp.emit (kj + 2 * ch2.size + 2) rest2 (v : Int)) ++ [⟨k1, v, p, true⟩] = zt := by
            rw [← HZj.out, hF]
            simp [Dp.emit]
          have hsp := hd2.spec HOk.out (by simp [hlj]) (HOk.out u hu)
          have g9 := hG.2.2.2.2.2.2.cell
          have hnw := hG.1
          have HC := HIH.out ch2 hdd.1 u (v : Int) sj s2 kj _ (kj + 2 * ch2.size + 2) prej _ wr hu hlj hd2 rfl rfl (by omega) rfl (List.IsPrefix.trans ⟨Dp.emit (kj + 2 * ch2.size + 2) rest2 (v : Int) ++ [⟨k1, v, p, true⟩], by rw [← hzz]; simp⟩ HZ.out) hG hS hC hj
          have HC2 := Lib.hid HC
          have HD3 := Lib.hid hd3
          have HKK := Lib.hid hkk
          have HZZ := Lib.hid hzz
          have HLS := Lib.hid hsp.len
          have hdd2 := hdd.2
          clear HC hd3 hkk hzz hsp hdd hd2 hF ht HDj2 HKj HZj hG hS hC hj
          gi_wp2_with fail
          refine (callsIn_wide.2 (callsIn_wide.1 HC2.out)).mono ?_
          rintro e W3 (⟨rfl, hj3, hG3, hS3, hC3, hK3⟩ | ⟨rfl, pre', hp', hJx⟩)
          · have HF : VisI l s nB bb (some ⟨b2, o2, none⟩) m c rows R J zt f v ⟨k1, v, p, true⟩ s1 (R v) (some ⟨b3, o3, none⟩) c' W (j + 1) W3 := ⟨rest2, s2, _, _, hdd2, HLS.out, HD3.out, by show _ = k1; have := HKK.out; omega, HZZ.out, hG3, hS3, hC3, hj3, by rw [← HNR.out]; exact hrr.kept hK3 (fun _ h => h) (by omega), hKK.trans hK3⟩
            clear hG3 hS3 hC3 hj3 hrr hKK hK3
            gi_wp2
            go_roundw
            case rel => exact ⟨j + 1, by omega, by go_num, HF⟩
            case measure => simp [intOf]; omega
          · gi_wp2
            go_ret
            exact .inr ⟨rfl, pre', hp', hJx⟩
      · obtain rfl : j = nr := by omega
        have hdr : (R v).drop j = [] := by rw [HNR.out, List.drop_length]
        have hD0 := HDj.out
        rw [hdr] at hD0
        obtain ⟨hF0, hs10⟩ := hD0.done
        subst hs10
        have hkk : kj = k1 := by have := HKj.out; rw [hF0] at this; exact this
        subst hkk
        have hzz : prej ++ [⟨kj, v, p, true⟩] = zt := by rw [← HZj.out, hF0]; simp [Dp.emit]
        have HZZ := Lib.hid hzz
        have g9 := hG.2.2.2.2.1.cell
        have HZP2 : Hid ((prej ++ [⟨kj, v, p, true⟩]) <+: zs) := by show _ <+: _; rw [hzz]; exact HZ.out
        have hsw : s ≤ wr.heap.size := by have := hG.2.2.2.2.2.2.lt; omega
        have hsw3 : s + 3 < wr.heap.size := by have := hG.2.2.2.2.2.2.lt; omega
        clear hzz hF0 hD0 hdr HDj HKj HZj
        gi_wp2_with fail
        refine (callsIn_wide.2 (callsIn_wide.1 (tick_in l s kj k2 v p true hk1b HK2.out X J Jx zs HJ.out HY.out HXs.out prej HZP2.out wr hC hG.2.2.2.1 hsw hj))).mono ?_
        rintro e W3 (⟨rfl, hj3, hC3, hK3⟩ | ⟨rfl, hJx⟩)
        · gi_wp2
          go_ret
          exact .inl ⟨rfl, by rw [← HZZ.out]; exact hj3, hG.kept hK3 HYc.out, hS.kept hK3 HX3.out hsw3, hC3, hKK.trans (hK3.mono HXn.out)⟩
        · gi_wp2
          go_ret
          exact .inr ⟨rfl, _, HZP2.out, hJx⟩
  · gi_wp2
    go_ret
    exact .inr ⟨rfl, _, HZP.out, hJx⟩

end Go.Proofs.Ytjcdnkbandagoaa
