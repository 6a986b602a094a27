/-
  The contract of Other of package graph: the other lines, or what is wrong.
-/
import Derived.Test.YtghdallaohpelaaDoorGraphI
import Derived.Laws.EntriesVeiled
namespace Go.Proofs.YtghdallaohpelaaDoor
open Go.RowKit Go.Shelf

attribute [local go_sem] Oper.semAt_some
set_option linter.unusedSimpArgs false

theorem GCheck_nil (n : Int) (A : Option Addr) (k c : Nat) (ls : List Gr.Ln) (w : World) (hr : RdP w w.heap.size A k c ls) (h : Gr.code n ls = 0) :
    Calls Tryd.prog 7 #[.int .i64 n, .slice A k c] w fun e w' => e = .returned .nilIface ∧ Below w.heap.size w w' :=
  (GCheck_any n A k c ls w hr).mono fun e w' he => ⟨he.1.trans (by rw [errOf_zero h]), he.2⟩
theorem GCheck_err (n : Int) (A : Option Addr) (k c : Nat) (ls : List Gr.Ln) (w : World) (hr : RdP w w.heap.size A k c ls) (h : Gr.code n ls ≠ 0) :
    Calls Tryd.prog 7 #[.int .i64 n, .slice A k c] w fun e w' => e = .returned (errv (Gr.code n ls)) ∧ Below w.heap.size w w' :=
  (GCheck_any n A k c ls w hr).mono fun e w' he => ⟨he.1.trans (by rw [errOf_pos h]), he.2⟩

/-- the cells of one pair that has just been laid -/
theorem cell_pair_new (w : World) (x y : Value) (t : TypeId) : ∀ j u, [x, y][j]? = some u → (w.alloc (.cells #[x, y] t)).cell? ((⟨w.heap.size, 0, none⟩ : Addr).add j) = some u := by
  intro j u hj
  match j, hj with
  | 0, hj =>
    simp at hj
    subst hj
    simp [Addr.add]
  | 1, hj =>
    simp at hj
    subst hj
    simp [Addr.add]

theorem ownsRow_mono {w : World} {base base' e size k : Nat} {v : Value} {xs : List Value} (h : w.ownsRow base e size v k xs) (hb : base' ≤ base) : w.ownsRow base' e size v k xs := by
  refine ⟨h.1, ?_⟩
  rcases h.2 with h2 | ⟨g, cap, cur, hv, hg, r⟩
  · exact .inl h2
  · exact .inr ⟨g, cap, cur, hv, by omega, r⟩

/-- what the closures read, from block s on -/
def OthG (B s m : Nat) (A : Option Addr) (k c : Nat) (ls : List Gr.Ln) (W : World) : Prop :=
  B ≤ s ∧ s + 5 ≤ W.heap.size ∧ RdP W B A k c ls ∧ W.cell? ⟨s, 0, none⟩ = some (.slice A k c) ∧
  W.cell? ⟨s + 1, 0, none⟩ = some (.func (.func 28) #[] #[.pointer (some ⟨s, 0, none⟩)]) ∧
  W.cell? ⟨s + 3, 0, none⟩ = some (.int .i64 (m : Int)) ∧
  W.cell? ⟨s + 4, 0, none⟩ = some (.func (.func 24) #[] #[.pointer (some ⟨s + 1, 0, none⟩)])
theorem OthG.keep {B s m k c : Nat} {A : Option Addr} {ls : List Gr.Ln} {W W' : World} (h : OthG B s m A k c ls W) (hs : s + 5 ≤ W'.heap.size) (hk : ∀ p : Addr, p.block < s + 5 → p.block ≠ s + 2 → W'.cell? p = W.cell? p) : OthG B s m A k c ls W' := by
  obtain ⟨h1, h2, h3, h4, h5, h6, h7⟩ := h
  refine ⟨h1, hs, h3.keep (Nat.le_refl _) (fun p hp => hk p (by omega) (by omega)), (hk _ (by simp) (by simp)).trans h4, (hk _ (by simp) (by simp)).trans h5, (hk _ (by simp) (by simp)).trans h6, (hk _ (by simp) (by simp)).trans h7⟩
theorem OthG.below {B s m k c : Nat} {A : Option Addr} {ls : List Gr.Ln} {W W' : World} (h : OthG B s m A k c ls W) (hb : Below (s + 5) W W') : OthG B s m A k c ls W' :=
  h.keep (Nat.le_trans h.2.1 hb.size) (fun _ hp _ => hb.cell hp)

/-- pairs as lines -/
def lns {m : Nat} (xs : List (Fin m × Fin m)) : List Gr.Ln := xs.map fun x => ((x.1.val : Int), (x.2.val : Int))
theorem lns_snoc {m : Nat} (xs : List (Fin m × Fin m)) (x : Fin m × Fin m) : lns (xs ++ [x]) = lns xs ++ [((x.1.val : Int), (x.2.val : Int))] := by simp [lns]
theorem lns_len {m : Nat} (xs : List (Fin m × Fin m)) : (lns xs).length = xs.length := by simp [lns]
theorem lns_full {m : Nat} {ls : List Gr.Ln} {xs : List (Fin m × Fin m)} (h : xs.map nat2 = Gr.full m fun a b => decide (a < b) && !Gr.adj ls (a : Int) (b : Int)) : lns xs = Gr.other m ls := by
  unfold Gr.other
  rw [← h, List.map_map]
  rfl

/-- what Other hands back -/
def OthPost (n : Int) (ls : List Gr.Ln) (w : World) (e : Ending) (w' : World) : Prop :=
  Below w.heap.size w w' ∧ ((Gr.code n ls ≠ 0 ∧ e = .returned (.tuple #[.slice none 0 0, errv (Gr.code n ls)])) ∨
    (Gr.code n ls = 0 ∧ 24 < (Gr.other n.toNat ls).length ∧ e = .returned (.tuple #[.slice none 0 0, errv 4])) ∨
    (Gr.code n ls = 0 ∧ (Gr.other n.toNat ls).length ≤ 24 ∧ ∃ v, e = .returned (.tuple #[v, .nilIface]) ∧ OwnP w' w.heap.size 33 v (Gr.other n.toNat ls)))

theorem Other_err (n : Int) (A : Option Addr) (k c : Nat) (ls : List Gr.Ln) (w : World) (hr : RdP w w.heap.size A k c ls) (h : Gr.code n ls ≠ 0) :
    Calls Tryd.prog 12 #[.int .i64 n, .slice A k c] w (OthPost n ls w) := by
  have H := Lib.hid h
  clear h
  go_enter Tryd.func12, Tryd.ntmps12
  go_wp2_with fail
  refine (GCheck_err n A k c ls _ hr H.out).mono ?_
  rintro e w1 ⟨rfl, hb⟩
  go_wp2
  go_ret2
  exact ⟨hb, .inl ⟨H.out, rfl⟩⟩

set_option maxRecDepth 100000 in
set_option maxHeartbeats 4000000 in
theorem Other_ok (m : Nat) (A : Option Addr) (k c : Nat) (ls : List Gr.Ln) (w : World) (hr : RdP w w.heap.size A k c ls) (h : Gr.code (m : Int) ls = 0) :
    CallsIn Fence.wide 10 Tryd.prog 12 #[.int .i64 (m : Int), .slice A k c] w (OthPost (m : Int) ls w) := by
  have hm8 : m ≤ 8 := by have := (Gr.code_zero.1 h).2.1; omega
  have H := Lib.hid h
  clear h
  have hro : Fence.wide.round = none := rfl
  have hF1 : Fence.wide.fn 7 := trivial
  have hF2 : Fence.wide.fn 22 := trivial
  have hF3 : Fence.wide.fn 21 := trivial
  have hmf : ∀ (fn : Fn) (first cap : Array Value) (w : World), (Instr.makeFunc fn first cap).run Tryd.prog w = .ok (.func fn first cap) w := fun _ _ _ _ => rfl
  obtain ⟨i0, hi, hz0, hz1, hz2⟩ := info_parts lineInfo
  refine callsIn_of_wp_marks Tryd.func12 rfl trivial ?_ hro
  simp only [Tryd.ntmps12, List.size_toArray, List.length_cons, List.length_nil, Nat.reduceAdd, Nat.reduceSub, Array.replicate_succ, Array.replicate_zero, List.push_toArray, List.append_toArray, List.nil_append, List.cons_append]
  gi_wp2_with (first
    | (gi_at_call 7; refine (callsIn_wide.2 (GCheck_nil (m : Int) A k c ls _ hr H.out)).mono ?_; rintro e w1 ⟨rfl, hb⟩)
    | (gi_at_call 22; refine (callsIn_wide.2 (adjacency_any A k c _)).mono ?_; rintro e w2 ⟨rfl, rfl⟩)
    | (gi_at_call 21; refine (callsIn_wide.2 (pairs_any (m : Int) _ _ _)).mono ?_; rintro e w3 ⟨rfl, rfl⟩))
  have hs0 := hb.size
  obtain ⟨s, hs⟩ : ∃ s, s = w1.heap.size := ⟨_, rfl⟩
  simp only [← hs, Nat.add_assoc, Nat.reduceAdd]
  obtain ⟨W0, hW0⟩ : ∃ W0, W0 = (((((w1.alloc (Obj.cells #[Value.slice A k c] 22)).alloc (Obj.cells #[Value.func (Fn.func 28) #[] #[Value.pointer (some ⟨s, 0, none⟩)]] 47)).alloc (Obj.cells #[Value.slice none 0 0] 22)).alloc (Obj.cells #[Value.int IntKind.i64 (m : Int)] 3)).alloc (Obj.cells #[Value.func (Fn.func 24) #[] #[Value.pointer (some ⟨s + 1, 0, none⟩)]] 47)) := ⟨_, rfl⟩
  rw [← hW0]
  have hB0 : Below w.heap.size w W0 := by
    rw [hW0]
    exact ((((hb.alloc hs0 _).alloc (by simp; omega) _).alloc (by simp; omega) _).alloc (by simp; omega) _).alloc (by simp; omega) _
  have hsz : W0.heap.size = s + 5 := by rw [hW0, hs]; simp
  have bO : Boxed W0 (s + 2) 22 (.slice none 0 0) := by
    rw [hW0]
    have := Boxed.new ((w1.alloc (Obj.cells #[Value.slice A k c] 22)).alloc (Obj.cells #[Value.func (Fn.func 28) #[] #[Value.pointer (some ⟨s, 0, none⟩)]] 47)) 22 (.slice none 0 0)
    simp only [World.size_alloc, ← hs] at this
    exact (this.alloc _).alloc _
  have hG0 : OthG w.heap.size s m A k c ls W0 := by
    refine ⟨by omega, by omega, (hr.below hB0), ?_, ?_, ?_, ?_⟩
    · rw [hW0]
      have := Boxed.new w1 22 (.slice A k c)
      simp only [World.size_alloc, ← hs] at this
      exact ((((this.alloc _).alloc _).alloc _).alloc _).cell
    · rw [hW0]
      have := Boxed.new (w1.alloc (Obj.cells #[Value.slice A k c] 22)) 47 (Value.func (Fn.func 28) #[] #[Value.pointer (some ⟨s, 0, none⟩)])
      simp only [World.size_alloc, ← hs] at this
      exact (((this.alloc _).alloc _).alloc _).cell
    · rw [hW0]
      have := Boxed.new (((w1.alloc (Obj.cells #[Value.slice A k c] 22)).alloc (Obj.cells #[Value.func (Fn.func 28) #[] #[Value.pointer (some ⟨s, 0, none⟩)]] 47)).alloc (Obj.cells #[Value.slice none 0 0] 22)) 3 (.int .i64 (m : Int))
      simp only [World.size_alloc, ← hs] at this
      exact (this.alloc _).cell
    · rw [hW0]
      have := Boxed.new ((((w1.alloc (Obj.cells #[Value.slice A k c] 22)).alloc (Obj.cells #[Value.func (Fn.func 28) #[] #[Value.pointer (some ⟨s, 0, none⟩)]] 47)).alloc (Obj.cells #[Value.slice none 0 0] 22)).alloc (Obj.cells #[Value.int IntKind.i64 (m : Int)] 3)) 47 (Value.func (Fn.func 24) #[] #[Value.pointer (some ⟨s + 1, 0, none⟩)])
      simp only [World.size_alloc, ← hs] at this
      exact this.cell
  have hws : w.heap.size ≤ s := by omega
  clear hW0 hs hb hs0
  refine wpIn_rangeFunc_ownG hro (by omega) (gf := 27) (lb := #[.pointer (some ⟨s + 3, 0, none⟩), .pointer (some ⟨s + 4, 0, none⟩)]) rfl trivial (enters_of Tryd.func27 (by kernel_rfl) rfl)
    (pairs1_oth_stops m (s + 3) (s + 4) (s + 1) hm8 (fun a b => decide (a < b) && !Gr.adj ls (a : Int) (b : Int)) (OthG w.heap.size s m A k c ls)
      (fun W g => g.2.2.2.2.2.1) (fun W g => g.2.2.2.2.2.2) (fun W W' g hb => g.below (hb.mono g.2.1))
      (fun W a b t g ha hb ht => oth1_any (s + 1) s A k c ls a b t W g.2.2.2.2.1 g.2.2.2.1 (g.2.2.1.more (by have := g.1; have := g.2.1; omega)) (by rw [← ht]; simp)) W0 hG0)
    (fun h1 h2 g => h2 (h1 g)) (fun W l o o' hl ho c1 c2 g => g.below (by have := belowK_b (w := W0) (Nat.le_refl _) W l o o' hl ho c1 c2; rwa [hsz] at this)) (Below.refl _ _) (fun _ => rfl)
    (fun pre W => (∃ v, Boxed W (s + 2) 22 v ∧ W.ownsRow (s + 5) 33 2 v (lns pre).length (pcells (lns pre)) ∧ True) ∧ (Below w.heap.size w W ∧ s + 5 ≤ W.heap.size))
    (fun _ _ _ => False)
    (OwnFrom.and (Go.Own.from (holdsRow_own (s + 5) (s + 2) 22 33 2 (fun pre => (lns pre).length) (fun pre => pcells (lns pre)) (fun _ _ => True)) _) (OwnFrom.and (ownFrom_below (Nat.le_refl _) (by omega)) (fun _ _ _ _ hs hg _ => Nat.le_trans hs hg.size)))
    (fun _ _ _ _ _ hs _ _ => hs)
    ⟨⟨_, bO, World.ownsRow_nil _ _ _ _, trivial⟩, hB0, by omega⟩
    (fun x => { tmps := #[.int .i64 (m : Int), .slice A k c, undef, undef, .slice none 0 0, .nilIface, .nilIface, .pointer (some ⟨s + 1, 0, none⟩),
      .func (.func 24) #[] #[.pointer (some ⟨s + 1, 0, none⟩)], .pointer (some ⟨s + 2, 0, none⟩), .int .i64 (x.1.val : Int), .int .i64 (x.2.val : Int), .int .i64 (m : Int), .slice A k c, .nilIface, .nilIface, .bool false, undef, .slice A k c,
      .func (.func 28) #[] #[.pointer (some ⟨s, 0, none⟩)], .func (.func 24) #[] #[.pointer (some ⟨s + 1, 0, none⟩)], .int .i64 (m : Int), .func (.func 24) #[] #[.pointer (some ⟨s + 1, 0, none⟩)],
      .func (.func 27) #[] #[.pointer (some ⟨s + 3, 0, none⟩), .pointer (some ⟨s + 4, 0, none⟩)], .int .i64 (x.1.val : Int), .int .i64 (x.2.val : Int), undef, undef, undef, undef, undef, undef, undef, undef, undef, undef, undef], defers := [] }) ?assign ?body ?done ?stop
  case assign =>
    intro l x W K hK
    simp only [enc2]
    gi_wp2
    exact hK
  case body =>
    rintro l pre x W ⟨⟨v, hv, hrow, _⟩, hB, hW5⟩ hlt
    have hc := hv.cell
    have hpl : (lns pre).length ≤ 64 := by rw [lns_len]; have : m * m ≤ 8 * 8 := Nat.mul_le_mul hm8 hm8; omega
    have hml : (lns pre).length + 1 ≤ maxLen := by simp only [maxLen]; omega
    gi_wp2_with (gi_at_builtin; refine wpListIn_append_own _ rfl _ _ 22 rfl (s + 5) 33 i0 (.agg #[.int .i64 0, .int .i64 0]) 2 16 Tryd.underlying22 hi hz0 hz1 hz2 rfl (by decide) _ _ _ rfl (hrow.alloc _) ⟨W.heap.size, 0, none⟩ 1 1 [.int .i64 (x.1.val : Int), .int .i64 (x.2.val : Int)] rfl rfl (cell_pair_new _ _ _ _) (by simp [Value.oneCell']) hml (by omega) (by simp; omega) ?_; intro v' w2 hown' hgrow _; obtain ⟨g', cap', rfl⟩ := ownsRow_succ hown'; obtain ⟨hv1, hv2, hr2, hk2, hb2⟩ := hv.appended (n₀ := w.heap.size) (by decide) (ownsRow_mono hrow (by omega)) hB.size (by omega) (ownsRow_mono hown' (by omega)) hgrow; have hc1 := hv1.cell; have hf1 := hv1.frozen)
    have hgr : (W.alloc (.cells #[.int .i64 (x.1.val : Int), .int .i64 (x.2.val : Int)] 33)).grownBy w2 v.ownBlock := hgrow
    have hb5 : Below (s + 5) W w2 := ((Below.refl (s + 5) W).alloc hW5 _).grown hgr (by simp; omega) (fun j ej => (World.ownsRow.lt hrow j ej).1)
    have hsz2 := hb5.size
    refine ⟨hk2.from _, fun g => (g.below hb5).keep ?_ (fun p _ hp => ?_), ⟨_, hv2, ?_, trivial⟩, hB.trans hb2, ?_⟩
    · simp; omega
    · refine World.cell?_setCell_other _ _ _ _ (fun e => hp (by rw [← e]))
    · rw [lns_snoc, List.length_append, pcells_app]
      exact World.ownsRow.kept hown' (grownBy_setCell' w2 (s + 2) _) (.inr (hv1.not_row (by decide) hown').symm)
    · simp; omega
  case done =>
    rintro D xs W hD hS ⟨⟨v, hv, hrow, _⟩, hB, hW5⟩ hK
    have hown : OwnP W (s + 5) 33 v (lns xs) := hrow
    rw [lns_full hS] at hown
    clear hrow
    have hown' := ownsRow_putObj hown (.deferred none) hK rfl
    have hB' := hB.trans (belowK_b (w := w) (Nat.le_refl _) W D _ (.deferred none) (by omega) hK rfl rfl)
    obtain ⟨A', c', rfl, hrd⟩ := OwnP.rd hown
    have hc := hv.cell
    have hbig := hrd.big
    obtain ⟨q, hq⟩ : ∃ q, q = (Gr.other m ls).length := ⟨_, rfl⟩
    rw [← hq] at hc hown' hbig
    have HQ := Lib.hid hq
    clear hown hrd hv hq
    by_cases h24 : 24 < q
    · gi_wp2
      refine ⟨by simp, .inl ⟨_, _, rfl, run_takeDeferred hK, ?_⟩⟩
      refine ⟨_, results_tmp2 rfl _ _ _, hB', .inr (.inl ⟨H.out, ?_, rfl⟩)⟩
      simpa [← HQ.out] using h24
    · gi_wp2
      refine ⟨by simp, .inl ⟨_, _, rfl, run_takeDeferred hK, ?_⟩⟩
      refine ⟨_, results_tmp2 rfl _ _ _, hB', .inr (.inr ⟨H.out, ?_, _, rfl, ?_⟩)⟩
      · simp only [Int.toNat_natCast]
        rw [← HQ.out]
        omega
      · simp only [Int.toNat_natCast]
        unfold OwnP
        rw [← HQ.out]
        exact ownsRow_mono hown' (by omega)
  case stop =>
    rintro D c pre W _ _ h _
    exact h.elim

theorem Other_any (n : Int) (A : Option Addr) (k c : Nat) (ls : List Gr.Ln) (w : World) (hr : RdP w w.heap.size A k c ls) :
    Calls Tryd.prog 12 #[.int .i64 n, .slice A k c] w (OthPost n ls w) := by
  by_cases h : Gr.code n ls = 0
  · obtain ⟨m, rfl⟩ : ∃ m : Nat, n = (m : Int) := ⟨n.toNat, by have := (Gr.code_zero.1 h).1; omega⟩
    exact callsIn_wide.1 (Other_ok m A k c ls w hr h)
  · exact Other_err n A k c ls w hr h

end Go.Proofs.YtghdallaohpelaaDoor
