/-
  The contract of Beside of package graph: for each point the points beside it, or what is wrong.
-/
import Derived.Test.YtojkjdccjomaaaaDoorLibS
import Derived.Test.YtojkjdccjomaaaaDoorGraphO
namespace Go.Proofs.YtojkjdccjomaaaaDoor
open Go.RowKit Go.Shelf

attribute [local go_sem] Oper.semAt_some
set_option linter.unusedSimpArgs false

/-- what the closures read, from block s on -/
def BesG (B s m : Nat) (A : Option Addr) (k c : Nat) (ls : List Gr.Ln) (W : World) : Prop :=
  B ≤ s ∧ s + 5 ≤ W.heap.size ∧ RdP W B A k c ls ∧ W.cell? ⟨s + 2, 0, none⟩ = some (.slice A k c) ∧
  W.cell? ⟨s + 3, 0, none⟩ = some (.int .i64 (m : Int)) ∧
  W.cell? ⟨s + 4, 0, none⟩ = some (.func (.func 41) #[] #[.pointer (some ⟨s + 2, 0, none⟩)])
theorem BesG.keep {B s m k c : Nat} {A : Option Addr} {ls : List Gr.Ln} {W W' : World} (h : BesG B s m A k c ls W) (hs : s + 5 ≤ W'.heap.size) (hk : ∀ p : Addr, p.block < s + 5 → p.block ≠ s → W'.cell? p = W.cell? p) : BesG B s m A k c ls W' := by
  obtain ⟨h1, h2, h3, h4, h5, h6⟩ := h
  refine ⟨h1, hs, h3.keep (Nat.le_refl _) (fun p hp => hk p (by omega) (by omega)), (hk _ (by simp) (by simp)).trans h4, (hk _ (by simp) (by simp)).trans h5, (hk _ (by simp) (by simp)).trans h6⟩
theorem BesG.below {B s m k c : Nat} {A : Option Addr} {ls : List Gr.Ln} {W W' : World} (h : BesG B s m A k c ls W) (hb : Below (s + 5) W W') : BesG B s m A k c ls W' :=
  h.keep (Nat.le_trans h.2.1 hb.size) (fun _ hp _ => hb.cell hp)

/-- what Beside hands back -/
def BesPost (n : Int) (ls : List Gr.Ln) (w : World) (e : Ending) (w' : World) : Prop :=
  Below w.heap.size w w' ∧ ((Gr.code n ls ≠ 0 ∧ e = .returned (.tuple #[.slice none 0 0, errv (Gr.code n ls)])) ∨
    (Gr.code n ls = 0 ∧ ∃ A c, e = .returned (.tuple #[.slice A n.toNat c, .nilIface]) ∧ RdR w' w'.heap.size A n.toNat c (Gr.rows n.toNat ls)))

/-- the rows lie in blocks from w's end on: so they read in each world that keeps those -/
def FarR (w w' : World) (A : Option Addr) (n c : Nat) (rows : List (List Int)) : Prop :=
  ∀ V : World, V.heap.size = w'.heap.size → (∀ k, w.heap.size ≤ k → V.heap[k]? = w'.heap[k]?) → RdR V w'.heap.size A n c rows

/-- the rows while the loop goes: the values vs lie in block s, each row is its own -/
def BesI (B s m : Nat) (pre : List (Fin m × Fin m)) (W : World) : Prop :=
  ∃ vs : List Value, W.ownsRow B 25 1 (.slice (some ⟨s, 0, none⟩) m m) m vs ∧ vs.length = m ∧
    (∀ a, a < m → Own W (s + 5) 3 (vs.getD a undef) (Gr.side (pre.map nat2) a)) ∧
    (∀ a a' q, a < m → a' < m → (vs.getD a undef).ownBlock = some q → (vs.getD a' undef).ownBlock = some q → a = a')

theorem BesI.own (B s m : Nat) {D : Nat} (hD : s + 5 ≤ D) : OwnFrom D (BesI B s m) := by
  rintro pre W W' row ⟨vs, h1, h2, h3, h4⟩ hg hr
  refine ⟨vs, World.ownsRow.kept h1 hg (.inr ?_), h2, fun a ha => (h3 a ha).keptNC hg (fun r e => (hr r e).2), h4⟩
  intro e
  have := (hr s (by rw [← e]; rfl)).1
  omega

/-- one round of the loop: a number is put to the row of a -/
theorem bes_step (B s m : Nat) (pre : List (Fin m × Fin m)) (a b : Nat) (ha : a < m) (hb : b < m) (W w3 : World) (o : Obj) (vs : List Value) (V v' : Value) (hW5 : s + 5 ≤ W.heap.size)
    (hrow : W.ownsRow B 25 1 (.slice (some ⟨s, 0, none⟩) m m) m vs) (hvl : vs.length = m) (hown : ∀ a, a < m → Own W (s + 5) 3 (vs.getD a undef) (Gr.side (pre.map nat2) a))
    (hdis : ∀ a a' q, a < m → a' < m → (vs.getD a undef).ownBlock = some q → (vs.getD a' undef).ownBlock = some q → a = a') (hV : V = vs.getD a undef)
    (hown' : Own w3 (s + 5) 3 v' (Gr.side (pre.map nat2) a ++ [(b : Int)])) (hgrow : (W.alloc o).grownBy w3 V.ownBlock) (hat : v'.ownBlock = V.ownBlock ∨ v'.ownBlock = some (W.alloc o).heap.size) :
    w3.cell? ⟨s, a, none⟩ = some V ∧ w3.frozen? ⟨s, a, none⟩ = false ∧ Below (s + 5) W w3 ∧ BesI B s m (pre ++ [(⟨a, ha⟩, ⟨b, hb⟩)]) (w3.setCell ⟨s, a, none⟩ v') ∧ KeepsOthers W (w3.setCell ⟨s, a, none⟩ v') ∧ w3.grownBy (w3.setCell ⟨s, a, none⟩ v') (some s) := by
  have hoV := hown a ha
  rw [← hV] at hoV
  have hVb : ∀ q, V.ownBlock = some q → s + 5 ≤ q := hoV.at_base
  have hba : Below (s + 5) W (W.alloc o) := (Below.refl _ W).alloc hW5 _
  have hbel : Below (s + 5) W w3 := hba.grown hgrow (by simp; omega) hVb
  have hrow3 : w3.ownsRow B 25 1 (.slice (some ⟨s, 0, none⟩) m m) m vs := World.ownsRow.kept (hrow.alloc o) hgrow (.inr (fun e => by have := hVb s e.symm; omega))
  have hset := hrow3.stored a v'
  have hlt : ∀ a', a' < m → ∀ q, (vs.getD a' undef).ownBlock = some q → q < W.heap.size := fun a' ha' q hq => (hown a' ha').lt q hq
  have hget : ∀ a', a' < m → (vs.set a v').getD a' undef = if a' = a then v' else vs.getD a' undef := by
    intro a' ha'
    simp only [List.getD, List.getElem?_set]
    by_cases h : a = a'
    · subst h
      simp [hvl, ha]
    · rw [if_neg h, if_neg (fun e => h e.symm)]
  have hsnoc : (pre ++ [((⟨a, ha⟩ : Fin m), (⟨b, hb⟩ : Fin m))]).map nat2 = pre.map nat2 ++ [(a, b)] := by simp [nat2]
  refine ⟨?_, hrow3.frozenAt a, hbel, ⟨vs.set a v', hset.1, by simp [hvl], ?_, ?_⟩, ?_, hset.2⟩
  · rw [hrow3.cellAt a (by omega), hV]
    simp [List.getD, hvl, ha]
  · intro a' ha'
    rw [hget a' ha', hsnoc]
    by_cases h : a' = a
    · subst h
      rw [if_pos rfl, Gr.side_hit]
      exact hown'.grown hset.2 (fun q hq e => by have := hown'.at_base q hq; cases e; omega)
    · rw [if_neg h, Gr.side_miss _ _ _ _ (fun e => h e.symm)]
      have h1 := (hown a' ha').below ((Below.refl _ W).alloc (Nat.le_refl _) o)
      have h2 := h1.grown hgrow (fun q hq e => h (hdis a' a q ha' ha hq (by rw [← hV]; exact e)))
      exact h2.grown hset.2 (fun q hq e => by have := h2.at_base q hq; cases e; omega)
  · intro x y q hx hy h1 h2
    rw [hget x hx] at h1
    rw [hget y hy] at h2
    by_cases ex : x = a
    · by_cases ey : y = a
      · rw [ex, ey]
      · rw [if_pos ex] at h1
        rw [if_neg ey] at h2
        rcases hat with h | h
        · exact absurd (hdis y a q hy ha h2 (by rw [← hV, ← h]; exact h1)) ey
        · rw [h] at h1
          have := hlt y hy q h2
          simp at h1
          omega
    · rw [if_neg ex] at h1
      by_cases ey : y = a
      · rw [if_pos ey] at h2
        rcases hat with h | h
        · exact absurd (hdis x a q hx ha h1 (by rw [← hV, ← h]; exact h2)) ex
        · rw [h] at h2
          have := hlt x hx q h1
          simp at h2
          omega
      · rw [if_neg ey] at h2
        exact hdis x y q hx hy h1 h2
  · refine ((KeepsOthers.alloc W o).trans (KeepsOthers.of_grownBy hgrow fun j o' ej hj => ?_)).trans (KeepsOthers.setCell _ _ _)
    have hoA := hoV.below ((Below.refl _ W).alloc (Nat.le_refl _) o)
    rcases hoA.2 with ⟨rfl, _⟩ | ⟨g, cap, cur, rfl, _, hgb, _⟩
    · simp [Value.ownBlock] at ej
    · obtain rfl : g = j := by simpa [Value.ownBlock] using ej
      rw [hgb] at hj
      cases hj
      rfl

theorem Beside_err (n : Int) (A : Option Addr) (k c : Nat) (ls : List Gr.Ln) (w : World) (hr : RdP w w.heap.size A k c ls) (h : Gr.code n ls ≠ 0) :
    Calls Tryd.prog 18 #[.int .i64 n, .slice A k c] w (BesPost n ls w) := by
  have H := Lib.hid h
  clear h
  go_enter Tryd.func18, Tryd.ntmps18
  go_wp2_with fail
  refine (GCheck_err n A k c ls _ hr H.out).mono ?_
  rintro e w1 ⟨rfl, hb⟩
  go_wp2
  go_ret2
  exact ⟨hb, .inl ⟨H.out, rfl⟩⟩

set_option maxRecDepth 100000 in
set_option maxHeartbeats 4000000 in
theorem Beside_far (m : Nat) (A : Option Addr) (k c : Nat) (ls : List Gr.Ln) (w : World) (hr : RdP w w.heap.size A k c ls) (h : Gr.code (m : Int) ls = 0) :
    CallsIn Fence.wide 10 Tryd.prog 18 #[.int .i64 (m : Int), .slice A k c] w (fun e w' => Below w.heap.size w w' ∧ ∃ A c, e = .returned (.tuple #[.slice A m c, .nilIface]) ∧ FarR w w' A m c (Gr.rows m ls)) := by
  have hm8 : m ≤ 8 := by have := (Gr.code_zero.1 h).2.1; omega
  have hm1 : 1 ≤ m := by have := (Gr.code_zero.1 h).1; omega
  have H := Lib.hid h
  clear h
  have hro : Fence.wide.round = none := rfl
  have hF1 : Fence.wide.fn 30 := trivial
  have hF2 : Fence.wide.fn 32 := trivial
  have hF3 : Fence.wide.fn 31 := trivial
  have hml : m ≤ maxLen := by simp only [maxLen]; omega
  obtain ⟨i0, hi, hz0, hz1, hz2⟩ := info_parts rowInfo
  have hby : i0.bytes * m ≤ 281474976710656 := by rw [hz2]; omega
  refine callsIn_of_wp_marks Tryd.func18 rfl trivial ?_ hro
  simp only [Tryd.ntmps18, List.size_toArray, List.length_cons, List.length_nil, Nat.reduceAdd, Nat.reduceSub, Array.replicate_succ, Array.replicate_zero, List.push_toArray, List.append_toArray, List.nil_append, List.cons_append]
  gi_wp2_with (first
    | (gi_at_call 30; refine (callsIn_wide.2 (GCheck_nil (m : Int) A k c ls _ hr H.out)).mono ?_; rintro e w1 ⟨rfl, hb⟩)
    | (gi_at_make; refine wpListIn_mk _ rfl (.tmp 16) (.tmp 16) 38 rfl w.heap.size 25 i0 (.slice none 0 0) 1 Tryd.underlying38 hi hz0 hz1 .i64 .i64 m rfl rfl hby hml hb.size ?_; intro w2 hrow2 hg2 hsz2)
    | (gi_at_call 32; refine (callsIn_wide.2 (adjacency_any A k c _)).mono ?_; rintro e w2 ⟨rfl, rfl⟩)
    | (gi_at_call 31; refine (callsIn_wide.2 (pairs_any (m : Int) _ _ _)).mono ?_; rintro e w3 ⟨rfl, rfl⟩))
  have hs0 := hb.size
  obtain ⟨s, hs⟩ : ∃ s, s = w1.heap.size := ⟨_, rfl⟩
  rw [← hs] at hsz2 hrow2
  simp only [← hs, Nat.add_assoc, Nat.reduceAdd]
  obtain ⟨W0, hW0⟩ : ∃ W0, W0 = ((((w2.alloc (Obj.cells #[Value.slice (some ⟨s, 0, none⟩) m m] 38)).alloc (Obj.cells #[Value.slice A k c] 22)).alloc (Obj.cells #[Value.int IntKind.i64 (m : Int)] 3)).alloc (Obj.cells #[Value.func (Fn.func 41) #[] #[Value.pointer (some ⟨s + 2, 0, none⟩)]] 47)) := ⟨_, rfl⟩
  rw [← hW0]
  have hb2 : Below w.heap.size w w2 := hb.grown hg2 hs0 (fun _ e => by cases e)
  have hB0 : Below w.heap.size w W0 := by
    rw [hW0]
    exact (((hb2.alloc (by omega) _).alloc (by simp; omega) _).alloc (by simp; omega) _).alloc (by simp; omega) _
  have hsz : W0.heap.size = s + 5 := by rw [hW0]; simp [hsz2]
  have bO : Boxed W0 (s + 1) 38 (.slice (some ⟨s, 0, none⟩) m m) := by
    rw [hW0]
    have := Boxed.new w2 38 (.slice (some ⟨s, 0, none⟩) m m)
    simp only [World.size_alloc, hsz2, Nat.add_assoc, Nat.reduceAdd] at this
    exact (((this.alloc _).alloc _).alloc _)
  have hG0 : BesG w.heap.size s m A k c ls W0 := by
    refine ⟨by omega, by omega, (hr.below hB0), ?_, ?_, ?_⟩
    · rw [hW0]
      have := Boxed.new (w2.alloc (Obj.cells #[Value.slice (some ⟨s, 0, none⟩) m m] 38)) 22 (.slice A k c)
      simp only [World.size_alloc, hsz2, Nat.add_assoc, Nat.reduceAdd] at this
      exact ((this.alloc _).alloc _).cell
    · rw [hW0]
      have := Boxed.new ((w2.alloc (Obj.cells #[Value.slice (some ⟨s, 0, none⟩) m m] 38)).alloc (Obj.cells #[Value.slice A k c] 22)) 3 (.int .i64 (m : Int))
      simp only [World.size_alloc, hsz2, Nat.add_assoc, Nat.reduceAdd] at this
      exact (this.alloc _).cell
    · rw [hW0]
      have := Boxed.new (((w2.alloc (Obj.cells #[Value.slice (some ⟨s, 0, none⟩) m m] 38)).alloc (Obj.cells #[Value.slice A k c] 22)).alloc (Obj.cells #[Value.int IntKind.i64 (m : Int)] 3)) 47 (Value.func (Fn.func 41) #[] #[Value.pointer (some ⟨s + 2, 0, none⟩)])
      simp only [World.size_alloc, hsz2, Nat.add_assoc, Nat.reduceAdd] at this
      exact this.cell
  have hcells : (madeCells (Value.slice none 0 0).cells (m * 1)).toList = List.replicate m (Value.slice none 0 0) := by
    rw [Nat.mul_one, show (Value.slice none 0 0).cells = #[Value.slice none 0 0] from rfl, toList_madeCells_one]
  rw [hcells] at hrow2
  have hI0 : BesI w.heap.size s m [] W0 := by
    refine ⟨List.replicate m (Value.slice none 0 0), ?_, List.length_replicate, fun a ha => ?_, fun a a' q ha ha' hq => ?_⟩
    · rw [hW0]
      exact (((hrow2.alloc _).alloc _).alloc _).alloc _
    · have : (List.replicate m (Value.slice none 0 0)).getD a undef = .slice none 0 0 := by simp [List.getD, ha]
      rw [this]
      exact Own.nil _ _ _
    · have : (List.replicate m (Value.slice none 0 0)).getD a undef = .slice none 0 0 := by simp [List.getD, ha]
      rw [this] at hq
      cases hq
  have hws : w.heap.size ≤ s := by omega
  clear hW0 hs hb hs0 hrow2 hg2 hsz2 hb2
  refine wpIn_rangeFunc_ownG hro (by omega) (gf := 40) (lb := #[.pointer (some ⟨s + 3, 0, none⟩), .pointer (some ⟨s + 4, 0, none⟩)]) rfl trivial (enters_of Tryd.func40 (by kernel_rfl) rfl)
    (pairs1_adj_stops m (s + 3) (s + 4) (s + 2) hm8 (fun a b => Gr.adj ls (a : Int) (b : Int)) (BesG w.heap.size s m A k c ls)
      (fun W g => g.2.2.2.2.1) (fun W g => g.2.2.2.2.2) (fun W W' g hb => g.below (hb.mono g.2.1))
      (fun W a b t g ha hb ht => adj1_any (s + 2) A k c ls a b t W g.2.2.2.1 (g.2.2.1.more (by have := g.1; have := g.2.1; omega)) ht) W0 hG0)
    (fun h1 h2 g => h2 (h1 g)) (fun W l o o' hl ho c1 c2 g => g.below (by have := belowK_b (w := W0) (Nat.le_refl _) W l o o' hl ho c1 c2; rwa [hsz] at this)) (Below.refl _ _) (fun _ => rfl)
    (fun pre W => BesI w.heap.size s m pre W ∧ (Boxed W (s + 1) 38 (.slice (some ⟨s, 0, none⟩) m m) ∧ (Below w.heap.size w W ∧ s + 5 ≤ W.heap.size)))
    (fun _ _ _ => False)
    (OwnFrom.and (BesI.own _ s m (by omega)) (OwnFrom.and (fun _ _ _ row hs hg hr => hs.kept hg (fun e => by have := (hr (s + 1) e.symm).1; omega)) (OwnFrom.and (ownFrom_below (Nat.le_refl _) (by omega)) (fun _ _ _ _ hs hg _ => Nat.le_trans hs hg.size))))
    (fun _ _ _ _ _ hs _ _ => hs)
    ⟨hI0, bO, hB0, by omega⟩
    (fun x => { tmps := #[.int .i64 (m : Int), .slice A k c, undef, undef, .slice none 0 0, .nilIface, .nilIface, .pointer (some ⟨s + 1, 0, none⟩), .int .i64 (x.1.val : Int), .int .i64 (x.2.val : Int), .int .i64 (m : Int), .slice A k c, .nilIface, .nilIface, .bool false, undef,
      .int .i64 (m : Int), .slice (some ⟨s, 0, none⟩) m m, .int .i64 (m : Int), .slice A k c, .func (.func 41) #[] #[.pointer (some ⟨s + 2, 0, none⟩)],
      .func (.func 40) #[] #[.pointer (some ⟨s + 3, 0, none⟩), .pointer (some ⟨s + 4, 0, none⟩)], .int .i64 (x.1.val : Int), .int .i64 (x.2.val : Int), undef, undef, undef, undef, undef, undef, undef, undef, undef, undef, undef], defers := [] }) ?assign ?body ?done ?stop
  case assign =>
    intro l x W K hK
    simp only [enc2]
    gi_wp2
    exact hK
  case body =>
    rintro l pre ⟨⟨a, ha⟩, ⟨b, hbm⟩⟩ W ⟨⟨vs, hrow, hvl, hown, hdis⟩, hbox, hB, hW5⟩ hlt
    have hc := hbox.cell
    have hlen : (Gr.side (pre.map nat2) a).length ≤ 64 := by
      have h1 := Gr.side_len (pre.map nat2) a
      have : m * m ≤ 8 * 8 := Nat.mul_le_mul hm8 hm8
      rw [List.length_map] at h1
      omega
    obtain ⟨V, hV⟩ : ∃ V, V = vs.getD a undef := ⟨_, rfl⟩
    have hca : W.cell? ⟨s, a, none⟩ = some V := by
      rw [hrow.cellAt a (by omega), hV]
      simp [List.getD, hvl, ha]
    have hfa := hrow.frozenAt a
    have hownA := hown a ha
    rw [← hV] at hownA
    have ha1 : (0 : Int) ≤ (a : Int) := by omega
    have ha2 : (a : Int) < (m : Int) := by omega
    gi_wp2
    refine wpIn_round_held (S := fun w' => w'.cell? ⟨s + 1, 0, none⟩ = some (.slice (some ⟨s, 0, none⟩) m m)) (by kernel_rfl) ?hnd ?hno hc ?hgo
    case hnd =>
      intro j o ho c hd
      have hmem := Array.mem_of_getElem? ho
      simp only [List.mem_toArray, List.mem_cons, List.not_mem_nil, or_false] at hmem
      rcases hmem with rfl | rfl | rfl | rfl | rfl | rfl | rfl | rfl | rfl | rfl | rfl <;> cases hd
    case hno =>
      rintro ⟨_, _, h⟩
      exact h
    case hgo =>
      intro hS1
      obtain ⟨Wd, hWd⟩ : ∃ Wd, Wd = W.drew := ⟨_, rfl⟩
      have hrowd : Wd.ownsRow w.heap.size 25 1 (.slice (some ⟨s, 0, none⟩) m m) m vs := by rw [hWd]; exact hrow
      have hownd : ∀ a, a < m → Own Wd (s + 5) 3 (vs.getD a undef) (Gr.side (pre.map nat2) a) := by rw [hWd]; exact hown
      have hcad : Wd.cell? ⟨s, a, none⟩ = some V := by rw [hWd]; exact hca
      have hbxd : Boxed Wd (s + 1) 38 (.slice (some ⟨s, 0, none⟩) m m) := by rw [hWd]; exact hbox
      have hW5d : s + 5 ≤ Wd.heap.size := by rw [hWd]; exact hW5
      have hBd : Below w.heap.size w Wd := by rw [hWd]; exact hB.drew
      have hkd : KeepsOthers W Wd := by rw [hWd]; exact KeepsOthers.drew W
      have hGd : BesG w.heap.size s m A k c ls W → BesG w.heap.size s m A k c ls Wd := by rw [hWd]; exact fun g => g
      rw [← hWd] at hS1 ⊢
      clear hWd
      have hca2 : (Wd.alloc (.cells #[.int .i64 (b : Int)] 3)).cell? ⟨s, a, none⟩ = some V := ((Below.refl _ Wd).alloc (Nat.le_refl _) _).cell (World.block_lt_of_cell? Wd _ hcad) |>.trans hcad
      have hS2 : (Wd.alloc (.cells #[.int .i64 (b : Int)] 3)).cell? ⟨s + 1, 0, none⟩ = some (.slice (some ⟨s, 0, none⟩) m m) := ((Below.refl _ Wd).alloc (Nat.le_refl _) _).cell (World.block_lt_of_cell? Wd _ hS1) |>.trans hS1
      have hoA2 : Own (Wd.alloc (.cells #[.int .i64 (b : Int)] 3)) (s + 5) 3 V (Gr.side (pre.map nat2) a) := by
        have := hownd a ha
        rw [← hV] at this
        exact this.below ((Below.refl _ Wd).alloc (Nat.le_refl _) _)
      have HV := Lib.hid hV
      clear hV
      refine wpAnyH_take (i := 1) (oi := { dst := some 25, op := Op.move (Operand.tmp 8), type := 3, pos := _, after := #[], guard := none }) (v := .int .i64 (a : Int)) rfl (by kernel_rfl) (by kernel_rfl) (by kernel_rfl) (fun _ _ _ h => h) (Or.inl ⟨by rfl, ?_⟩) (by assumption) ?_
      · intro w hSw
        go_simp
      simp only [Act.put, List.setIfInBounds_toArray, List.set_cons_zero, List.set_cons_succ]
      refine wpAnyH_take (i := 3) (oi := { dst := some 27, op := Op.move (Operand.tmp 8), type := 3, pos := _, after := #[], guard := none }) (v := .int .i64 (a : Int)) rfl (by kernel_rfl) (by kernel_rfl) (by kernel_rfl) (fun _ _ _ h => h) (Or.inl ⟨by rfl, ?_⟩) (by assumption) ?_
      · intro w hSw
        go_simp
      simp only [Act.put, List.setIfInBounds_toArray, List.set_cons_zero, List.set_cons_succ]
      refine wpAnyH_take (i := 6) (oi := { dst := some 30, op := Op.move (Operand.tmp 9), type := 3, pos := _, after := #[], guard := none }) (v := .int .i64 (b : Int)) rfl (by kernel_rfl) (by kernel_rfl) (by kernel_rfl) (fun _ _ _ h => h) (Or.inl ⟨by rfl, ?_⟩) (by assumption) ?_
      · intro w hSw
        go_simp
      simp only [Act.put, List.setIfInBounds_toArray, List.set_cons_zero, List.set_cons_succ]
      refine wpAnyH_take (i := 0) (oi := { dst := some 24, op := Op.load 38 (Operand.tmp 7), type := 38, pos := _, after := #[], guard := none }) (v := .slice (some ⟨s, 0, none⟩) m m) rfl (by kernel_rfl) (by kernel_rfl) (by kernel_rfl) (fun _ _ _ h => h) (Or.inl ⟨by rfl, ?_⟩) (by assumption) ?_
      · intro w hSw
        go_simp
      simp only [Act.put, List.setIfInBounds_toArray, List.set_cons_zero, List.set_cons_succ]
      refine wpAnyH_take (i := 2) (oi := { dst := some 26, op := Op.load 38 (Operand.tmp 7), type := 38, pos := _, after := #[], guard := none }) (v := .slice (some ⟨s, 0, none⟩) m m) rfl (by kernel_rfl) (by kernel_rfl) (by kernel_rfl) (fun _ _ _ h => h) (Or.inl ⟨by rfl, ?_⟩) (by assumption) ?_
      · intro w hSw
        go_simp
      simp only [Act.put, List.setIfInBounds_toArray, List.set_cons_zero, List.set_cons_succ]
      refine wpAnyH_take (i := 4) (oi := { dst := some 28, op := Op.indexAddr 38 (Operand.tmp 26) (Operand.tmp 27), type := 0, pos := _, after := #[{ on := 2, ground := Ground.data }, { on := 3, ground := Ground.data }], guard := none }) (v := .pointer (some ⟨s, a, none⟩)) rfl (by kernel_rfl) (by kernel_rfl) (by kernel_rfl) (fun _ _ _ h => h) (Or.inl ⟨by rfl, ?_⟩) (by assumption) ?_
      · intro w hSw
        go_simp
      simp only [Act.put, List.setIfInBounds_toArray, List.set_cons_zero, List.set_cons_succ]
      refine wpAnyH_ready (rs := [5, 7]) (by kernel_rfl) (by simp) ?_
      refine AllReadyH.cons (o := { dst := some 29, op := Op.load 25 (Operand.tmp 28), type := 25, pos := _, after := #[{ on := 4, ground := Ground.data }], guard := none }) rfl (fun K hK => ?_) ?_
      · go_simp
        refine hK.out _ _ hS1 (fun _ => ?_)
        clear hK K
        refine wpAnyH_ready (rs := [7]) (by kernel_rfl) (by simp) ?_
        refine AllReadyH.cons (o := { dst := some 31, op := Op.buildSlice 25 1 #[(0, Operand.tmp 30)], type := 25, pos := _, after := #[{ on := 6, ground := Ground.data }], guard := none }) rfl (fun K hK => ?_) AllReadyH.nil
        go_simp
        refine hK.out _ _ hS2 (fun _ => ?_)
        clear hK K
        refine wpAnyH_ready (rs := [8]) (by kernel_rfl) (by simp) ?_
        refine AllReadyH.cons (o := { dst := some 32, op := Op.call { callee := Callee.builtin Builtin.append, args := #[Operand.tmp 29, Operand.tmp 31], argTypes := #[25, 25] }, type := 25, pos := _, after := #[{ on := 5, ground := Ground.data }, { on := 7, ground := Ground.data }], guard := none }) rfl (fun K hK => ?_) AllReadyH.nil
        refine step_app (B := Wd.heap.size + 1) _ rfl (.tmp 29) (.tmp 31) 25 rfl (s + 5) 3 Tryd.underlying25 intInfo V _ rfl hoA2 (some ⟨Wd.heap.size, 0, none⟩) 1 1 [(b : Int)] rfl (Rd.one Wd _ _) (by omega) (by simp; omega) ?_
        intro v' w3 hown3 hg3 hat3
        obtain ⟨f1, f2, f3, f4, f5, f6⟩ := bes_step w.heap.size s m pre a b ha hbm Wd w3 _ vs V v' hW5d hrowd hvl hownd hdis HV.out hown3 hg3 hat3
        obtain ⟨A3, c3, hv3, _⟩ := hown3.rd
        obtain ⟨q3, hq3⟩ : ∃ q3, q3 = (Gr.side (pre.map nat2) a ++ [(b : Int)]).length := ⟨_, rfl⟩
        rw [← hq3] at hv3
        clear hq3
        subst hv3
        have hS3 : w3.cell? ⟨s + 1, 0, none⟩ = some (.slice (some ⟨s, 0, none⟩) m m) := (f3.cell (p := ⟨s + 1, 0, none⟩) (by simp)).trans hS1
        have hbx3 : Boxed w3 (s + 1) 38 (.slice (some ⟨s, 0, none⟩) m m) := (f3.block (s + 1) (by omega)).trans hbxd
        refine hK.out _ _ hS3 (fun _ => ?_)
        clear hK K
        simp only [Act.put, List.setIfInBounds_toArray, List.set_cons_zero, List.set_cons_succ]
        refine wpAnyH_ready (rs := [9]) (by kernel_rfl) (by simp) ?_
        refine AllReadyH.cons (o := { dst := some 33, op := Op.indexAddr 38 (Operand.tmp 24) (Operand.tmp 25), type := 0, pos := _, after := #[{ on := 0, ground := Ground.data }, { on := 1, ground := Ground.data }, { on := 0, ground := Ground.phase }, { on := 1, ground := Ground.phase }, { on := 2, ground := Ground.phase }, { on := 3, ground := Ground.phase }, { on := 4, ground := Ground.phase }, { on := 5, ground := Ground.phase }, { on := 6, ground := Ground.phase }, { on := 7, ground := Ground.phase }, { on := 8, ground := Ground.phase }], guard := none }) rfl (fun K hK => ?_) AllReadyH.nil
        go_simp
        refine hK.out _ _ hS3 (fun _ => ?_)
        clear hK K
        refine wpAnyH_ready (rs := [10]) (by kernel_rfl) (by simp) ?_
        refine AllReadyH.cons (o := { dst := none, op := Op.store 25 (Operand.tmp 33) (Operand.tmp 32), type := 0, pos := _, after := #[{ on := 9, ground := Ground.data }, { on := 8, ground := Ground.data }, { on := 8, ground := Ground.chain }, { on := 0, ground := Ground.phase }, { on := 1, ground := Ground.phase }, { on := 2, ground := Ground.phase }, { on := 3, ground := Ground.phase }, { on := 4, ground := Ground.phase }, { on := 5, ground := Ground.phase }, { on := 6, ground := Ground.phase }, { on := 7, ground := Ground.phase }, { on := 8, ground := Ground.phase }], guard := none }) rfl (fun K hK => ?_) AllReadyH.nil
        go_simp
        have hS4 := (hbx3.kept f6 (by simp)).cell
        refine hK.out _ _ hS4 (fun _ => ?_)
        clear hK K
        refine wpAnyH_done (by kernel_rfl) ?_ _
        refine ⟨(hkd.trans f5).from _, fun g => ((hGd g).below f3).keep ?_ (fun p _ hp => ?_), f4, hbx3.kept f6 (by simp), ?_, ?_⟩
        · have := f3.size
          simp
          omega
        · exact World.cell?_setCell_other _ _ _ _ (fun e => hp (by rw [← e]))
        · exact (hBd.trans (f3.mono (by omega))).setCell (p := ⟨s, a, none⟩) (by exact hws) _
        · have := f3.size
          simp
          omega
      refine AllReadyH.cons (o := { dst := some 31, op := Op.buildSlice 25 1 #[(0, Operand.tmp 30)], type := 25, pos := _, after := #[{ on := 6, ground := Ground.data }], guard := none }) rfl (fun K hK => ?_) AllReadyH.nil
      go_simp
      refine hK.out _ _ hS2 (fun _ => ?_)
      clear hK K
      refine wpAnyH_ready (rs := [5]) (by kernel_rfl) (by simp) ?_
      refine AllReadyH.cons (o := { dst := some 29, op := Op.load 25 (Operand.tmp 28), type := 25, pos := _, after := #[{ on := 4, ground := Ground.data }], guard := none }) rfl (fun K hK => ?_) AllReadyH.nil
      go_simp
      refine hK.out _ _ hS2 (fun _ => ?_)
      clear hK K
      refine wpAnyH_ready (rs := [8]) (by kernel_rfl) (by simp) ?_
      refine AllReadyH.cons (o := { dst := some 32, op := Op.call { callee := Callee.builtin Builtin.append, args := #[Operand.tmp 29, Operand.tmp 31], argTypes := #[25, 25] }, type := 25, pos := _, after := #[{ on := 5, ground := Ground.data }, { on := 7, ground := Ground.data }], guard := none }) rfl (fun K hK => ?_) AllReadyH.nil
      refine step_app (B := Wd.heap.size + 1) _ rfl (.tmp 29) (.tmp 31) 25 rfl (s + 5) 3 Tryd.underlying25 intInfo V _ rfl hoA2 (some ⟨Wd.heap.size, 0, none⟩) 1 1 [(b : Int)] rfl (Rd.one Wd _ _) (by omega) (by simp; omega) ?_
      intro v' w3 hown3 hg3 hat3
      obtain ⟨f1, f2, f3, f4, f5, f6⟩ := bes_step w.heap.size s m pre a b ha hbm Wd w3 _ vs V v' hW5d hrowd hvl hownd hdis HV.out hown3 hg3 hat3
      obtain ⟨A3, c3, hv3, _⟩ := hown3.rd
      obtain ⟨q3, hq3⟩ : ∃ q3, q3 = (Gr.side (pre.map nat2) a ++ [(b : Int)]).length := ⟨_, rfl⟩
      rw [← hq3] at hv3
      clear hq3
      subst hv3
      have hS3 : w3.cell? ⟨s + 1, 0, none⟩ = some (.slice (some ⟨s, 0, none⟩) m m) := (f3.cell (p := ⟨s + 1, 0, none⟩) (by simp)).trans hS1
      have hbx3 : Boxed w3 (s + 1) 38 (.slice (some ⟨s, 0, none⟩) m m) := (f3.block (s + 1) (by omega)).trans hbxd
      refine hK.out _ _ hS3 (fun _ => ?_)
      clear hK K
      simp only [Act.put, List.setIfInBounds_toArray, List.set_cons_zero, List.set_cons_succ]
      refine wpAnyH_ready (rs := [9]) (by kernel_rfl) (by simp) ?_
      refine AllReadyH.cons (o := { dst := some 33, op := Op.indexAddr 38 (Operand.tmp 24) (Operand.tmp 25), type := 0, pos := _, after := #[{ on := 0, ground := Ground.data }, { on := 1, ground := Ground.data }, { on := 0, ground := Ground.phase }, { on := 1, ground := Ground.phase }, { on := 2, ground := Ground.phase }, { on := 3, ground := Ground.phase }, { on := 4, ground := Ground.phase }, { on := 5, ground := Ground.phase }, { on := 6, ground := Ground.phase }, { on := 7, ground := Ground.phase }, { on := 8, ground := Ground.phase }], guard := none }) rfl (fun K hK => ?_) AllReadyH.nil
      go_simp
      refine hK.out _ _ hS3 (fun _ => ?_)
      clear hK K
      refine wpAnyH_ready (rs := [10]) (by kernel_rfl) (by simp) ?_
      refine AllReadyH.cons (o := { dst := none, op := Op.store 25 (Operand.tmp 33) (Operand.tmp 32), type := 0, pos := _, after := #[{ on := 9, ground := Ground.data }, { on := 8, ground := Ground.data }, { on := 8, ground := Ground.chain }, { on := 0, ground := Ground.phase }, { on := 1, ground := Ground.phase }, { on := 2, ground := Ground.phase }, { on := 3, ground := Ground.phase }, { on := 4, ground := Ground.phase }, { on := 5, ground := Ground.phase }, { on := 6, ground := Ground.phase }, { on := 7, ground := Ground.phase }, { on := 8, ground := Ground.phase }], guard := none }) rfl (fun K hK => ?_) AllReadyH.nil
      go_simp
      have hS4 := (hbx3.kept f6 (by simp)).cell
      refine hK.out _ _ hS4 (fun _ => ?_)
      clear hK K
      refine wpAnyH_done (by kernel_rfl) ?_ _
      refine ⟨(hkd.trans f5).from _, fun g => ((hGd g).below f3).keep ?_ (fun p _ hp => ?_), f4, hbx3.kept f6 (by simp), ?_, ?_⟩
      · have := f3.size
        simp
        omega
      · exact World.cell?_setCell_other _ _ _ _ (fun e => hp (by rw [← e]))
      · exact (hBd.trans (f3.mono (by omega))).setCell (p := ⟨s, a, none⟩) (by exact hws) _
      · have := f3.size
        simp
        omega
  case done =>
    rintro D xs W hD hS ⟨⟨vs, hrow, hvl, hown, hdis⟩, hbox, hB, hW5⟩ hK
    have hc := hbox.cell
    have hrow' := ownsRow_putObj hrow (.deferred none) hK rfl
    have hB' := hB.trans (belowK_b (w := w) (Nat.le_refl _) W D _ (.deferred none) (by omega) hK rfl rfl)
    have hrd : FarR w (W.putObj D (.deferred none)) (some ⟨s, 0, none⟩) m m (Gr.rows m ls) := by
      intro V hVs hV
      have hrowV := ownsRow_same hrow' (w' := V) (fun k hk => by cases hk; exact hV s (by omega))
      refine ⟨Gr.rows_len m ls, Nat.le_refl _, by omega, fun h => (by cases h), fun _ => ⟨s, 0, rfl, ?_, fun j hj => ?_⟩⟩
      · have := hrowV.cellAt 0 (by omega)
        have h0 : vs[0]? = some (vs.getD 0 undef) := by simp [List.getD, show 0 < vs.length by omega]
        rw [h0] at this
        rw [← hVs]
        exact World.block_lt_of_cell? _ _ this
      · have h1 := hown j hj
        rw [hS, Gr.side_full m _ hj] at h1
        have h2 : Own (W.putObj D (.deferred none)) (s + 5) 3 (vs.getD j undef) (Gr.row m ls j) := ownsRow_putObj h1 _ hK rfl
        have h3 : Own V (s + 5) 3 (vs.getD j undef) (Gr.row m ls j) := h2.same (fun k hk => hV k (by have := h2.at_base k hk; omega))
        obtain ⟨A', c', he, hr'⟩ := h3.rd
        rw [hVs] at hr'
        rw [Gr.rows_getD ls hj]
        refine ⟨A', c', ?_, hr'⟩
        rw [Nat.zero_add, hrowV.cellAt j (by omega), ← he]
        simp [List.getD, hvl, hj]
    clear hrow hown hdis hrow'
    gi_wp2
    refine ⟨by simp, .inl ⟨_, _, rfl, run_takeDeferred hK, ?_⟩⟩
    exact ⟨_, results_tmp2 rfl _ _ _, hB', _, _, rfl, hrd⟩
  case stop =>
    rintro D c pre W _ _ h _
    exact h.elim

theorem Beside_ok (m : Nat) (A : Option Addr) (k c : Nat) (ls : List Gr.Ln) (w : World) (hr : RdP w w.heap.size A k c ls) (h : Gr.code (m : Int) ls = 0) :
    CallsIn Fence.wide 10 Tryd.prog 18 #[.int .i64 (m : Int), .slice A k c] w (BesPost (m : Int) ls w) := by
  refine (Beside_far m A k c ls w hr h).mono ?_
  rintro e w' ⟨hb, A1, c1, rfl, hf⟩
  exact ⟨hb, .inr ⟨h, A1, c1, rfl, hf w' rfl (fun _ _ => rfl)⟩⟩

theorem Beside_any (n : Int) (A : Option Addr) (k c : Nat) (ls : List Gr.Ln) (w : World) (hr : RdP w w.heap.size A k c ls) :
    Calls Tryd.prog 18 #[.int .i64 n, .slice A k c] w (BesPost n ls w) := by
  by_cases h : Gr.code n ls = 0
  · obtain ⟨m, rfl⟩ : ∃ m : Nat, n = (m : Int) := ⟨n.toNat, by have := (Gr.code_zero.1 h).1; omega⟩
    exact callsIn_wide.1 (Beside_ok m A k c ls w hr h)
  · exact Beside_err n A k c ls w hr h

end Go.Proofs.YtojkjdccjomaaaaDoor
