/-
  The iterator that walk.outward hands back: it yields the points that can be reached, each with its distance, level by level, for every loop body that keeps what the iterator reads and makes.
-/
import Derived.Test.YtehkkpkhpbbpnaaDoorIter
import Derived.Test.YtehkkpkhpbbpnaaDoorWalkN
import Derived.Test.YtehkkpkhpbbpnaaDoorLibS
import Derived.Test.YtehkkpkhpbbpnaaDoorLibT
import Derived.Test.YtehkkpkhpbbpnaaDoorGraphB
namespace Go.Proofs.YtehkkpkhpbbpnaaDoor
open Go.RowKit Go.Shelf

attribute [local go_sem] Oper.semAt_some
set_option linter.unusedSimpArgs false

theorem boolInfo : (Tryd.prog.info? 4).map (fun i => (i.zero, i.size, i.bytes)) = some (some (.bool false), 1, 1) := by kernel_rfl

/-- points, as the program's numbers -/
def upL (l : List Nat) : List Int := l.map fun b => ((b : Nat) : Int)
theorem upL_len (l : List Nat) : (upL l).length = l.length := by simp [upL]
theorem upL_at (l : List Nat) (k : Nat) : (upL l).getD k 0 = ((l.getD k 0 : Nat) : Int) := by
  simp only [upL, List.getD, List.getElem?_map]
  cases l[k]? <;> rfl
theorem upL_snoc (l : List Nat) (b : Nat) : upL (l ++ [b]) = upL l ++ [(b : Int)] := by simp [upL]
/-- a pair, as it is yielded -/
def encP (x : Nat × Nat) : Array Value := #[.int .i64 (x.1 : Int), .int .i64 (x.2 : Int)]

/-- append onto an owned slice of integers, inside a fence -/
theorem wpListIn_app {F : Fence} {n : Nat} {P : Program} (w : World) {B : Nat} {ops : Array Oper} {rest : List Oper} {o : Oper} {a : Act} {Q : Exit → Act → World → Prop} (hgd : o.guard = none) (s x : Operand) (t : TypeId)
    (ho : o.op = .call { callee := .builtin .append, args := #[s, x], argTypes := #[t, t] })
    (base : Nat) (e : TypeId) (ht : P.underlying t = some (.slice e)) (hinfo : (P.info? e).map (fun i => (i.zero, i.size, i.bytes)) = some (some (.int .i64 0), 1, 8))
    (v : Value) (zs : List Int) (hs : a.eval s = v) (hown : Own w base e v zs) (A : Option Addr) (m c : Nat) (ys : List Int) (hx : a.eval x = .slice A m c) (hr : Rd w B A m c ys)
    (hroom : zs.length + m ≤ 17592186044416) (hbase : base ≤ w.heap.size)
    (h : ∀ v' w', Own w' base e v' (zs ++ ys) → w.grownBy w' v.ownBlock → (v'.ownBlock = v.ownBlock ∨ v'.ownBlock = some w.heap.size) → wpListIn F n P ops Q rest (a.put o.dst v') w') : wpListIn F n P ops Q (o :: rest) a w := by
  refine wpListIn_plain hgd fun K hK => ?_
  obtain ⟨v', w', hrun, h2, h3, h4⟩ := run_app (P := P) w base t o.type e ht hinfo v zs hown A m c ys hr hroom hbase
  unfold Oper.wpIn
  refine ⟨by simp [Oper.about, ho, resolve, Target.leads, Sem.run_pure], ?_⟩
  rw [Oper.semAt_plain F _ _ (by rw [ho]; intro c hc'; cases hc')]
  simp only [execOp, ho, resolve, invoke, builtin, Sem.run_bind, Sem.run_pure, Result.andThen_ok, List.map_toArray, List.map_cons, List.map_nil, hs, hx, hrun]
  exact hK _ _ (h v' w' h2 h3 h4)

/-- what the iterator reads -/
def OutG (nB bb bf : Nat) (A : Option Addr) (m c : Nat) (rows : List (List Int)) (a : Nat) (W : World) : Prop :=
  nB ≤ W.heap.size ∧ RdR W nB A m c rows ∧ W.cell? ⟨bb, 0, none⟩ = some (.slice A m c) ∧ W.cell? ⟨bf, 0, none⟩ = some (.int .i64 (a : Int))
theorem OutG.below {nB bb bf s : Nat} {A : Option Addr} {m c : Nat} {rows : List (List Int)} {a : Nat} {W W' : World} (h : OutG nB bb bf A m c rows a W) (h1 : nB ≤ s) (h2 : bb < s) (h3 : bf < s) (hb : Below s W W') : OutG nB bb bf A m c rows a W' :=
  ⟨Nat.le_trans h.1 hb.size, h.2.1.below (hb.mono h1), (hb.cell (p := ⟨bb, 0, none⟩) h2).trans h.2.2.1, (hb.cell (p := ⟨bf, 0, none⟩) h3).trans h.2.2.2⟩
theorem OutG.kept {nB bb bf : Nat} {X : Nat → Prop} {A : Option Addr} {m c : Nat} {rows : List (List Int)} {a : Nat} {W W' : World} (h : OutG nB bb bf A m c rows a W) (hX : ∀ k, X k → nB ≤ k) (h2 : ¬ X bb) (h3 : ¬ X bf) (hb : Kept X W W') : OutG nB bb bf A m c rows a W' := by
  refine ⟨Nat.le_trans h.1 hb.1, h.2.1.keep (Nat.le_refl _) (fun p hp => ?_), hb.cell h.2.2.1 h2, hb.cell h.2.2.2 h3⟩
  have := hb.2 p.block (by have := h.1; omega) (fun hx => by have := hX _ hx; omega)
  unfold World.cell?
  rw [this]

/-- the marks of the points that have been seen -/
def SeenAt (W : World) (s m : Nat) (seen : List Bool) : Prop := W.ownsRow s 4 1 (.slice (some ⟨s, 0, none⟩) m m) m (seen.map Value.bool)
theorem SeenAt.cell {W : World} {s m : Nat} {seen : List Bool} (h : SeenAt W s m seen) {v : Nat} (hv : v < m) : W.cell? ⟨s, v, none⟩ = some (.bool (seen.getD v false)) := by
  have hl : seen.length = m := by have := h.1; simpa using this
  rw [World.ownsRow.cellAt h v (by omega)]
  simp [List.getD, show v < seen.length by omega]
theorem SeenAt.set {W : World} {s m : Nat} {seen : List Bool} (h : SeenAt W s m seen) (v : Nat) (b : Bool) : SeenAt (W.setCell ⟨s, v, none⟩ (.bool b)) s m (seen.set v b) ∧ W.grownBy (W.setCell ⟨s, v, none⟩ (.bool b)) (some s) := by
  have := World.ownsRow.stored h v (.bool b)
  refine ⟨?_, this.2⟩
  unfold SeenAt
  rw [List.map_set]
  exact this.1
theorem SeenAt.made {W : World} {s m : Nat} (h : W.ownsRow s 4 1 (.slice (some ⟨s, 0, none⟩) m m) m (madeCells (Value.bool false).cells (m * 1)).toList) : SeenAt W s m (List.replicate m false) := by
  have : (madeCells (Value.bool false).cells (m * 1)).toList = (List.replicate m false).map Value.bool := by
    rw [Nat.mul_one, show (Value.bool false).cells = #[Value.bool false] from rfl, toList_madeCells_one, List.map_replicate]
  rw [this] at h
  exact h

/-- at the head of a level: lv is the level -/
def OutI (m : Nat) (R : Nat → List Nat) (a s : Nat) (J : List (Nat × Nat) → World → Prop) (G : World → Prop) (lv : Value) (d : Nat) (W : World) : Prop :=
  ∃ (lev : List Nat) (seen : List Bool) (pre : List (Nat × Nat)), Wa.Lev m R a d seen lev ∧ pre ++ Wa.bfs R (m + 1 - d) d seen lev = Wa.out m R a ∧ Own W s 3 lv (upL lev) ∧ SeenAt W s m seen ∧ J pre W ∧ G W ∧ s < W.heap.size ∧ d ≤ m
/-- within a level: i of its points are done, nv is what comes next -/
def MidI (m : Nat) (R : Nat → List Nat) (a s B : Nat) (J : List (Nat × Nat) → World → Prop) (G : World → Prop) (lv : Value) (d : Nat) (seen : List Bool) (lev : List Nat) (i : Nat) (nv : Value) (W : World) : Prop :=
  ∃ (pre : List (Nat × Nat)), pre ++ ((lev.drop i).map (fun v => (v, d)) ++ Wa.bfs R (m - d) (d + 1) (Wa.visLev R (seen, []) lev).1 (Wa.visLev R (seen, []) lev).2) = Wa.out m R a ∧
    Own W s 3 lv (upL lev) ∧ SeenAt W s m (Wa.visLev R (seen, []) (lev.take i)).1 ∧ Own W B 3 nv (upL (Wa.visLev R (seen, []) (lev.take i)).2) ∧ J pre W ∧ G W ∧ B ≤ W.heap.size
/-- within a point's row: j of its points are done -/
def InnI (m s B : Nat) (K G : World → Prop) (lv : Value) (lev : List Nat) (st : List Bool × List Nat) (row : List Nat) (j : Nat) (nv : Value) (W : World) : Prop :=
  Own W s 3 lv (upL lev) ∧ SeenAt W s m (Wa.visRow st (row.take j)).1 ∧ Own W B 3 nv (upL (Wa.visRow st (row.take j)).2) ∧ K W ∧ G W ∧ B ≤ W.heap.size


end Go.Proofs.YtehkkpkhpbbpnaaDoor
