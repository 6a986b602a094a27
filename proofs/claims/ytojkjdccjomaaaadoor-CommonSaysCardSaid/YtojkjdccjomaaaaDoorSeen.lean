/-
  Helpers: points as the program's numbers, append inside a fence, marks of points that have been seen. No statement of the program is proved here; there is no condition.
-/
import Derived.Test.YtojkjdccjomaaaaDoorIter
import Derived.Test.YtojkjdccjomaaaaDoorLibS
import Derived.Test.YtojkjdccjomaaaaDoorProg
namespace Go.Proofs.YtojkjdccjomaaaaDoor
open Go.RowKit Go.Shelf

attribute [local go_sem] Oper.semAt_some
set_option linter.unusedSimpArgs false

theorem boolInfo : (Tryd.prog.info? 4).map (fun i => (i.zero, i.size, i.bytes)) = some (some (.bool false), 1, 1) := by kernel_rfl

/-- points, as the program's numbers -/
def upL (l : List Nat) : List Int := l.map fun b => ((b : Nat) : Int)
theorem upL_len (l : List Nat) : (upL l).length = l.length := by simp [upL]
theorem upL_at (l : List Nat) (k : Nat) : (upL l).getD k 0 = ((l.getD k 0 : Nat) : Int) := by
  simp only [upL, List.getD, List.getElem?_map]
  cases l[k]? <;> rfl
theorem upL_snoc (l : List Nat) (b : Nat) : upL (l ++ [b]) = upL l ++ [(b : Int)] := by simp [upL]

/-- append onto an owned slice of integers, inside a fence -/
theorem wpListIn_app {F : Fence} {n : Nat} {P : Program} (w : World) {B : Nat} {ops : Array Oper} {rest : List Oper} {o : Oper} {a : Act} {Q : Exit → Act → World → Prop} (hgd : o.guard = none) (s x : Operand) (t : TypeId)
    (ho : o.op = .call { callee := .builtin .append, args := #[s, x], argTypes := #[t, t] })
    (base : Nat) (e : TypeId) (ht : P.underlying t = some (.slice e)) (hinfo : (P.info? e).map (fun i => (i.zero, i.size, i.bytes)) = some (some (.int .i64 0), 1, 8))
    (v : Value) (zs : List Int) (hs : a.eval s = v) (hown : Own w base e v zs) (A : Option Addr) (m c : Nat) (ys : List Int) (hx : a.eval x = .slice A m c) (hr : Rd w B A m c ys)
    (hroom : zs.length + m ≤ 17592186044416) (hbase : base ≤ w.heap.size)
    (h : ∀ v' w', Own w' base e v' (zs ++ ys) → w.grownBy w' v.ownBlock → (v'.ownBlock = v.ownBlock ∨ v'.ownBlock = some w.heap.size) → wpListIn F n P ops Q rest (a.put o.dst v') w') : wpListIn F n P ops Q (o :: rest) a w := by
  refine wpListIn_plain hgd fun K hK => ?_
  obtain ⟨v', w', hrun, h2, h3, h4⟩ := run_app (P := P) w base t o.type e ht hinfo v zs hown A m c ys hr hroom hbase
  unfold Oper.wpIn
  refine ⟨by simp [Oper.about, ho, resolve, Target.leads, Sem.run_pure], ?_⟩
  rw [Oper.semAt_plain F _ _ (by rw [ho]; intro c hc'; cases hc')]
  simp only [execOp, ho, resolve, invoke, builtin, Sem.run_bind, Sem.run_pure, Result.andThen_ok, List.map_toArray, List.map_cons, List.map_nil, hs, hx, hrun]
  exact hK _ _ (h v' w' h2 h3 h4)

/-- the marks of the points that have been seen -/
def SeenAt (W : World) (s m : Nat) (seen : List Bool) : Prop := W.ownsRow s 4 1 (.slice (some ⟨s, 0, none⟩) m m) m (seen.map Value.bool)
theorem SeenAt.cell {W : World} {s m : Nat} {seen : List Bool} (h : SeenAt W s m seen) {v : Nat} (hv : v < m) : W.cell? ⟨s, v, none⟩ = some (.bool (seen.getD v false)) := by
  have hl : seen.length = m := by have := h.1; simpa using this
  rw [World.ownsRow.cellAt h v (by omega)]
  simp [List.getD, show v < seen.length by omega]
theorem SeenAt.set {W : World} {s m : Nat} {seen : List Bool} (h : SeenAt W s m seen) (v : Nat) (b : Bool) : SeenAt (W.setCell ⟨s, v, none⟩ (.bool b)) s m (seen.set v b) ∧ W.grownBy (W.setCell ⟨s, v, none⟩ (.bool b)) (some s) := by
  have := World.ownsRow.stored h v (.bool b)
  refine ⟨?_, this.2⟩
  unfold SeenAt
  rw [List.map_set]
  exact this.1
theorem SeenAt.made {W : World} {s m : Nat} (h : W.ownsRow s 4 1 (.slice (some ⟨s, 0, none⟩) m m) m (madeCells (Value.bool false).cells (m * 1)).toList) : SeenAt W s m (List.replicate m false) := by
  have : (madeCells (Value.bool false).cells (m * 1)).toList = (List.replicate m false).map Value.bool := by
    rw [Nat.mul_one, show (Value.bool false).cells = #[Value.bool false] from rfl, toList_madeCells_one, List.map_replicate]
  rw [this] at h
  exact h
theorem SeenAt.same {W W' : World} {s m : Nat} {seen : List Bool} (h : SeenAt W s m seen) (hs : W'.heap[s]? = W.heap[s]?) : SeenAt W' s m seen := ownsRow_same h (fun k hk => by cases hk; exact hs)
theorem SeenAt.lt {W : World} {s m : Nat} {seen : List Bool} (h : SeenAt W s m seen) : s < W.heap.size := (World.ownsRow.lt h s rfl).2
theorem RdP.kept {W W' : World} {nB : Nat} {A : Option Addr} {n c : Nat} {ls : List (Int × Int)} {X : Nat → Prop} (h : RdP W nB A n c ls) (hb : Kept X W W') (hX : ∀ k, X k → nB ≤ k) (hB : nB ≤ W.heap.size) : RdP W' nB A n c ls := by
  refine h.keep (Nat.le_refl _) (fun p hp => ?_)
  have := hb.2 p.block (by omega) (fun hx => by have := hX _ hx; omega)
  unfold World.cell?
  rw [this]
/-- a number, as it is yielded -/
def encI (x : Int) : Array Value := #[.int .i64 x]

end Go.Proofs.YtojkjdccjomaaaaDoor
