/-
  Helpers: an array of integers or of truth values in a block of its own: reading, storing. No statement of the program is proved here; there is no condition.
-/
import Derived.Test.YthalopmplekdoaaDoorLibR
import Derived.Laws.Rows
import Derived.Laws.Tables
import Derived.Below
namespace Go.Proofs.YthalopmplekdoaaDoor
open Go.RowKit

/-- block b is an array of integers -/
def ArI (w : World) (b : Nat) (t : TypeId) (xs : List Int) : Prop := w.heap[b]? = some (.cells (xs.map (Value.int .i64)).toArray t (0, 0))
/-- block b is an array of truth values -/
def ArB (w : World) (b : Nat) (t : TypeId) (xs : List Bool) : Prop := w.heap[b]? = some (.cells (xs.map Value.bool).toArray t (0, 0))

section
variable {w w' : World} {b : Nat} {t : TypeId} {xs : List Int} {bs : List Bool}
theorem ArI.cell (h : ArI w b t xs) {i : Nat} (hi : i < xs.length) : w.cell? ⟨b, i, none⟩ = some (.int .i64 (xs.getD i 0)) := by
  rw [cell_of_row w b i _ t (0, 0) h]
  simp [hi]
theorem ArI.frozen (h : ArI w b t xs) (i : Nat) : w.frozen? ⟨b, i, none⟩ = false := frozen_of_row w b i _ t h
theorem ArI.store (h : ArI w b t xs) (i : Nat) (x : Int) : ArI (w.setCell ⟨b, i, none⟩ (.int .i64 x)) b t (xs.set i x) := by
  have := heap_setCell_same w b i _ t (.int .i64 x) h
  unfold ArI
  rw [this, List.map_set]
  simp
theorem ArI.same (h : ArI w b t xs) (e : w'.heap[b]? = w.heap[b]?) : ArI w' b t xs := e.trans h
theorem ArI.lt (h : ArI w b t xs) : b < w.heap.size := (Array.getElem?_eq_some_iff.1 h).1
theorem ArI.below {B : Nat} (h : ArI w b t xs) (hb : Below B w w') (hlt : b < B) : ArI w' b t xs := h.same (hb.block b hlt)
theorem ArI.past (h : ArI w b t xs) (hb : Below w.heap.size w w') : ArI w' b t xs := h.below hb h.lt
theorem ArI.other (h : ArI w b t xs) {a : Addr} (v : Value) (hne : b ≠ a.block) : ArI (w.setCell a v) b t xs := h.same (heap_setCell_other w a b v hne)
theorem ArI.alloc (h : ArI w b t xs) (o : Obj) : ArI (w.alloc o) b t xs := h.same (Below.heap_alloc _ _ _ h.lt)
theorem ArI.new (w : World) (t : TypeId) (xs : List Int) : ArI (w.alloc (.cells (xs.map (Value.int .i64)).toArray t)) w.heap.size t xs := heap_alloc_new w _
theorem ArB.cell (h : ArB w b t bs) {i : Nat} (hi : i < bs.length) : w.cell? ⟨b, i, none⟩ = some (.bool (bs.getD i false)) := by
  rw [cell_of_row w b i _ t (0, 0) h]
  simp [hi]
theorem ArB.frozen (h : ArB w b t bs) (i : Nat) : w.frozen? ⟨b, i, none⟩ = false := frozen_of_row w b i _ t h
theorem ArB.store (h : ArB w b t bs) (i : Nat) (x : Bool) : ArB (w.setCell ⟨b, i, none⟩ (.bool x)) b t (bs.set i x) := by
  have := heap_setCell_same w b i _ t (.bool x) h
  unfold ArB
  rw [this, List.map_set]
  simp
theorem ArB.same (h : ArB w b t bs) (e : w'.heap[b]? = w.heap[b]?) : ArB w' b t bs := e.trans h
theorem ArB.lt (h : ArB w b t bs) : b < w.heap.size := (Array.getElem?_eq_some_iff.1 h).1
theorem ArB.new (w : World) (t : TypeId) (bs : List Bool) : ArB (w.alloc (.cells (bs.map Value.bool).toArray t)) w.heap.size t bs := heap_alloc_new w _
end

section
variable {P : Program}
/-- a whole array, by value -/
theorem wpList_loadA {ops : Array Oper} {rest : List Oper} {o : Oper} {a : Act} {w : World} {Q : Exit → Act → World → Prop} (hgd : o.guard = none) (ty : TypeId) (x : Operand) (ho : o.op = .load ty x)
    (b : Nat) (hx : a.eval x = .pointer (some ⟨b, 0, none⟩)) (t : TypeId) (xs : List Int) (h : ArI w b t xs) (n : Nat) (e : TypeId) (hu : P.underlying ty = some (.array n e)) (hi : (P.info? ty).map (·.size) = some xs.length)
    (hK : wpList P ops Q rest (a.put o.dst (.agg (xs.map (Value.int .i64)).toArray)) w) : wpList P ops Q (o :: rest) a w :=
  wpList_load_row hgd ty x ho b hx t _ _ _ h hu rfl (by rw [hi]; simp) hK
/-- a whole array, stored -/
theorem wpList_storeA {ops : Array Oper} {rest : List Oper} {o : Oper} {a : Act} {w : World} {Q : Exit → Act → World → Prop} (hgd : o.guard = none) (ty : TypeId) (x y : Operand) (ho : o.op = .store ty x y)
    (b : Nat) (hx : a.eval x = .pointer (some ⟨b, 0, none⟩)) (ys : List Int) (hy : a.eval y = .agg (ys.map (Value.int .i64)).toArray) (t : TypeId) (xs : List Int) (h : ArI w b t xs) (hi : (P.info? ty).map (·.size) = some ys.length) (hl : xs.length = ys.length)
    (hK : ∀ w', ArI w' b t ys → (∀ k, k ≠ b → w'.heap[k]? = w.heap[k]?) → (∀ B, B ≤ b → Below B w w') → w'.heap.size = w.heap.size → wpList P ops Q rest (a.put o.dst undef) w') : wpList P ops Q (o :: rest) a w := by
  refine wpList_store_row hgd ty x y ho b _ hx hy t _ h (by rw [hi]; simp) (by simp [hl]) (by simp [Value.oneCell']) (hK _ ?_ (fun k hk => setRow_other w b k _ hk) (fun B hB => ⟨rfl, rfl, rfl, by simp, fun k hk => setRow_other w b k _ (by omega)⟩) (by simp))
  exact setRow_heap w b _ _ t (0, 0) h
/-- a whole array that a function hands back -/
theorem results_A {fn : Func} {p : Tmp} {ty : TypeId} (h : fn.results = #[.cell p ty]) (tmps : Array Value) (w : World) (b : Nat) (t : TypeId) (xs : List Int) (hp : tmps.getD p undef = .pointer (some ⟨b, 0, none⟩)) (ha : ArI w b t xs)
    (n : Nat) (e : TypeId) (hu : P.underlying ty = some (.array n e)) (hi : (P.info? ty).map (·.size) = some xs.length) : (results fn tmps).run P w = .ok (.agg (xs.map (Value.int .i64)).toArray) w :=
  results_cell_row h tmps w b t _ _ _ hp ha hu rfl (by rw [hi]; simp)
end

end Go.Proofs.YthalopmplekdoaaDoor
