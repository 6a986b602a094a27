/-
  The iterator that walk.outward hands back: it yields the points that can be reached, each with its distance, level by level, for every loop body that keeps what the iterator reads and makes.
-/
import Derived.Test.YtjcdnkbandagoaaSeen
import Derived.Test.YtjcdnkbandagoaaWalkF
import Derived.Test.YtjcdnkbandagoaaLibS
import Derived.Test.YtjcdnkbandagoaaLibT
import Derived.Test.YtjcdnkbandagoaaGraphB
namespace Go.Proofs.Ytjcdnkbandagoaa
open Go.RowKit Go.Shelf

attribute [local go_sem] Oper.semAt_some
set_option linter.unusedSimpArgs false

/-- a pair, as it is yielded -/
def encP (x : Nat × Nat) : Array Value := #[.int .i64 (x.1 : Int), .int .i64 (x.2 : Int)]

/-- what the iterator reads -/
def OutG (nB bb bf : Nat) (A : Option Addr) (m c : Nat) (rows : List (List Int)) (a : Nat) (W : World) : Prop :=
  nB ≤ W.heap.size ∧ RdR W nB A m c rows ∧ W.cell? ⟨bb, 0, none⟩ = some (.slice A m c) ∧ W.cell? ⟨bf, 0, none⟩ = some (.int .i64 (a : Int))
theorem OutG.below {nB bb bf s : Nat} {A : Option Addr} {m c : Nat} {rows : List (List Int)} {a : Nat} {W W' : World} (h : OutG nB bb bf A m c rows a W) (h1 : nB ≤ s) (h2 : bb < s) (h3 : bf < s) (hb : Below s W W') : OutG nB bb bf A m c rows a W' :=
  ⟨Nat.le_trans h.1 hb.size, h.2.1.below (hb.mono h1), (hb.cell (p := ⟨bb, 0, none⟩) h2).trans h.2.2.1, (hb.cell (p := ⟨bf, 0, none⟩) h3).trans h.2.2.2⟩
theorem OutG.kept {nB bb bf : Nat} {X : Nat → Prop} {A : Option Addr} {m c : Nat} {rows : List (List Int)} {a : Nat} {W W' : World} (h : OutG nB bb bf A m c rows a W) (hX : ∀ k, X k → nB ≤ k) (h2 : ¬ X bb) (h3 : ¬ X bf) (hb : Kept X W W') : OutG nB bb bf A m c rows a W' := by
  refine ⟨Nat.le_trans h.1 hb.1, h.2.1.keep (Nat.le_refl _) (fun p hp => ?_), hb.cell h.2.2.1 h2, hb.cell h.2.2.2 h3⟩
  have := hb.2 p.block (by have := h.1; omega) (fun hx => by have := hX _ hx; omega)
  unfold World.cell?
  rw [this]

/-- at the head of a level: lv is the level -/
def OutI (m : Nat) (R : Nat → List Nat) (a s : Nat) (J : List (Nat × Nat) → World → Prop) (G : World → Prop) (lv : Value) (d : Nat) (W : World) : Prop :=
  ∃ (lev : List Nat) (seen : List Bool) (pre : List (Nat × Nat)), Wa.Lev m R a d seen lev ∧ pre ++ Wa.bfs R (m + 1 - d) d seen lev = Wa.out m R a ∧ Own W s 3 lv (upL lev) ∧ SeenAt W s m seen ∧ J pre W ∧ G W ∧ s < W.heap.size ∧ d ≤ m
/-- within a level: i of its points are done, nv is what comes next -/
def MidI (m : Nat) (R : Nat → List Nat) (a s B : Nat) (J : List (Nat × Nat) → World → Prop) (G : World → Prop) (lv : Value) (d : Nat) (seen : List Bool) (lev : List Nat) (i : Nat) (nv : Value) (W : World) : Prop :=
  ∃ (pre : List (Nat × Nat)), pre ++ ((lev.drop i).map (fun v => (v, d)) ++ Wa.bfs R (m - d) (d + 1) (Wa.visLev R (seen, []) lev).1 (Wa.visLev R (seen, []) lev).2) = Wa.out m R a ∧
    Own W s 3 lv (upL lev) ∧ SeenAt W s m (Wa.visLev R (seen, []) (lev.take i)).1 ∧ Own W B 3 nv (upL (Wa.visLev R (seen, []) (lev.take i)).2) ∧ J pre W ∧ G W ∧ B ≤ W.heap.size
/-- within a point's row: j of its points are done -/
def InnI (m s B : Nat) (K G : World → Prop) (lv : Value) (lev : List Nat) (st : List Bool × List Nat) (row : List Nat) (j : Nat) (nv : Value) (W : World) : Prop :=
  Own W s 3 lv (upL lev) ∧ SeenAt W s m (Wa.visRow st (row.take j)).1 ∧ Own W B 3 nv (upL (Wa.visRow st (row.take j)).2) ∧ K W ∧ G W ∧ B ≤ W.heap.size


end Go.Proofs.Ytjcdnkbandagoaa
