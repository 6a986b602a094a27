/-
  The contract of Other of package graph: the other lines, or what is wrong.
-/
import Derived.Test.YtklanopgmlmjlaaDoorGraphI
import Derived.Laws.EntriesVeiled
namespace Go.Proofs.YtklanopgmlmjlaaDoor
open Go.RowKit Go.Shelf

attribute [local go_sem] Oper.semAt_some
set_option linter.unusedSimpArgs false

theorem GCheck_nil (n : Int) (A : Option Addr) (k c : Nat) (ls : List Gr.Ln) (w : World) (hr : RdP w w.heap.size A k c ls) (h : Gr.code n ls = 0) :
    Calls Tryd.prog 22 #[.int .i64 n, .slice A k c] w fun e w' => e = .returned .nilIface ∧ Below w.heap.size w w' :=
  (GCheck_any n A k c ls w hr).mono fun e w' he => ⟨he.1.trans (by rw [errOf_zero h]), he.2⟩
theorem GCheck_err (n : Int) (A : Option Addr) (k c : Nat) (ls : List Gr.Ln) (w : World) (hr : RdP w w.heap.size A k c ls) (h : Gr.code n ls ≠ 0) :
    Calls Tryd.prog 22 #[.int .i64 n, .slice A k c] w fun e w' => e = .returned (errv (Gr.code n ls)) ∧ Below w.heap.size w w' :=
  (GCheck_any n A k c ls w hr).mono fun e w' he => ⟨he.1.trans (by rw [errOf_pos h]), he.2⟩

/-- the cells of one pair that has just been laid -/
theorem cell_pair_new (w : World) (x y : Value) (t : TypeId) : ∀ j u, [x, y][j]? = some u → (w.alloc (.cells #[x, y] t)).cell? ((⟨w.heap.size, 0, none⟩ : Addr).add j) = some u := by
  intro j u hj
  match j, hj with
  | 0, hj =>
    simp at hj
    subst hj
    simp [Addr.add]
  | 1, hj =>
    simp at hj
    subst hj
    simp [Addr.add]

theorem ownsRow_mono {w : World} {base base' e size k : Nat} {v : Value} {xs : List Value} (h : w.ownsRow base e size v k xs) (hb : base' ≤ base) : w.ownsRow base' e size v k xs := by
  refine ⟨h.1, ?_⟩
  rcases h.2 with h2 | ⟨g, cap, cur, hv, hg, r⟩
  · exact .inl h2
  · exact .inr ⟨g, cap, cur, hv, by omega, r⟩


end Go.Proofs.YtklanopgmlmjlaaDoor
