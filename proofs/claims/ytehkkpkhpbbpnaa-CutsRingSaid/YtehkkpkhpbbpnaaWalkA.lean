/-
  The contract of From of package walk: the distances from a point, or what is wrong.
-/
import Derived.Test.YtehkkpkhpbbpnaaWalkG
import Derived.Test.YtehkkpkhpbbpnaaRepeat
namespace Go.Proofs.Ytehkkpkhpbbpnaa
open Go.RowKit Go.Shelf

attribute [local go_sem] Oper.semAt_some
set_option linter.unusedSimpArgs false

/-- what From hands back -/
def FromPost (n : Int) (ls : List Gr.Ln) (a : Int) (w : World) (e : Ending) (w' : World) : Prop :=
  Below w.heap.size w w' ∧ ((Wa.fcode n ls a ≠ 0 ∧ e = .returned (.tuple #[.slice none 0 0, errv (Wa.fcode n ls a)])) ∨
    (Wa.fcode n ls a = 0 ∧ ∃ g, e = .returned (.tuple #[.slice (some ⟨g, 0, none⟩) n.toNat n.toNat, .nilIface]) ∧ Own w' w.heap.size 3 (.slice (some ⟨g, 0, none⟩) n.toNat n.toNat) (Wa.dists n.toNat (Wa.nrow n.toNat ls) a.toNat)))


theorem Beside_good (m : Nat) (A : Option Addr) (k c : Nat) (ls : List Gr.Ln) (w : World) (hr : RdP w w.heap.size A k c ls) (h : Gr.code (m : Int) ls = 0) :
    Calls Try.prog 30 #[.int .i64 (m : Int), .slice A k c] w fun e w' => ∃ A1 c1, e = .returned (.tuple #[.slice A1 m c1, .nilIface]) ∧ RdR w' w'.heap.size A1 m c1 (Gr.rows m ls) ∧ Below w.heap.size w w' := by
  refine (Beside_any (m : Int) A k c ls w hr).mono ?_
  rintro e w1 ⟨hb, (⟨h0, _⟩ | ⟨_, A1, c1, rfl, hrr⟩)⟩
  · exact absurd h h0
  · rw [Int.toNat_natCast] at hrr ⊢
    exact ⟨A1, c1, rfl, hrr, hb⟩


end Go.Proofs.Ytehkkpkhpbbpnaa
