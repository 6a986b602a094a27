/-
  Contracts of From and Parts of package walk where nothing is wrong.
-/
import Derived.Test.YtoofpmajiphldaaDoorWalkA
import Derived.Test.YtoofpmajiphldaaDoorWalkB
namespace Go.Proofs.YtoofpmajiphldaaDoor
open Go.RowKit

set_option linter.unusedSimpArgs false
set_option linter.unusedVariables false

/-- From where nothing is wrong -/
theorem From_fine (m a : Nat) (A : Option Addr) (k c : Nat) (ls : List Gr.Ln) (w : World) (hr : RdP w w.heap.size A k c ls) (h : Gr.code (m : Int) ls = 0) (ha : a < m) :
    Calls Tryd.prog 35 #[.int .i64 (m : Int), .slice A k c, .int .i64 (a : Int)] w fun e w' => ∃ g, e = .returned (.tuple #[.slice (some ⟨g, 0, none⟩) m m, .nilIface]) ∧ Own w' w.heap.size 3 (.slice (some ⟨g, 0, none⟩) m m) (Wa.dists m (Wa.nrow m ls) a) ∧ Below w.heap.size w w' := by
  refine (From_any (m : Int) A k c ls (a : Int) w hr).mono ?_
  rintro e w1 ⟨hb, (⟨h0, _⟩ | ⟨_, g, rfl, ho⟩)⟩
  · exact absurd (Wa.fcode_zero.2 ⟨h, by omega, by omega⟩) h0
  · simp only [Int.toNat_natCast] at ho ⊢
    exact ⟨g, rfl, ho, hb⟩

theorem Parts_fine (m : Nat) (A : Option Addr) (k c : Nat) (ls : List Gr.Ln) (w : World) (hr : RdP w w.heap.size A k c ls) (h : Gr.code (m : Int) ls = 0) :
    Calls Tryd.prog 17 #[.int .i64 (m : Int), .slice A k c] w fun e w' => ∃ g, e = .returned (.tuple #[.slice (some ⟨g, 0, none⟩) m m, .nilIface]) ∧ Own w' w.heap.size 3 (.slice (some ⟨g, 0, none⟩) m m) (Wa.labs m (Wa.nrow m ls) m) ∧ Below w.heap.size w w' := by
  refine (Parts_any (m : Int) A k c ls w hr).mono ?_
  rintro e w1 ⟨hb, (⟨h0, _⟩ | ⟨_, g, rfl, ho⟩)⟩
  · exact absurd h h0
  · simp only [Int.toNat_natCast] at ho ⊢
    exact ⟨g, rfl, ho, hb⟩

end Go.Proofs.YtoofpmajiphldaaDoor
