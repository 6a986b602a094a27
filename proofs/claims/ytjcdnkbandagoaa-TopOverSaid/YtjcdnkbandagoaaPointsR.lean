/-
  The contract of Points of package cuts, as the laws use it. No statement of the program is proved here; there is no condition.
-/
import Derived.Test.YtjcdnkbandagoaaCutsD
namespace Go.Proofs.Ytjcdnkbandagoaa
open Go.RowKit

set_option linter.unusedSimpArgs false

/-- Points: where its slice lies and what it reads as -/
theorem Points_rd (m : Nat) (A : Option Addr) (k c : Nat) (ls : List Gr.Ln) (w : World) (hr : RdP w w.heap.size A k c ls) (h : Gr.code (m : Int) ls = 0) :
    Calls Try.prog 14 #[.int .i64 (m : Int), .slice A k c] w fun e w' => Below w.heap.size w w' ∧ ∃ B n c, e = .returned (.tuple #[.slice B n c, .nilIface]) ∧ Hid (n = (Dp.cpts m (Wa.nrow m ls)).length) ∧ Rd w' w'.heap.size B n c (upL (Dp.cpts m (Wa.nrow m ls))) := by
  refine (Points_good m A k c ls w hr h).mono ?_
  rintro e w1 ⟨hb, v, rfl, ho⟩
  obtain ⟨B, c', rfl, hr⟩ := ho.rd
  exact ⟨hb, B, _, c', rfl, upL_len _, hr⟩

end Go.Proofs.Ytjcdnkbandagoaa
