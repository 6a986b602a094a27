/-
  The contract of the reference's Beside, as a region that only reads takes it. No statement of the program is proved here; there is no condition.
-/
import Derived.Test.YtojkjdccjomaaaaDoorRefL
import Derived.BigQuiet
namespace Go.Proofs.YtojkjdccjomaaaaDoor.RefL
open Go.RowKit

theorem bes_q (A : Option Addr) (n c : Nat) (ls : List Gr.Ln) (a b : Int) (t : Bool) (w : World) (k : Nat) (hr : RdP w w.heap.size A n c ls) (ht : Gr.adj ls a b = t) :
    Calls Tryd.prog 15 #[.slice A n c, .int .i64 a, .int .i64 b] (w.drewN k) fun e w' => e = .returned (.bool t) ∧ ∃ m, w' = w.drewN m :=
  Calls.quiet_of_same ((Beside_any A n c ls a b t _ (hr.drewN k) ht).mono fun _ _ h => ⟨h.1, h.2.symm⟩)

end Go.Proofs.YtojkjdccjomaaaaDoor.RefL
