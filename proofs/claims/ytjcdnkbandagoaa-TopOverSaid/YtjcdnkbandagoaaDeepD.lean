/-
  The contract of Lowest of package deep where something is wrong with the lines, and both contracts in one.
-/
import Derived.Test.YtjcdnkbandagoaaDeepC
namespace Go.Proofs.Ytjcdnkbandagoaa
open Go.RowKit Go.Shelf

set_option linter.unusedSimpArgs false

set_option maxRecDepth 100000 in
theorem DLow_err (n : Int) (A : Option Addr) (k c : Nat) (ls : List Gr.Ln) (w : World) (hr : RdP w w.heap.size A k c ls) (h : Gr.code n ls ≠ 0) :
    Calls Try.prog 29 #[.int .i64 n, .slice A k c] w fun e w' => e = .returned (.tuple #[.slice none 0 0, errv (Gr.code n ls)]) ∧ Below w.heap.size w w' := by
  have H := Lib.hid h
  clear h
  go_enter Try.func29, Try.ntmps29
  go_wp2_with fail
  refine (Beside_any n A k c ls _ hr).mono ?_
  rintro e w1 ⟨hb, (⟨_, rfl⟩ | ⟨h0, _⟩)⟩
  · go_wp2
    go_ret2
    exact ⟨rfl, hb.trans ((Below.refl _ _).alloc hb.size _)⟩
  · exact absurd h0 H.out

theorem DLow_good (m : Nat) (A : Option Addr) (k c : Nat) (ls : List Gr.Ln) (F : Dp.Fo) (hF : Dp.Whole m (Wa.nrow m ls) F) (w : World) (hr : RdP w w.heap.size A k c ls) (h : Gr.code (m : Int) ls = 0) :
    Calls Try.prog 29 #[.int .i64 (m : Int), .slice A k c] w fun e w' => Below w.heap.size w w' ∧ ∃ g, e = .returned (.tuple #[.slice (some ⟨g, 0, none⟩) m m, .nilIface]) ∧ Own w' w.heap.size 3 (.slice (some ⟨g, 0, none⟩) m m) (Dp.lows m (Wa.nrow m ls) F) := callsIn_wide.1 (DLow_ok m A k c ls F hF w hr h)

end Go.Proofs.Ytjcdnkbandagoaa
