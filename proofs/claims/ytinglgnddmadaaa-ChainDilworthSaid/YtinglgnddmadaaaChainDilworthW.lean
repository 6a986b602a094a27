/-
  The walk of the law ChainDilworth: for every number of points and lines it returns true.
-/
import Derived.Test.YtinglgnddmadaaaChainF
import Derived.Test.YtinglgnddmadaaaIn2
namespace Go.Proofs.Ytinglgnddmadaaa.chainDilworth
open Go.RowKit
set_option linter.unusedSimpArgs false
set_option linter.unusedVariables false

set_option maxRecDepth 100000 in
set_option maxHeartbeats 1000000 in
/-- something is wrong, or there is no order -/
theorem bad (w : World) (a0 : Int) (a1 : Option Addr) (n1 c1 : Nat) (z1 : List Gr.Ln) (w1 : RdP w w.heap.size a1 n1 c1 z1) (k : Int) (hk : Cn.Wrong a0 z1 k) :
    Calls Try.prog 3 #[.int .i64 a0, .slice a1 n1 c1] w fun e w' => e = .returned (.bool true) ∧ Below w.heap.size w w' := by
  go_enter Try.func3, Try.ntmps3
  go_wp2_with fail
  refine (chainFact_any _).mono ?_
  rintro e x1 ⟨rfl, b1⟩
  go_wp2_with fail
  refine (Rows_wrong a0 a1 n1 c1 z1 k _ (w1.past b1) hk).mono ?_
  rintro e x2 ⟨rfl, b2⟩
  have b12 := b1.trans (b2.mono b1.size)
  go_wp2_with fail
  refine (Widest_wrong a0 a1 n1 c1 z1 k _ (w1.past b12) hk).mono ?_
  rintro e x3 ⟨rfl, b3⟩
  go_wp2
  go_ret
  exact ⟨rfl, b12.trans (b3.mono b12.size)⟩

set_option maxRecDepth 100000 in
set_option maxHeartbeats 1000000 in
/-- there are too many points -/
theorem full (w : World) (m : Nat) (a1 : Option Addr) (n1 c1 : Nat) (z1 : List Gr.Ln) (o : List Int) (w1 : RdP w w.heap.size a1 n1 c1 z1) (h : Cn.Fine m z1 o) (h6 : 6 < m) :
    Calls Try.prog 3 #[.int .i64 (m : Int), .slice a1 n1 c1] w fun e w' => e = .returned (.bool true) ∧ Below w.heap.size w w' := by
  go_enter Try.func3, Try.ntmps3
  go_wp2_with fail
  refine (chainFact_any _).mono ?_
  rintro e x1 ⟨rfl, b1⟩
  go_wp2_with fail
  refine (Rows_full m a1 n1 c1 z1 o _ (w1.past b1) h h6).mono ?_
  rintro e x2 ⟨rfl, b2⟩
  have b12 := b1.trans (b2.mono b1.size)
  go_wp2_with fail
  refine (Widest_full m a1 n1 c1 z1 o _ (w1.past b12) h h6).mono ?_
  rintro e x3 ⟨rfl, b3⟩
  go_wp2
  go_ret
  exact ⟨rfl, b12.trans (b3.mono b12.size)⟩

set_option maxRecDepth 100000 in
set_option maxHeartbeats 1000000 in
/-- there is an order -/
theorem good (w : World) (m : Nat) (x : Int) (a1 : Option Addr) (n1 c1 : Nat) (z1 : List Gr.Ln) (o : List Int) (w1 : RdP w w.heap.size a1 n1 c1 z1) (h : Cn.Fine m z1 o) (h6 : m ≤ 6) (hx : x + (Ma.nu (To.comes m z1) m m : Nat) = (m : Int)) :
    Calls Try.prog 3 #[.int .i64 (m : Int), .slice a1 n1 c1] w fun e w' => e = .returned (.bool true) ∧ Below w.heap.size w w' := by
  have hnu := h.nu_lt
  have x1 : (1 : Int) ≤ x := by omega
  have x2 : x ≤ (m : Int) := by omega
  have HX := Lib.hid hx
  have H := Lib.hid h
  clear h hx hnu
  go_enter Try.func3, Try.ntmps3
  go_wp2_with fail
  refine (chainFact_any _).mono ?_
  rintro e y1 ⟨rfl, b1⟩
  go_wp2_with fail
  refine (Rows_yes m x a1 n1 c1 z1 o _ (w1.past b1) H.out h6 HX.out).mono ?_
  rintro e y2 ⟨rfl, b2⟩
  have b12 := b1.trans (b2.mono b1.size)
  go_wp2_with fail
  refine (Widest_yes m x a1 n1 c1 z1 o _ (w1.past b12) H.out h6 HX.out).mono ?_
  rintro e y3 ⟨rfl, b3⟩
  go_wp2_with fail
  refine (in2_yes x 1 (m : Int) _ x1 x2).mono ?_
  rintro e y4 ⟨rfl, rfl⟩
  go_wp2
  go_ret
  exact ⟨rfl, b12.trans (b3.mono b12.size)⟩

theorem walk (w : World) (a0 : Int) (w0 : (Lit.int .i64 a0).wf = true) (a1 : Option Addr) (n1 c1 : Nat) (z1 : List Gr.Ln) (w1 : RdP w w.heap.size a1 n1 c1 z1) :
    Calls Try.prog 3 #[.int .i64 a0, .slice a1 n1 c1] w fun e w' => e = .returned (.bool true) ∧ Below w.heap.size w w' := by
  rcases Cn.wrong_or_fine a0 z1 with ⟨k, hk⟩ | ⟨m, o, rfl, h⟩
  · exact bad w a0 a1 n1 c1 z1 w1 k hk
  · rcases Nat.lt_or_ge 6 m with h6 | h6
    · exact full w m a1 n1 c1 z1 o w1 h h6
    · exact good w m ((m : Int) - (Ma.nu (To.comes m z1) m m : Nat)) a1 n1 c1 z1 o w1 h h6 (by omega)

end Go.Proofs.Ytinglgnddmadaaa.chainDilworth
