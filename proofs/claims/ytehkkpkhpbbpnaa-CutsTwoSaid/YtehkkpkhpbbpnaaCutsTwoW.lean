/-
  The walk of the law CutsTwo: for every number of points and lines it returns true.
-/
import Derived.Test.YtehkkpkhpbbpnaaCutsE
namespace Go.Proofs.Ytehkkpkhpbbpnaa.cutsTwo
open Go.RowKit

set_option linter.unusedSimpArgs false
set_option linter.unusedVariables false

set_option maxRecDepth 100000 in
set_option maxHeartbeats 1000000 in
theorem walk (w : World) (a0 : Int) (_w0 : (Lit.int .i64 a0).wf = true) (a1 : Option Addr) (n1 c1 : Nat) (z1 : List Gr.Ln) (w1 : RdP w w.heap.size a1 n1 c1 z1) :
    Calls Try.prog 6 #[.int .i64 a0, .slice a1 n1 c1] w fun e w' => e = .returned (.bool true) ∧ Below w.heap.size w w' := by
  by_cases hc : Gr.code a0 z1 = 0
  · obtain ⟨m, rfl⟩ : ∃ m : Nat, a0 = (m : Int) := ⟨a0.toNat, by have := (Gr.code_zero.1 hc).1; omega⟩
    have hm8 : m ≤ 8 := by have := (Gr.code_zero.1 hc).2.1; omega
    have hm1 : 1 ≤ m := by have := (Gr.code_zero.1 hc).1; omega
    have htwo : Hid (2 ≤ m → (Dp.cpts m (Wa.nrow m z1)).length ≤ m - 2) := fun h => Dp.cpts_two hc h
    have H0 := Lib.hid hc
    clear hc
    go_enter Try.func6, Try.ntmps6
    go_wp2_with fail
    refine (cutsFact_any _).mono ?_
    rintro e x1 ⟨rfl, hb1⟩
    go_wp2_with fail
    refine (Points_rd m a1 n1 c1 z1 _ (w1.past hb1) H0.out).mono ?_
    rintro e x2 ⟨hb2, B, n, c, rfl, hn, _⟩
    have hb := hb1.trans (hb2.mono hb1.size)
    have hle : 2 ≤ m → n ≤ m - 2 := fun h => by rw [hn.out]; exact htwo.out h
    clear hn
    by_cases h2 : m < 2
    · have k1 : (m : Int) < 2 := by omega
      clear hle
      go_wp2
      go_ret
      exact ⟨rfl, hb⟩
    · have k1 : ¬ (m : Int) < 2 := by omega
      have k2 : (n : Int) ≤ (m : Int) - 2 := by have := hle (by omega); omega
      have k3 : IntKind.i64.wrap ((m : Int) - 2) = (m : Int) - 2 := by rw [IntKind.wrap_i64]; omega
      clear hle
      go_wp2
      go_ret
      exact ⟨rfl, hb⟩
  · have H := Lib.hid hc
    clear hc
    go_enter Try.func6, Try.ntmps6
    go_wp2_with fail
    refine (cutsFact_any _).mono ?_
    rintro e x1 ⟨rfl, hb1⟩
    go_wp2_with fail
    refine (Points_err a0 a1 n1 c1 z1 _ (w1.past hb1) H.out).mono ?_
    rintro e x2 ⟨rfl, hb2⟩
    go_wp2
    go_ret
    exact ⟨rfl, hb1.trans (hb2.mono hb1.size)⟩

end Go.Proofs.Ytehkkpkhpbbpnaa.cutsTwo
