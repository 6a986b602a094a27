/-
  The walk of the law StableGale: for every two sides it returns true.
-/
import Derived.Test.YthdibdghnfkoeaaStableG
import Derived.Test.YthdibdghnfkoeaaStableH
import Derived.Test.YthdibdghnfkoeaaStableO
import Derived.Test.YthdibdghnfkoeaaRefAll
import Derived.Test.YthdibdghnfkoeaaRefTwo
namespace Go.Proofs.Ythdibdghnfkoeaa.stableGale
open Go.RowKit Go.Shelf
set_option linter.unusedSimpArgs false
set_option linter.unusedVariables false

set_option maxRecDepth 100000 in
set_option maxHeartbeats 1000000 in
/-- something is wrong with the rankings -/
theorem bad (w : World) (a0 : Option Addr) (n0 c0 : Nat) (z0 : List (List Int)) (w0 : RdR w w.heap.size a0 n0 c0 z0) (a1 : Option Addr) (n1 c1 : Nat) (z1 : List (List Int)) (w1 : RdR w w.heap.size a1 n1 c1 z1) (hc : St.code z0 z1 ≠ 0) :
    Calls Try.prog 3 #[.slice a0 n0 c0, .slice a1 n1 c1] w fun e w' => e = .returned (.bool true) ∧ Below w.heap.size w w' := by
  have HN := Lib.hid hc
  clear hc
  go_enter Try.func3, Try.ntmps3
  go_wp2_with fail
  refine (stableFact_any _).mono ?_
  rintro e x1 ⟨rfl, b1⟩
  go_wp2_with fail
  refine (Pairs_err a0 a1 n0 n1 c0 c1 z0 z1 _ (w0.past b1) (w1.past b1) HN.out).mono ?_
  rintro e x2 ⟨rfl, b2⟩
  go_wp2
  go_ret
  exact ⟨rfl, b1.trans (b2.mono b1.size)⟩

set_option maxRecDepth 100000 in
set_option maxHeartbeats 1000000 in
/-- nothing is wrong with them -/
theorem good (w : World) (n : Nat) (a0 : Option Addr) (c0 : Nat) (z0 : List (List Int)) (w0 : RdR w w.heap.size a0 n c0 z0) (a1 : Option Addr) (c1 : Nat) (z1 : List (List Int)) (w1 : RdR w w.heap.size a1 n c1 z1) (hc : St.code z0 z1 = 0) :
    Calls Try.prog 3 #[.slice a0 n c0, .slice a1 n c1] w fun e w' => e = .returned (.bool true) ∧ Below w.heap.size w w' := by
  have HN := Lib.hid hc
  have hcz := St.code_zero.1 hc
  rw [w0.len] at hcz
  have h6 := hcz.1
  have HL := Lib.hid hcz.2.1
  have HR := Lib.hid hcz.2.2
  clear hc hcz
  have s1 : IntKind.i64.wrap ((n : Int) - 1) = (n : Int) - 1 := by rw [IntKind.wrap_i64]; omega
  have s2 : ((n : Int) != (n : Int)) = false := by simp
  have s3 : (n != n) = false := by simp
  go_enter Try.func3, Try.ntmps3
  go_wp2_with fail
  refine (stableFact_any _).mono ?_
  rintro e x1 ⟨rfl, b1⟩
  go_wp2_with fail
  refine (Pairs_rd n a0 a1 c0 c1 z0 z1 _ (w0.past b1) (w1.past b1) HN.out).mono ?_
  rintro e x2 ⟨A2, c2, g, rfl, hopt, hr2, b2⟩
  have b02 := b1.trans (b2.mono b1.size)
  have HP := Lib.hid hopt.1
  have HC : Hid (St.rcode n (St.up g) = 0) := St.rcode_zero.2 hopt.1.row
  have HS : Hid (St.stb n z0 z1 (St.up g) = true) := (St.stb_iff HL.out HR.out hopt.1).2 hopt.2.1
  clear hopt b1 b2
  go_wp2_with fail
  refine (All_in A2 n c2 (St.up g) 0 ((n : Int) - 1) _ hr2 HP.out.row.rng).mono ?_
  rintro e x3 ⟨rfl, rfl⟩
  go_wp2_with fail
  refine (Twice_no A2 n c2 (St.up g) _ hr2 HP.out.row.nodup).mono ?_
  rintro e x4 ⟨rfl, b4⟩
  have b04 := b02.trans (b4.mono b02.size)
  go_wp2_with fail
  refine (Is_ok n a0 a1 A2 c0 c1 c2 z0 z1 g _ (w0.past b04) (w1.past b04) (hr2.past b4) HN.out HC.out HP.out).mono ?_
  rw [HS.out]
  rintro e x5 ⟨rfl, b5⟩
  have b05 := b04.trans (b5.mono b04.size)
  go_wp2
  go_ret
  exact ⟨rfl, b05⟩

theorem walk (w : World) (a0 : Option Addr) (n0 c0 : Nat) (z0 : List (List Int)) (w0 : RdR w w.heap.size a0 n0 c0 z0) (a1 : Option Addr) (n1 c1 : Nat) (z1 : List (List Int)) (w1 : RdR w w.heap.size a1 n1 c1 z1) :
    Calls Try.prog 3 #[.slice a0 n0 c0, .slice a1 n1 c1] w fun e w' => e = .returned (.bool true) ∧ Below w.heap.size w w' := by
  by_cases hc : St.code z0 z1 = 0
  · have e := St.code_len hc
    rw [w0.len, w1.len] at e
    subst e
    exact good w n1 a0 c0 z0 w0 a1 c1 z1 w1 hc
  · exact bad w a0 n0 c0 z0 w0 a1 n1 c1 z1 w1 hc

end Go.Proofs.Ythdibdghnfkoeaa.stableGale
