/-
  The walk of the law TreeJordan: for every number of points and lines it returns true.
-/
import Derived.Test.YtoofpmajiphldaaTreeF
import Derived.Test.YtoofpmajiphldaaRefAll
import Derived.Test.YtoofpmajiphldaaBesQ
import Derived.BigQuiet
namespace Go.Proofs.Ytoofpmajiphldaa.treeJordan
open Go.RowKit

set_option linter.unusedSimpArgs false
set_option linter.unusedVariables false

set_option maxHeartbeats 1000000 in
theorem bad (w : World) (a0 : Int) (a1 : Option Addr) (n1 c1 : Nat) (z1 : List Gr.Ln) (w1 : RdP w w.heap.size a1 n1 c1 z1) (hc : Tr.tcode a0 z1 ≠ 0) :
    Calls Try.prog 3 #[.int .i64 a0, .slice a1 n1 c1] w fun e w' => e = .returned (.bool true) ∧ Below w.heap.size w w' := by
  have H := Lib.hid hc
  clear hc
  go_enter Try.func3, Try.ntmps3
  go_wp2_with fail
  refine (treeFact_any _).mono ?_
  rintro e x1 ⟨rfl, hb1⟩
  go_wp2_with fail
  refine (Middle_bad a0 a1 n1 c1 z1 _ (w1.past hb1) H.out).mono ?_
  rintro e x2 ⟨rfl, hb2⟩
  go_wp2
  go_ret
  exact ⟨rfl, hb1.trans (hb2.mono hb1.size)⟩

set_option maxRecDepth 100000 in
set_option maxHeartbeats 2000000 in
theorem one (w : World) (m : Nat) (a1 : Option Addr) (n1 c1 : Nat) (z1 : List Gr.Ln) (w1 : RdP w w.heap.size a1 n1 c1 z1) (hc : Tr.tcode (m : Int) z1 = 0) (c : Nat) (hm : Tr.midI m z1 m = [(c : Int)]) (hcm : c < m) (hX : Tr.mx (Tr.ecc m (Tr.far m z1)) m = 2 * Tr.best m (Tr.far m z1)) :
    Calls Try.prog 3 #[.int .i64 (m : Int), .slice a1 n1 c1] w fun e w' => e = .returned (.bool true) ∧ Below w.heap.size w w' := by
  have hm8 : m ≤ 8 := by have := (Gr.code_zero.1 (Tr.tcode_zero.1 hc).1).2.1; omega
  obtain ⟨q, hq⟩ : ∃ q : Int, q = (m : Int) - 1 := ⟨_, rfl⟩
  have hw : IntKind.i64.wrap ((m : Int) - 1) = q := by rw [IntKind.wrap_i64]; omega
  have hbm : Tr.best m (Tr.far m z1) ≤ m := Tr.mn_top _ _ _
  obtain ⟨K, hK⟩ : ∃ K, K = Tr.best m (Tr.far m z1) := ⟨_, rfl⟩
  obtain ⟨X, hXX⟩ : ∃ X, X = Tr.mx (Tr.ecc m (Tr.far m z1)) m := ⟨_, rfl⟩
  rw [← hK, ← hXX] at hX
  rw [← hK] at hbm
  have hw2 : IntKind.i64.wrap (2 * (K : Int)) = (X : Int) := by rw [IntKind.wrap_i64]; omega
  have hall : ∀ d ∈ [(c : Int)], (0 : Int) ≤ d ∧ d ≤ q := fun d hd => by
    rw [show d = (c : Int) by simpa using hd]
    omega
  have H := Lib.hid hc
  have HM := Lib.hid hm
  have HK := Lib.hid hK
  have HX := Lib.hid hXX
  have HA := Lib.hid hall
  clear hc hm hK hXX hX hq hall
  go_enter Try.func3, Try.ntmps3
  go_wp2_with fail
  refine (treeFact_any _).mono ?_
  rintro e x1 ⟨rfl, hb1⟩
  have hr1 := w1.past hb1
  go_wp2_with fail
  refine (Middle_ok m a1 n1 c1 z1 _ hr1 H.out).mono ?_
  rintro e x2 ⟨v, rfl, hown, hb2⟩
  rw [HM.out] at hown
  rw [← HK.out]
  obtain ⟨A2, c2, rfl, hrd⟩ := hown.rd
  simp only [List.length_cons, List.length_nil, Nat.zero_add] at hrd ⊢
  have hb02 := hb1.trans (hb2.mono hb1.size)
  have hr2 := hr1.past hb2
  clear hown hb1 hb2 hr1
  go_wp2_with fail
  refine (Long_ok m a1 n1 c1 z1 _ hr2 H.out).mono ?_
  rintro e x3 ⟨rfl, hb3⟩
  rw [← HX.out]
  have hb03 := hb02.trans (hb3.mono hb02.size)
  have hrd3 := hrd.past hb3
  clear hrd hb3 hr2 hb02
  go_wp2_with fail
  refine (All_in A2 1 c2 [(c : Int)] 0 q _ hrd3 HA.out).mono ?_
  rintro e x4 ⟨rfl, rfl⟩
  go_wp2
  go_ret
  exact ⟨rfl, hb03⟩

set_option maxRecDepth 100000 in
set_option maxHeartbeats 2000000 in
theorem two (w : World) (m : Nat) (a1 : Option Addr) (n1 c1 : Nat) (z1 : List Gr.Ln) (w1 : RdP w w.heap.size a1 n1 c1 z1) (hc : Tr.tcode (m : Int) z1 = 0) (c d : Nat) (hm : Tr.midI m z1 m = [(c : Int), (d : Int)]) (hcm : c < m) (hdm : d < m) (hcd : Tr.ad z1 c d = true) (hX : Tr.mx (Tr.ecc m (Tr.far m z1)) m + 1 = 2 * Tr.best m (Tr.far m z1)) :
    Calls Try.prog 3 #[.int .i64 (m : Int), .slice a1 n1 c1] w fun e w' => e = .returned (.bool true) ∧ Below w.heap.size w w' := by
  have hm8 : m ≤ 8 := by have := (Gr.code_zero.1 (Tr.tcode_zero.1 hc).1).2.1; omega
  obtain ⟨q, hq⟩ : ∃ q : Int, q = (m : Int) - 1 := ⟨_, rfl⟩
  have hw : IntKind.i64.wrap ((m : Int) - 1) = q := by rw [IntKind.wrap_i64]; omega
  have hbm : Tr.best m (Tr.far m z1) ≤ m := Tr.mn_top _ _ _
  obtain ⟨K, hK⟩ : ∃ K, K = Tr.best m (Tr.far m z1) := ⟨_, rfl⟩
  obtain ⟨X, hXX⟩ : ∃ X, X = Tr.mx (Tr.ecc m (Tr.far m z1)) m := ⟨_, rfl⟩
  rw [← hK, ← hXX] at hX
  rw [← hK] at hbm
  obtain ⟨y, hy⟩ : ∃ y : Int, y = 2 * (K : Int) := ⟨_, rfl⟩
  have hw2 : IntKind.i64.wrap (2 * (K : Int)) = y := by rw [IntKind.wrap_i64]; omega
  have hw3 : IntKind.i64.wrap (y - 1) = (X : Int) := by rw [IntKind.wrap_i64]; omega
  have hall : ∀ e ∈ [(c : Int), (d : Int)], (0 : Int) ≤ e ∧ e ≤ q := fun e he => by
    rcases (show e = (c : Int) ∨ e = (d : Int) by simpa using he) with rfl | rfl <;> omega
  have H := Lib.hid hc
  have HM := Lib.hid hm
  have HK := Lib.hid hK
  have HX := Lib.hid hXX
  have HA := Lib.hid hall
  have HCD := Lib.hid hcd
  clear hc hm hK hXX hX hq hall hy hcd
  go_enter Try.func3, Try.ntmps3
  go_wp2_with fail
  refine (treeFact_any _).mono ?_
  rintro e x1 ⟨rfl, hb1⟩
  have hr1 := w1.past hb1
  go_wp2_with fail
  refine (Middle_ok m a1 n1 c1 z1 _ hr1 H.out).mono ?_
  rintro e x2 ⟨v, rfl, hown, hb2⟩
  rw [HM.out] at hown
  rw [← HK.out]
  obtain ⟨A2, c2, rfl, hrd⟩ := hown.rd
  simp only [List.length_cons, List.length_nil, Nat.zero_add, Nat.reduceAdd] at hrd ⊢
  have hb02 := hb1.trans (hb2.mono hb1.size)
  have hr2 := hr1.past hb2
  clear hown hb1 hb2 hr1
  go_wp2_with fail
  refine (Long_ok m a1 n1 c1 z1 _ hr2 H.out).mono ?_
  rintro e x3 ⟨rfl, hb3⟩
  rw [← HX.out]
  have hb03 := hb02.trans (hb3.mono hb02.size)
  have hrd3 := hrd.past hb3
  have hr3 := hr2.past hb3
  clear hrd hb3 hr2 hb02
  go_wp2_with fail
  refine (All_in A2 2 c2 [(c : Int), (d : Int)] 0 q _ hrd3 HA.out).mono ?_
  rintro e x4 ⟨rfl, rfl⟩
  obtain ⟨b1, o1, rfl, hb1, hc1⟩ := hrd3.at_ (by omega)
  have g0 := hc1 0 (by omega)
  have g1 := hc1 1 (by omega)
  rw [Nat.add_zero] at g0
  simp only [List.getD_cons_zero, List.getD_cons_succ] at g0 g1
  clear hc1
  go_wp2
  go_quiet (first | (go_at_call 11; exact RefL.bes_q a1 n1 c1 z1 (c : Int) (d : Int) true _ _ hr3 HCD.out))
  go_wp2
  go_ret
  exact ⟨rfl, hb03.trans (Below.drewN' _ _ _)⟩

theorem walk (w : World) (a0 : Int) (w0 : (Lit.int .i64 a0).wf = true) (a1 : Option Addr) (n1 c1 : Nat) (z1 : List Gr.Ln) (w1 : RdP w w.heap.size a1 n1 c1 z1) :
    Calls Try.prog 3 #[.int .i64 a0, .slice a1 n1 c1] w fun e w' => e = .returned (.bool true) ∧ Below w.heap.size w w' := by
  rcases Tr.tcode_cases a0 z1 with ⟨m, rfl, h, hc, hT⟩ | h
  · have hm1 : 0 < m := by have := (Gr.code_zero.1 hc).1; omega
    rcases hT.met.mids_jordan hm1 with ⟨c, h1, h2⟩ | ⟨c, d, h1, h2, h3, h4, h5⟩
    · have hcm : c < m := (Tr.mem_mids.1 (show c ∈ Tr.mids m (Tr.far m z1) by rw [h1]; simp)).1
      exact one w m a1 n1 c1 z1 w1 h c (by show (Tr.mids m (Tr.far m z1)).map _ = _; rw [h1]; rfl) hcm h2
    · exact two w m a1 n1 c1 z1 w1 h c d (by show (Tr.mids m (Tr.far m z1)).map _ = _; rw [h1]; rfl) h2 h3 h4 h5
  · exact bad w a0 a1 n1 c1 z1 w1 h

end Go.Proofs.Ytoofpmajiphldaa.treeJordan
