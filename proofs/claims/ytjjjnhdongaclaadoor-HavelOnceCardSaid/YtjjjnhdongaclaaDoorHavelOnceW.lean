/-
  The walk of the law HavelOnce: for every number of points and lines it returns true, where the library's variable errors.errorType holds what its initialiser lays.
-/
import Derived.Test.YtjjjnhdongaclaaDoorHavelE
namespace Go.Proofs.YtjjjnhdongaclaaDoor.havelOnce
open Go.RowKit

set_option maxRecDepth 100000 in
set_option maxHeartbeats 4000000 in
theorem walk (w : World) (het : tld.EtIs w) (a0 : Int) (_w0 : (Lit.int .i64 a0).wf = true) (a1 : Option Addr) (n1 c1 : Nat) (z1 : List Gr.Ln) (w1 : RdP w w.heap.size a1 n1 c1 z1) :
    Calls Tryd.prog 5 #[.int .i64 a0, .slice a1 n1 c1] w fun e w' => e = .returned (.bool true) ∧ Below w.heap.size w w' := by
  go_enter Tryd.func5, Tryd.ntmps5
  go_wp2_with fail
  refine (havelFact_any _ het).mono ?_
  rintro e x1 ⟨rfl, hb1⟩
  go_wp2_with fail
  refine (Of_any a0 a1 n1 c1 z1 _ (w1.past hb1)).mono ?_
  rintro e x2 ⟨hb2, (⟨hne, rfl⟩ | ⟨h0, A, c, rfl, hr⟩)⟩
  · have hb := hb1.trans (hb2.mono hb1.size)
    clear hne
    go_wp2
    go_ret
    exact ⟨rfl, hb⟩
  have hb := hb1.trans (hb2.mono hb1.size)
  clear hb1 hb2
  obtain ⟨z1', z8, _, _⟩ := Gr.code_zero.1 h0
  obtain ⟨m, rfl⟩ : ∃ m : Nat, a0 = (m : Int) := ⟨a0.toNat, by omega⟩
  simp only [Int.toNat_natCast] at hr ⊢
  have hm8 : m ≤ 8 := by omega
  have hcd : De.code (De.degs m z1) = 0 := De.degs_code h0
  have hcan : De.can (De.degs m z1) = true := De.degs_can h0
  have hsome := De.havel_can hcd
  rw [hcan] at hsome
  obtain ⟨d, hd⟩ : ∃ d, d = De.degs m z1 := ⟨_, rfl⟩
  have hdl : d.length = m := by rw [hd]; exact De.degs_len m z1
  rw [← hd] at hcd hsome hr
  obtain ⟨os, hos⟩ : ∃ os, De.havel 9 (d.map Int.toNat) = some os := Option.isSome_iff_exists.1 hsome
  have hne : d.map Int.toNat ≠ [] := by
    intro e
    have := congrArg List.length e
    rw [List.length_map, hdl] at this
    simp at this
    omega
  have hmade := De.havel_made 9 _ os hne hos
  have hml : (d.map Int.toNat).length = m := by rw [List.length_map]; exact hdl
  have hup : De.up (d.map Int.toNat) = d := De.up_toNat fun x hx => ((De.code_zero.1 hcd).2.2 x hx).1
  have hdeg := hmade.degs
  rw [hml, hup] at hdeg
  have hmc : os.length ≤ 24 → Gr.code (m : Int) os = 0 := by
    intro h24
    have := hmade.code (by omega) (by omega) h24
    rwa [hml] at this
  have HCD := Lib.hid hcd
  have HOS := Lib.hid hos
  have HDG := Lib.hid hdeg
  have HMC := Lib.hid hmc
  clear hcan hsome hd hdl hcd hos hne hmade hml hup hdeg hmc h0
  go_wp2_with fail
  refine (Make_ok A m c d _ hr HCD.out).mono ?_
  rw [HOS.out]
  rintro e x3 ⟨hb3, (⟨hn, _⟩ | ⟨os', v, hs, rfl, hown⟩)⟩
  · cases hn
  cases hs
  obtain ⟨A3, c3, rfl, hrd⟩ := hown.rd
  have hb03 := hb.trans (hb3.mono hb.size)
  have hr3 := hr.past hb3
  clear hown hb3 hr hb
  obtain ⟨k, hk⟩ : ∃ k, k = os.length := ⟨_, rfl⟩
  rw [← hk] at hrd ⊢
  have hmk : k ≤ 24 → Gr.code (m : Int) os = 0 := by rw [hk]; exact HMC.out
  have HMK := Lib.hid hmk
  clear hk hmk HMC
  by_cases h24 : 24 < k
  · have hdd : decide ((24 : Int) < (k : Int)) = true := by rw [decide_eq_true_eq]; omega
    go_wp2
    go_ret
    exact ⟨rfl, hb03⟩
  · have hcode := HMK.out (by omega)
    have HCO := Lib.hid hcode
    clear hcode
    go_wp2_with fail
    refine (Of_any (m : Int) A3 k c3 os _ hrd).mono ?_
    rintro e x4 ⟨hb4, (⟨hne, rfl⟩ | ⟨_, A4, c4, rfl, hr4⟩)⟩
    · exact absurd HCO.out hne
    simp only [Int.toNat_natCast] at hr4 ⊢
    rw [HDG.out] at hr4
    have hb04 := hb03.trans (hb4.mono hb03.size)
    have hr3' := hr3.past hb4
    clear hb03 hb4 hr3
    go_wp2_with fail
    refine (Ints_t A4 A m m c4 c d d true _ hr4 hr3' (by simp)).mono ?_
    rintro e x5 ⟨rfl, hb5⟩
    go_wp2
    go_ret
    exact ⟨rfl, hb04.trans (hb5.mono hb04.size)⟩

end Go.Proofs.YtjjjnhdongaclaaDoor.havelOnce
