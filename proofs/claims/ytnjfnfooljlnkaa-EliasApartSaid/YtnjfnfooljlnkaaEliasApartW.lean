/-
  The walk of the law EliasApart: for every two integers it returns true.
-/
import Derived.Test.YtnjfnfooljlnkaaEliasF
namespace Go.Proofs.Ytnjfnfooljlnkaa.eliasApart
open Go.RowKit

theorem apart (code : Nat → List Int) (cut : List Int → Option (Int × List Int)) (hc : ∀ (n : Nat), 1 ≤ n → n ≤ 1000000 → ∀ r, cut (code n ++ r) = some ((n : Int), r))
    {n m : Nat} (h1 : 1 ≤ n) (h2 : n ≤ 1000000) (m1 : 1 ≤ m) (m2 : m ≤ 1000000) (hne : n ≠ m) (k : Nat) : decide (code n = (code m).take k) = false := by
  simp only [decide_eq_false_iff_not]
  intro h
  have e : code m = code n ++ (code m).drop k := by
    conv => lhs; rw [← List.take_append_drop k (code m)]
    rw [← h]
  have a := hc n h1 h2 ((code m).drop k)
  have b := hc m m1 m2 []
  rw [← e] at a
  rw [List.append_nil, a] at b
  simp only [Option.some.injEq, Prod.mk.injEq] at b
  omega

set_option maxRecDepth 100000 in
set_option maxHeartbeats 4000000 in
theorem walk (w : World) (a0 : Int) (_w0 : (Lit.int .i64 a0).wf = true) (a1 : Int) (_w1 : (Lit.int .i64 a1).wf = true) :
    Calls Try.prog 6 #[.int .i64 a0, .int .i64 a1] w fun e w' => e = .returned (.bool true) ∧ Below w.heap.size w w' := by
  by_cases hnm : a0 = a1
  · subst hnm
    go_enter Try.func6, Try.ntmps6
    go_wp2_with fail
    refine (fact_any _).mono ?_
    rintro e w1 ⟨rfl, hb1⟩
    go_wp2
    go_ret
    exact ⟨rfl, hb1⟩
  have hbq : (a0 == a1) = false := by simpa using hnm
  by_cases hn : a0 < 1 ∨ 1000000 < a0
  · by_cases hm : a1 < 1 ∨ 1000000 < a1
    · go_enter Try.func6, Try.ntmps6
      go_wp2_with fail
      refine (fact_any _).mono ?_
      rintro e w1 ⟨rfl, hb1⟩
      go_wp2_with fail
      go_loopw [6] (fun i wr => i = .int .i64 0 ∧ Below w.heap.size w wr) (fun _ _ => 0)
      case atStart => exact ⟨rfl, hb1⟩
      case round =>
        obtain ⟨rfl, hbel⟩ := hrel
        go_wp2_with fail
        refine (Gamma_no _ _ hn).mono ?_
        rintro e w2 ⟨rfl, rfl⟩
        go_wp2_with fail
        refine (Gamma_no _ _ hm).mono ?_
        rintro e w2 ⟨rfl, rfl⟩
        go_wp2_with fail
        refine (in_no _ _ _ _ hn).mono ?_
        rintro e w4 ⟨rfl, rfl⟩
        go_wp2
        go_ret
        exact ⟨rfl, hbel⟩
    · obtain ⟨m, rfl⟩ : ∃ m : Nat, a1 = m := ⟨a1.toNat, by omega⟩
      have m1 : 1 ≤ m := by omega
      have m2 : m ≤ 1000000 := by omega
      clear hm
      go_enter Try.func6, Try.ntmps6
      go_wp2_with fail
      refine (fact_any _).mono ?_
      rintro e w1 ⟨rfl, hb1⟩
      go_wp2_with fail
      go_loopw [6] (fun i wr => i = .int .i64 0 ∧ Below w.heap.size w wr) (fun _ _ => 0)
      case atStart => exact ⟨rfl, hb1⟩
      case round =>
        obtain ⟨rfl, hbel⟩ := hrel
        go_wp2_with fail
        refine (Gamma_no _ _ hn).mono ?_
        rintro e w2 ⟨rfl, rfl⟩
        go_wp2_with fail
        refine (Gamma_yes _ _ m1 m2).mono ?_
        rintro e w3 ⟨v3, rfl, hown3, hb3⟩
        go_wp2_with fail
        refine (in_no _ _ _ _ hn).mono ?_
        rintro e w4 ⟨rfl, rfl⟩
        go_wp2
        go_ret
        exact ⟨rfl, hbel.trans (hb3.mono hbel.size)⟩
  · obtain ⟨n, rfl⟩ : ∃ n : Nat, a0 = n := ⟨a0.toNat, by omega⟩
    have h1 : 1 ≤ n := by omega
    have h2 : n ≤ 1000000 := by omega
    clear hn
    by_cases hm : a1 < 1 ∨ 1000000 < a1
    · go_enter Try.func6, Try.ntmps6
      go_wp2_with fail
      refine (fact_any _).mono ?_
      rintro e w1 ⟨rfl, hb1⟩
      go_wp2_with fail
      go_loopw [6] (fun i wr => i = .int .i64 0 ∧ Below w.heap.size w wr) (fun _ _ => 0)
      case atStart => exact ⟨rfl, hb1⟩
      case round =>
        obtain ⟨rfl, hbel⟩ := hrel
        go_wp2_with fail
        refine (Gamma_yes _ _ h1 h2).mono ?_
        rintro e w3 ⟨v3, rfl, hown3, hb3⟩
        go_wp2_with fail
        refine (Gamma_no _ _ hm).mono ?_
        rintro e w2 ⟨rfl, rfl⟩
        go_wp2_with fail
        refine (in_yes _ _ _ _ (by omega) (by omega)).mono ?_
        rintro e w4 ⟨rfl, rfl⟩
        go_wp2_with fail
        refine (in_no _ _ _ _ hm).mono ?_
        rintro e w4 ⟨rfl, rfl⟩
        go_wp2
        go_ret
        exact ⟨rfl, hbel.trans (hb3.mono hbel.size)⟩
    · obtain ⟨m, rfl⟩ : ∃ m : Nat, a1 = m := ⟨a1.toNat, by omega⟩
      have m1 : 1 ≤ m := by omega
      have m2 : m ≤ 1000000 := by omega
      have hne : n ≠ m := by omega
      clear hm
      have g1 : Hid (∀ k, decide (El.gamma n = (El.gamma m).take k) = false) := apart El.gamma El.cutG (fun _ h1 h2 r => El.cutG_reads h1 h2 r) h1 h2 m1 m2 hne
      have g2 : Hid (∀ k, decide (El.gamma m = (El.gamma n).take k) = false) := apart El.gamma El.cutG (fun _ h1 h2 r => El.cutG_reads h1 h2 r) m1 m2 h1 h2 (Ne.symm hne)
      have d1 : Hid (∀ k, decide (El.delta n = (El.delta m).take k) = false) := apart El.delta El.cutDl (fun _ h1 h2 r => El.delta_reads h1 h2 r) h1 h2 m1 m2 hne
      have d2 : Hid (∀ k, decide (El.delta m = (El.delta n).take k) = false) := apart El.delta El.cutDl (fun _ h1 h2 r => El.delta_reads h1 h2 r) m1 m2 h1 h2 (Ne.symm hne)
      go_enter Try.func6, Try.ntmps6
      go_wp2_with fail
      refine (fact_any _).mono ?_
      rintro e w1 ⟨rfl, hb1⟩
      go_wp2_with fail
      go_loopw [6] (fun i wr => ∃ k : Nat, k ≤ 2 ∧ i = .int .i64 k ∧ Below w.heap.size w wr) (fun i _ => 2 - (intOf i).toNat)
      case atStart => exact ⟨0, by omega, rfl, hb1⟩
      case round =>
        obtain ⟨k, hk, rfl, hbel⟩ := hrel
        have hszr := hbel.size
        rcases (show k = 0 ∨ k = 1 ∨ k = 2 by omega) with rfl | rfl | rfl
        · go_wp2_with fail
          refine (Gamma_yes _ _ h1 h2).mono ?_
          rintro e w3 ⟨v3, rfl, hown3, hb3⟩
          obtain ⟨A3, ca, rfl, hr3⟩ := hown3.rd
          go_wp2_with fail
          refine (Gamma_yes _ _ m1 m2).mono ?_
          rintro e w4 ⟨v4, rfl, hown4, hb4⟩
          obtain ⟨A4, cb, rfl, hrb⟩ := hown4.rd
          have hra := hr3.past hb4
          have hs3 := hb3.size
          have hs4 := hb4.size
          have hwt : Below w.heap.size w w4 := (hbel.trans (hb3.mono hszr)).trans (hb4.mono (by omega))
          have hne1 : Hid ((El.gamma n).length ≤ (El.gamma m).length → decide (El.gamma n = (El.gamma m).take (El.gamma n).length) = false) := fun _ => g1.out _
          have hne2 : Hid ((El.gamma m).length ≤ (El.gamma n).length → decide (El.gamma m = (El.gamma n).take (El.gamma m).length) = false) := fun _ => g2.out _
          have hle_a := hra.le
          have hle_b := hrb.le
          have hcp_a := hra.cap
          have hcp_b := hrb.cap
          clear hown3 hown4 hr3 hb3 hb4 g1 g2 d1 d2
          generalize El.gamma n = as_ at *
          generalize El.gamma m = bs_ at *
          generalize as_.length = la at *
          generalize bs_.length = lb at *

          by_cases c1 : la ≤ lb
          · go_wp2_with fail
            refine (Ints_any _ _ _ _ _ _ as_ (bs_.take la) _ hra (hrb.take c1)).mono ?_
            rintro e w8 ⟨rfl, hb8⟩
            have ha8 := hra.past hb8
            have hbb8 := hrb.past hb8
            have hw8 : Below w.heap.size w w8 := hwt.trans (hb8.mono hwt.size)
            rw [hne1.out c1]
            by_cases c2 : lb ≤ la
            · go_wp2_with fail
              refine (Ints_any _ _ _ _ _ _ bs_ (as_.take lb) _ hbb8 (ha8.take c2)).mono ?_
              rintro e w9 ⟨rfl, hb9⟩
              have hw9 : Below w.heap.size w w9 := hw8.trans (hb9.mono hw8.size)
              rw [hne2.out c2]
              go_wp2
              go_roundw
              case rel => exact ⟨0 + 1, by omega, by go_num, hw9⟩
              case measure => simp [intOf]
            · go_wp2
              go_roundw
              case rel => exact ⟨0 + 1, by omega, by go_num, hw8⟩
              case measure => simp [intOf]
          · have c2 : lb ≤ la := by omega
            go_wp2_with fail
            refine (Ints_any _ _ _ _ _ _ bs_ (as_.take lb) _ hrb (hra.take c2)).mono ?_
            rintro e w9 ⟨rfl, hb9⟩
            have hw9 : Below w.heap.size w w9 := hwt.trans (hb9.mono hwt.size)
            rw [hne2.out c2]
            go_wp2
            go_roundw
            case rel => exact ⟨0 + 1, by omega, by go_num, hw9⟩
            case measure => simp [intOf]
        · go_wp2_with fail
          refine (Gamma_yes _ _ h1 h2).mono ?_
          rintro e w2 ⟨v2, rfl, _, hb2⟩
          go_wp2_with fail
          refine (Gamma_yes _ _ m1 m2).mono ?_
          rintro e w2b ⟨v2b, rfl, _, hb2b⟩
          have hs2 := hb2.size
          have hs2b := hb2b.size
          go_wp2_with fail
          refine (Delta_yes _ _ h1 h2).mono ?_
          rintro e w3 ⟨v3, rfl, hown3, hb3⟩
          obtain ⟨A3, ca, rfl, hr3⟩ := hown3.rd
          go_wp2_with fail
          refine (Delta_yes _ _ m1 m2).mono ?_
          rintro e w4 ⟨v4, rfl, hown4, hb4⟩
          obtain ⟨A4, cb, rfl, hrb⟩ := hown4.rd
          have hra := hr3.past hb4
          have hs3 := hb3.size
          have hs4 := hb4.size
          have hwt : Below w.heap.size w w4 := (((hbel.trans (hb2.mono hszr)).trans (hb2b.mono (by omega))).trans (hb3.mono (by omega))).trans (hb4.mono (by omega))
          have hne1 : Hid ((El.delta n).length ≤ (El.delta m).length → decide (El.delta n = (El.delta m).take (El.delta n).length) = false) := fun _ => d1.out _
          have hne2 : Hid ((El.delta m).length ≤ (El.delta n).length → decide (El.delta m = (El.delta n).take (El.delta m).length) = false) := fun _ => d2.out _
          have hle_a := hra.le
          have hle_b := hrb.le
          have hcp_a := hra.cap
          have hcp_b := hrb.cap
          clear hown3 hown4 hr3 hb2 hb2b hb3 hb4 g1 g2 d1 d2
          generalize El.delta n = as_ at *
          generalize El.delta m = bs_ at *
          generalize as_.length = la at *
          generalize bs_.length = lb at *

          by_cases c1 : la ≤ lb
          · go_wp2_with fail
            refine (Ints_any _ _ _ _ _ _ as_ (bs_.take la) _ hra (hrb.take c1)).mono ?_
            rintro e w8 ⟨rfl, hb8⟩
            have ha8 := hra.past hb8
            have hbb8 := hrb.past hb8
            have hw8 : Below w.heap.size w w8 := hwt.trans (hb8.mono hwt.size)
            rw [hne1.out c1]
            by_cases c2 : lb ≤ la
            · go_wp2_with fail
              refine (Ints_any _ _ _ _ _ _ bs_ (as_.take lb) _ hbb8 (ha8.take c2)).mono ?_
              rintro e w9 ⟨rfl, hb9⟩
              have hw9 : Below w.heap.size w w9 := hw8.trans (hb9.mono hw8.size)
              rw [hne2.out c2]
              go_wp2
              go_roundw
              case rel => exact ⟨1 + 1, by omega, by go_num, hw9⟩
              case measure => simp [intOf]
            · go_wp2
              go_roundw
              case rel => exact ⟨1 + 1, by omega, by go_num, hw8⟩
              case measure => simp [intOf]
          · have c2 : lb ≤ la := by omega
            go_wp2_with fail
            refine (Ints_any _ _ _ _ _ _ bs_ (as_.take lb) _ hrb (hra.take c2)).mono ?_
            rintro e w9 ⟨rfl, hb9⟩
            have hw9 : Below w.heap.size w w9 := hwt.trans (hb9.mono hwt.size)
            rw [hne2.out c2]
            go_wp2
            go_roundw
            case rel => exact ⟨1 + 1, by omega, by go_num, hw9⟩
            case measure => simp [intOf]
        · go_wp2
          go_ret
          exact ⟨rfl, hbel⟩

end Go.Proofs.Ytnjfnfooljlnkaa.eliasApart
