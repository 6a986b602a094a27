/-
  The walk of the law EliasLong: for every two integers it returns true.
-/
import Derived.Test.YtnjfnfooljlnkaaEliasF
namespace Go.Proofs.Ytnjfnfooljlnkaa.eliasLong
open Go.RowKit

theorem halves {n k h : Nat} (hk : 2 ≤ k) (e : (El.bin n).length = (El.bin k).length + h) : (El.bin n).length = (El.bin (k / 2)).length + (h + 1) := by
  rw [e, El.bin_step hk]; simp; omega
theorem len_small {L : Nat} (h1 : 6 ≤ L) (h2 : L ≤ 20) : 2 * (El.bin L).length ≤ L + 1 := by
  have b1 : El.bin 1 = [1] := El.bin_small (by omega)
  have hb := El.bin_bounds L (by omega)
  have hp := El.bin_pos L
  have hl : (El.bin L).length ≤ 5 := by
    rcases Nat.lt_or_ge 5 (El.bin L).length with h | h
    · have : 2 ^ 5 ≤ 2 ^ ((El.bin L).length - 1) := Nat.pow_le_pow_right (by omega) (by omega)
      have e : (2 : Nat) ^ 5 = 32 := by decide
      omega
    · exact h
  rcases (show (El.bin L).length = 1 ∨ (El.bin L).length = 2 ∨ (El.bin L).length = 3 ∨ (El.bin L).length = 4 ∨ (El.bin L).length = 5 by omega) with h | h | h | h | h
  all_goals
    rw [h] at hb ⊢
    simp at hb
    omega
theorem len_of_32 {n : Nat} (h : 32 ≤ n) : 6 ≤ (El.bin n).length := by
  have hb := El.bin_bounds n (by omega)
  rcases Nat.lt_or_ge (El.bin n).length 6 with h' | h'
  · have : 2 ^ (El.bin n).length ≤ 2 ^ 5 := Nat.pow_le_pow_right (by omega) (by omega)
    have e : (2 : Nat) ^ 5 = 32 := by decide
    omega
  · exact h'

set_option maxHeartbeats 2000000 in
theorem walk (w : World) (a0 : Int) (_w0 : (Lit.int .i64 a0).wf = true) (a1 : Int) (_w1 : (Lit.int .i64 a1).wf = true) :
    Calls Try.prog 5 #[.int .i64 a0, .int .i64 a1] w fun e w' => e = .returned (.bool true) ∧ Below w.heap.size w w' := by
  by_cases hn : a0 < 1 ∨ 1000000 < a0
  · go_enter Try.func5, Try.ntmps5
    go_wp2_with fail
    refine (fact_any _).mono ?_
    rintro e w1 ⟨rfl, hb1⟩
    go_wp2_with fail
    refine (Gamma_no _ _ hn).mono ?_
    rintro e w2 ⟨rfl, rfl⟩
    go_wp2_with fail
    refine (Delta_no _ _ hn).mono ?_
    rintro e w2 ⟨rfl, rfl⟩
    go_wp2_with fail
    refine (in_no _ _ _ _ hn).mono ?_
    rintro e w2 ⟨rfl, rfl⟩
    go_wp2
    go_ret
    exact ⟨rfl, hb1⟩
  · obtain ⟨n, rfl⟩ : ∃ n : Nat, a0 = n := ⟨a0.toNat, by omega⟩
    have h1 : 1 ≤ n := by omega
    have h2 : n ≤ 1000000 := by omega
    clear hn
    have hbl := El.bin_len_le h1 h2
    have hp := El.bin_pos n
    have hgl : (El.gamma n).length = 2 * (El.bin n).length - 1 := El.gamma_len
    have hdl : (El.delta n).length = 2 * (El.bin (El.bin n).length).length - 1 + ((El.bin n).length - 1) := El.delta_len
    have h32 : 32 ≤ n → (El.delta n).length ≤ (El.gamma n).length := by
      intro h
      have := len_small (len_of_32 h) hbl
      omega
    have hp2 := El.bin_pos (El.bin n).length
    have hbl2 := El.bin_len_le (n := (El.bin n).length) (by omega) (by omega)
    obtain ⟨lg, hlg⟩ : ∃ lg, lg = (El.gamma n).length := ⟨_, rfl⟩
    obtain ⟨ld, hld⟩ : ∃ ld, ld = (El.delta n).length := ⟨_, rfl⟩
    rw [← hlg] at hgl h32
    rw [← hld] at hdl h32
    have HG := Lib.hid hgl
    have HD := Lib.hid hdl
    have HLG := Lib.hid hlg
    have HLD := Lib.hid hld
    have hlg60 : lg ≤ 60 := by omega
    have hld60 : ld ≤ 60 := by omega
    clear hgl hdl hlg hld
    go_enter Try.func5, Try.ntmps5
    go_wp2_with fail
    refine (fact_any _).mono ?_
    rintro e w1 ⟨rfl, hb1⟩
    go_wp2_with fail
    refine (Gamma_yes _ _ h1 h2).mono ?_
    rintro e w2 ⟨v2, rfl, hown2, hb2⟩
    obtain ⟨A2, c2, rfl, hr2⟩ := hown2.rd
    go_wp2_with fail
    refine (Delta_yes _ _ h1 h2).mono ?_
    rintro e w3 ⟨v3, rfl, hown3, hb3⟩
    obtain ⟨A3, c3, rfl, hr3⟩ := hown3.rd
    have hs1 := hb1.size
    have hs2 := hb2.size
    have hs3 := hb3.size
    have hw3 : Below w.heap.size w w3 := (hb1.trans (hb2.mono hs1)).trans (hb3.mono (by omega))
    clear hown2 hown3 hr2 hr3 hb1 hb2 hb3
    rw [← HLG.out, ← HLD.out]
    go_wp2_with fail
    go_loop [10, 11] (fun h x => ∃ k g : Nat, 1 ≤ k ∧ k ≤ n ∧ g ≤ 60 ∧ h = .int .i64 g ∧ x = .int .i64 k ∧ Hid ((El.bin n).length = (El.bin k).length + g)) (fun _ x => (intOf x).toNat)
    case atStart => exact ⟨n, 0, h1, Nat.le_refl _, by omega, rfl, rfl, rfl⟩
    case round =>
      obtain ⟨k, g, hk1, hkn, hg60, rfl, rfl, H⟩ := hrel
      by_cases hk : 1 < k
      · have H2 := halves (by omega) H.out
        have hg' : g + 1 ≤ 60 := by omega
        have HH := Lib.hid H2
        clear H2
        go_wp2
        go_round
        case rel => exact ⟨k / 2, g + 1, by omega, by omega, hg', by go_num, by go_num, HH.out⟩
        case measure => simp [intOf]; omega
      · obtain rfl : k = 1 := by omega
        have hgl : (El.bin n).length = 1 + g := by have := H.out; rw [El.bin_small (by omega : 1 < 2)] at this; simpa using this
        have i1 : lg ≤ 2 * g + 1 := by have := HG.out; omega
        have i2 : 2 * g + 1 ≤ lg := by have := HG.out; omega
        have i3 : g + 1 ≤ ld := by have := HD.out; omega
        have HGL := Lib.hid hgl
        clear hgl
        have HW := Lib.hid hw3
        clear hw3
        by_cases hn32 : 32 ≤ n
        all_goals
          first
            | (have i4 : ld ≤ lg := h32 hn32)
            | (have i4 : n < 32 := by omega)
          clear h32
          go_wp2_with fail
          by_cases hm : a1 < 1 ∨ 1000000 < a1
          · refine (Gamma_no _ _ hm).mono ?_
            rintro e w4 ⟨rfl, rfl⟩
            go_wp2_with fail
            refine (Delta_no _ _ hm).mono ?_
            rintro e w4 ⟨rfl, rfl⟩
            go_wp2_with fail
            refine (in_no _ _ _ _ hm).mono ?_
            rintro e w4 ⟨rfl, rfl⟩
            go_wp2
            go_ret
            exact ⟨rfl, HW.out⟩
          · obtain ⟨m, rfl⟩ : ∃ m : Nat, a1 = m := ⟨a1.toNat, by omega⟩
            have m1 : 1 ≤ m := by omega
            have m2 : m ≤ 1000000 := by omega
            clear hm
            have hml := El.bin_len_le m1 m2
            have hmg : (El.gamma m).length = 2 * (El.bin m).length - 1 := El.gamma_len
            have hmd : (El.delta m).length = 2 * (El.bin (El.bin m).length).length - 1 + ((El.bin m).length - 1) := El.delta_len
            have hmp := El.bin_pos m
            have hml2 := El.bin_len_le (n := (El.bin m).length) (by omega) (by omega)
            have hlc60 : (El.gamma m).length ≤ 60 := by omega
            have hle60 : (El.delta m).length ≤ 60 := by omega
            have hmono : n ≤ m → lg ≤ (El.gamma m).length ∧ ld ≤ (El.delta m).length := by
              intro h
              have a := El.bin_mono h1 h
              have b := El.bin_mono hp a
              have := HG.out
              have := HD.out
              omega
            clear hmg hmd
            obtain ⟨lc, hlc⟩ : ∃ lc, lc = (El.gamma m).length := ⟨_, rfl⟩
            obtain ⟨le, hle⟩ : ∃ le, le = (El.delta m).length := ⟨_, rfl⟩
            rw [← hlc] at hlc60 hmono
            rw [← hle] at hle60 hmono
            have HLC := Lib.hid hlc
            have HLE := Lib.hid hle
            clear hlc hle
            refine (Gamma_yes _ _ m1 m2).mono ?_
            rintro e w4 ⟨v4, rfl, hown4, hb4⟩
            obtain ⟨A4, c4, rfl, hr4⟩ := hown4.rd
            rw [← HLC.out]
            go_wp2_with fail
            refine (Delta_yes _ _ m1 m2).mono ?_
            rintro e w5 ⟨v5, rfl, hown5, hb5⟩
            obtain ⟨A5, c5, rfl, hr5⟩ := hown5.rd
            rw [← HLE.out]
            have hs4 := hb4.size
            have hw5 : Below w.heap.size w w5 := (HW.out.trans (hb4.mono HW.out.size)).trans (hb5.mono (by have := HW.out.size; omega))
            clear hown4 hown5 hr4 hr5 hb4 hb5
            by_cases hmn : m < n
            · clear hmono
              go_wp2
              go_ret
              exact ⟨rfl, hw5⟩
            · obtain ⟨q1, q2⟩ := hmono (by omega)
              clear hmono
              go_wp2
              go_ret
              exact ⟨rfl, hw5⟩

end Go.Proofs.Ytnjfnfooljlnkaa.eliasLong
