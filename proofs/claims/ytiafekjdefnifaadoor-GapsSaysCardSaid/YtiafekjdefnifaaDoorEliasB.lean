/-
  Contracts of Gamma and Delta of package elias, of the comparison Ints, and of the laws' own test 'in'.
-/
import Derived.Test.YtiafekjdefnifaaDoorEliasA
import Derived.RegionTactic
import Derived.ChangeAlike
namespace Go.Proofs.YtiafekjdefnifaaDoor
open Go.RowKit

/-- an error of package api -/
abbrev errv (k : Int) : Value := .iface 39 (.int .i64 k)

theorem Delta_no (n : Int) (w : World) (h : n < 1 ∨ 1000000 < n) :
    Calls Tryd.prog 24 #[.int .i64 n] w fun e w' => e = .returned (.tuple #[.slice none 0 0, errv 1]) ∧ w = w' := by
  go_enter Tryd.func24, Tryd.ntmps24
  go_wp2_with (go_at_call 34; refine (hasCode_no _ _ h).mono ?_; rintro e w' ⟨rfl, rfl⟩)
  go_ret2
  exact ⟨rfl, rfl⟩

set_option maxHeartbeats 400000 in
theorem Delta_yes (n : Nat) (w : World) (h1 : 1 ≤ n) (h2 : n ≤ 1000000) :
    Calls Tryd.prog 24 #[.int .i64 n] w fun e w' => ∃ v, e = .returned (.tuple #[v, .nilIface]) ∧ Own w' w.heap.size 3 v (El.delta n) ∧ Below w.heap.size w w' := by
  have hbl := El.bin_len_le h1 h2
  have hp := El.bin_pos n
  have hbl2 := El.bin_len_le hp (by omega : (El.bin n).length ≤ 1000000)
  have hp2 := El.bin_pos (El.bin n).length
  go_enter Tryd.func24, Tryd.ntmps24
  go_wp2_with (first
    | (go_at_call 34; refine (hasCode_yes _ _ (by omega) (by omega)).mono ?_; rintro e w' ⟨rfl, rfl⟩))
  go_wp2_with fail
  refine (digitsOf_any _ _ h1 h2).mono ?_
  rintro e w1 ⟨v1, rfl, hown1, hb1⟩
  obtain ⟨A1, c1, rfl, hr1⟩ := hown1.rd
  go_wp2_with fail
  refine (digitsOf_any _ _ hp (by omega)).mono ?_
  rintro e w2 ⟨v2, rfl, hown2, hb2⟩
  obtain ⟨A2, c2, rfl, hr2⟩ := hown2.rd
  go_wp2_with fail
  refine (gammaOf_any _ _ _ _ _ hr2 hp2 (by omega)).mono ?_
  rintro e w3 ⟨v3, rfl, hown3, hb3⟩
  obtain ⟨b, off, rfl, hbb, _⟩ := hr1.at_ (by omega)
  have hle1 := hr1.le
  have hcap1 := hr1.cap
  have hs1 := hb1.size
  have hs2 := hb2.size
  have hs3 := hb3.size
  have hr3 := (hr1.past hb2).past hb3
  have hb13 : Below w.heap.size w w3 := (hb1.trans (hb2.mono hs1)).trans (hb3.mono (by omega))
  have hown3' := hown3.mono (base' := w.heap.size) (by omega)
  by_cases hc1 : c1 = 1
  · subst hc1
    go_wp2_with (at_builtin; refine wpList_app _ rfl (.tmp 16) (.tmp 18) _ rfl w.heap.size 3 Tryd.underlying22 intInfo _ _ rfl hown3' _ _ _ (El.bin n).tail rfl (Rd.empty _ 0 _ _ _ _ (by simp <;> omega) (by omega) (by omega)) (by simp; omega) (by omega) ?_; intro v4 w4 hown4 hg4 hat4)
    go_ret2
    exact ⟨_, rfl, hown4, below_app hb13 hown3' hg4 (by omega)⟩
  · go_wp2_with (at_builtin; refine wpList_app _ rfl (.tmp 16) (.tmp 18) _ rfl w.heap.size 3 Tryd.underlying22 intInfo _ _ rfl hown3' _ _ _ (El.bin n).tail rfl (hr3.tail (by omega) hc1) (by simp; omega) (by omega) ?_; intro v4 w4 hown4 hg4 hat4)
    go_ret2
    exact ⟨_, rfl, hown4, below_app hb13 hown3' hg4 (by omega)⟩

/-- Ints: are two lists the same? -/
theorem ints_take {xs ys : List Int} {k : Nat} (h : xs.take k = ys.take k) (he : xs.getD k 0 = ys.getD k 0) (hx : k < xs.length) (hy : k < ys.length) : xs.take (k + 1) = ys.take (k + 1) := by
  rw [List.take_succ_eq_append_getElem hx, List.take_succ_eq_append_getElem hy, h]
  simp [List.getD, hx, hy] at he
  rw [he]

set_option maxHeartbeats 400000 in
theorem Ints_any (A B : Option Addr) (n m c d : Nat) (xs ys : List Int) (w : World) (hx : Rd w w.heap.size A n c xs) (hy : Rd w w.heap.size B m d ys) :
    Calls Tryd.prog 9 #[.slice A n c, .slice B m d] w fun e w' => e = .returned (.bool (decide (xs = ys))) ∧ Below w.heap.size w w' := by
  have hlx := hx.len
  have hly := hy.len
  have HX := Lib.hid hlx
  have HY := Lib.hid hly
  clear hlx hly
  have hbn := hx.big
  have hbm := hy.big
  by_cases hnm : n = m
  · subst hnm
    go_enter Tryd.func9, Tryd.ntmps9
    go_wp2
    go_loopw [5] (fun i wr => ∃ k : Nat, k ≤ n ∧ i = .int .i64 k ∧ Below w.heap.size w wr ∧ Hid (xs.take k = ys.take k)) (fun i _ => n - (intOf i).toNat)
    case atStart => exact ⟨0, Nat.zero_le _, rfl, Below.refl _ _, by show _ = _; simp⟩
    case round =>
      obtain ⟨k, hk, rfl, hbel, H⟩ := hrel
      by_cases hlt : k < n
      · obtain ⟨b1, o1, rfl, hb1, hc1⟩ := hx.at_ (by omega)
        obtain ⟨b2, o2, rfl, hb2, hc2⟩ := hy.at_ (by omega)
        have g1 : wr.cell? ⟨b1, o1 + k, none⟩ = some (.int .i64 (xs.getD k 0)) := (hbel.cell (by exact hb1)).trans (hc1 k hlt)
        have g2 : wr.cell? ⟨b2, o2 + k, none⟩ = some (.int .i64 (ys.getD k 0)) := (hbel.cell (by exact hb2)).trans (hc2 k hlt)
        clear hc1 hc2
        obtain ⟨p, hp⟩ : ∃ p, p = xs.getD k 0 := ⟨_, rfl⟩
        obtain ⟨q, hq⟩ : ∃ q, q = ys.getD k 0 := ⟨_, rfl⟩
        rw [← hp] at g1
        rw [← hq] at g2
        have HP := Lib.hid hp
        have HQ := Lib.hid hq
        clear hp hq
        by_cases he : p = q
        · subst he
          go_wp2
          go_quiet (fail)
          go_wp2
          go_roundw
          case rel => exact ⟨k + 1, by omega, by go_num, hbel.trans (Below.drewN' _ _ _), ints_take H.out (HP.out.symm.trans HQ.out) (by rw [HX.out]; omega) (by rw [HY.out]; omega)⟩
          case measure => simp [intOf]; omega
        · have hne : (p != q) = true := by simpa using he
          have hno : Hid (decide (xs = ys) = false) := by
            show _ = _
            simp only [decide_eq_false_iff_not]
            intro h
            rw [HP.out, HQ.out, h] at he
            exact he rfl
          go_wp2
          go_quiet (fail)
          go_wp2
          go_ret
          exact ⟨by rw [hno.out]; rfl, hbel.trans (Below.drewN' _ _ _)⟩
      · have hyes : Hid (decide (xs = ys) = true) := by
          show _ = _
          have := H.out
          rw [List.take_of_length_le (by rw [HX.out]; omega), List.take_of_length_le (by rw [HY.out]; omega)] at this
          simpa using this
        go_wp2
        go_ret
        exact ⟨by rw [hyes.out]; rfl, hbel⟩
  · have hno : Hid (decide (xs = ys) = false) := by
      show _ = _
      simp only [decide_eq_false_iff_not]
      intro h
      rw [← HX.out, ← HY.out, h] at hnm
      exact hnm rfl
    go_enter Tryd.func9, Tryd.ntmps9
    go_wp2
    go_ret
    exact ⟨by rw [hno.out]; rfl, Below.refl _ _⟩

end Go.Proofs.YtiafekjdefnifaaDoor
