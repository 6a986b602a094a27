/-
  The laws' own comparison of two lists of truth values.
-/
import Derived.Test.YthalopmplekdoaaDoorBase
import Derived.Test.YthalopmplekdoaaDoorLibB
import Derived.BigQuiet
namespace Go.Proofs.YthalopmplekdoaaDoor
open Go.RowKit
set_option linter.unusedSimpArgs false
set_option linter.unusedVariables false

theorem bools_take {xs ys : List Bool} {k : Nat} (h : xs.take k = ys.take k) (he : xs.getD k false = ys.getD k false) (hx : k < xs.length) (hy : k < ys.length) : xs.take (k + 1) = ys.take (k + 1) := by
  rw [List.take_succ_eq_append_getElem hx, List.take_succ_eq_append_getElem hy, h]
  simp [List.getD, hx, hy] at he
  rw [he]

set_option maxRecDepth 100000 in
set_option maxHeartbeats 1000000 in
theorem Bools_any (A B : Option Addr) (n m c d : Nat) (xs ys : List Bool) (w : World) (hx : RdB w w.heap.size A n c xs) (hy : RdB w w.heap.size B m d ys) :
    Calls Tryd.prog 12 #[.slice A n c, .slice B m d] w fun e w' => e = .returned (.bool (decide (xs = ys))) ∧ Below w.heap.size w w' := by
  have hlx := hx.len
  have hly := hy.len
  have HX := Lib.hid hlx
  have HY := Lib.hid hly
  clear hlx hly
  have hbn := hx.big
  have hbm := hy.big
  by_cases hnm : n = m
  · subst hnm
    go_enter Tryd.func12, Tryd.ntmps12
    go_wp2
    go_loopw [5] (fun i wr => ∃ k : Nat, k ≤ n ∧ i = .int .i64 k ∧ Below w.heap.size w wr ∧ Hid (xs.take k = ys.take k)) (fun i _ => n - (intOf i).toNat)
    case atStart => exact ⟨0, Nat.zero_le _, rfl, Below.refl _ _, by show _ = _; simp⟩
    case round =>
      obtain ⟨k, hk, rfl, hbel, H⟩ := hrel
      by_cases hlt : k < n
      · obtain ⟨b1, o1, rfl, hb1, hc1⟩ := hx.at_ (by omega)
        obtain ⟨b2, o2, rfl, hb2, hc2⟩ := hy.at_ (by omega)
        have g1 : wr.cell? ⟨b1, o1 + k, none⟩ = some (.bool (xs.getD k false)) := (hbel.cell (by exact hb1)).trans (hc1 k hlt)
        have g2 : wr.cell? ⟨b2, o2 + k, none⟩ = some (.bool (ys.getD k false)) := (hbel.cell (by exact hb2)).trans (hc2 k hlt)
        clear hc1 hc2
        obtain ⟨p, hp⟩ : ∃ p, p = xs.getD k false := ⟨_, rfl⟩
        obtain ⟨q, hq⟩ : ∃ q, q = ys.getD k false := ⟨_, rfl⟩
        rw [← hp] at g1
        rw [← hq] at g2
        have HP := Lib.hid hp
        have HQ := Lib.hid hq
        clear hp hq
        by_cases he : p = q
        · subst he
          go_wp2
          go_quiet (fail)
          go_wp2
          go_roundw
          case rel => exact ⟨k + 1, by omega, by go_num, hbel.trans (Below.drewN' _ _ _), bools_take H.out (HP.out.symm.trans HQ.out) (by rw [HX.out]; omega) (by rw [HY.out]; omega)⟩
          case measure => simp [intOf]; omega
        · have hne : (p == q) = false := by simpa using he
          have hno : Hid (decide (xs = ys) = false) := by
            show _ = _
            simp only [decide_eq_false_iff_not]
            intro h
            rw [HP.out, HQ.out, h] at he
            exact he rfl
          go_wp2
          go_quiet (fail)
          go_wp2
          go_ret
          exact ⟨by rw [hno.out]; rfl, hbel.trans (Below.drewN' _ _ _)⟩
      · have hyes : Hid (decide (xs = ys) = true) := by
          show _ = _
          have := H.out
          rw [List.take_of_length_le (by rw [HX.out]; omega), List.take_of_length_le (by rw [HY.out]; omega)] at this
          simpa using this
        go_wp2
        go_ret
        exact ⟨by rw [hyes.out]; rfl, hbel⟩
  · have hno : Hid (decide (xs = ys) = false) := by
      show _ = _
      simp only [decide_eq_false_iff_not]
      intro h
      rw [← HX.out, ← HY.out, h] at hnm
      exact hnm rfl
    go_enter Tryd.func12, Tryd.ntmps12
    go_wp2
    go_ret
    exact ⟨by rw [hno.out]; rfl, Below.refl _ _⟩

theorem Bools_t (A B : Option Addr) (n m c d : Nat) (xs ys : List Bool) (t : Bool) (w : World) (hx : RdB w w.heap.size A n c xs) (hy : RdB w w.heap.size B m d ys) (ht : decide (xs = ys) = t) :
    Calls Tryd.prog 12 #[.slice A n c, .slice B m d] w fun e w' => e = .returned (.bool t) ∧ Below w.heap.size w w' :=
  (Bools_any A B n m c d xs ys w hx hy).mono fun _ _ h => ⟨h.1.trans (by rw [ht]), h.2⟩

end Go.Proofs.YthalopmplekdoaaDoor
