/-
  Contracts of slices.Index and slices.Contains at integers. No statement of the program is proved here; there is no condition.
-/
import Derived.Test.YtojkjdccjomaaaaDoorBase
import Derived.BigQuiet
namespace Go.Proofs.YtojkjdccjomaaaaDoor
open Go.RowKit

set_option linter.unusedSimpArgs false
set_option linter.unusedVariables false

theorem IndexI_any (A : Option Addr) (n c : Nat) (xs : List Int) (v : Int) (w : World) (hx : Rd w w.heap.size A n c xs) :
    Calls Tryd.prog 36 #[.slice A n c, .int .i64 v] w fun e w' => (∃ r : Int, e = .returned (.int .i64 r) ∧ Hid (decide (0 ≤ r) = xs.contains v)) ∧ w = w' := by
  have HX := Lib.hid hx.len
  have hbn := hx.big
  obtain ⟨t, ht⟩ : ∃ t, xs.contains v = t := ⟨_, rfl⟩
  rw [ht]
  have HT := Lib.hid ht
  clear ht
  go_enter Tryd.func36, Tryd.ntmps36
  go_wp2
  go_loop [5, 8] (fun _ i => ∃ k : Nat, k ≤ n ∧ i = .int .i64 k ∧ Hid (t = (xs.drop k).contains v)) (fun _ i => n - (intOf i).toNat)
  case atStart => exact ⟨0, Nat.zero_le _, rfl, by show _ = _; rw [← HT.out]; rfl⟩
  case round =>
    obtain ⟨k, hk, rfl, H⟩ := hrel
    by_cases hlt : k < n
    · obtain ⟨b1, o1, rfl, hb1, hc1⟩ := hx.at_ (by omega)
      have g1 := hc1 k hlt
      clear hc1
      obtain ⟨p, hp⟩ : ∃ p, p = xs.getD k 0 := ⟨_, rfl⟩
      rw [← hp] at g1
      have hcons : Hid ((xs.drop k).contains v = (v == p || (xs.drop (k + 1)).contains v)) := by
        show _ = _
        have hkl : k < xs.length := by rw [HX.out]; exact hlt
        rw [List.drop_eq_getElem_cons hkl, List.contains_cons, hp]
        simp [List.getD, hkl]
      clear hp
      by_cases he : v = p
      · subst he
        have hyes : Hid (t = true) := by show _ = _; rw [H.out, hcons.out]; simp
        go_wp2
        go_ret
        exact ⟨⟨_, rfl, by show _ = _; rw [hyes.out]; simp⟩, rfl⟩
      · have hd : (v == p) = false := by simpa using he
        have hnext : Hid (t = (xs.drop (k + 1)).contains v) := by
          show _ = _
          rw [H.out, hcons.out, hd, Bool.false_or]
        clear he
        go_wp2
        go_round
        case rel => exact ⟨k + 1, by omega, by go_num, hnext⟩
        case measure => simp [intOf]; omega
    · have hno : Hid (t = false) := by
        show _ = _
        rw [H.out, List.drop_eq_nil_of_le (by rw [HX.out]; omega)]
        rfl
      go_wp2
      go_ret
      exact ⟨⟨_, rfl, by show _ = _; rw [hno.out]; rfl⟩, rfl⟩

theorem ContainsI_any (A : Option Addr) (n c : Nat) (xs : List Int) (v : Int) (t : Bool) (w : World) (hx : Rd w w.heap.size A n c xs) (ht : xs.contains v = t) :
    Calls Tryd.prog 23 #[.slice A n c, .int .i64 v] w fun e w' => e = .returned (.bool t) ∧ w = w' := by
  have HT := Lib.hid ht
  clear ht
  go_enter Tryd.func23, Tryd.ntmps23
  go_wp2_with fail
  refine (IndexI_any A n c xs v _ hx).mono ?_
  rintro e w1 ⟨⟨r, rfl, hr⟩, rfl⟩
  go_wp2
  go_ret
  refine ⟨?_, rfl⟩
  rw [← HT.out, ← hr.out]
  rfl

end Go.Proofs.YtojkjdccjomaaaaDoor
