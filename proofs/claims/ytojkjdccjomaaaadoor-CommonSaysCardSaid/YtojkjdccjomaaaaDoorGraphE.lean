/-
  Contracts of the laws' own comparisons Lines and Rows, of Back (lines turned round), and of Has.
-/
import Derived.Test.YtojkjdccjomaaaaDoorGraphA
import Derived.Test.YtojkjdccjomaaaaDoorGraphL
import Derived.Test.YtojkjdccjomaaaaDoorLibS
import Derived.Deep.RegionHeld3
namespace Go.Proofs.YtojkjdccjomaaaaDoor
open Go.RowKit

theorem lines_take {xs ys : List Gr.Ln} {k : Nat} (h : xs.take k = ys.take k) (he : xs.getD k (0, 0) = ys.getD k (0, 0)) (hx : k < xs.length) (hy : k < ys.length) : xs.take (k + 1) = ys.take (k + 1) := by
  rw [List.take_succ_eq_append_getElem hx, List.take_succ_eq_append_getElem hy, h]
  simp [List.getD, hx, hy] at he
  rw [he]


theorem Ints_t (A B : Option Addr) (n m c d : Nat) (xs ys : List Int) (t : Bool) (w : World) (hx : Rd w w.heap.size A n c xs) (hy : Rd w w.heap.size B m d ys) (ht : decide (xs = ys) = t) :
    Calls Tryd.prog 9 #[.slice A n c, .slice B m d] w fun e w' => e = .returned (.bool t) ∧ Below w.heap.size w w' :=
  (Ints_any A B n m c d xs ys w hx hy).mono fun _ _ h => ⟨h.1.trans (by rw [ht]), h.2⟩

theorem rows_take {xs ys : List (List Int)} {k : Nat} (h : xs.take k = ys.take k) (he : xs.getD k [] = ys.getD k []) (hx : k < xs.length) (hy : k < ys.length) : xs.take (k + 1) = ys.take (k + 1) := by
  rw [List.take_succ_eq_append_getElem hx, List.take_succ_eq_append_getElem hy, h]
  simp [List.getD, hx, hy] at he
  rw [he]


theorem Has_any (A : Option Addr) (n c : Nat) (xs : List Int) (v : Int) (t : Bool) (w : World) (hx : Rd w w.heap.size A n c xs) (ht : xs.contains v = t) :
    Calls Tryd.prog 10 #[.slice A n c, .int .i64 v] w fun e w' => e = .returned (.bool t) ∧ w = w' := by
  have HX := Lib.hid hx.len
  have HT := Lib.hid ht
  clear ht
  have hbn := hx.big
  go_enter Tryd.func10, Tryd.ntmps10
  go_wp2
  go_loop [5] (fun i => ∃ k : Nat, k ≤ n ∧ i = .int .i64 k ∧ Hid (t = (xs.drop k).contains v)) (fun i => n - (intOf i).toNat)
  case atStart => exact ⟨0, Nat.zero_le _, rfl, by show _ = _; rw [← HT.out]; rfl⟩
  case round =>
    obtain ⟨k, hk, rfl, H⟩ := hrel
    by_cases hlt : k < n
    · obtain ⟨b1, o1, rfl, hb1, hc1⟩ := hx.at_ (by omega)
      have g1 := hc1 k hlt
      clear hc1
      obtain ⟨p, hp⟩ : ∃ p, p = xs.getD k 0 := ⟨_, rfl⟩
      rw [← hp] at g1
      have hcons : Hid ((xs.drop k).contains v = (v == p || (xs.drop (k + 1)).contains v)) := by
        show _ = _
        have hkl : k < xs.length := by rw [HX.out]; exact hlt
        rw [List.drop_eq_getElem_cons hkl, List.contains_cons, hp]
        simp [List.getD, hkl]
      clear hp
      by_cases he : p = v
      · subst he
        have hyes : Hid (t = true) := by show _ = _; rw [H.out, hcons.out]; simp
        go_wp2
        go_ret
        exact ⟨by rw [hyes.out]; rfl, rfl⟩
      · have hd : (p == v) = false := by simpa using he
        have hnext : Hid (t = (xs.drop (k + 1)).contains v) := by
          show _ = _
          rw [H.out, hcons.out]
          have : (v == p) = false := by simp only [beq_eq_false_iff_ne, ne_eq]; exact fun e => he e.symm
          rw [this, Bool.false_or]
        clear he
        go_wp2
        go_round
        case rel => exact ⟨k + 1, by omega, by go_num, hnext⟩
        case measure => simp [intOf]; omega
    · have hno : Hid (t = false) := by
        show _ = _
        rw [H.out, List.drop_eq_nil_of_le (by rw [HX.out]; omega)]; rfl
      go_wp2
      go_ret
      exact ⟨by rw [hno.out]; rfl, rfl⟩


end Go.Proofs.YtojkjdccjomaaaaDoor
