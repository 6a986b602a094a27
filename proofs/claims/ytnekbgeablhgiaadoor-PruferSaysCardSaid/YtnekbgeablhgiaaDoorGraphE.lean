/-
  Contracts of the laws' own comparisons Lines and Rows, of Back (lines turned round), and of Has.
-/
import Derived.Test.YtnekbgeablhgiaaDoorGraphA
import Derived.Test.YtnekbgeablhgiaaDoorGraphL
import Derived.Test.YtnekbgeablhgiaaDoorLibS
import Derived.Deep.RegionHeld3
namespace Go.Proofs.YtnekbgeablhgiaaDoor
open Go.RowKit

theorem lines_take {xs ys : List Gr.Ln} {k : Nat} (h : xs.take k = ys.take k) (he : xs.getD k (0, 0) = ys.getD k (0, 0)) (hx : k < xs.length) (hy : k < ys.length) : xs.take (k + 1) = ys.take (k + 1) := by
  rw [List.take_succ_eq_append_getElem hx, List.take_succ_eq_append_getElem hy, h]
  simp [List.getD, hx, hy] at he
  rw [he]

set_option maxHeartbeats 1000000 in
theorem Lines_any (A B : Option Addr) (n m c d : Nat) (xs ys : List Gr.Ln) (t : Bool) (w : World) (hx : RdP w w.heap.size A n c xs) (hy : RdP w w.heap.size B m d ys) (ht : decide (xs = ys) = t) :
    Calls Tryd.prog 12 #[.slice A n c, .slice B m d] w fun e w' => e = .returned (.bool t) ∧ Below w.heap.size w w' := by
  have HX := Lib.hid hx.len
  have HY := Lib.hid hy.len
  have HT := Lib.hid ht
  clear ht
  have hbn := hx.big
  have hbm := hy.big
  by_cases hnm : n = m
  · subst hnm
    go_enter Tryd.func12, Tryd.ntmps12
    go_wp2
    go_loopw [5] (fun i wr => ∃ k : Nat, k ≤ n ∧ i = .int .i64 k ∧ Below w.heap.size w wr ∧ Hid (xs.take k = ys.take k)) (fun i _ => n - (intOf i).toNat)
    case atStart => exact ⟨0, Nat.zero_le _, rfl, Below.refl _ _, by show _ = _; simp⟩
    case round =>
      obtain ⟨k, hk, rfl, hbel, H⟩ := hrel
      by_cases hlt : k < n
      · obtain ⟨b1, o1, rfl, hb1, hc1⟩ := hx.at_ (by omega)
        obtain ⟨b2, o2, rfl, hb2, hc2⟩ := hy.at_ (by omega)
        obtain ⟨x1, x2⟩ := hc1 k hlt
        obtain ⟨y1, y2⟩ := hc2 k hlt
        have g1 : wr.cell? ⟨b1, o1 + k * 2, none⟩ = some (.int .i64 (xs.getD k (0, 0)).1) := (hbel.cell (by exact hb1)).trans x1
        have g2 : wr.cell? ⟨b1, o1 + k * 2 + 1, none⟩ = some (.int .i64 (xs.getD k (0, 0)).2) := (hbel.cell (by exact hb1)).trans x2
        have g3 : wr.cell? ⟨b2, o2 + k * 2, none⟩ = some (.int .i64 (ys.getD k (0, 0)).1) := (hbel.cell (by exact hb2)).trans y1
        have g4 : wr.cell? ⟨b2, o2 + k * 2 + 1, none⟩ = some (.int .i64 (ys.getD k (0, 0)).2) := (hbel.cell (by exact hb2)).trans y2
        clear hc1 hc2 x1 x2 y1 y2
        obtain ⟨⟨p, q⟩, hp⟩ : ∃ p, p = xs.getD k (0, 0) := ⟨_, rfl⟩
        obtain ⟨⟨r, s⟩, hq⟩ : ∃ q, q = ys.getD k (0, 0) := ⟨_, rfl⟩
        rw [← hp] at g1 g2
        rw [← hq] at g3 g4
        have HP := Lib.hid hp
        have HQ := Lib.hid hq
        clear hp hq
        simp only at g1 g2 g3 g4
        by_cases he : p = r ∧ q = s
        · obtain ⟨rfl, rfl⟩ := he
          go_wp2
          go_quiet (fail)
          go_wp2
          go_roundw
          case rel => exact ⟨k + 1, by omega, by go_num, hbel.trans (Below.drewN' _ _ _), lines_take H.out (HP.out.symm.trans HQ.out) (by rw [HX.out]; omega) (by rw [HY.out]; omega)⟩
          case measure => simp [intOf]; omega
        · have hno : Hid (t = false) := by
            show _ = _
            rw [← HT.out]
            simp only [decide_eq_false_iff_not]
            intro h
            have h2 : ((p, q) : Gr.Ln) = (r, s) := by rw [HP.out, HQ.out, h]
            simp only [Prod.mk.injEq] at h2
            exact he h2
          by_cases hpr : p = r
          · subst hpr
            have hd : (q == s) = false := by simpa using he
            clear he
            go_wp2
            go_quiet (fail)
            go_wp2
            go_ret
            exact ⟨by rw [hno.out]; rfl, hbel.trans (Below.drewN' _ _ _)⟩
          · have hd : (p == r) = false := by simpa using hpr
            clear he hpr
            go_wp2
            go_quiet (fail)
            go_wp2
            go_ret
            exact ⟨by rw [hno.out]; rfl, hbel.trans (Below.drewN' _ _ _)⟩
      · have hyes : Hid (t = true) := by
          show _ = _
          rw [← HT.out]
          have := H.out
          rw [List.take_of_length_le (by rw [HX.out]; omega), List.take_of_length_le (by rw [HY.out]; omega)] at this
          simpa using this
        go_wp2
        go_ret
        exact ⟨by rw [hyes.out]; rfl, hbel⟩
  · have hno : Hid (t = false) := by
      show _ = _
      rw [← HT.out]
      simp only [decide_eq_false_iff_not]
      intro h
      apply hnm
      rw [← HX.out, ← HY.out, h]
    have hd : ((n : Int) != (m : Int)) = true := by simp; omega
    have hd2 : (n != m) = true := by simpa using hnm
    go_enter Tryd.func12, Tryd.ntmps12
    go_wp2
    go_ret
    exact ⟨by rw [hno.out]; rfl, Below.refl _ _⟩

theorem Ints_t (A B : Option Addr) (n m c d : Nat) (xs ys : List Int) (t : Bool) (w : World) (hx : Rd w w.heap.size A n c xs) (hy : Rd w w.heap.size B m d ys) (ht : decide (xs = ys) = t) :
    Calls Tryd.prog 8 #[.slice A n c, .slice B m d] w fun e w' => e = .returned (.bool t) ∧ Below w.heap.size w w' :=
  (Ints_any A B n m c d xs ys w hx hy).mono fun _ _ h => ⟨h.1.trans (by rw [ht]), h.2⟩

theorem rows_take {xs ys : List (List Int)} {k : Nat} (h : xs.take k = ys.take k) (he : xs.getD k [] = ys.getD k []) (hx : k < xs.length) (hy : k < ys.length) : xs.take (k + 1) = ys.take (k + 1) := by
  rw [List.take_succ_eq_append_getElem hx, List.take_succ_eq_append_getElem hy, h]
  simp [List.getD, hx, hy] at he
  rw [he]


theorem Has_any (A : Option Addr) (n c : Nat) (xs : List Int) (v : Int) (t : Bool) (w : World) (hx : Rd w w.heap.size A n c xs) (ht : xs.contains v = t) :
    Calls Tryd.prog 24 #[.slice A n c, .int .i64 v] w fun e w' => e = .returned (.bool t) ∧ w = w' := by
  have HX := Lib.hid hx.len
  have HT := Lib.hid ht
  clear ht
  have hbn := hx.big
  go_enter Tryd.func24, Tryd.ntmps24
  go_wp2
  go_loop [5] (fun i => ∃ k : Nat, k ≤ n ∧ i = .int .i64 k ∧ Hid (t = (xs.drop k).contains v)) (fun i => n - (intOf i).toNat)
  case atStart => exact ⟨0, Nat.zero_le _, rfl, by show _ = _; rw [← HT.out]; rfl⟩
  case round =>
    obtain ⟨k, hk, rfl, H⟩ := hrel
    by_cases hlt : k < n
    · obtain ⟨b1, o1, rfl, hb1, hc1⟩ := hx.at_ (by omega)
      have g1 := hc1 k hlt
      clear hc1
      obtain ⟨p, hp⟩ : ∃ p, p = xs.getD k 0 := ⟨_, rfl⟩
      rw [← hp] at g1
      have hcons : Hid ((xs.drop k).contains v = (v == p || (xs.drop (k + 1)).contains v)) := by
        show _ = _
        have hkl : k < xs.length := by rw [HX.out]; exact hlt
        rw [List.drop_eq_getElem_cons hkl, List.contains_cons, hp]
        simp [List.getD, hkl]
      clear hp
      by_cases he : p = v
      · subst he
        have hyes : Hid (t = true) := by show _ = _; rw [H.out, hcons.out]; simp
        go_wp2
        go_ret
        exact ⟨by rw [hyes.out]; rfl, rfl⟩
      · have hd : (p == v) = false := by simpa using he
        have hnext : Hid (t = (xs.drop (k + 1)).contains v) := by
          show _ = _
          rw [H.out, hcons.out]
          have : (v == p) = false := by simp only [beq_eq_false_iff_ne, ne_eq]; exact fun e => he e.symm
          rw [this, Bool.false_or]
        clear he
        go_wp2
        go_round
        case rel => exact ⟨k + 1, by omega, by go_num, hnext⟩
        case measure => simp [intOf]; omega
    · have hno : Hid (t = false) := by
        show _ = _
        rw [H.out, List.drop_eq_nil_of_le (by rw [HX.out]; omega)]; rfl
      go_wp2
      go_ret
      exact ⟨by rw [hno.out]; rfl, rfl⟩


end Go.Proofs.YtnekbgeablhgiaaDoor
