/-
  Contracts of the laws' own comparisons Lines and Rows, of Back (lines turned round), and of Has.
-/
import Derived.Test.YtjcdnkbandagoaaGraphA
import Derived.Test.YtjcdnkbandagoaaGraphL
import Derived.Test.YtjcdnkbandagoaaLibR
import Derived.Deep.RegionHeld3
namespace Go.Proofs.Ytjcdnkbandagoaa
open Go.RowKit

theorem lines_take {xs ys : List Gr.Ln} {k : Nat} (h : xs.take k = ys.take k) (he : xs.getD k (0, 0) = ys.getD k (0, 0)) (hx : k < xs.length) (hy : k < ys.length) : xs.take (k + 1) = ys.take (k + 1) := by
  rw [List.take_succ_eq_append_getElem hx, List.take_succ_eq_append_getElem hy, h]
  simp [List.getD, hx, hy] at he
  rw [he]


theorem Ints_t (A B : Option Addr) (n m c d : Nat) (xs ys : List Int) (t : Bool) (w : World) (hx : Rd w w.heap.size A n c xs) (hy : Rd w w.heap.size B m d ys) (ht : decide (xs = ys) = t) :
    Calls Try.prog 12 #[.slice A n c, .slice B m d] w fun e w' => e = .returned (.bool t) ∧ Below w.heap.size w w' :=
  (Ints_any A B n m c d xs ys w hx hy).mono fun _ _ h => ⟨h.1.trans (by rw [ht]), h.2⟩

theorem rows_take {xs ys : List (List Int)} {k : Nat} (h : xs.take k = ys.take k) (he : xs.getD k [] = ys.getD k []) (hx : k < xs.length) (hy : k < ys.length) : xs.take (k + 1) = ys.take (k + 1) := by
  rw [List.take_succ_eq_append_getElem hx, List.take_succ_eq_append_getElem hy, h]
  simp [List.getD, hx, hy] at he
  rw [he]

set_option maxHeartbeats 1000000 in
theorem Rows_any (A B : Option Addr) (n m c d : Nat) (xs ys : List (List Int)) (t : Bool) (w : World) (hx : RdR w w.heap.size A n c xs) (hy : RdR w w.heap.size B m d ys) (ht : decide (xs = ys) = t) :
    Calls Try.prog 16 #[.slice A n c, .slice B m d] w fun e w' => e = .returned (.bool t) ∧ Below w.heap.size w w' := by
  have HX := Lib.hid hx.len
  have HY := Lib.hid hy.len
  have HT := Lib.hid ht
  clear ht
  have hbn := hx.big
  have hbm := hy.big
  by_cases hnm : n = m
  · subst hnm
    go_enter Try.func16, Try.ntmps16
    go_wp2
    go_loopw [5] (fun i wr => ∃ k : Nat, k ≤ n ∧ i = .int .i64 k ∧ Below w.heap.size w wr ∧ Hid (xs.take k = ys.take k)) (fun i _ => n - (intOf i).toNat)
    case atStart => exact ⟨0, Nat.zero_le _, rfl, Below.refl _ _, by show _ = _; simp⟩
    case round =>
      obtain ⟨k, hk, rfl, hbel, H⟩ := hrel
      by_cases hlt : k < n
      · obtain ⟨b1, o1, rfl, hb1, hc1⟩ := hx.at_ (by omega)
        obtain ⟨b2, o2, rfl, hb2, hc2⟩ := hy.at_ (by omega)
        obtain ⟨A1, c1, x1, r1⟩ := hc1 k hlt
        obtain ⟨A2, c2, y1, r2⟩ := hc2 k hlt
        have g1 := (hbel.cell (p := ⟨b1, o1 + k, none⟩) hb1).trans x1
        have g2 := (hbel.cell (p := ⟨b2, o2 + k, none⟩) hb2).trans y1
        have q1 := (r1.below hbel).more hbel.size
        have q2 := (r2.below hbel).more hbel.size
        clear hc1 hc2 x1 y1 r1 r2
        obtain ⟨p, hp⟩ : ∃ p, p = xs.getD k [] := ⟨_, rfl⟩
        obtain ⟨q, hq⟩ : ∃ q, q = ys.getD k [] := ⟨_, rfl⟩
        rw [← hp] at g1 q1
        rw [← hq] at g2 q2
        obtain ⟨l1, hl1⟩ : ∃ l1, l1 = p.length := ⟨_, rfl⟩
        obtain ⟨l2, hl2⟩ : ∃ l2, l2 = q.length := ⟨_, rfl⟩
        rw [← hl1] at g1 q1
        rw [← hl2] at g2 q2
        have HP := Lib.hid hp
        have HQ := Lib.hid hq
        clear hp hq hl1 hl2
        have k1 : (0 : Int) ≤ (k : Int) := by omega
        have k2 : (k : Int) < (n : Int) := by omega
        have q1' : Rd wr.drew wr.drew.heap.size A1 l1 c1 p := q1
        have q2' : Rd wr.drew wr.drew.heap.size A2 l2 c2 q := q2
        have e1 : wr.drew.cell? ⟨b1, o1 + k, none⟩ = some (.slice A1 l1 c1) := g1
        have e2 : wr.drew.cell? ⟨b2, o2 + k, none⟩ = some (.slice A2 l2 c2) := g2
        have hbd : Below w.heap.size w wr.drew := hbel.drew
        by_cases he : p = q
        · have ht : Hid (decide (p = q) = true) := by show _ = _; simpa using he
          have hnext : Hid (xs.take (k + 1) = ys.take (k + 1)) := rows_take H.out (HP.out.symm.trans (he.trans HQ.out)) (by rw [HX.out]; omega) (by rw [HY.out]; omega)
          clear he
          go_wp2
          go_region_held3 (fun w' : World => w'.cell? ⟨b1, o1 + k, none⟩ = some (.slice A1 l1 c1) ∧ w'.cell? ⟨b2, o2 + k, none⟩ = some (.slice A2 l2 c2)) (first | exact ⟨g1, g2⟩ | assumption)
            (first
              | (go_at_call 12; refine (Ints_t A1 A2 l1 l2 c1 c2 p q true _ q1' q2' ht.out).mono ?_; rintro e w5 ⟨rfl, hb5⟩; have hk5 := And.intro ((hb5.cell (World.block_lt_of_cell? _ _ e1)).trans e1) ((hb5.cell (World.block_lt_of_cell? _ _ e2)).trans e2)))
          go_wp2
          go_roundw
          case rel => exact ⟨k + 1, by omega, by go_num, hbd.trans (hb5.mono hbd.size), hnext⟩
          case measure => simp [intOf]; omega
        · have ht : Hid (decide (p = q) = false) := by show _ = _; simpa using he
          have hno : Hid (t = false) := by
            show _ = _
            rw [← HT.out]
            simp only [decide_eq_false_iff_not]
            intro h
            exact he (HP.out.trans (by rw [h]; exact HQ.out.symm))
          clear he
          go_wp2
          go_region_held3 (fun w' : World => w'.cell? ⟨b1, o1 + k, none⟩ = some (.slice A1 l1 c1) ∧ w'.cell? ⟨b2, o2 + k, none⟩ = some (.slice A2 l2 c2)) (first | exact ⟨g1, g2⟩ | assumption)
            (first
              | (go_at_call 12; refine (Ints_t A1 A2 l1 l2 c1 c2 p q false _ q1' q2' ht.out).mono ?_; rintro e w5 ⟨rfl, hb5⟩; have hk5 := And.intro ((hb5.cell (World.block_lt_of_cell? _ _ e1)).trans e1) ((hb5.cell (World.block_lt_of_cell? _ _ e2)).trans e2)))
          go_wp2
          go_ret
          exact ⟨by rw [hno.out]; rfl, hbd.trans (hb5.mono hbd.size)⟩
      · have hyes : Hid (t = true) := by
          show _ = _
          rw [← HT.out]
          have := H.out
          rw [List.take_of_length_le (by rw [HX.out]; omega), List.take_of_length_le (by rw [HY.out]; omega)] at this
          simpa using this
        go_wp2
        go_ret
        exact ⟨by rw [hyes.out]; rfl, hbel⟩
  · have hno : Hid (t = false) := by
      show _ = _
      rw [← HT.out]
      simp only [decide_eq_false_iff_not]
      intro h
      apply hnm
      rw [← HX.out, ← HY.out, h]
    have hd : ((n : Int) != (m : Int)) = true := by simp; omega
    have hd2 : (n != m) = true := by simpa using hnm
    go_enter Try.func16, Try.ntmps16
    go_wp2
    go_ret
    exact ⟨by rw [hno.out]; rfl, Below.refl _ _⟩

theorem Has_any (A : Option Addr) (n c : Nat) (xs : List Int) (v : Int) (t : Bool) (w : World) (hx : Rd w w.heap.size A n c xs) (ht : xs.contains v = t) :
    Calls Try.prog 10 #[.slice A n c, .int .i64 v] w fun e w' => e = .returned (.bool t) ∧ w = w' := by
  have HX := Lib.hid hx.len
  have HT := Lib.hid ht
  clear ht
  have hbn := hx.big
  go_enter Try.func10, Try.ntmps10
  go_wp2
  go_loop [5] (fun i => ∃ k : Nat, k ≤ n ∧ i = .int .i64 k ∧ Hid (t = (xs.drop k).contains v)) (fun i => n - (intOf i).toNat)
  case atStart => exact ⟨0, Nat.zero_le _, rfl, by show _ = _; rw [← HT.out]; rfl⟩
  case round =>
    obtain ⟨k, hk, rfl, H⟩ := hrel
    by_cases hlt : k < n
    · obtain ⟨b1, o1, rfl, hb1, hc1⟩ := hx.at_ (by omega)
      have g1 := hc1 k hlt
      clear hc1
      obtain ⟨p, hp⟩ : ∃ p, p = xs.getD k 0 := ⟨_, rfl⟩
      rw [← hp] at g1
      have hcons : Hid ((xs.drop k).contains v = (v == p || (xs.drop (k + 1)).contains v)) := by
        show _ = _
        have hkl : k < xs.length := by rw [HX.out]; exact hlt
        rw [List.drop_eq_getElem_cons hkl, List.contains_cons, hp]
        simp [List.getD, hkl]
      clear hp
      by_cases he : p = v
      · subst he
        have hyes : Hid (t = true) := by show _ = _; rw [H.out, hcons.out]; simp
        go_wp2
        go_ret
        exact ⟨by rw [hyes.out]; rfl, rfl⟩
      · have hd : (p == v) = false := by simpa using he
        have hnext : Hid (t = (xs.drop (k + 1)).contains v) := by
          show _ = _
          rw [H.out, hcons.out]
          have : (v == p) = false := by simp only [beq_eq_false_iff_ne, ne_eq]; exact fun e => he e.symm
          rw [this, Bool.false_or]
        clear he
        go_wp2
        go_round
        case rel => exact ⟨k + 1, by omega, by go_num, hnext⟩
        case measure => simp [intOf]; omega
    · have hno : Hid (t = false) := by
        show _ = _
        rw [H.out, List.drop_eq_nil_of_le (by rw [HX.out]; omega)]; rfl
      go_wp2
      go_ret
      exact ⟨by rw [hno.out]; rfl, rfl⟩


end Go.Proofs.Ytjcdnkbandagoaa
