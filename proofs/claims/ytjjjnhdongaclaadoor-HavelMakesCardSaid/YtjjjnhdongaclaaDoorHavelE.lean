/-
  Contracts of the reference's Between and of what the laws on package havel ask besides: the errors, a closed fact.
-/
import Derived.Test.YtjjjnhdongaclaaDoorHavelB
import Derived.Test.YtjjjnhdongaclaaDoorRefL
import Derived.Test.YtjjjnhdongaclaaDoorGraphF
import Derived.Test.YtjjjnhdongaclaaDoorTold
namespace Go.Proofs.YtjjjnhdongaclaaDoor
open Go.RowKit

theorem Err_same (k : Int) (w : World) (het : tld.EtIs w) : Calls Tryd.prog 9 #[errv k, .int .i64 k] w fun e w' => e = .returned (.bool true) ∧ Below w.heap.size w w' :=
  (Error_err k k w het).mono fun _ _ h => ⟨h.1.trans (by simp), h.2⟩
theorem Err_ok (w : World) : Calls Tryd.prog 9 #[.nilIface, .int .i64 0] w fun e w' => e = .returned (.bool true) ∧ w = w' :=
  (Error_nil 0 w).mono fun _ _ h => ⟨h.1.trans (by simp), h.2⟩

set_option maxRecDepth 100000 in
set_option maxHeartbeats 2000000 in
theorem Between_any {B : Nat} (A : Option Addr) (n c : Nat) (ls : List Gr.Ln) (a b : Int) (w : World) (hr : RdP w B A n c ls) (hsm : n ≤ 1048576) :
    Calls Tryd.prog 15 #[.slice A n c, .int .i64 a, .int .i64 b] w fun e w' => e = .returned (.int .i64 ((ls.countP (De.joins a b) : Nat) : Int)) ∧ w = w' := by
  have HX := Lib.hid hr.len
  go_enter Tryd.func15, Tryd.ntmps15
  go_wp2
  go_loop [7, 8] (fun s i => ∃ (k : Nat) (q : Int), k ≤ n ∧ i = .int .i64 k ∧ s = .int .i64 q ∧ 0 ≤ q ∧ q ≤ (k : Int) ∧ Hid (q = (((ls.take k).countP (De.joins a b) : Nat) : Int))) (fun _ i => n - (intOf i).toNat)
  case atStart => exact ⟨0, 0, Nat.zero_le _, rfl, rfl, by omega, by omega, rfl⟩
  case round =>
    obtain ⟨k, q, hk, rfl, rfl, hq0, hqk, H⟩ := hrel
    by_cases hlt : k < n
    · obtain ⟨b1, o1, rfl, hb1, hc1⟩ := hr.at_ (by omega)
      obtain ⟨g1, g2⟩ := hc1 k hlt
      obtain ⟨⟨p1, p2⟩, hp⟩ : ∃ p, p = ls.getD k (0, 0) := ⟨_, rfl⟩
      rw [← hp] at g1 g2
      have hkl : k < ls.length := by rw [HX.out]; exact hlt
      have HS : Hid ((ls.take (k + 1)).countP (De.joins a b) = (ls.take k).countP (De.joins a b) + if De.joins a b (p1, p2) = true then 1 else 0) := by
        show _ = _
        rw [List.take_succ_eq_append_getElem hkl, List.countP_append, show ls[k] = (p1, p2) by rw [hp]; simp [List.getD, hkl], List.countP_cons, List.countP_nil, Nat.zero_add]
      clear hp hkl hc1
      by_cases e0 : p1 = a
      · by_cases e1 : p2 = b
        · have f0 : (p1 == a) = true := by simpa using e0
          have f1 : (p2 == b) = true := by simpa using e1
          have hj : De.joins a b (p1, p2) = true := by show ((decide (p1 = a) && decide (p2 = b)) || (decide (p1 = b) && decide (p2 = a))) = _; rw [decide_eq_true e0, decide_eq_true e1]; simp
          have hnx : Hid (q + 1 = (((ls.take (k + 1)).countP (De.joins a b) : Nat) : Int)) := by show _ = _; rw [HS.out, hj, H.out]; simp
          clear hj e0 e1
          go_wp2
          go_round
          case rel => exact ⟨k + 1, q + 1, by omega, by go_num, rfl, by omega, by omega, hnx⟩
          case measure => simp [intOf]; omega
        · by_cases e2 : p1 = b
          · by_cases e3 : p2 = a
            · have f0 : (p1 == a) = true := by simpa using e0
              have f1 : (p2 == b) = false := by simpa using e1
              have f2 : (p1 == b) = true := by simpa using e2
              have f3 : (p2 == a) = true := by simpa using e3
              have hj : De.joins a b (p1, p2) = true := by show ((decide (p1 = a) && decide (p2 = b)) || (decide (p1 = b) && decide (p2 = a))) = _; rw [decide_eq_true e0, decide_eq_false e1, decide_eq_true e2, decide_eq_true e3]; simp
              have hnx : Hid (q + 1 = (((ls.take (k + 1)).countP (De.joins a b) : Nat) : Int)) := by show _ = _; rw [HS.out, hj, H.out]; simp
              clear hj e0 e1 e2 e3
              go_wp2
              go_round
              case rel => exact ⟨k + 1, q + 1, by omega, by go_num, rfl, by omega, by omega, hnx⟩
              case measure => simp [intOf]; omega
            · have f0 : (p1 == a) = true := by simpa using e0
              have f1 : (p2 == b) = false := by simpa using e1
              have f2 : (p1 == b) = true := by simpa using e2
              have f3 : (p2 == a) = false := by simpa using e3
              have hj : De.joins a b (p1, p2) = false := by show ((decide (p1 = a) && decide (p2 = b)) || (decide (p1 = b) && decide (p2 = a))) = _; rw [decide_eq_true e0, decide_eq_false e1, decide_eq_true e2, decide_eq_false e3]; simp
              have hnx : Hid (q = (((ls.take (k + 1)).countP (De.joins a b) : Nat) : Int)) := by show _ = _; rw [HS.out, hj, H.out]; simp
              clear hj e0 e1 e2 e3
              go_wp2
              go_round
              case rel => exact ⟨k + 1, q, by omega, by go_num, rfl, by omega, by omega, hnx⟩
              case measure => simp [intOf]; omega
          · have f0 : (p1 == a) = true := by simpa using e0
            have f1 : (p2 == b) = false := by simpa using e1
            have f2 : (p1 == b) = false := by simpa using e2
            have hj : De.joins a b (p1, p2) = false := by show ((decide (p1 = a) && decide (p2 = b)) || (decide (p1 = b) && decide (p2 = a))) = _; rw [decide_eq_true e0, decide_eq_false e1, decide_eq_false e2]; simp
            have hnx : Hid (q = (((ls.take (k + 1)).countP (De.joins a b) : Nat) : Int)) := by show _ = _; rw [HS.out, hj, H.out]; simp
            clear hj e0 e1 e2
            go_wp2
            go_round
            case rel => exact ⟨k + 1, q, by omega, by go_num, rfl, by omega, by omega, hnx⟩
            case measure => simp [intOf]; omega
      · by_cases e2 : p1 = b
        · by_cases e3 : p2 = a
          · have f0 : (p1 == a) = false := by simpa using e0
            have f2 : (p1 == b) = true := by simpa using e2
            have f3 : (p2 == a) = true := by simpa using e3
            have hj : De.joins a b (p1, p2) = true := by show ((decide (p1 = a) && decide (p2 = b)) || (decide (p1 = b) && decide (p2 = a))) = _; rw [decide_eq_false e0, decide_eq_true e2, decide_eq_true e3]; simp
            have hnx : Hid (q + 1 = (((ls.take (k + 1)).countP (De.joins a b) : Nat) : Int)) := by show _ = _; rw [HS.out, hj, H.out]; simp
            clear hj e0 e2 e3
            go_wp2
            go_round
            case rel => exact ⟨k + 1, q + 1, by omega, by go_num, rfl, by omega, by omega, hnx⟩
            case measure => simp [intOf]; omega
          · have f0 : (p1 == a) = false := by simpa using e0
            have f2 : (p1 == b) = true := by simpa using e2
            have f3 : (p2 == a) = false := by simpa using e3
            have hj : De.joins a b (p1, p2) = false := by show ((decide (p1 = a) && decide (p2 = b)) || (decide (p1 = b) && decide (p2 = a))) = _; rw [decide_eq_false e0, decide_eq_true e2, decide_eq_false e3]; simp
            have hnx : Hid (q = (((ls.take (k + 1)).countP (De.joins a b) : Nat) : Int)) := by show _ = _; rw [HS.out, hj, H.out]; simp
            clear hj e0 e2 e3
            go_wp2
            go_round
            case rel => exact ⟨k + 1, q, by omega, by go_num, rfl, by omega, by omega, hnx⟩
            case measure => simp [intOf]; omega
        · have f0 : (p1 == a) = false := by simpa using e0
          have f2 : (p1 == b) = false := by simpa using e2
          have hj : De.joins a b (p1, p2) = false := by show ((decide (p1 = a) && decide (p2 = b)) || (decide (p1 = b) && decide (p2 = a))) = _; rw [decide_eq_false e0, decide_eq_false e2]; simp
          have hnx : Hid (q = (((ls.take (k + 1)).countP (De.joins a b) : Nat) : Int)) := by show _ = _; rw [HS.out, hj, H.out]; simp
          clear hj e0 e2
          go_wp2
          go_round
          case rel => exact ⟨k + 1, q, by omega, by go_num, rfl, by omega, by omega, hnx⟩
          case measure => simp [intOf]; omega
    · have hfin : Hid (q = ((ls.countP (De.joins a b) : Nat) : Int)) := by show _ = _; rw [H.out, List.take_of_length_le (by rw [HX.out]; omega)]
      go_wp2
      go_ret
      exact ⟨by rw [← hfin.out]; rfl, rfl⟩

theorem Near_len (m : Nat) (A : Option Addr) (n c : Nat) (ls : List Gr.Ln) (a q : Nat) (w : World) (hr : RdP w w.heap.size A n c ls) (hm : m ≤ 8) (hq : (Gr.row m ls a).length = q) :
    Calls Tryd.prog 16 #[.int .i64 (m : Int), .slice A n c, .int .i64 (a : Int)] w fun e w' => ∃ A' c', e = .returned (.slice A' q c') ∧ Below w.heap.size w w' := by
  refine (RefL.Near_any m A n c ls a w hr hm).mono ?_
  rintro e w' ⟨v, rfl, hown, hb⟩
  obtain ⟨A', c', rfl, _⟩ := hown.rd
  exact ⟨A', c', by rw [hq], hb⟩

theorem hfact1 : De.code [1, 2, 1] = 0 := by decide
theorem hfact2 : De.havel 9 (([1, 2, 1] : List Int).map Int.toNat) = some [(0, 1), (1, 2)] := by decide
theorem hfact3 : De.code [1, 2, 2] = 0 := by decide
theorem hfact4 : De.havel 9 (([1, 2, 2] : List Int).map Int.toNat) = none := by decide

set_option maxRecDepth 100000 in
set_option maxHeartbeats 2000000 in
theorem havelFact_any (w : World) (het : tld.EtIs w) : Calls Tryd.prog 11 #[] w fun e w' => e = .returned (.bool true) ∧ Below w.heap.size w w' := by
  have hb0 : Below w.heap.size w (w.alloc (.cells #[.int .i64 1, .int .i64 2, .int .i64 1] 3)) := (Below.refl _ _).alloc (Nat.le_refl _) _
  have hr0 : Rd (w.alloc (.cells #[.int .i64 1, .int .i64 2, .int .i64 1] 3)) (w.alloc (.cells #[.int .i64 1, .int .i64 2, .int .i64 1] 3)).heap.size (some ⟨w.heap.size, 0, none⟩) 3 3 [1, 2, 1] := (Rd.new w [1, 2, 1] _ 3 rfl (by omega)).more (by simp)
  go_enter Tryd.func11, Tryd.ntmps11
  go_wp2_with fail
  refine (Make_ok _ 3 3 [1, 2, 1] _ hr0 hfact1).mono ?_
  rintro e w1 ⟨hb1, (⟨hn, _⟩ | ⟨os, v1, hs, rfl, hown1⟩)⟩
  · rw [hfact2] at hn; cases hn
  rw [hfact2] at hs
  cases hs
  obtain ⟨A1, c1, rfl, hrd1⟩ := hown1.rd
  have hb01 := hb0.trans (hb1.mono hb0.size)
  clear hr0 hb0 hb1 hown1
  obtain ⟨x1, hx1⟩ : ∃ x1, x1 = w1.alloc (.cells #[.int .i64 1, .int .i64 2, .int .i64 2] 3) := ⟨_, rfl⟩
  have hbx : Below w1.heap.size w1 x1 := by rw [hx1]; exact (Below.refl _ _).alloc (Nat.le_refl _) _
  have hr1 : Rd x1 x1.heap.size (some ⟨w1.heap.size, 0, none⟩) 3 3 [1, 2, 2] := by rw [hx1]; exact (Rd.new w1 [1, 2, 2] _ 3 rfl (by omega)).more (by simp)
  go_wp2_with fail
  rw [← hx1]
  clear hx1
  refine (Make_ok _ 3 3 [1, 2, 2] _ hr1 hfact3).mono ?_
  rintro e w2 ⟨hb2, (⟨_, rfl⟩ | ⟨os, v1, hs, _⟩)⟩
  rotate_left
  · rw [hfact4] at hs; cases hs
  have hb02 := hb01.trans ((hbx.trans (hb2.mono hbx.size)).mono hb01.size)
  have hrd2 := (hrd1.past hbx).past hb2
  have het2 : tld.EtIs w2 := het.below hb02
  clear hr1 hbx hb2 hb01 hrd1
  go_wp2_with fail
  refine (Err_same 5 _ het2).mono ?_
  rintro e w3 ⟨rfl, hb3⟩
  have hb03 := hb02.trans (hb3.mono hb02.size)
  have hrd3 := hrd2.past hb3
  clear hb02 hb3 hrd2 het2
  obtain ⟨x2, hx2⟩ : ∃ x2, x2 = w3.alloc (.cells #[.int .i64 0, .int .i64 1, .int .i64 1, .int .i64 2] 39) := ⟨_, rfl⟩
  have hbx2 : Below w3.heap.size w3 x2 := by rw [hx2]; exact (Below.refl _ _).alloc (Nat.le_refl _) _
  have hr2 : RdP x2 x2.heap.size (some ⟨w3.heap.size, 0, none⟩) 2 2 [(0, 1), (1, 2)] := by rw [hx2]; exact (RdP.new2 w3 _ 0 1 1 2).more (by simp)
  go_wp2_with fail
  rw [← hx2]
  clear hx2
  refine (Lines_any A1 _ 2 2 c1 2 [(0, 1), (1, 2)] [(0, 1), (1, 2)] true _ (hrd3.past hbx2) hr2 (by decide)).mono ?_
  rintro e w4 ⟨rfl, hb4⟩
  go_wp2
  go_ret
  exact ⟨rfl, hb03.trans ((hbx2.trans (hb4.mono hbx2.size)).mono hb03.size)⟩

end Go.Proofs.YtjjjnhdongaclaaDoor
