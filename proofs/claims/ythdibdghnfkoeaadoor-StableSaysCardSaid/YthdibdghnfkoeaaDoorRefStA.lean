/-
  Contracts of the reference on stable pairs: Orders (what is wrong with the rankings), Stable (would no two rather have each other).
-/
import Derived.Test.YthdibdghnfkoeaaDoorStableH
import Derived.Test.YthdibdghnfkoeaaDoorRefAll
import Derived.Test.YthdibdghnfkoeaaDoorRefAllN
import Derived.Test.YthdibdghnfkoeaaDoorRefTwo
import Derived.Test.YthdibdghnfkoeaaDoorTwice
import Derived.BigQuiet
namespace Go.Proofs.YthdibdghnfkoeaaDoor.RefS2
open Go.RowKit Go.Shelf

set_option linter.unusedSimpArgs false
set_option linter.unusedVariables false

set_option maxHeartbeats 1000000 in
theorem Orders_any (A B : Option Addr) (k m c d : Nat) (left right : List (List Int)) (w : World) (hl : RdR w w.heap.size A k c left) (hr : RdR w w.heap.size B m d right) :
    Calls Tryd.prog 4 #[.slice A k c, .slice B m d] w fun e w' => e = .returned (.int .i64 (St.code left right)) ∧ Below w.heap.size w w' := by
  have Hleft := Lib.hid hl.len
  have Hright := Lib.hid hr.len
  have hbk := hl.big
  have hbm := hr.big
  by_cases h1 : 6 < k
  · have hfin : Hid (St.code left right = 4) := by show _ = _; unfold St.code; rw [if_pos (by rw [Hleft.out]; exact .inl h1)]
    go_enter Tryd.func4, Tryd.ntmps4
    go_wp2
    go_ret
    exact ⟨by rw [hfin.out]; rfl, Below.refl _ _⟩
  by_cases h2 : 6 < m
  · have hfin : Hid (St.code left right = 4) := by show _ = _; unfold St.code; rw [if_pos (by rw [Hright.out]; exact .inr h2)]
    go_enter Tryd.func4, Tryd.ntmps4
    go_wp2
    go_ret
    exact ⟨by rw [hfin.out]; rfl, Below.refl _ _⟩
  by_cases h3 : k ≠ m
  · have hfin : Hid (St.code left right = 3) := by show _ = _; unfold St.code; rw [Hleft.out, Hright.out, if_neg (by omega), if_pos h3]
    have hd : decide ((k : Int) = (m : Int)) = false := by simp; omega
    go_enter Tryd.func4, Tryd.ntmps4
    go_wp2
    go_ret
    exact ⟨by rw [hfin.out]; rfl, Below.refl _ _⟩
  obtain ⟨n, hn⟩ : ∃ n, n = k := ⟨_, rfl⟩
  obtain rfl : n = m := by omega
  subst hn
  have h6 : n ≤ 6 := by omega
  clear h1 h2 h3
  have s1 : IntKind.i64.wrap ((n : Int) - 1) = (n : Int) - 1 := by rw [IntKind.wrap_i64]; omega
  have hcode : Hid (St.code left right = St.cdF n left right 0) := St.cdF_start Hleft.out Hright.out h6
  go_enter Tryd.func4, Tryd.ntmps4
  go_wp2
  go_loopw [5, 6, 7] (fun i _ _ wr => Below w.heap.size w wr ∧ ((i = .int .i64 0 ∧ Hid (St.code left right = St.cdF n left right 0)) ∨ (i = .int .i64 1 ∧ Hid (St.code left right = St.cdF n left right 1)) ∨ (i = .int .i64 2 ∧ Hid (St.code left right = St.cdF n left right 2)))) (fun i _ _ _ => 2 - (intOf i).toNat)
  case atStart => exact ⟨Below.refl _ _, .inl ⟨rfl, hcode⟩⟩
  case round =>
    clear hcode
    rcases hrel with ⟨hbel, ⟨rfl, H0⟩ | ⟨rfl, H0⟩ | ⟨rfl, H0⟩⟩
    · -- left
      go_wp2
      go_loopw [7] (fun i wr => ∃ j : Nat, j ≤ n ∧ i = .int .i64 j ∧ Below w.heap.size w wr ∧ Hid (St.code left right = St.thn (St.scode n (left.drop j)) (St.thn (St.scode n right) 0))) (fun i _ => n - (intOf i).toNat)
      case atStart => exact ⟨0, Nat.zero_le _, rfl, hbel, H0⟩
      case round =>
        clear hbel
        obtain ⟨j, hj, rfl, hbel, H⟩ := hrel
        by_cases hlt : j < n
        · obtain ⟨b1, o1, rfl, hbb, hcc⟩ := hl.at_ (by omega)
          obtain ⟨A', c', y1, y2⟩ := hcc j hlt
          have g1 : wr.cell? ⟨b1, o1 + j, none⟩ = some (.slice A' (left.getD j []).length c') := (hbel.cell (by exact hbb)).trans y1
          have hrow : Rd wr wr.heap.size A' (left.getD j []).length c' (left.getD j []) := y2.past hbel
          clear hcc y1 y2
          have hkl : Hid (j < left.length) := by show _ < _; rw [Hleft.out]; exact hlt
          obtain ⟨row, hrw⟩ : ∃ row, row = left.getD j [] := ⟨_, rfl⟩
          rw [← hrw] at g1 hrow
          have HV := Lib.hid hrw
          clear hrw
          obtain ⟨m, hm⟩ : ∃ m, m = row.length := ⟨_, rfl⟩
          rw [← hm] at g1 hrow
          have HM := Lib.hid hm
          clear hm
          have HST : Hid (St.code left right = St.thn (if St.rcode n row ≠ 0 then St.rcode n row else St.scode n (left.drop (j + 1))) (St.thn (St.scode n right) 0)) := by show _ = _; rw [H.out, St.scode_step hkl.out row HV.out]
          clear H
          by_cases hmn : m = n
          · by_cases hal : ∀ x ∈ row, 0 ≤ x ∧ x ≤ (n : Int) - 1
            · have HA := Lib.hid hal
              by_cases hnd : row.Nodup
              · have hnext : Hid (St.code left right = St.thn (St.scode n (left.drop (j + 1))) (St.thn (St.scode n right) 0)) := by
                  show _ = _
                  rw [HST.out, if_neg (fun e => e (St.rcode_zero.2 ⟨by rw [← HM.out]; exact hmn, hal, hnd⟩))]
                have HD := Lib.hid hnd
                subst hmn
                clear hal hnd HST
                have e1 : ((m : Int) != (m : Int)) = false := by simp
                have e2 : (m != m) = false := by simp
                go_wp2_with fail
                refine (All_in A' m c' row 0 ((m : Int) - 1) _ hrow HA.out).mono ?_
                rintro e w1 ⟨rfl, rfl⟩
                go_wp2_with fail
                refine (Twice_no A' m c' row _ hrow HD.out).mono ?_
                rintro e w2 ⟨rfl, hb2⟩
                have hb3 := hbel.trans (hb2.mono hbel.size)
                clear hb2 hbel
                go_wp2
                go_roundw
                case rel => exact ⟨j + 1, by omega, by push_cast; rfl, hb3, hnext⟩
                case measure => simp [intOf]; omega
              · have hfin : Hid (St.code left right = 6) := by
                  show _ = _
                  have e : St.rcode n row = 6 := by unfold St.rcode; rw [if_neg (by rw [← HM.out]; exact fun e => e hmn), if_neg (by rw [St.allB_iff.2 hal]; simp), if_pos hnd]
                  rw [HST.out, e]
                  rfl
                have HD := Lib.hid hnd
                subst hmn
                clear hal hnd HST
                have e1 : ((m : Int) != (m : Int)) = false := by simp
                have e2 : (m != m) = false := by simp
                go_wp2_with fail
                refine (All_in A' m c' row 0 ((m : Int) - 1) _ hrow HA.out).mono ?_
                rintro e w1 ⟨rfl, rfl⟩
                go_wp2_with fail
                refine (Twice_any A' m c' row _ hrow HD.out).mono ?_
                rintro e w2 ⟨rfl, hb2⟩
                go_wp2
                go_ret
                exact ⟨by rw [hfin.out]; rfl, hbel.trans (hb2.mono hbel.size)⟩
            · have hfin : Hid (St.code left right = 1) := by
                show _ = _
                have e : St.rcode n row = 1 := by unfold St.rcode; rw [if_neg (by rw [← HM.out]; exact fun e => e hmn), if_pos (by cases hb : St.allB 0 ((n : Int) - 1) row with | false => rfl | true => exact absurd (St.allB_iff.1 hb) hal)]
                rw [HST.out, e]
                rfl
              have HA := Lib.hid hal
              subst hmn
              clear hal HST
              have e1 : ((m : Int) != (m : Int)) = false := by simp
              have e2 : (m != m) = false := by simp
              go_wp2_with fail
              refine (All_no A' m c' row 0 ((m : Int) - 1) _ hrow HA.out).mono ?_
              rintro e w1 ⟨rfl, rfl⟩
              go_wp2
              go_ret
              exact ⟨by rw [hfin.out]; rfl, hbel⟩
          · have hfin : Hid (St.code left right = 3) := by
              show _ = _
              have e : St.rcode n row = 3 := by unfold St.rcode; rw [if_pos (by rw [← HM.out]; exact hmn)]
              rw [HST.out, e]
              rfl
            have e1 : ((m : Int) != (n : Int)) = true := by simp; omega
            have e2 : (m != n) = true := by simpa using hmn
            clear hmn HST
            go_wp2
            go_ret
            exact ⟨by rw [hfin.out]; rfl, hbel⟩
        · obtain rfl : j = n := by omega
          have hnext : Hid (St.code left right = St.cdF j left right 1) := by
            show _ = _
            rw [H.out, List.drop_of_length_le (by rw [Hleft.out]; exact Nat.le_refl _)]
            rfl
          clear H
          go_wp2
          go_roundw
          case rel => exact ⟨hbel, .inr (.inl ⟨rfl, hnext⟩)⟩
          case measure => simp [intOf]
    · -- right
      go_wp2
      go_loopw [7] (fun i wr => ∃ j : Nat, j ≤ n ∧ i = .int .i64 j ∧ Below w.heap.size w wr ∧ Hid (St.code left right = St.thn (St.scode n (right.drop j)) (0))) (fun i _ => n - (intOf i).toNat)
      case atStart => exact ⟨0, Nat.zero_le _, rfl, hbel, H0⟩
      case round =>
        clear hbel
        obtain ⟨j, hj, rfl, hbel, H⟩ := hrel
        by_cases hlt : j < n
        · obtain ⟨b1, o1, rfl, hbb, hcc⟩ := hr.at_ (by omega)
          obtain ⟨A', c', y1, y2⟩ := hcc j hlt
          have g1 : wr.cell? ⟨b1, o1 + j, none⟩ = some (.slice A' (right.getD j []).length c') := (hbel.cell (by exact hbb)).trans y1
          have hrow : Rd wr wr.heap.size A' (right.getD j []).length c' (right.getD j []) := y2.past hbel
          clear hcc y1 y2
          have hkl : Hid (j < right.length) := by show _ < _; rw [Hright.out]; exact hlt
          obtain ⟨row, hrw⟩ : ∃ row, row = right.getD j [] := ⟨_, rfl⟩
          rw [← hrw] at g1 hrow
          have HV := Lib.hid hrw
          clear hrw
          obtain ⟨m, hm⟩ : ∃ m, m = row.length := ⟨_, rfl⟩
          rw [← hm] at g1 hrow
          have HM := Lib.hid hm
          clear hm
          have HST : Hid (St.code left right = St.thn (if St.rcode n row ≠ 0 then St.rcode n row else St.scode n (right.drop (j + 1))) (0)) := by show _ = _; rw [H.out, St.scode_step hkl.out row HV.out]
          clear H
          by_cases hmn : m = n
          · by_cases hal : ∀ x ∈ row, 0 ≤ x ∧ x ≤ (n : Int) - 1
            · have HA := Lib.hid hal
              by_cases hnd : row.Nodup
              · have hnext : Hid (St.code left right = St.thn (St.scode n (right.drop (j + 1))) (0)) := by
                  show _ = _
                  rw [HST.out, if_neg (fun e => e (St.rcode_zero.2 ⟨by rw [← HM.out]; exact hmn, hal, hnd⟩))]
                have HD := Lib.hid hnd
                subst hmn
                clear hal hnd HST
                have e1 : ((m : Int) != (m : Int)) = false := by simp
                have e2 : (m != m) = false := by simp
                go_wp2_with fail
                refine (All_in A' m c' row 0 ((m : Int) - 1) _ hrow HA.out).mono ?_
                rintro e w1 ⟨rfl, rfl⟩
                go_wp2_with fail
                refine (Twice_no A' m c' row _ hrow HD.out).mono ?_
                rintro e w2 ⟨rfl, hb2⟩
                have hb3 := hbel.trans (hb2.mono hbel.size)
                clear hb2 hbel
                go_wp2
                go_roundw
                case rel => exact ⟨j + 1, by omega, by push_cast; rfl, hb3, hnext⟩
                case measure => simp [intOf]; omega
              · have hfin : Hid (St.code left right = 6) := by
                  show _ = _
                  have e : St.rcode n row = 6 := by unfold St.rcode; rw [if_neg (by rw [← HM.out]; exact fun e => e hmn), if_neg (by rw [St.allB_iff.2 hal]; simp), if_pos hnd]
                  rw [HST.out, e]
                  rfl
                have HD := Lib.hid hnd
                subst hmn
                clear hal hnd HST
                have e1 : ((m : Int) != (m : Int)) = false := by simp
                have e2 : (m != m) = false := by simp
                go_wp2_with fail
                refine (All_in A' m c' row 0 ((m : Int) - 1) _ hrow HA.out).mono ?_
                rintro e w1 ⟨rfl, rfl⟩
                go_wp2_with fail
                refine (Twice_any A' m c' row _ hrow HD.out).mono ?_
                rintro e w2 ⟨rfl, hb2⟩
                go_wp2
                go_ret
                exact ⟨by rw [hfin.out]; rfl, hbel.trans (hb2.mono hbel.size)⟩
            · have hfin : Hid (St.code left right = 1) := by
                show _ = _
                have e : St.rcode n row = 1 := by unfold St.rcode; rw [if_neg (by rw [← HM.out]; exact fun e => e hmn), if_pos (by cases hb : St.allB 0 ((n : Int) - 1) row with | false => rfl | true => exact absurd (St.allB_iff.1 hb) hal)]
                rw [HST.out, e]
                rfl
              have HA := Lib.hid hal
              subst hmn
              clear hal HST
              have e1 : ((m : Int) != (m : Int)) = false := by simp
              have e2 : (m != m) = false := by simp
              go_wp2_with fail
              refine (All_no A' m c' row 0 ((m : Int) - 1) _ hrow HA.out).mono ?_
              rintro e w1 ⟨rfl, rfl⟩
              go_wp2
              go_ret
              exact ⟨by rw [hfin.out]; rfl, hbel⟩
          · have hfin : Hid (St.code left right = 3) := by
              show _ = _
              have e : St.rcode n row = 3 := by unfold St.rcode; rw [if_pos (by rw [← HM.out]; exact hmn)]
              rw [HST.out, e]
              rfl
            have e1 : ((m : Int) != (n : Int)) = true := by simp; omega
            have e2 : (m != n) = true := by simpa using hmn
            clear hmn HST
            go_wp2
            go_ret
            exact ⟨by rw [hfin.out]; rfl, hbel⟩
        · obtain rfl : j = n := by omega
          have hnext : Hid (St.code left right = St.cdF j left right 2) := by
            show _ = _
            rw [H.out, List.drop_of_length_le (by rw [Hright.out]; exact Nat.le_refl _)]
            rfl
          clear H
          go_wp2
          go_roundw
          case rel => exact ⟨hbel, .inr (.inr ⟨rfl, hnext⟩)⟩
          case measure => simp [intOf]
    · have hfin : Hid (St.code left right = 0) := H0.out
      clear H0
      go_wp2
      go_ret
      exact ⟨by rw [hfin.out]; rfl, hbel⟩

set_option maxHeartbeats 4000000 in
/-- Stable -/
theorem Stable_any (n : Nat) (A B C : Option Addr) (c d f : Nat) (left right : List (List Int)) (has : List Int) (w : World) (hl : RdR w w.heap.size A n c left) (hr : RdR w w.heap.size B n d right) (hh : Rd w w.heap.size C n f has) :
    Calls Tryd.prog 13 #[.slice A n c, .slice B n d, .slice C n f] w fun e w' => e = .returned (.bool (St.stb n left right has)) ∧ Below w.heap.size w w' := by
  have hbig := hl.big
  go_enter Tryd.func13, Tryd.ntmps13
  go_wp2
  go_loopw [7, 8] (fun iv _ wr => ∃ i : Nat, i ≤ n ∧ iv = .int .i64 (i : Int) ∧ Below w.heap.size w wr ∧ Hid (∀ a, a < i → ∀ b, b < n → St.blk left right has a b = false)) (fun iv _ _ => n - (intOf iv).toNat)
  case atStart => exact ⟨0, Nat.zero_le _, rfl, Below.refl _ _, fun a ha => absurd ha (Nat.not_lt_zero _)⟩
  case round =>
    obtain ⟨i, hi, rfl, hbel, H⟩ := hrel
    by_cases hlt : i < n
    · go_wp2
      go_loopw [8] (fun jv wr => ∃ j : Nat, j ≤ n ∧ jv = .int .i64 (j : Int) ∧ Below w.heap.size w wr ∧ Hid (∀ b, b < j → St.blk left right has i b = false)) (fun jv _ => n - (intOf jv).toNat)
      case atStart => exact ⟨0, Nat.zero_le _, rfl, hbel, fun a ha => absurd ha (Nat.not_lt_zero _)⟩
      case round =>
        clear hbel
        obtain ⟨j, hj, rfl, hbel, HJ⟩ := hrel
        by_cases hlj : j < n
        · obtain ⟨b0, o0, rfl, hb0, hc0⟩ := (hl.below hbel).at_ (by omega)
          obtain ⟨d0, e0, f0, r0⟩ := hc0 i hlt
          obtain ⟨b1, o1, rfl, hb1, hc1⟩ := (hr.below hbel).at_ (by omega)
          obtain ⟨d1, e1, f1, r1⟩ := hc1 j hlj
          have hhk := hh.below hbel
          obtain ⟨b2, o2, rfl, hb2, hc2⟩ := hhk.at_ (by omega)
          have f2 := hc2 i hlt
          clear hc0 hc1 hc2
          have HB : Hid (St.blk left right has i j = (decide (St.plc (left.getD i []) (j : Int) < St.plc (left.getD i []) (has.getD i 0)) && decide (St.plc (right.getD j []) (i : Int) < St.plc (right.getD j []) (St.plc has (j : Int))))) := rfl
          generalize has.getD i 0 = x at f2 HB
          generalize hrow0 : left.getD i [] = row0 at f0 r0 HB
          generalize hrow1 : right.getD j [] = row1 at f1 r1 HB
          clear hrow0 hrow1
          obtain ⟨l0, hl0⟩ : ∃ l0, l0 = row0.length := ⟨_, rfl⟩
          obtain ⟨l1, hl1⟩ : ∃ l1, l1 = row1.length := ⟨_, rfl⟩
          rw [← hl0] at f0 r0
          rw [← hl1] at f1 r1
          clear hl0 hl1
          obtain ⟨t1, ht1⟩ : ∃ t, St.plc row0 (j : Int) = t := ⟨_, rfl⟩
          obtain ⟨t2, ht2⟩ : ∃ t, St.plc row0 x = t := ⟨_, rfl⟩
          obtain ⟨t3, ht3⟩ : ∃ t, St.plc row1 (i : Int) = t := ⟨_, rfl⟩
          obtain ⟨t4, ht4⟩ : ∃ t, St.plc has (j : Int) = t := ⟨_, rfl⟩
          obtain ⟨t5, ht5⟩ : ∃ t, St.plc row1 t4 = t := ⟨_, rfl⟩
          rw [ht1, ht2, ht3, ht4, ht5] at HB
          have H1 := Lib.hid ht1
          have H2 := Lib.hid ht2
          have H3 := Lib.hid ht3
          have H4 := Lib.hid ht4
          have H5 := Lib.hid ht5
          clear ht1 ht2 ht3 ht4 ht5
          have k1 : (0 : Int) ≤ (i : Int) := by omega
          have k2 : (i : Int) < (n : Int) := by omega
          have k3 : (0 : Int) ≤ (j : Int) := by omega
          have k4 : (j : Int) < (n : Int) := by omega
          by_cases hc1 : t1 < t2
          · have dc1 : decide (t1 < t2) = true := decide_eq_true hc1
            by_cases hc2 : t3 < t5
            · have dc2 : decide (t3 < t5) = true := decide_eq_true hc2
              have hfin : Hid (St.stb n left right has = false) := by
                show _ = _
                cases hs : St.stb n left right has
                · rfl
                · unfold St.stb at hs
                  simp only [List.all_eq_true, List.mem_range, Bool.not_eq_true'] at hs
                  have := hs i hlt j hlj
                  rw [HB.out, dc1, dc2] at this
                  cases this
              clear HB H HJ
              go_wp2
              go_quiet (first
                | (go_at_call 18; with_reducible exact Calls.quiet_of_same ((Place_t d0 l0 e0 row0 (j : Int) t1 _ (r0.drewN _) H1.out).mono fun _ _ h => ⟨h.1, h.2.symm⟩))
                | (go_at_call 18; with_reducible exact Calls.quiet_of_same ((Place_t d0 l0 e0 row0 x t2 _ (r0.drewN _) H2.out).mono fun _ _ h => ⟨h.1, h.2.symm⟩))
                | (go_at_call 18; with_reducible exact Calls.quiet_of_same ((Place_t d1 l1 e1 row1 (i : Int) t3 _ (r1.drewN _) H3.out).mono fun _ _ h => ⟨h.1, h.2.symm⟩))
                | (go_at_call 18; with_reducible exact Calls.quiet_of_same ((Place_t (some ⟨b2, o2, none⟩) n f has (j : Int) t4 _ (hhk.drewN _) H4.out).mono fun _ _ h => ⟨h.1, h.2.symm⟩))
                | (go_at_call 18; with_reducible exact Calls.quiet_of_same ((Place_t d1 l1 e1 row1 t4 t5 _ (r1.drewN _) H5.out).mono fun _ _ h => ⟨h.1, h.2.symm⟩)))
              go_wp2
              go_ret
              exact ⟨by rw [hfin.out]; rfl, hbel.trans (Below.drewN' _ _ _)⟩
            · have dc2 : decide (t3 < t5) = false := decide_eq_false hc2
              have hnext : Hid (∀ b, b < j + 1 → St.blk left right has i b = false) := fun b hb => by
                by_cases e : b = j
                · rw [e, HB.out, dc1, dc2]; rfl
                · exact HJ.out b (by omega)
              clear HB HJ
              go_wp2
              go_quiet (first
                | (go_at_call 18; with_reducible exact Calls.quiet_of_same ((Place_t d0 l0 e0 row0 (j : Int) t1 _ (r0.drewN _) H1.out).mono fun _ _ h => ⟨h.1, h.2.symm⟩))
                | (go_at_call 18; with_reducible exact Calls.quiet_of_same ((Place_t d0 l0 e0 row0 x t2 _ (r0.drewN _) H2.out).mono fun _ _ h => ⟨h.1, h.2.symm⟩))
                | (go_at_call 18; with_reducible exact Calls.quiet_of_same ((Place_t d1 l1 e1 row1 (i : Int) t3 _ (r1.drewN _) H3.out).mono fun _ _ h => ⟨h.1, h.2.symm⟩))
                | (go_at_call 18; with_reducible exact Calls.quiet_of_same ((Place_t (some ⟨b2, o2, none⟩) n f has (j : Int) t4 _ (hhk.drewN _) H4.out).mono fun _ _ h => ⟨h.1, h.2.symm⟩))
                | (go_at_call 18; with_reducible exact Calls.quiet_of_same ((Place_t d1 l1 e1 row1 t4 t5 _ (r1.drewN _) H5.out).mono fun _ _ h => ⟨h.1, h.2.symm⟩)))
              go_wp2
              go_roundw
              case rel => exact ⟨j + 1, by omega, by go_num, hbel.trans (Below.drewN' _ _ _), hnext⟩
              case measure => simp [intOf]; omega
          · have dc1 : decide (t1 < t2) = false := decide_eq_false hc1
            have hnext : Hid (∀ b, b < j + 1 → St.blk left right has i b = false) := fun b hb => by
              by_cases e : b = j
              · rw [e, HB.out, dc1]; rfl
              · exact HJ.out b (by omega)
            clear HB HJ
            go_wp2
            go_quiet (first
                | (go_at_call 18; with_reducible exact Calls.quiet_of_same ((Place_t d0 l0 e0 row0 (j : Int) t1 _ (r0.drewN _) H1.out).mono fun _ _ h => ⟨h.1, h.2.symm⟩))
                | (go_at_call 18; with_reducible exact Calls.quiet_of_same ((Place_t d0 l0 e0 row0 x t2 _ (r0.drewN _) H2.out).mono fun _ _ h => ⟨h.1, h.2.symm⟩)))
            go_wp2
            go_roundw
            case rel => exact ⟨j + 1, by omega, by go_num, hbel.trans (Below.drewN' _ _ _), hnext⟩
            case measure => simp [intOf]; omega
        · obtain rfl : j = n := by omega
          have hnext : Hid (∀ a, a < i + 1 → ∀ b, b < j → St.blk left right has a b = false) := fun a ha b hb => by
            by_cases e : a = i
            · subst e; exact HJ.out b hb
            · exact H.out a (by omega) b hb
          go_wp2
          go_roundw
          case rel => exact ⟨i + 1, by omega, by go_num, hbel, hnext⟩
          case measure => simp [intOf]; omega
    · obtain rfl : i = n := by omega
      have hfin : Hid (St.stb i left right has = true) := by
        show _ = _
        unfold St.stb
        simp only [List.all_eq_true, List.mem_range, Bool.not_eq_true']
        exact H.out
      go_wp2
      go_ret
      exact ⟨by rw [hfin.out]; rfl, hbel⟩

end Go.Proofs.YthdibdghnfkoeaaDoor.RefS2
