/-
  Contracts of package stable: Check.
-/
import Derived.Test.YthdibdghnfkoeaaDoorStableA
namespace Go.Proofs.YthdibdghnfkoeaaDoor
open Go.RowKit Go.Shelf

attribute [local go_sem] Oper.semAt_some
set_option linter.unusedSimpArgs false
set_option linter.unusedVariables false

namespace St
/-- the first of two numbers, if it is not 0 -/
def thn (a b : Int) : Int := if a ≠ 0 then a else b
/-- what is wrong from side s on -/
def cdF (n : Nat) (left right : List (List Int)) : Nat → Int
  | 0 => thn (scode n left) (thn (scode n right) 0)
  | 1 => thn (scode n right) 0
  | _ => 0
theorem thn_zero (a : Int) : thn a 0 = a := by
  unfold thn
  by_cases h : a = 0
  · simp [h]
  · simp [h]
theorem cdF_start {n : Nat} {left right : List (List Int)} (hl : left.length = n) (hr : right.length = n) (h6 : n ≤ 6) : code left right = cdF n left right 0 := by
  unfold code cdF
  rw [if_neg (by omega), if_neg (by omega), hl, hr, thn_zero]
  rfl
end St

theorem ix0 (A B : Option Addr) (n m c d : Nat) (W : World) : (Instr.index 40 (.agg #[.slice A n c, .slice B m d]) (.int .i64 0)).run Tryd.prog W = .ok (.slice A n c) W := by kernel_rfl
theorem ix1 (A B : Option Addr) (n m c d : Nat) (W : World) : (Instr.index 40 (.agg #[.slice A n c, .slice B m d]) (.int .i64 1)).run Tryd.prog W = .ok (.slice B m d) W := by kernel_rfl

set_option maxHeartbeats 1000000 in
theorem SCheck_any (A B : Option Addr) (k m c d : Nat) (left right : List (List Int)) (w : World) (hl : RdR w w.heap.size A k c left) (hr : RdR w w.heap.size B m d right) :
    Calls Tryd.prog 6 #[.slice A k c, .slice B m d] w fun e w' => e = .returned (errOf (St.code left right)) ∧ Below w.heap.size w w' := by
  have Hleft := Lib.hid hl.len
  have Hright := Lib.hid hr.len
  have hbk := hl.big
  have hbm := hr.big
  by_cases h1 : 6 < k
  · have hfin : Hid (St.code left right = 4) := by show _ = _; unfold St.code; rw [if_pos (by rw [Hleft.out]; exact .inl h1)]
    go_enter Tryd.func6, Tryd.ntmps6
    go_wp2
    go_ret
    exact ⟨by rw [hfin.out]; rfl, Below.refl _ _⟩
  by_cases h2 : 6 < m
  · have hfin : Hid (St.code left right = 4) := by show _ = _; unfold St.code; rw [if_pos (by rw [Hright.out]; exact .inr h2)]
    go_enter Tryd.func6, Tryd.ntmps6
    go_wp2
    go_ret
    exact ⟨by rw [hfin.out]; rfl, Below.refl _ _⟩
  by_cases h3 : k ≠ m
  · have hfin : Hid (St.code left right = 3) := by show _ = _; unfold St.code; rw [Hleft.out, Hright.out, if_neg (by omega), if_pos h3]
    have hd : decide ((k : Int) = (m : Int)) = false := by simp; omega
    go_enter Tryd.func6, Tryd.ntmps6
    go_wp2
    go_ret
    exact ⟨by rw [hfin.out]; rfl, Below.refl _ _⟩
  obtain ⟨n, hn⟩ : ∃ n, n = k := ⟨_, rfl⟩
  obtain rfl : n = m := by omega
  subst hn
  have h6 : n ≤ 6 := by omega
  clear h1 h2 h3
  have hcode : Hid (St.code left right = St.cdF n left right 0) := St.cdF_start Hleft.out Hright.out h6
  go_enter Tryd.func6, Tryd.ntmps6
  go_wp2
  go_loopw [4, 6, 8, 9, 28] (fun _ _ _ _ i wr => Below w.heap.size w wr ∧ ((i = .int .i64 0 ∧ Hid (St.code left right = St.cdF n left right 0)) ∨ (i = .int .i64 1 ∧ Hid (St.code left right = St.cdF n left right 1)) ∨ (i = .int .i64 2 ∧ Hid (St.code left right = St.cdF n left right 2)))) (fun _ _ _ _ i _ => 2 - (intOf i).toNat)
  case atStart => exact ⟨Below.refl _ _, .inl ⟨rfl, hcode⟩⟩
  case round =>
    clear hcode
    rcases hrel with ⟨hbel, ⟨rfl, H0⟩ | ⟨rfl, H0⟩ | ⟨rfl, H0⟩⟩
    · -- left
      have hix := ix0 A B n n c d
      go_wp2
      go_loopw [4, 8, 9, 33] (fun _ _ _ i wr => ∃ j : Nat, j ≤ n ∧ i = .int .i64 j ∧ Below w.heap.size w wr ∧ Hid (St.code left right = St.thn (St.scode n (left.drop j)) (St.thn (St.scode n right) 0))) (fun _ _ _ i _ => n - (intOf i).toNat)
      case atStart => exact ⟨0, Nat.zero_le _, rfl, hbel, H0⟩
      case round =>
        clear hbel
        obtain ⟨j, hj, rfl, hbel, H⟩ := hrel
        by_cases hlt : j < n
        · obtain ⟨b1, o1, rfl, hbb, hcc⟩ := hl.at_ (by omega)
          obtain ⟨A', c', y1, y2⟩ := hcc j hlt
          have g1 : wr.cell? ⟨b1, o1 + j, none⟩ = some (.slice A' (left.getD j []).length c') := (hbel.cell (by exact hbb)).trans y1
          have hrow : Rd wr wr.heap.size A' (left.getD j []).length c' (left.getD j []) := y2.past hbel
          clear hcc y1 y2
          have hkl : Hid (j < left.length) := by show _ < _; rw [Hleft.out]; exact hlt
          obtain ⟨row, hrw⟩ : ∃ row, row = left.getD j [] := ⟨_, rfl⟩
          rw [← hrw] at g1 hrow
          have HV := Lib.hid hrw
          clear hrw
          obtain ⟨m, hm⟩ : ∃ m, m = row.length := ⟨_, rfl⟩
          rw [← hm] at g1 hrow
          clear hm
          by_cases h0 : St.rcode n row = 0
          · have hnext : Hid (St.code left right = St.thn (St.scode n (left.drop (j + 1))) (St.thn (St.scode n right) 0)) := by show _ = _; rw [H.out, St.scode_step hkl.out row HV.out, if_neg (fun e => e h0)]
            have H0 := Lib.hid h0
            clear h0 H
            go_wp2_with fail
            refine (eachOnce_any n h6 A' m c' row _ hrow).mono ?_
            rintro e w1 ⟨rfl, hb1⟩
            rw [errOf_zero H0.out]
            have hb2 := hbel.trans (hb1.mono hbel.size)
            clear hb1 hbel
            go_wp2
            go_roundw
            case rel => exact ⟨j + 1, by omega, by push_cast; rfl, hb2, hnext⟩
            case measure => simp [intOf]; omega
          · have hfin : Hid (St.code left right = St.rcode n row) := by show _ = _; rw [H.out, St.scode_step hkl.out row HV.out, if_pos h0, St.thn, if_pos h0]
            have H0 := Lib.hid h0
            clear h0 H
            go_wp2_with fail
            refine (eachOnce_any n h6 A' m c' row _ hrow).mono ?_
            rintro e w1 ⟨rfl, hb1⟩
            rw [errOf_pos H0.out]
            have hb2 := hbel.trans (hb1.mono hbel.size)
            clear hb1 hbel
            go_wp2
            go_ret
            exact ⟨by rw [hfin.out, errOf_pos H0.out]; rfl, hb2⟩
        · obtain rfl : j = n := by omega
          have hnext : Hid (St.code left right = St.cdF j left right 1) := by
            show _ = _
            rw [H.out, List.drop_of_length_le (by rw [Hleft.out]; exact Nat.le_refl _)]
            rfl
          clear H
          go_wp2
          go_roundw
          case rel => exact ⟨hbel, .inr (.inl ⟨rfl, hnext⟩)⟩
          case measure => simp [intOf]
    · -- right
      have hix := ix1 A B n n c d
      go_wp2
      go_loopw [4, 8, 9, 33] (fun _ _ _ i wr => ∃ j : Nat, j ≤ n ∧ i = .int .i64 j ∧ Below w.heap.size w wr ∧ Hid (St.code left right = St.thn (St.scode n (right.drop j)) (0))) (fun _ _ _ i _ => n - (intOf i).toNat)
      case atStart => exact ⟨0, Nat.zero_le _, rfl, hbel, H0⟩
      case round =>
        clear hbel
        obtain ⟨j, hj, rfl, hbel, H⟩ := hrel
        by_cases hlt : j < n
        · obtain ⟨b1, o1, rfl, hbb, hcc⟩ := hr.at_ (by omega)
          obtain ⟨A', c', y1, y2⟩ := hcc j hlt
          have g1 : wr.cell? ⟨b1, o1 + j, none⟩ = some (.slice A' (right.getD j []).length c') := (hbel.cell (by exact hbb)).trans y1
          have hrow : Rd wr wr.heap.size A' (right.getD j []).length c' (right.getD j []) := y2.past hbel
          clear hcc y1 y2
          have hkl : Hid (j < right.length) := by show _ < _; rw [Hright.out]; exact hlt
          obtain ⟨row, hrw⟩ : ∃ row, row = right.getD j [] := ⟨_, rfl⟩
          rw [← hrw] at g1 hrow
          have HV := Lib.hid hrw
          clear hrw
          obtain ⟨m, hm⟩ : ∃ m, m = row.length := ⟨_, rfl⟩
          rw [← hm] at g1 hrow
          clear hm
          by_cases h0 : St.rcode n row = 0
          · have hnext : Hid (St.code left right = St.thn (St.scode n (right.drop (j + 1))) (0)) := by show _ = _; rw [H.out, St.scode_step hkl.out row HV.out, if_neg (fun e => e h0)]
            have H0 := Lib.hid h0
            clear h0 H
            go_wp2_with fail
            refine (eachOnce_any n h6 A' m c' row _ hrow).mono ?_
            rintro e w1 ⟨rfl, hb1⟩
            rw [errOf_zero H0.out]
            have hb2 := hbel.trans (hb1.mono hbel.size)
            clear hb1 hbel
            go_wp2
            go_roundw
            case rel => exact ⟨j + 1, by omega, by push_cast; rfl, hb2, hnext⟩
            case measure => simp [intOf]; omega
          · have hfin : Hid (St.code left right = St.rcode n row) := by show _ = _; rw [H.out, St.scode_step hkl.out row HV.out, if_pos h0, St.thn, if_pos h0]
            have H0 := Lib.hid h0
            clear h0 H
            go_wp2_with fail
            refine (eachOnce_any n h6 A' m c' row _ hrow).mono ?_
            rintro e w1 ⟨rfl, hb1⟩
            rw [errOf_pos H0.out]
            have hb2 := hbel.trans (hb1.mono hbel.size)
            clear hb1 hbel
            go_wp2
            go_ret
            exact ⟨by rw [hfin.out, errOf_pos H0.out]; rfl, hb2⟩
        · obtain rfl : j = n := by omega
          have hnext : Hid (St.code left right = St.cdF j left right 2) := by
            show _ = _
            rw [H.out, List.drop_of_length_le (by rw [Hright.out]; exact Nat.le_refl _)]
            rfl
          clear H
          go_wp2
          go_roundw
          case rel => exact ⟨hbel, .inr (.inr ⟨rfl, hnext⟩)⟩
          case measure => simp [intOf]
    · have hfin : Hid (St.code left right = 0) := H0.out
      clear H0
      go_wp2
      go_ret
      exact ⟨by rw [hfin.out]; rfl, hbel⟩

end Go.Proofs.YthdibdghnfkoeaaDoor
