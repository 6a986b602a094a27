/-
  The walk of the law DomLast: for every number of points, lines and start it returns true.
-/
import Derived.Test.YtjcdnkbandagoaaDomF
import Derived.Test.YtjcdnkbandagoaaRefRis
import Derived.Test.YtjcdnkbandagoaaIn2
import Derived.Deep.RegionHeld
import Derived.BigQuiet
namespace Go.Proofs.Ytjcdnkbandagoaa.domLast
open Go.RowKit
set_option linter.unusedSimpArgs false
set_option linter.unusedVariables false

theorem Rising_rd (A : Option Addr) (m c : Nat) (zs : List Int) (w : World) (hr : Rd w w.heap.size A m c zs) (hm : m ≤ 1000) :
    Calls Try.prog 13 #[.slice A m c] w fun e w' => ∃ A1 c1 r, e = .returned (.slice A1 m c1) ∧ Rd w' w'.heap.size A1 m c1 r ∧ Hid (r.Pairwise (· ≤ ·) ∧ r.Perm zs) ∧ Below w.heap.size w w' := by
  have hl := hr.len
  refine (RefR.Rising_any A m c zs w hr hm).mono ?_
  rintro e w' ⟨v, r, rfl, hown, h1, h2, hb⟩
  obtain ⟨A1, c1, rfl, hrd⟩ := hown.rd
  have e1 : r.length = m := by rw [h2.length_eq, hl]
  rw [e1] at hrd ⊢
  exact ⟨A1, c1, r, rfl, hrd, ⟨h1, h2⟩, hb⟩

set_option maxRecDepth 100000 in
set_option maxHeartbeats 1000000 in
/-- something is wrong with the lines, or with the start -/
theorem bad (w : World) (a0 : Int) (a1 : Option Addr) (n1 c1 : Nat) (z1 : List Gr.Ln) (w1 : RdP w w.heap.size a1 n1 c1 z1) (a2 : Int) (hc : Do.fcode a0 z1 a2 ≠ 0) :
    Calls Try.prog 4 #[.int .i64 a0, .slice a1 n1 c1, .int .i64 a2] w fun e w' => e = .returned (.bool true) ∧ Below w.heap.size w w' := by
  have HN := Lib.hid hc
  clear hc
  go_enter Try.func4, Try.ntmps4
  go_wp2_with fail
  refine (domFact_any _).mono ?_
  rintro e x1 ⟨rfl, b1⟩
  go_wp2_with fail
  refine (Of_bad a0 a1 n1 c1 z1 a2 _ (w1.past b1) HN.out).mono ?_
  rintro e x2 ⟨rfl, b2⟩
  have b02 := b1.trans (b2.mono b1.size)
  go_wp2_with fail
  refine (Last_bad a0 a1 n1 c1 z1 a2 _ (w1.past b02) HN.out).mono ?_
  rintro e x3 ⟨rfl, b3⟩
  go_wp2
  go_ret
  exact ⟨rfl, b02.trans (b3.mono b02.size)⟩

set_option maxRecDepth 100000 in
set_option maxHeartbeats 8000000 in
theorem good (w : World) (m st : Nat) (a1 : Option Addr) (n1 c1 : Nat) (z1 : List Gr.Ln) (w1 : RdP w w.heap.size a1 n1 c1 z1) (hst : st < m) (h0 : Gr.code (m : Int) z1 = 0) :
    Calls Try.prog 4 #[.int .i64 (m : Int), .slice a1 n1 c1, .int .i64 (st : Int)] w fun e w' => e = .returned (.bool true) ∧ Below w.heap.size w w' := by
  have hm8 : m ≤ 8 := by have := (Gr.code_zero.1 h0).2.1; omega
  have H0 := Lib.hid h0
  clear h0
  obtain ⟨q, hq⟩ : ∃ q : Int, q = (m : Int) - 1 := ⟨_, rfl⟩
  have hwr : IntKind.i64.wrap ((m : Int) - 1) = q := by rw [IntKind.wrap_i64] <;> omega
  have HQ : Hid (∀ p : Nat, p < m → (p : Int) ≤ q) := by show ∀ p, _; intro p hp; omega
  clear hq
  go_enter Try.func4, Try.ntmps4
  go_wp2_with fail
  refine (domFact_any _).mono ?_
  rintro e x1 ⟨rfl, b1⟩
  go_wp2_with fail
  refine (Of_yes m st a1 n1 c1 z1 _ (w1.past b1) H0.out hst).mono ?_
  rintro e x2 ⟨A2, cA, rfl, r2, b2⟩
  have b02 := b1.trans (b2.mono b1.size)
  have hbig := r2.big
  go_wp2_with fail
  refine (Last_yes m st a1 n1 c1 z1 _ (w1.past b02) H0.out hst).mono ?_
  rintro e x3 ⟨A4, cL, rfl, r4, b3⟩
  have b03 := b02.trans (b3.mono b02.size)
  have r2 := r2.past b3
  obtain ⟨B, hB⟩ : ∃ B, B = x3.heap.size := ⟨_, rfl⟩
  have HB := Lib.hid hB
  rw [← hB] at r2 r4
  obtain ⟨bA, oA, rfl, hbA, hcc⟩ := r2.at_ (by omega)
  have HC : Hid (∀ j, j < m → ∃ A' c', x3.cell? ⟨bA, oA + j, none⟩ = some (.slice A' (Do.dl m z1 st j).length c') ∧ Rd x3 B A' (Do.dl m z1 st j).length c' (Do.dl m z1 st j)) := by
    show ∀ j, _
    intro j hj
    have := hcc j hj
    rw [Do.dls_at hj] at this
    exact this
  obtain ⟨bL, oL, rfl, hbL, hcl⟩ := r4.at_ (by omega)
  have HCL : Hid (∀ j, j < m → x3.cell? ⟨bL, oL + j, none⟩ = some (.int .i64 (Do.lst m z1 st j))) := by
    show ∀ j, _
    intro j hj
    have := hcl j hj
    rw [Do.lsts_at hj] at this
    exact this
  have hB0 : Below B x3 x3 := Below.refl _ _
  have HFIN := Lib.hid b03
  have hbw0 : w.heap.size ≤ B := by rw [hB]; exact b03.size
  clear r2 r4 b1 b2 b02 b03 b3 hcc hcl hB
  go_wp2_with fail
  refine (in2_yes (st : Int) 0 q _ (by omega) (HQ.out st hst)).mono ?_
  rintro e x4 ⟨rfl, rfl⟩
  go_wp2
  go_loopw [12, 13, 14, 15] (fun iv _ _ _ wr => ∃ i : Nat, i ≤ m ∧ iv = .int .i64 (i : Int) ∧ Below B x3 wr) (fun iv _ _ _ _ => m - (intOf iv).toNat)
  case atStart => exact ⟨0, Nat.zero_le _, rfl, hB0⟩
  case round =>
    clear hB0
    obtain ⟨i, hi, rfl, hbel⟩ := hrel
    by_cases hlt : i < m
    · have i1 : (0 : Int) ≤ (i : Int) := by omega
      have i2 : (i : Int) < (m : Int) := by omega
      obtain ⟨A3, c3, y3, r3⟩ := HC.out i hlt
      have z3 := (hbel.cell (p := ⟨bA, oA + i, none⟩) hbA).trans y3
      have z4 := (hbel.cell (p := ⟨bL, oL + i, none⟩) hbL).trans (HCL.out i hlt)
      have hem := Do.dl_empty (ls := z1) hst i
      obtain ⟨L, hL⟩ : ∃ L, L = (Do.dl m z1 st i).length := ⟨_, rfl⟩
      rw [← hL] at y3 z3 r3 hem
      have HL := Lib.hid hL
      have hLb := r3.big
      clear hL
      by_cases hL0 : L = 0
      · have hl : Do.lst m z1 st i = -1 := Do.lst_none hst (hem.1 hL0)
        rw [hl] at z4
        subst hL0
        clear hem
        go_wp2
        go_roundw
        case rel => exact ⟨i + 1, by omega, by go_num, hbel⟩
        case measure => simp [intOf]; omega
      · have hre : Sg.reach m z1 st i = true := by
          cases h : Sg.reach m z1 st i with
          | true => rfl
          | false => exact absurd (hem.2 h) hL0
        have d0 : ((L : Int) == 0) = false := by simp; omega
        have hW0 : Hid (Do.Way m z1 st i [] (i : Int)) := Do.Way.start hst hre
        have hO0 : Own wr B 3 (.slice none 0 0) ([] : List Int) := Own.nil _ _ _
        clear hem hre z4
        go_wp2
        clear z3
        go_loopw [13, 14, 15] (fun wv av sv wr => ∃ (ws : List Int) (a : Int), av = .int .i64 a ∧ sv = .int .i64 ((ws.length : Nat) : Int) ∧ Hid (Do.Way m z1 st i ws a) ∧ Own wr B 3 wv ws ∧ Below B x3 wr) (fun _ _ sv _ => m - (intOf sv).toNat)
        case atStart => exact ⟨[], _, rfl, rfl, hW0, hO0, hbel⟩
        case round =>
          clear hW0 hO0 hbel
          obtain ⟨ws, a, rfl, rfl, HW, hown, hbel⟩ := hrel
          have hlw := HW.out.len
          rcases HW.out.cases with rfl | ⟨a, rfl⟩
          · have hway := HW.out
            clear HW
            by_cases hlm : ws.length < m
            · have hlmI : ((ws.length : Nat) : Int) < (m : Int) := by omega
              go_wp2_with fail
              refine (in2_no (-1) 0 q _ (.inl (by omega))).mono ?_
              rintro e x5 ⟨rfl, rfl⟩
              clear hlm hlmI
              obtain ⟨hpm, hpp, hlast⟩ := hway.done
              have HDN := Lib.hid hpm
              obtain ⟨Aw, cw, rfl, hrw⟩ := hown.rd
              obtain ⟨P, hP⟩ : ∃ P, P = ws.length := ⟨_, rfl⟩
              rw [← hP] at hrw hpp hlast hlw ⊢
              obtain ⟨bw, ow, rfl, hbw1, hcw⟩ := hrw.at_ hpp
              obtain ⟨pl, hpl⟩ : ∃ pl, pl = P - 1 := ⟨_, rfl⟩
              have gw := hcw pl (by omega)
              rw [hpl, hlast, ← hpl] at gw
              have hw2 : IntKind.i64.wrap ((P : Int) - 1) = (pl : Int) := by rw [IntKind.wrap_i64] <;> omega
              have pl1 : (0 : Int) ≤ (pl : Int) := by omega
              have pl2 : (pl : Int) < (P : Int) := by omega
              have hsz : B ≤ wr.heap.size := by have := hbel.size; rw [← HB.out] at this; exact this
              have hbA1 : bA < wr.heap.size := Nat.lt_of_lt_of_le hbA hsz
              have z3 := (hbel.cell (p := ⟨bA, oA + i, none⟩) hbA).trans y3
              have hPb := hrw.big
              clear hpm hpp hlast hcw hpl hP hown hway
              go_wp2
              refine wp_region_held_drew (S := fun w' : World => w'.cell? ⟨bw, ow + pl, none⟩ = some (.int .i64 (st : Int)) ∧ w'.cell? ⟨bA, oA + i, none⟩ = some (.slice A3 L c3)) (by kernel_rfl) ⟨gw, z3⟩ (fun hHeld => ?_)
              refine wpAnyH_take (i := 0) (v := .int .i64 (-1)) rfl (by kernel_rfl) (by kernel_rfl) (by kernel_rfl) (fun _ _ _ h => h) (Or.inl ⟨by kernel_rfl, ?_⟩) (by assumption) ?_
              · intro w hSw
                obtain ⟨hSa, hSb⟩ := hSw
                go_simp
              try simp only [Act.put, List.getElem_toArray, List.getElem_cons_succ, List.getElem_cons_zero, List.setIfInBounds_toArray, List.set_cons_zero, List.set_cons_succ]
              refine wpAnyH_take (i := 1) (v := .bool false) rfl (by kernel_rfl) (by kernel_rfl) (by kernel_rfl) (fun _ _ _ h => h) (Or.inl ⟨by kernel_rfl, ?_⟩) (by assumption) ?_
              · intro w hSw
                obtain ⟨hSa, hSb⟩ := hSw
                go_simp
              try simp only [Act.put, List.getElem_toArray, List.getElem_cons_succ, List.getElem_cons_zero, List.setIfInBounds_toArray, List.set_cons_zero, List.set_cons_succ]
              refine wpAnyH_take (i := 2) (v := .bool false) rfl (by kernel_rfl) (by kernel_rfl) (by kernel_rfl) (fun _ _ _ h => h) (Or.inl ⟨by kernel_rfl, ?_⟩) (by assumption) ?_
              · intro w hSw
                obtain ⟨hSa, hSb⟩ := hSw
                go_simp
              try simp only [Act.put, List.getElem_toArray, List.getElem_cons_succ, List.getElem_cons_zero, List.setIfInBounds_toArray, List.set_cons_zero, List.set_cons_succ]
              refine wpAnyH_take (i := 3) (v := .slice (some ⟨bw, ow, none⟩) P cw) rfl (by kernel_rfl) (by kernel_rfl) (by kernel_rfl) (fun _ _ _ h => h) (Or.inl ⟨by kernel_rfl, ?_⟩) (by assumption) ?_
              · intro w hSw
                obtain ⟨hSa, hSb⟩ := hSw
                go_simp
              try simp only [Act.put, List.getElem_toArray, List.getElem_cons_succ, List.getElem_cons_zero, List.setIfInBounds_toArray, List.set_cons_zero, List.set_cons_succ]
              refine wpAnyH_take (i := 4) (v := .slice (some ⟨bw, ow, none⟩) P cw) rfl (by kernel_rfl) (by kernel_rfl) (by kernel_rfl) (fun _ _ _ h => h) (Or.inl ⟨by kernel_rfl, ?_⟩) (by assumption) ?_
              · intro w hSw
                obtain ⟨hSa, hSb⟩ := hSw
                go_simp
              try simp only [Act.put, List.getElem_toArray, List.getElem_cons_succ, List.getElem_cons_zero, List.setIfInBounds_toArray, List.set_cons_zero, List.set_cons_succ]
              refine wpAnyH_take (i := 5) (v := .int .i64 (P : Int)) rfl (by kernel_rfl) (by kernel_rfl) (by kernel_rfl) (fun _ _ _ h => h) (Or.inl ⟨by kernel_rfl, ?_⟩) (by assumption) ?_
              · intro w hSw
                obtain ⟨hSa, hSb⟩ := hSw
                go_simp
              try simp only [Act.put, List.getElem_toArray, List.getElem_cons_succ, List.getElem_cons_zero, List.setIfInBounds_toArray, List.set_cons_zero, List.set_cons_succ]
              refine wpAnyH_take (i := 6) (v := .int .i64 (pl : Int)) rfl (by kernel_rfl) (by kernel_rfl) (by kernel_rfl) (fun _ _ _ h => h) (Or.inl ⟨by kernel_rfl, ?_⟩) (by assumption) ?_
              · intro w hSw
                obtain ⟨hSa, hSb⟩ := hSw
                go_simp
              try simp only [Act.put, List.getElem_toArray, List.getElem_cons_succ, List.getElem_cons_zero, List.setIfInBounds_toArray, List.set_cons_zero, List.set_cons_succ]
              refine wpAnyH_take (i := 7) (v := .pointer (some ⟨bw, ow + pl, none⟩)) rfl (by kernel_rfl) (by kernel_rfl) (by kernel_rfl) (fun _ _ _ h => h) (Or.inl ⟨by kernel_rfl, ?_⟩) (by assumption) ?_
              · intro w hSw
                obtain ⟨hSa, hSb⟩ := hSw
                go_simp
              try simp only [Act.put, List.getElem_toArray, List.getElem_cons_succ, List.getElem_cons_zero, List.setIfInBounds_toArray, List.set_cons_zero, List.set_cons_succ]
              refine wpAnyH_take (i := 8) (v := .int .i64 (st : Int)) rfl (by kernel_rfl) (by kernel_rfl) (by kernel_rfl) (fun _ _ _ h => h) (Or.inl ⟨by kernel_rfl, ?_⟩) (by assumption) ?_
              · intro w hSw
                obtain ⟨hSa, hSb⟩ := hSw
                go_simp
              try simp only [Act.put, List.getElem_toArray, List.getElem_cons_succ, List.getElem_cons_zero, List.setIfInBounds_toArray, List.set_cons_zero, List.set_cons_succ]
              refine wpAnyH_take (i := 9) (v := .int .i64 (st : Int)) rfl (by kernel_rfl) (by kernel_rfl) (by kernel_rfl) (fun _ _ _ h => h) (Or.inl ⟨by kernel_rfl, ?_⟩) (by assumption) ?_
              · intro w hSw
                obtain ⟨hSa, hSb⟩ := hSw
                go_simp
              try simp only [Act.put, List.getElem_toArray, List.getElem_cons_succ, List.getElem_cons_zero, List.setIfInBounds_toArray, List.set_cons_zero, List.set_cons_succ]
              refine wpAnyH_take (i := 10) (v := .bool false) rfl (by kernel_rfl) (by kernel_rfl) (by kernel_rfl) (fun _ _ _ h => h) (Or.inl ⟨by kernel_rfl, ?_⟩) (by assumption) ?_
              · intro w hSw
                obtain ⟨hSa, hSb⟩ := hSw
                go_simp
              try simp only [Act.put, List.getElem_toArray, List.getElem_cons_succ, List.getElem_cons_zero, List.setIfInBounds_toArray, List.set_cons_zero, List.set_cons_succ]
              refine wpAnyH_take (i := 11) (v := .bool false) rfl (by kernel_rfl) (by kernel_rfl) (by kernel_rfl) (fun _ _ _ h => h) (Or.inl ⟨by kernel_rfl, ?_⟩) (by assumption) ?_
              · intro w hSw
                obtain ⟨hSa, hSb⟩ := hSw
                go_simp
              try simp only [Act.put, List.getElem_toArray, List.getElem_cons_succ, List.getElem_cons_zero, List.setIfInBounds_toArray, List.set_cons_zero, List.set_cons_succ]
              refine wpAnyH_take (i := 12) (v := .bool false) rfl (by kernel_rfl) (by kernel_rfl) (by kernel_rfl) (fun _ _ _ h => h) (Or.inl ⟨by kernel_rfl, ?_⟩) (by assumption) ?_
              · intro w hSw
                obtain ⟨hSa, hSb⟩ := hSw
                go_simp
              try simp only [Act.put, List.getElem_toArray, List.getElem_cons_succ, List.getElem_cons_zero, List.setIfInBounds_toArray, List.set_cons_zero, List.set_cons_succ]
              refine wpAnyH_take (i := 13) (v := .slice (some ⟨bw, ow, none⟩) P cw) rfl (by kernel_rfl) (by kernel_rfl) (by kernel_rfl) (fun _ _ _ h => h) (Or.inl ⟨by kernel_rfl, ?_⟩) (by assumption) ?_
              · intro w hSw
                obtain ⟨hSa, hSb⟩ := hSw
                go_simp
              try simp only [Act.put, List.getElem_toArray, List.getElem_cons_succ, List.getElem_cons_zero, List.setIfInBounds_toArray, List.set_cons_zero, List.set_cons_succ]
              refine wpAnyH_take (i := 15) (v := .slice (some ⟨bA, oA, none⟩) m cA) rfl (by kernel_rfl) (by kernel_rfl) (by kernel_rfl) (fun _ _ _ h => h) (Or.inl ⟨by kernel_rfl, ?_⟩) (by assumption) ?_
              · intro w hSw
                obtain ⟨hSa, hSb⟩ := hSw
                go_simp
              try simp only [Act.put, List.getElem_toArray, List.getElem_cons_succ, List.getElem_cons_zero, List.setIfInBounds_toArray, List.set_cons_zero, List.set_cons_succ]
              refine wpAnyH_take (i := 16) (v := .int .i64 (i : Int)) rfl (by kernel_rfl) (by kernel_rfl) (by kernel_rfl) (fun _ _ _ h => h) (Or.inl ⟨by kernel_rfl, ?_⟩) (by assumption) ?_
              · intro w hSw
                obtain ⟨hSa, hSb⟩ := hSw
                go_simp
              try simp only [Act.put, List.getElem_toArray, List.getElem_cons_succ, List.getElem_cons_zero, List.setIfInBounds_toArray, List.set_cons_zero, List.set_cons_succ]
              refine wpAnyH_take (i := 17) (v := .pointer (some ⟨bA, oA + i, none⟩)) rfl (by kernel_rfl) (by kernel_rfl) (by kernel_rfl) (fun _ _ _ h => h) (Or.inl ⟨by kernel_rfl, ?_⟩) (by assumption) ?_
              · intro w hSw
                obtain ⟨hSa, hSb⟩ := hSw
                go_simp
              try simp only [Act.put, List.getElem_toArray, List.getElem_cons_succ, List.getElem_cons_zero, List.setIfInBounds_toArray, List.set_cons_zero, List.set_cons_succ]
              refine wpAnyH_take (i := 18) (v := .slice A3 L c3) rfl (by kernel_rfl) (by kernel_rfl) (by kernel_rfl) (fun _ _ _ h => h) (Or.inl ⟨by kernel_rfl, ?_⟩) (by assumption) ?_
              · intro w hSw
                obtain ⟨hSa, hSb⟩ := hSw
                go_simp
              try simp only [Act.put, List.getElem_toArray, List.getElem_cons_succ, List.getElem_cons_zero, List.setIfInBounds_toArray, List.set_cons_zero, List.set_cons_succ]
              refine wpAnyH_ready (rs := [14]) (by kernel_rfl) (by simp) ?_
              refine AllReadyH.cons rfl (fun K hK => ?_) AllReadyH.nil
              rw [if_pos (by kernel_rfl)]
              go_simp
              refine (Rising_rd (some ⟨bw, ow, none⟩) P cw ws _ (hrw.drew) (by omega)).mono ?_
              rintro e y1 ⟨A7, c7, r7, rfl, s7, HR7, d7⟩
              have e7 : r7 = Do.dl m z1 st i := Do.rising_dl HDN.out HR7.out.1 HR7.out.2
              have hS7 : y1.cell? ⟨bw, ow + pl, none⟩ = some (.int .i64 (st : Int)) ∧ y1.cell? ⟨bA, oA + i, none⟩ = some (.slice A3 L c3) := ⟨(d7.cell (p := ⟨bw, ow + pl, none⟩) hbw1).trans gw, (d7.cell (p := ⟨bA, oA + i, none⟩) hbA1).trans z3⟩
              have hb7 : Below B x3 y1 := (hbel.drew).trans (d7.mono hsz)
              have t3 : Rd y1 y1.heap.size A3 L c3 (Do.dl m z1 st i) := (r3.below hb7).more (Nat.le_trans hsz d7.size)
              rw [e7] at s7
              clear HR7 e7
              go_wp2_with fail
              refine hK.out _ _ hS7 (fun hHeld => ?_)
              clear hK K
              try simp only [Act.put, List.getElem_toArray, List.getElem_cons_succ, List.getElem_cons_zero, List.setIfInBounds_toArray, List.set_cons_zero, List.set_cons_succ]
              refine wpAnyH_ready (rs := [19]) (by kernel_rfl) (by simp) ?_
              refine AllReadyH.cons rfl (fun K hK => ?_) AllReadyH.nil
              rw [if_pos (by kernel_rfl)]
              go_simp
              refine (Ints_t A7 A3 P L c7 c3 _ _ true _ s7 t3 (by simp)).mono ?_
              rintro e y2 ⟨rfl, d8⟩
              have hS8 : y2.cell? ⟨bw, ow + pl, none⟩ = some (.int .i64 (st : Int)) ∧ y2.cell? ⟨bA, oA + i, none⟩ = some (.slice A3 L c3) := ⟨(d8.cell (p := ⟨bw, ow + pl, none⟩) (Nat.lt_of_lt_of_le hbw1 d7.size)).trans hS7.1, (d8.cell (p := ⟨bA, oA + i, none⟩) (Nat.lt_of_lt_of_le hbA1 d7.size)).trans hS7.2⟩
              have hb8 : Below B x3 y2 := hb7.trans (d8.mono (Nat.le_trans hsz d7.size))
              go_wp2_with fail
              refine hK.out _ _ hS8 (fun hHeld => ?_)
              clear hK K
              try simp only [Act.put, List.getElem_toArray, List.getElem_cons_succ, List.getElem_cons_zero, List.setIfInBounds_toArray, List.set_cons_zero, List.set_cons_succ]
              refine wpAnyH_take (i := 20) (v := .bool false) rfl (by kernel_rfl) (by kernel_rfl) (by kernel_rfl) (fun _ _ _ h => h) (Or.inl ⟨by kernel_rfl, ?_⟩) (by assumption) ?_
              · intro w hSw
                obtain ⟨hSa, hSb⟩ := hSw
                go_simp
              try simp only [Act.put, List.getElem_toArray, List.getElem_cons_succ, List.getElem_cons_zero, List.setIfInBounds_toArray, List.set_cons_zero, List.set_cons_succ]
              refine wpAnyH_take (i := 21) (v := .bool false) rfl (by kernel_rfl) (by kernel_rfl) (by kernel_rfl) (fun _ _ _ h => h) (Or.inl ⟨by kernel_rfl, ?_⟩) (by assumption) ?_
              · intro w hSw
                obtain ⟨hSa, hSb⟩ := hSw
                go_simp
              try simp only [Act.put, List.getElem_toArray, List.getElem_cons_succ, List.getElem_cons_zero, List.setIfInBounds_toArray, List.set_cons_zero, List.set_cons_succ]
              refine wpAnyH_done (by kernel_rfl) ?_ _
              go_wp2
              go_roundw
              case rel => exact ⟨i + 1, by omega, by go_num, hb8⟩
              case measure => simp [intOf]; omega
            · have d5 : decide (((ws.length : Nat) : Int) < (m : Int)) = false := by simp; omega
              have d6 : decide (ws.length < m) = false := by simp; omega
              go_wp2
              clear d5 d6 hlm
              obtain ⟨hpm, hpp, hlast⟩ := hway.done
              have HDN := Lib.hid hpm
              obtain ⟨Aw, cw, rfl, hrw⟩ := hown.rd
              obtain ⟨P, hP⟩ : ∃ P, P = ws.length := ⟨_, rfl⟩
              rw [← hP] at hrw hpp hlast hlw ⊢
              obtain ⟨bw, ow, rfl, hbw1, hcw⟩ := hrw.at_ hpp
              obtain ⟨pl, hpl⟩ : ∃ pl, pl = P - 1 := ⟨_, rfl⟩
              have gw := hcw pl (by omega)
              rw [hpl, hlast, ← hpl] at gw
              have hw2 : IntKind.i64.wrap ((P : Int) - 1) = (pl : Int) := by rw [IntKind.wrap_i64] <;> omega
              have pl1 : (0 : Int) ≤ (pl : Int) := by omega
              have pl2 : (pl : Int) < (P : Int) := by omega
              have hsz : B ≤ wr.heap.size := by have := hbel.size; rw [← HB.out] at this; exact this
              have hbA1 : bA < wr.heap.size := Nat.lt_of_lt_of_le hbA hsz
              have z3 := (hbel.cell (p := ⟨bA, oA + i, none⟩) hbA).trans y3
              have hPb := hrw.big
              clear hpm hpp hlast hcw hpl hP hown hway
              refine wp_region_held_drew (S := fun w' : World => w'.cell? ⟨bw, ow + pl, none⟩ = some (.int .i64 (st : Int)) ∧ w'.cell? ⟨bA, oA + i, none⟩ = some (.slice A3 L c3)) (by kernel_rfl) ⟨gw, z3⟩ (fun hHeld => ?_)
              refine wpAnyH_take (i := 0) (v := .int .i64 (-1)) rfl (by kernel_rfl) (by kernel_rfl) (by kernel_rfl) (fun _ _ _ h => h) (Or.inl ⟨by kernel_rfl, ?_⟩) (by assumption) ?_
              · intro w hSw
                obtain ⟨hSa, hSb⟩ := hSw
                go_simp
              try simp only [Act.put, List.getElem_toArray, List.getElem_cons_succ, List.getElem_cons_zero, List.setIfInBounds_toArray, List.set_cons_zero, List.set_cons_succ]
              refine wpAnyH_take (i := 1) (v := .bool false) rfl (by kernel_rfl) (by kernel_rfl) (by kernel_rfl) (fun _ _ _ h => h) (Or.inl ⟨by kernel_rfl, ?_⟩) (by assumption) ?_
              · intro w hSw
                obtain ⟨hSa, hSb⟩ := hSw
                go_simp
              try simp only [Act.put, List.getElem_toArray, List.getElem_cons_succ, List.getElem_cons_zero, List.setIfInBounds_toArray, List.set_cons_zero, List.set_cons_succ]
              refine wpAnyH_take (i := 2) (v := .bool false) rfl (by kernel_rfl) (by kernel_rfl) (by kernel_rfl) (fun _ _ _ h => h) (Or.inl ⟨by kernel_rfl, ?_⟩) (by assumption) ?_
              · intro w hSw
                obtain ⟨hSa, hSb⟩ := hSw
                go_simp
              try simp only [Act.put, List.getElem_toArray, List.getElem_cons_succ, List.getElem_cons_zero, List.setIfInBounds_toArray, List.set_cons_zero, List.set_cons_succ]
              refine wpAnyH_take (i := 3) (v := .slice (some ⟨bw, ow, none⟩) P cw) rfl (by kernel_rfl) (by kernel_rfl) (by kernel_rfl) (fun _ _ _ h => h) (Or.inl ⟨by kernel_rfl, ?_⟩) (by assumption) ?_
              · intro w hSw
                obtain ⟨hSa, hSb⟩ := hSw
                go_simp
              try simp only [Act.put, List.getElem_toArray, List.getElem_cons_succ, List.getElem_cons_zero, List.setIfInBounds_toArray, List.set_cons_zero, List.set_cons_succ]
              refine wpAnyH_take (i := 4) (v := .slice (some ⟨bw, ow, none⟩) P cw) rfl (by kernel_rfl) (by kernel_rfl) (by kernel_rfl) (fun _ _ _ h => h) (Or.inl ⟨by kernel_rfl, ?_⟩) (by assumption) ?_
              · intro w hSw
                obtain ⟨hSa, hSb⟩ := hSw
                go_simp
              try simp only [Act.put, List.getElem_toArray, List.getElem_cons_succ, List.getElem_cons_zero, List.setIfInBounds_toArray, List.set_cons_zero, List.set_cons_succ]
              refine wpAnyH_take (i := 5) (v := .int .i64 (P : Int)) rfl (by kernel_rfl) (by kernel_rfl) (by kernel_rfl) (fun _ _ _ h => h) (Or.inl ⟨by kernel_rfl, ?_⟩) (by assumption) ?_
              · intro w hSw
                obtain ⟨hSa, hSb⟩ := hSw
                go_simp
              try simp only [Act.put, List.getElem_toArray, List.getElem_cons_succ, List.getElem_cons_zero, List.setIfInBounds_toArray, List.set_cons_zero, List.set_cons_succ]
              refine wpAnyH_take (i := 6) (v := .int .i64 (pl : Int)) rfl (by kernel_rfl) (by kernel_rfl) (by kernel_rfl) (fun _ _ _ h => h) (Or.inl ⟨by kernel_rfl, ?_⟩) (by assumption) ?_
              · intro w hSw
                obtain ⟨hSa, hSb⟩ := hSw
                go_simp
              try simp only [Act.put, List.getElem_toArray, List.getElem_cons_succ, List.getElem_cons_zero, List.setIfInBounds_toArray, List.set_cons_zero, List.set_cons_succ]
              refine wpAnyH_take (i := 7) (v := .pointer (some ⟨bw, ow + pl, none⟩)) rfl (by kernel_rfl) (by kernel_rfl) (by kernel_rfl) (fun _ _ _ h => h) (Or.inl ⟨by kernel_rfl, ?_⟩) (by assumption) ?_
              · intro w hSw
                obtain ⟨hSa, hSb⟩ := hSw
                go_simp
              try simp only [Act.put, List.getElem_toArray, List.getElem_cons_succ, List.getElem_cons_zero, List.setIfInBounds_toArray, List.set_cons_zero, List.set_cons_succ]
              refine wpAnyH_take (i := 8) (v := .int .i64 (st : Int)) rfl (by kernel_rfl) (by kernel_rfl) (by kernel_rfl) (fun _ _ _ h => h) (Or.inl ⟨by kernel_rfl, ?_⟩) (by assumption) ?_
              · intro w hSw
                obtain ⟨hSa, hSb⟩ := hSw
                go_simp
              try simp only [Act.put, List.getElem_toArray, List.getElem_cons_succ, List.getElem_cons_zero, List.setIfInBounds_toArray, List.set_cons_zero, List.set_cons_succ]
              refine wpAnyH_take (i := 9) (v := .int .i64 (st : Int)) rfl (by kernel_rfl) (by kernel_rfl) (by kernel_rfl) (fun _ _ _ h => h) (Or.inl ⟨by kernel_rfl, ?_⟩) (by assumption) ?_
              · intro w hSw
                obtain ⟨hSa, hSb⟩ := hSw
                go_simp
              try simp only [Act.put, List.getElem_toArray, List.getElem_cons_succ, List.getElem_cons_zero, List.setIfInBounds_toArray, List.set_cons_zero, List.set_cons_succ]
              refine wpAnyH_take (i := 10) (v := .bool false) rfl (by kernel_rfl) (by kernel_rfl) (by kernel_rfl) (fun _ _ _ h => h) (Or.inl ⟨by kernel_rfl, ?_⟩) (by assumption) ?_
              · intro w hSw
                obtain ⟨hSa, hSb⟩ := hSw
                go_simp
              try simp only [Act.put, List.getElem_toArray, List.getElem_cons_succ, List.getElem_cons_zero, List.setIfInBounds_toArray, List.set_cons_zero, List.set_cons_succ]
              refine wpAnyH_take (i := 11) (v := .bool false) rfl (by kernel_rfl) (by kernel_rfl) (by kernel_rfl) (fun _ _ _ h => h) (Or.inl ⟨by kernel_rfl, ?_⟩) (by assumption) ?_
              · intro w hSw
                obtain ⟨hSa, hSb⟩ := hSw
                go_simp
              try simp only [Act.put, List.getElem_toArray, List.getElem_cons_succ, List.getElem_cons_zero, List.setIfInBounds_toArray, List.set_cons_zero, List.set_cons_succ]
              refine wpAnyH_take (i := 12) (v := .bool false) rfl (by kernel_rfl) (by kernel_rfl) (by kernel_rfl) (fun _ _ _ h => h) (Or.inl ⟨by kernel_rfl, ?_⟩) (by assumption) ?_
              · intro w hSw
                obtain ⟨hSa, hSb⟩ := hSw
                go_simp
              try simp only [Act.put, List.getElem_toArray, List.getElem_cons_succ, List.getElem_cons_zero, List.setIfInBounds_toArray, List.set_cons_zero, List.set_cons_succ]
              refine wpAnyH_take (i := 13) (v := .slice (some ⟨bw, ow, none⟩) P cw) rfl (by kernel_rfl) (by kernel_rfl) (by kernel_rfl) (fun _ _ _ h => h) (Or.inl ⟨by kernel_rfl, ?_⟩) (by assumption) ?_
              · intro w hSw
                obtain ⟨hSa, hSb⟩ := hSw
                go_simp
              try simp only [Act.put, List.getElem_toArray, List.getElem_cons_succ, List.getElem_cons_zero, List.setIfInBounds_toArray, List.set_cons_zero, List.set_cons_succ]
              refine wpAnyH_take (i := 15) (v := .slice (some ⟨bA, oA, none⟩) m cA) rfl (by kernel_rfl) (by kernel_rfl) (by kernel_rfl) (fun _ _ _ h => h) (Or.inl ⟨by kernel_rfl, ?_⟩) (by assumption) ?_
              · intro w hSw
                obtain ⟨hSa, hSb⟩ := hSw
                go_simp
              try simp only [Act.put, List.getElem_toArray, List.getElem_cons_succ, List.getElem_cons_zero, List.setIfInBounds_toArray, List.set_cons_zero, List.set_cons_succ]
              refine wpAnyH_take (i := 16) (v := .int .i64 (i : Int)) rfl (by kernel_rfl) (by kernel_rfl) (by kernel_rfl) (fun _ _ _ h => h) (Or.inl ⟨by kernel_rfl, ?_⟩) (by assumption) ?_
              · intro w hSw
                obtain ⟨hSa, hSb⟩ := hSw
                go_simp
              try simp only [Act.put, List.getElem_toArray, List.getElem_cons_succ, List.getElem_cons_zero, List.setIfInBounds_toArray, List.set_cons_zero, List.set_cons_succ]
              refine wpAnyH_take (i := 17) (v := .pointer (some ⟨bA, oA + i, none⟩)) rfl (by kernel_rfl) (by kernel_rfl) (by kernel_rfl) (fun _ _ _ h => h) (Or.inl ⟨by kernel_rfl, ?_⟩) (by assumption) ?_
              · intro w hSw
                obtain ⟨hSa, hSb⟩ := hSw
                go_simp
              try simp only [Act.put, List.getElem_toArray, List.getElem_cons_succ, List.getElem_cons_zero, List.setIfInBounds_toArray, List.set_cons_zero, List.set_cons_succ]
              refine wpAnyH_take (i := 18) (v := .slice A3 L c3) rfl (by kernel_rfl) (by kernel_rfl) (by kernel_rfl) (fun _ _ _ h => h) (Or.inl ⟨by kernel_rfl, ?_⟩) (by assumption) ?_
              · intro w hSw
                obtain ⟨hSa, hSb⟩ := hSw
                go_simp
              try simp only [Act.put, List.getElem_toArray, List.getElem_cons_succ, List.getElem_cons_zero, List.setIfInBounds_toArray, List.set_cons_zero, List.set_cons_succ]
              refine wpAnyH_ready (rs := [14]) (by kernel_rfl) (by simp) ?_
              refine AllReadyH.cons rfl (fun K hK => ?_) AllReadyH.nil
              rw [if_pos (by kernel_rfl)]
              go_simp
              refine (Rising_rd (some ⟨bw, ow, none⟩) P cw ws _ (hrw.drew) (by omega)).mono ?_
              rintro e y1 ⟨A7, c7, r7, rfl, s7, HR7, d7⟩
              have e7 : r7 = Do.dl m z1 st i := Do.rising_dl HDN.out HR7.out.1 HR7.out.2
              have hS7 : y1.cell? ⟨bw, ow + pl, none⟩ = some (.int .i64 (st : Int)) ∧ y1.cell? ⟨bA, oA + i, none⟩ = some (.slice A3 L c3) := ⟨(d7.cell (p := ⟨bw, ow + pl, none⟩) hbw1).trans gw, (d7.cell (p := ⟨bA, oA + i, none⟩) hbA1).trans z3⟩
              have hb7 : Below B x3 y1 := (hbel.drew).trans (d7.mono hsz)
              have t3 : Rd y1 y1.heap.size A3 L c3 (Do.dl m z1 st i) := (r3.below hb7).more (Nat.le_trans hsz d7.size)
              rw [e7] at s7
              clear HR7 e7
              go_wp2_with fail
              refine hK.out _ _ hS7 (fun hHeld => ?_)
              clear hK K
              try simp only [Act.put, List.getElem_toArray, List.getElem_cons_succ, List.getElem_cons_zero, List.setIfInBounds_toArray, List.set_cons_zero, List.set_cons_succ]
              refine wpAnyH_ready (rs := [19]) (by kernel_rfl) (by simp) ?_
              refine AllReadyH.cons rfl (fun K hK => ?_) AllReadyH.nil
              rw [if_pos (by kernel_rfl)]
              go_simp
              refine (Ints_t A7 A3 P L c7 c3 _ _ true _ s7 t3 (by simp)).mono ?_
              rintro e y2 ⟨rfl, d8⟩
              have hS8 : y2.cell? ⟨bw, ow + pl, none⟩ = some (.int .i64 (st : Int)) ∧ y2.cell? ⟨bA, oA + i, none⟩ = some (.slice A3 L c3) := ⟨(d8.cell (p := ⟨bw, ow + pl, none⟩) (Nat.lt_of_lt_of_le hbw1 d7.size)).trans hS7.1, (d8.cell (p := ⟨bA, oA + i, none⟩) (Nat.lt_of_lt_of_le hbA1 d7.size)).trans hS7.2⟩
              have hb8 : Below B x3 y2 := hb7.trans (d8.mono (Nat.le_trans hsz d7.size))
              go_wp2_with fail
              refine hK.out _ _ hS8 (fun hHeld => ?_)
              clear hK K
              try simp only [Act.put, List.getElem_toArray, List.getElem_cons_succ, List.getElem_cons_zero, List.setIfInBounds_toArray, List.set_cons_zero, List.set_cons_succ]
              refine wpAnyH_take (i := 20) (v := .bool false) rfl (by kernel_rfl) (by kernel_rfl) (by kernel_rfl) (fun _ _ _ h => h) (Or.inl ⟨by kernel_rfl, ?_⟩) (by assumption) ?_
              · intro w hSw
                obtain ⟨hSa, hSb⟩ := hSw
                go_simp
              try simp only [Act.put, List.getElem_toArray, List.getElem_cons_succ, List.getElem_cons_zero, List.setIfInBounds_toArray, List.set_cons_zero, List.set_cons_succ]
              refine wpAnyH_take (i := 21) (v := .bool false) rfl (by kernel_rfl) (by kernel_rfl) (by kernel_rfl) (fun _ _ _ h => h) (Or.inl ⟨by kernel_rfl, ?_⟩) (by assumption) ?_
              · intro w hSw
                obtain ⟨hSa, hSb⟩ := hSw
                go_simp
              try simp only [Act.put, List.getElem_toArray, List.getElem_cons_succ, List.getElem_cons_zero, List.setIfInBounds_toArray, List.set_cons_zero, List.set_cons_succ]
              refine wpAnyH_done (by kernel_rfl) ?_ _
              go_wp2
              go_roundw
              case rel => exact ⟨i + 1, by omega, by go_num, hb8⟩
              case measure => simp [intOf]; omega
          · obtain ⟨ham, hsh⟩ := HW.out.short hst
            have HW2 := Lib.hid (HW.out.step hst)
            have hshI : ((ws.length : Nat) : Int) < (m : Int) := by omega
            have a1 : (0 : Int) ≤ (a : Int) := by omega
            have a2 : (a : Int) < (m : Int) := by omega
            have hsz : B ≤ wr.heap.size := by have := hbel.size; rw [← HB.out] at this; exact this
            have y9 := HCL.out a ham
            have hq1 := HQ.out a ham
            obtain ⟨y, hy⟩ : ∃ y, y = Do.lst m z1 st a := ⟨_, rfl⟩
            rw [← hy] at y9 HW2
            have hown2 := hown.below ((Below.refl wr.heap.size wr).alloc (Nat.le_refl _) (.cells #[.int .i64 (a : Int)] 3))
            have hql : ws.length + 1 ≤ 17592186044416 := by omega
            have hb2 := hbel.alloc hsz (.cells #[.int .i64 (a : Int)] 3)
            have HLEN : Hid ((ws ++ [(a : Int)]).length = ws.length + 1) := by show _ = _; simp
            obtain ⟨N, hN⟩ : ∃ N, N = ws.length := ⟨_, rfl⟩
            rw [← hN] at hshI hsh HLEN ⊢
            clear hy hown HW
            go_wp2_with fail
            refine (in2_yes (a : Int) 0 q _ (by omega) hq1).mono ?_
            rintro e x5 ⟨rfl, rfl⟩
            go_wp2_with (at_builtin; refine wpList_app _ rfl (.tmp 90) (.tmp 92) 29 rfl B 3 Try.underlying29 intInfo _ _ rfl hown2 (some ⟨wr.heap.size, 0, none⟩) 1 1 [(a : Int)] rfl (Rd.one _ _ _) hql (by simp; omega) ?_; intro v3 w3 hown3 hg3 hat3; have hb3 : Below B x3 w3 := hb2.grown hg3 (by simp; omega) (fun k hk => hown2.at_base k hk); have z9 := (hb3.cell (p := ⟨bL, oL + a, none⟩) hbL).trans y9)
            go_roundw
            case rel => exact ⟨_, _, rfl, by rw [HLEN.out]; go_num, HW2, hown3, hb3⟩
            case measure => simp [intOf]; omega
    · obtain rfl : i = m := by omega
      go_wp2
      go_ret
      exact ⟨rfl, HFIN.out.trans (hbel.mono hbw0)⟩

theorem walk (w : World) (a0 : Int) (w0 : (Lit.int .i64 a0).wf = true) (a1 : Option Addr) (n1 c1 : Nat) (z1 : List Gr.Ln) (w1 : RdP w w.heap.size a1 n1 c1 z1) (a2 : Int) (w2 : (Lit.int .i64 a2).wf = true) :
    Calls Try.prog 4 #[.int .i64 a0, .slice a1 n1 c1, .int .i64 a2] w fun e w' => e = .returned (.bool true) ∧ Below w.heap.size w w' := by
  by_cases h : Do.fcode a0 z1 a2 = 0
  · obtain ⟨h1, h2, h3⟩ := Do.fcode_zero.1 h
    obtain ⟨m, rfl⟩ : ∃ m : Nat, a0 = (m : Int) := ⟨a0.toNat, by omega⟩
    obtain ⟨st, rfl⟩ : ∃ st : Nat, a2 = (st : Int) := ⟨a2.toNat, by omega⟩
    exact good w m st a1 n1 c1 z1 w1 (by omega) h1
  · exact bad w a0 a1 n1 c1 z1 w1 a2 h

end Go.Proofs.Ytjcdnkbandagoaa.domLast
