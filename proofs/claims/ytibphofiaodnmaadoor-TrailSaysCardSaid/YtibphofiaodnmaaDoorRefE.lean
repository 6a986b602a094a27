/-
  Contracts of the reference's Ends and lined: where an odd number of lines ends; whether all lines hang together with a point.
-/
import Derived.Test.YtibphofiaodnmaaDoorTrailD
import Derived.Test.YtibphofiaodnmaaDoorRefX
import Derived.Test.YtibphofiaodnmaaDoorRefBut
import Derived.BigQuiet
namespace Go.Proofs.YtibphofiaodnmaaDoor.RefT
open Go.RowKit

set_option linter.unusedSimpArgs false
set_option linter.unusedVariables false

set_option maxRecDepth 100000 in
set_option maxHeartbeats 1000000 in
theorem Ends_any (m : Nat) (A : Option Addr) (n c : Nat) (ls : List Gr.Ln) (w : World) (hr : RdP w w.heap.size A n c ls) (hm8 : m ≤ 8) (hn24 : n ≤ 24) :
    Calls Tryd.prog 8 #[.int .i64 (m : Int), .slice A n c] w fun e w' => ∃ v, e = .returned v ∧ Own w' w.heap.size 3 v (upL (Tl.ends m ls)) ∧ Below w.heap.size w w' := by
  have HX := Lib.hid hr.len
  go_enter Tryd.func8, Tryd.ntmps8
  go_wp2
  go_loopw [5, 6] (fun v iv wr => ∃ i : Nat, i ≤ m ∧ iv = .int .i64 (i : Int) ∧ Own wr w.heap.size 3 v (upL (Tl.endsTo ls i)) ∧ Below w.heap.size w wr) (fun _ iv _ => m - (intOf iv).toNat)
  case atStart => exact ⟨0, Nat.zero_le _, rfl, Own.nil _ _ _, Below.refl _ _⟩
  case round =>
    obtain ⟨i, him, rfl, hown, hbel⟩ := hrel
    have hsz := hbel.size
    obtain ⟨W, hW⟩ : ∃ W, W = wr := ⟨_, rfl⟩
    subst hW
    by_cases hlt : i < m
    · have ki1 : (0 : Int) ≤ (i : Int) := by omega
      have ki2 : (i : Int) < (m : Int) := by omega
      have hrw := hr.past hbel
      go_wp2
      go_loop [7, 8] (fun tv kv => ∃ k t : Nat, k ≤ n ∧ kv = .int .i64 (k : Int) ∧ tv = .int .i64 (t : Int) ∧ t ≤ k ∧ Hid (t = (ls.take k).countP (Tl.touch (i : Int)))) (fun _ kv => n - (intOf kv).toNat)
      case atStart => exact ⟨0, 0, Nat.zero_le _, rfl, rfl, Nat.le_refl _, by show _ = _; simp⟩
      case round =>
        obtain ⟨k, t, hk, rfl, rfl, htk, HT⟩ := hrel
        by_cases hlk : k < n
        · obtain ⟨b1, o1, rfl, hb1, hc1⟩ := hrw.at_ (by omega)
          obtain ⟨g1, g2⟩ := hc1 k hlk
          clear hc1
          have hnx := take_cntP (p := Tl.touch (i : Int)) (show k < ls.length by rw [HX.out]; exact hlk)
          obtain ⟨⟨p, q⟩, hp⟩ : ∃ p, p = ls.getD k (0, 0) := ⟨_, rfl⟩
          rw [← hp] at g1 g2 hnx
          rw [← HT.out] at hnx
          simp only at g1 g2
          have HY : Hid (((p == (i : Int)) || (q == (i : Int))) = true → Hid (t + 1 = (ls.take (k + 1)).countP (Tl.touch (i : Int)))) := fun h => by
            show _ = _
            rw [hnx, if_pos (show Tl.touch (i : Int) (p, q) = true from h)]
          have HN : Hid (((p == (i : Int)) || (q == (i : Int))) = false → Hid (t = (ls.take (k + 1)).countP (Tl.touch (i : Int)))) := fun h => by
            show _ = _
            rw [hnx, if_neg (show ¬ Tl.touch (i : Int) (p, q) = true from fun h' => by rw [show Tl.touch (i : Int) (p, q) = false from h] at h'; cases h')]
            rfl
          clear hp hnx
          have k1 : (0 : Int) ≤ (k : Int) := by omega
          have k2 : (k : Int) < (n : Int) := by omega
          cases e0 : (p == (i : Int)) with
          | true =>
            have hn := HY.out (by simp only [e0]; rfl)
            go_wp2
            go_round
            case rel => exact ⟨k + 1, t + 1, by omega, by go_num, by go_num, by omega, hn⟩
            case measure => simp [intOf]; omega
          | false =>
            cases e1 : (q == (i : Int)) with
            | true =>
              have hn := HY.out (by simp only [e0, e1]; rfl)
              go_wp2
              go_round
              case rel => exact ⟨k + 1, t + 1, by omega, by go_num, by go_num, by omega, hn⟩
              case measure => simp [intOf]; omega
            | false =>
              have hn := HN.out (by simp only [e0, e1]; rfl)
              go_wp2
              go_round
              case rel => exact ⟨k + 1, t, by omega, by go_num, rfl, by omega, hn⟩
              case measure => simp [intOf]; omega
        · obtain rfl : k = n := by omega
          have hT : Hid (t = ls.countP (Tl.touch (i : Int))) := by show _ = _; rw [HT.out, List.take_of_length_le (by rw [HX.out]; exact Nat.le_refl _)]
          by_cases ho : t % 2 = 1
          · have r1 : ((t : Int) % 2 == 1) = true := by simp; omega
            have r2 : ((t : Int).tmod 2 == 1) = true := by rw [Int.tmod_eq_emod_of_nonneg (by omega)]; exact r1
            have hnx : Hid (upL (Tl.endsTo ls (i + 1)) = upL (Tl.endsTo ls i) ++ [(i : Int)]) := by show _ = _; rw [Tl.endsTo_yes (by rw [← hT.out]; exact ho), upL_snoc]
            have hlen : Hid ((upL (Tl.endsTo ls i)).length ≤ 8) := by show _ ≤ _; rw [upL_len]; have := Tl.endsTo_len ls i; omega
            have hroom := hlen.out
            have hown2 := hown.below ((Below.refl _ _).alloc (Nat.le_refl _) (.cells #[.int .i64 (i : Int)] 3))
            have hbb := hbel.alloc hsz (.cells #[.int .i64 (i : Int)] 3)
            clear ho
            go_wp2_with (at_builtin; refine wpList_app _ rfl (.tmp 41) (.tmp 43) _ rfl w.heap.size 3 Tryd.underlying24 intInfo _ _ rfl hown2 _ 1 1 [(i : Int)] rfl (Rd.one _ _ _) (by omega) (by simp; omega) ?_; intro v3 w3 hown3 hg3 hat3)
            have hb3 := below_app hbb hown2 hg3 (by simp; omega)
            go_wp2
            go_roundw
            case rel => exact ⟨i + 1, by omega, by go_num, by rw [hnx.out]; exact hown3, hb3⟩
            case measure => simp [intOf]; omega
          · have r1 : ((t : Int) % 2 == 1) = false := by simp; omega
            have r2 : ((t : Int).tmod 2 == 1) = false := by rw [Int.tmod_eq_emod_of_nonneg (by omega)]; exact r1
            have hnx : Hid (upL (Tl.endsTo ls (i + 1)) = upL (Tl.endsTo ls i)) := by show _ = _; rw [Tl.endsTo_no (by rw [← hT.out]; exact ho)]
            clear ho
            go_wp2
            go_roundw
            case rel => exact ⟨i + 1, by omega, by go_num, by rw [hnx.out]; exact hown, hbel⟩
            case measure => simp [intOf]; omega
    · obtain rfl : i = m := by omega
      go_wp2
      go_ret
      exact ⟨_, rfl, hown, hbel⟩

set_option maxRecDepth 100000 in
set_option maxHeartbeats 1000000 in
theorem lined_ref (m x : Nat) (A : Option Addr) (n c : Nat) (ls : List Gr.Ln) (w : World) (hr : RdP w w.heap.size A n c ls) (h : Gr.code (m : Int) ls = 0) (hx : x < m) :
    Calls Tryd.prog 22 #[.int .i64 (m : Int), .slice A n c, .int .i64 (x : Int)] w fun e w' => ∃ t, e = .returned (.bool t) ∧ Hid (t = Tl.linedB m ls x) ∧ Below w.heap.size w w' := by
  have hm8 : m ≤ 8 := by have := (Gr.code_zero.1 h).2.1; omega
  have hn24 : n ≤ 24 := by have := (Gr.code_zero.1 h).2.2.1; have := hr.len; omega
  have H := Lib.hid h
  have HX := Lib.hid hr.len
  clear h
  have kx1 : (0 : Int) ≤ (x : Int) := by omega
  have kx2 : (x : Int) < (m : Int) := by omega
  go_enter Tryd.func22, Tryd.ntmps22
  go_wp2_with fail
  refine (RefF.Far_either m A n c ls _ hr (by omega) hm8).mono ?_
  rintro e w1 ⟨gb, cb, rfl, hd, hb1⟩
  have HCELL : Hid (∀ v, v < m → ∃ g o c, w1.cell? ⟨gb, x, none⟩ = some (.slice (some ⟨g, o, none⟩) m c) ∧ w1.cell? ⟨g, o + v, none⟩ = some (.int .i64 (Wa.dist m (Wa.nrow m ls) x v))) := fun v hv => RefF.far_cell hd hx hv
  have hr1 := hr.past hb1
  clear hd hr
  go_wp2
  go_loopw [8] (fun iv wr => ∃ k : Nat, k ≤ n ∧ iv = .int .i64 (k : Int) ∧ Hid (∀ i, i < k → 0 ≤ Wa.dist m (Wa.nrow m ls) x (ls.getD i (0, 0)).1.toNat) ∧ Below w1.heap.size w1 wr ∧ Hid (∀ p : Addr, wr.cell? p = w1.cell? p)) (fun iv _ => n - (intOf iv).toNat)
  case atStart => exact ⟨0, Nat.zero_le _, rfl, fun i h => by omega, Below.refl _ _, fun _ => rfl⟩
  case round =>
    obtain ⟨k, hk, rfl, HF, hbel, HSM⟩ := hrel
    have hbw := hb1.trans (hbel.mono hb1.size)
    by_cases hlt : k < n
    · obtain ⟨p, q, hpq, hp, hq, _⟩ := Tl.line_of H.out (i := k) (by rw [HX.out]; exact hlt)
      obtain ⟨b, o, rfl, hbb, hcc⟩ := hr1.at_ (by omega)
      have g0 := (HSM.out _).trans (hcc k hlt).1
      rw [hpq] at g0
      simp only at g0
      obtain ⟨g, o', c', f1, f2⟩ := HCELL.out p hp
      have f1 := (HSM.out _).trans f1
      have f2 := (HSM.out _).trans f2
      have HPQ : Hid ((ls.getD k (0, 0)).1.toNat = p) := by show _ = _; rw [hpq]; simp
      have HPM : Hid (ls.getD k (0, 0) ∈ ls) := by show _ ∈ _; simp [List.getD, show k < ls.length by rw [HX.out]; exact hlt]
      obtain ⟨y, hy⟩ : ∃ y, y = Wa.dist m (Wa.nrow m ls) x p := ⟨_, rfl⟩
      rw [← hy] at f2
      have HY := Lib.hid hy
      have k1 : (0 : Int) ≤ (k : Int) := by omega
      have k2 : (k : Int) < (n : Int) := by omega
      have k3 : (0 : Int) ≤ (p : Int) := by omega
      have k4 : (p : Int) < (m : Int) := by omega
      clear hcc hy hpq
      by_cases hn : y < 0
      · have hfin : Hid (false = Tl.linedB m ls x) := by
          show _ = _
          symm
          rw [← Bool.not_eq_true]
          intro hl
          unfold Tl.linedB at hl
          have := List.all_eq_true.1 hl _ HPM.out
          rw [HPQ.out, ← HY.out] at this
          simp at this
          omega
        go_wp2
        go_quiet (fail)
        go_wp2
        go_ret
        exact ⟨_, rfl, hfin, hbw.trans (Below.drewN' _ _ _)⟩
      · have hd : decide (y < 0) = false := by simpa using hn
        have hnx : Hid (∀ i, i < k + 1 → 0 ≤ Wa.dist m (Wa.nrow m ls) x (ls.getD i (0, 0)).1.toNat) := fun i hi => by
          rcases Nat.lt_or_ge i k with h1 | h1
          · exact HF.out i h1
          · have : i = k := by omega
            rw [this, HPQ.out, ← HY.out]
            omega
        go_wp2
        go_quiet (fail)
        go_wp2
        go_roundw
        case rel => exact ⟨k + 1, by omega, by go_num, hnx, hbel.trans (Below.drewN' _ _ _), HSM.out⟩
        case measure => simp [intOf]; omega
    · obtain rfl : k = n := by omega
      have hfin : Hid (true = Tl.linedB m ls x) := by
        show _ = _
        symm
        unfold Tl.linedB
        refine List.all_eq_true.2 fun p hp => ?_
        obtain ⟨i, hi, rfl⟩ := List.getElem_of_mem hp
        have := HF.out i (by rw [← HX.out]; exact hi)
        simp only [List.getD, hi, List.getElem?_eq_getElem, Option.getD_some] at this
        simpa using this
      go_wp2
      go_ret
      exact ⟨_, rfl, hfin, hbw⟩

end Go.Proofs.YtibphofiaodnmaaDoor.RefT
