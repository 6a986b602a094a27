/-
  Contracts of the reference's All and Between: whether all numbers lie between two bounds; how many lines join two points.
-/
import Derived.Test.YtibphofiaodnmaaDoorTrailX
import Derived.BigQuiet
namespace Go.Proofs.YtibphofiaodnmaaDoor
open Go.RowKit

set_option linter.unusedSimpArgs false
set_option linter.unusedVariables false

set_option maxHeartbeats 400000 in
/-- All, where all lie there -/
theorem All_in (A : Option Addr) (n c : Nat) (l : List Int) (a b : Int) (w : World) (hr : Rd w w.heap.size A n c l) (h : ∀ d ∈ l, a ≤ d ∧ d ≤ b) :
    Calls Tryd.prog 16 #[.slice A n c, .int .i64 a, .int .i64 b] w fun e w' => e = .returned (.bool true) ∧ w = w' := by
  have HX := Lib.hid hr.len
  have H := Lib.hid h
  clear h
  have hbig := hr.big
  go_enter Tryd.func16, Tryd.ntmps16
  go_wp2
  go_loop [7] (fun i => ∃ k : Nat, k ≤ n ∧ i = .int .i64 k) (fun i => n - (intOf i).toNat)
  case atStart => exact ⟨0, Nat.zero_le _, rfl⟩
  case round =>
    obtain ⟨k, hk, rfl⟩ := hrel
    by_cases hlt : k < n
    · obtain ⟨b1, o1, rfl, hb1, hc1⟩ := hr.at_ (by omega)
      have g1 := hc1 k hlt
      have hb := Lib.hid (H.out (l.getD k 0) (by simp [List.getD, show k < l.length by rw [HX.out]; exact hlt]))
      clear hc1
      generalize l.getD k 0 = p at g1 hb
      go_wp2_with fail
      refine (RefL.in_yes p a b _ hb.out.1 hb.out.2).mono ?_
      rintro e y ⟨rfl, rfl⟩
      go_wp2
      go_round
      case rel => exact ⟨k + 1, by omega, by go_num⟩
      case measure => simp [intOf]; omega
    · obtain rfl : k = n := by omega
      go_wp2
      go_ret
      exact ⟨rfl, rfl⟩

set_option maxRecDepth 100000 in
set_option maxHeartbeats 2000000 in
theorem Between_any (A : Option Addr) (n c : Nat) (ls : List Gr.Ln) (a b : Int) (w : World) (hr : RdP w w.heap.size A n c ls) (hsm : n ≤ 1048576) :
    Calls Tryd.prog 17 #[.slice A n c, .int .i64 a, .int .i64 b] w fun e w' => ∃ t : Nat, e = .returned (.int .i64 (t : Int)) ∧ Hid (t = ls.countP (Tl.jn a b)) ∧ w = w' := by
  have HX := Lib.hid hr.len
  go_enter Tryd.func17, Tryd.ntmps17
  go_wp2
  go_loop [7, 8] (fun s i => ∃ (k t : Nat), k ≤ n ∧ i = .int .i64 k ∧ s = .int .i64 t ∧ t ≤ k ∧ Hid (t = (ls.take k).countP (Tl.jn a b))) (fun _ i => n - (intOf i).toNat)
  case atStart => exact ⟨0, 0, Nat.zero_le _, rfl, rfl, Nat.le_refl _, by show _ = _; simp⟩
  case round =>
    obtain ⟨k, t, hk, rfl, rfl, htk, HT⟩ := hrel
    by_cases hlt : k < n
    · obtain ⟨b1, o1, rfl, hb1, hc1⟩ := hr.at_ (by omega)
      obtain ⟨g1, g2⟩ := hc1 k hlt
      clear hc1
      have hnx := take_cntP (p := Tl.jn a b) (show k < ls.length by rw [HX.out]; exact hlt)
      obtain ⟨⟨p, q⟩, hp⟩ : ∃ p, p = ls.getD k (0, 0) := ⟨_, rfl⟩
      rw [← hp] at g1 g2 hnx
      rw [← HT.out] at hnx
      simp only at g1 g2
      have HY : Hid ((((p == a) && (q == b)) || ((p == b) && (q == a))) = true → Hid (t + 1 = (ls.take (k + 1)).countP (Tl.jn a b))) := fun h => by
        show _ = _
        rw [hnx, if_pos (show Tl.jn a b (p, q) = true from h)]
      have HN : Hid ((((p == a) && (q == b)) || ((p == b) && (q == a))) = false → Hid (t = (ls.take (k + 1)).countP (Tl.jn a b))) := fun h => by
        show _ = _
        rw [hnx, if_neg (show ¬ Tl.jn a b (p, q) = true from fun h' => by rw [show Tl.jn a b (p, q) = false from h] at h'; cases h')]
        rfl
      clear hp hnx
      have k1 : (0 : Int) ≤ (k : Int) := by omega
      have k2 : (k : Int) < (n : Int) := by omega
      cases e0 : (p == a) with
      | true =>
        cases e1 : (q == b) with
        | true =>
          have hn := HY.out (by simp only [e0, e1]; rfl)
          go_wp2
          go_round
          case rel => exact ⟨k + 1, t + 1, by omega, by go_num, by go_num, by omega, hn⟩
          case measure => simp [intOf]; omega
        | false =>
          cases e2 : (p == b) with
          | true =>
            cases e3 : (q == a) with
            | true =>
              have hn := HY.out (by simp only [e0, e1, e2, e3]; rfl)
              go_wp2
              go_round
              case rel => exact ⟨k + 1, t + 1, by omega, by go_num, by go_num, by omega, hn⟩
              case measure => simp [intOf]; omega
            | false =>
              have hn := HN.out (by simp only [e0, e1, e2, e3]; rfl)
              go_wp2
              go_round
              case rel => exact ⟨k + 1, t, by omega, by go_num, rfl, by omega, hn⟩
              case measure => simp [intOf]; omega
          | false =>
            have hn := HN.out (by simp only [e0, e1, e2]; rfl)
            go_wp2
            go_round
            case rel => exact ⟨k + 1, t, by omega, by go_num, rfl, by omega, hn⟩
            case measure => simp [intOf]; omega
      | false =>
        cases e2 : (p == b) with
        | true =>
          cases e3 : (q == a) with
          | true =>
            have hn := HY.out (by simp only [e0, e2, e3]; rfl)
            go_wp2
            go_round
            case rel => exact ⟨k + 1, t + 1, by omega, by go_num, by go_num, by omega, hn⟩
            case measure => simp [intOf]; omega
          | false =>
            have hn := HN.out (by simp only [e0, e2, e3]; rfl)
            go_wp2
            go_round
            case rel => exact ⟨k + 1, t, by omega, by go_num, rfl, by omega, hn⟩
            case measure => simp [intOf]; omega
        | false =>
          have hn := HN.out (by simp only [e0, e2]; rfl)
          go_wp2
          go_round
          case rel => exact ⟨k + 1, t, by omega, by go_num, rfl, by omega, hn⟩
          case measure => simp [intOf]; omega
    · obtain rfl : k = n := by omega
      have hf : Hid (t = ls.countP (Tl.jn a b)) := by show _ = _; rw [HT.out, List.take_of_length_le (by rw [HX.out]; exact Nat.le_refl _)]
      go_wp2
      go_ret
      exact ⟨t, rfl, hf, rfl⟩

end Go.Proofs.YtibphofiaodnmaaDoor
