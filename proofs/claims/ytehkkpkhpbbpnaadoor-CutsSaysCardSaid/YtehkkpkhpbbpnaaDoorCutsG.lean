/-
  Contract of edgesBetween of package cuts: how many lines join two points.
-/
import Derived.Test.YtehkkpkhpbbpnaaDoorCutsA
import Derived.Test.YtehkkpkhpbbpnaaDoorCutsT
import Derived.RangeFuncBox
import Derived.Deep.RegionHeld3
namespace Go.Proofs.YtehkkpkhpbbpnaaDoor
open Go.RowKit

set_option linter.unusedSimpArgs false

theorem take_count {ls : List Gr.Ln} {p : Gr.Ln → Bool} {k : Nat} (hk : k < ls.length) : (ls.take (k + 1)).countP p = (ls.take k).countP p + if p (ls.getD k (0, 0)) = true then 1 else 0 := by
  rw [List.take_succ_eq_append_getElem hk, List.countP_append, List.countP_singleton]
  simp [List.getD, hk]

set_option maxRecDepth 100000 in
set_option maxHeartbeats 1000000 in
/-- how many lines join the two -/
theorem edges_any (A : Option Addr) (n c : Nat) (ls : List Gr.Ln) (a b : Int) (w : World) (hr : RdP w w.heap.size A n c ls) (hsm : n ≤ 1048576) :
    Calls Tryd.prog 20 #[.slice A n c, .int .i64 a, .int .i64 b] w fun e w' => e = .returned (.int .i64 ((ls.countP (Dp.jn a b) : Nat) : Int)) ∧ Below w.heap.size w w' := by
  have hl := hr.len
  have HX := Lib.hid hl
  clear hl
  go_enter Tryd.func20, Tryd.ntmps20
  go_wp2
  go_loopw [7, 12] (fun v i wr => ∃ j t : Nat, j ≤ n ∧ i = .int .i64 j ∧ v = .int .i64 t ∧ t ≤ j ∧ Hid (t = (ls.take j).countP (Dp.jn a b)) ∧ Below w.heap.size w wr) (fun _ i _ => n - (intOf i).toNat)
  case atStart => exact ⟨0, 0, Nat.zero_le _, rfl, rfl, Nat.le_refl _, by show _ = _; simp, Below.refl _ _⟩
  case round =>
    obtain ⟨j, t, hj, rfl, rfl, htj, HT, hbel⟩ := hrel
    by_cases hlt : j < n
    · obtain ⟨b1, o1, rfl, hbw, hcc⟩ := (hr.below hbel).at_ (by omega)
      obtain ⟨g1, g2⟩ := hcc j hlt
      clear hcc
      have hnx := take_count (p := Dp.jn a b) (show j < ls.length by rw [HX.out]; exact hlt)
      obtain ⟨⟨p, q⟩, hp⟩ : ∃ p, p = ls.getD j (0, 0) := ⟨_, rfl⟩
      rw [← hp] at g1 g2 hnx
      simp only at g1 g2
      have HN := Lib.hid hnx
      clear hp hnx
      have k1 : (0 : Int) ≤ (j : Int) := by omega
      have k2 : (j : Int) < (n : Int) := by omega
      have hbel2 := hbel.alloc hbel.size (.cells #[.int .i64 p, .int .i64 q] 30)
      have kw : IntKind.i64.wrap ((t : Int) + 1) = ((t + 1 : Nat) : Int) := by rw [IntKind.wrap_i64]; omega
      have HY : Hid ((p = a ∧ q = b) ∨ (p = b ∧ q = a) → Hid (t + 1 = (ls.take (j + 1)).countP (Dp.jn a b))) := fun h => by
        show _ = _
        rw [HN.out, HT.out, if_pos (by unfold Dp.jn; simpa using h)]
      have HN2 : Hid (¬ (p = a ∧ q = b) → ¬ (p = b ∧ q = a) → Hid (t = (ls.take (j + 1)).countP (Dp.jn a b))) := fun h1 h2 => by
        show _ = _
        rw [HN.out, HT.out, if_neg (by unfold Dp.jn; simp only [Bool.or_eq_true, decide_eq_true_eq, Prod.mk.injEq]; rintro (h | h); exact h1 h; exact h2 h)]
        rfl
      by_cases h0 : p = a
      · have e0 : (p == a) = true := by simpa using h0
        have E0 := Lib.hid h0
        clear h0
        by_cases h1 : q = b
        · have e1 : (q == b) = true := by simpa using h1
          have E1 := Lib.hid h1
          clear h1
          have hn := HY.out (by exact .inl ⟨E0.out, E1.out⟩)
          go_wp2
          go_roundw
          case rel => exact ⟨j + 1, t + 1, by omega, by go_num, by go_num, by omega, hn, hbel2⟩
          case measure => simp [intOf]; omega
        · have e1 : (q == b) = false := by simpa using h1
          have E1 := Lib.hid h1
          clear h1
          by_cases h2 : p = b
          · have e2 : (p == b) = true := by simpa using h2
            have E2 := Lib.hid h2
            clear h2
            by_cases h3 : q = a
            · have e3 : (q == a) = true := by simpa using h3
              have E3 := Lib.hid h3
              clear h3
              have hn := HY.out (by exact .inr ⟨E2.out, E3.out⟩)
              go_wp2
              go_roundw
              case rel => exact ⟨j + 1, t + 1, by omega, by go_num, by go_num, by omega, hn, hbel2⟩
              case measure => simp [intOf]; omega
            · have e3 : (q == a) = false := by simpa using h3
              have E3 := Lib.hid h3
              clear h3
              have hn := HN2.out (fun h => E1.out h.2) (fun h => E3.out h.2)
              go_wp2
              go_roundw
              case rel => exact ⟨j + 1, t, by omega, by go_num, rfl, by omega, hn, hbel2⟩
              case measure => simp [intOf]; omega
          · have e2 : (p == b) = false := by simpa using h2
            have E2 := Lib.hid h2
            clear h2
            have hn := HN2.out (fun h => E1.out h.2) (fun h => E2.out h.1)
            go_wp2
            go_roundw
            case rel => exact ⟨j + 1, t, by omega, by go_num, rfl, by omega, hn, hbel2⟩
            case measure => simp [intOf]; omega
      · have e0 : (p == a) = false := by simpa using h0
        have E0 := Lib.hid h0
        clear h0
        by_cases h2 : p = b
        · have e2 : (p == b) = true := by simpa using h2
          have E2 := Lib.hid h2
          clear h2
          by_cases h3 : q = a
          · have e3 : (q == a) = true := by simpa using h3
            have E3 := Lib.hid h3
            clear h3
            have hn := HY.out (by exact .inr ⟨E2.out, E3.out⟩)
            go_wp2
            go_roundw
            case rel => exact ⟨j + 1, t + 1, by omega, by go_num, by go_num, by omega, hn, hbel2⟩
            case measure => simp [intOf]; omega
          · have e3 : (q == a) = false := by simpa using h3
            have E3 := Lib.hid h3
            clear h3
            have hn := HN2.out (fun h => E0.out h.1) (fun h => E3.out h.2)
            go_wp2
            go_roundw
            case rel => exact ⟨j + 1, t, by omega, by go_num, rfl, by omega, hn, hbel2⟩
            case measure => simp [intOf]; omega
        · have e2 : (p == b) = false := by simpa using h2
          have E2 := Lib.hid h2
          clear h2
          have hn := HN2.out (fun h => E0.out h.1) (fun h => E2.out h.1)
          go_wp2
          go_roundw
          case rel => exact ⟨j + 1, t, by omega, by go_num, rfl, by omega, hn, hbel2⟩
          case measure => simp [intOf]; omega
    · obtain rfl : j = n := by omega
      have hfin : Hid (t = ls.countP (Dp.jn a b)) := by
        show _ = _
        rw [HT.out, List.take_of_length_le (by rw [HX.out]; exact Nat.le_refl _)]
      go_wp2
      go_ret
      rw [hfin.out]
      exact ⟨rfl, hbel⟩

end Go.Proofs.YtehkkpkhpbbpnaaDoor
