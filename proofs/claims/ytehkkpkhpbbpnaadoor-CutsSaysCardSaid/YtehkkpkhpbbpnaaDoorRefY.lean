/-
  The reference's Far over all points but one, and its Between at one line.
-/
import Derived.Test.YtehkkpkhpbbpnaaDoorRefX
import Derived.Test.YtehkkpkhpbbpnaaDoorCutsB
namespace Go.Proofs.YtehkkpkhpbbpnaaDoor.RefF
open Go.RowKit

set_option linter.unusedSimpArgs false

theorem start_over {m : Nat} (ls : List Gr.Ln) (o : Nat) : Wf.Steps m (Dp.rmv (Wa.nrow m ls) o) (start ls true (o : Int)) := by
  intro i j hi hj
  unfold start
  have h : steps ls true (o : Int) i j = (Dp.rmv (Wa.nrow m ls) o i).contains j := by
    rw [Bool.eq_iff_iff, List.contains_iff_mem, Dp.mem_rmv, Wa.mem_nrow]
    unfold steps
    simp only [Bool.and_eq_true, Bool.not_eq_true', decide_eq_false_iff_not, Bool.true_and]
    constructor
    · rintro ⟨h1, h2, h3⟩
      exact ⟨fun e => h1 (by omega), fun e => h2 (by omega), hj, h3⟩
    · rintro ⟨h1, h2, _, h3⟩
      exact ⟨fun e => h1 (by omega), fun e => h2 (by omega), h3⟩
  rw [h]
theorem matF_over (m : Nat) (ls : List Gr.Ln) (o : Nat) : matF m m (Wf.dk (start ls true (o : Int)) m) = matF m m (fun i j => Wa.dist m (Dp.rmv (Wa.nrow m ls) o) i j) := by
  unfold matF
  refine List.map_congr_left fun i hi => rowF_congr fun j hj => ?_
  exact Wf.far_dist (start_base ls true (o : Int)) (Dp.rmv_ok (Wa.nrow_ok m ls) o) (start_over ls o) (by simpa using hi) hj
theorem Far_over (m : Nat) (A : Option Addr) (n c : Nat) (ls : List Gr.Ln) (o : Nat) (w : World) (hr : RdP w w.heap.size A n c ls) (hm1 : 1 ≤ m) (hm8 : m ≤ 8) :
    Calls Tryd.prog 5 #[.int .i64 (m : Int), .slice A n c, .bool true, .int .i64 (o : Int)] w fun e w' => ∃ gb cb, e = .returned (.slice (some ⟨gb, 0, none⟩) m cb) ∧
      RdR w' w'.heap.size (some ⟨gb, 0, none⟩) m cb (matF m m (fun i j => Wa.dist m (Dp.rmv (Wa.nrow m ls) o) i j)) ∧ Below w.heap.size w w' := by
  refine (Far_any m A n c ls true (o : Int) w hr hm1 hm8).mono ?_
  rintro e w' ⟨gb, cb, rfl, h2, h3⟩
  rw [matF_over] at h2
  exact ⟨gb, cb, rfl, h2, h3⟩
/-- a number of it -/
theorem far_cell {w : World} {gb cb m : Nat} {F : Nat → Nat → Int} (h : RdR w w.heap.size (some ⟨gb, 0, none⟩) m cb (matF m m F)) {i j : Nat} (hi : i < m) (hj : j < m) : ∃ g o c, w.cell? ⟨gb, i, none⟩ = some (.slice (some ⟨g, o, none⟩) m c) ∧ w.cell? ⟨g, o + j, none⟩ = some (.int .i64 (F i j)) := by
  obtain ⟨A', c', h1, h2⟩ := RdR_row h hi
  obtain ⟨g, o, rfl, _, hc⟩ := h2.at_ (by omega)
  have := hc j hj
  rw [rowF_at F i hj] at this
  exact ⟨g, o, c', h1, this⟩

set_option maxRecDepth 100000 in
set_option maxHeartbeats 1000000 in
/-- Between at one line -/
theorem Between_one {B : Nat} (A : Option Addr) (c : Nat) (p q a b : Int) (w : World) (hr : RdP w B A 1 c [(p, q)]) :
    Calls Tryd.prog 6 #[.slice A 1 c, .int .i64 a, .int .i64 b] w fun e w' => e = .returned (.int .i64 (if Dp.jn a b (p, q) = true then 1 else 0)) ∧ w = w' := by
  obtain ⟨b1, o1, rfl, hb1, hc1⟩ := hr.at_ (by omega)
  obtain ⟨g1, g2⟩ := hc1 0 (by omega)
  rw [Nat.zero_mul, Nat.add_zero] at g1 g2
  have g1 : w.cell? ⟨b1, o1, none⟩ = some (.int .i64 p) := g1
  have g2 : w.cell? ⟨b1, o1 + 1, none⟩ = some (.int .i64 q) := g2
  clear hc1 hr
  obtain ⟨r, hr⟩ : ∃ r : Int, r = if Dp.jn a b (p, q) = true then 1 else 0 := ⟨_, rfl⟩
  rw [← hr]
  have HY : Hid ((p = a ∧ q = b) ∨ (p = b ∧ q = a) → Hid (((1 : Nat) : Int) = r)) := fun h => by
    show _ = _
    rw [hr, if_pos (by unfold Dp.jn; simpa using h)]; rfl
  have HN : Hid (¬ (p = a ∧ q = b) → ¬ (p = b ∧ q = a) → Hid (((0 : Nat) : Int) = r)) := fun h1 h2 => by
    show _ = _
    rw [hr, if_neg (by unfold Dp.jn; simp only [Bool.or_eq_true, decide_eq_true_eq, Prod.mk.injEq]; rintro (h | h); exact h1 h; exact h2 h)]; rfl
  clear hr
  go_enter Tryd.func6, Tryd.ntmps6
  go_wp2
  go_loop [7, 8] (fun s i => ∃ (k t : Nat), k ≤ 1 ∧ i = .int .i64 k ∧ s = .int .i64 t ∧ t ≤ k ∧ Hid (k = 0 → t = 0) ∧ Hid (k = 1 → Hid ((t : Int) = r))) (fun _ i => 1 - (intOf i).toNat)
  case atStart => exact ⟨0, 0, Nat.zero_le _, rfl, rfl, Nat.le_refl _, fun _ => rfl, fun h => by omega⟩
  case round =>
    obtain ⟨k, t, hk, rfl, rfl, htk, H0, H1⟩ := hrel
    by_cases hlt : k < 1
    · obtain rfl : k = 0 := by omega
      obtain rfl : t = 0 := by omega
      clear H0 H1
      by_cases h0 : p = a
      · have e0 : (p == a) = true := by simpa using h0
        have E0 := Lib.hid h0
        clear h0
        by_cases h1 : q = b
        · have e1 : (q == b) = true := by simpa using h1
          have E1 := Lib.hid h1
          clear h1
          have hn := HY.out (.inl ⟨E0.out, E1.out⟩)
          go_wp2
          go_round
          case rel => exact ⟨1, 1, Nat.le_refl _, by go_num, by go_num, by omega, fun h => by omega, fun _ => hn⟩
          case measure => simp [intOf]
        · have e1 : (q == b) = false := by simpa using h1
          have E1 := Lib.hid h1
          clear h1
          by_cases h2 : p = b
          · have e2 : (p == b) = true := by simpa using h2
            have E2 := Lib.hid h2
            clear h2
            by_cases h3 : q = a
            · have e3 : (q == a) = true := by simpa using h3
              have E3 := Lib.hid h3
              clear h3
              have hn := HY.out (.inr ⟨E2.out, E3.out⟩)
              go_wp2
              go_round
              case rel => exact ⟨1, 1, Nat.le_refl _, by go_num, by go_num, by omega, fun h => by omega, fun _ => hn⟩
              case measure => simp [intOf]
            · have e3 : (q == a) = false := by simpa using h3
              have E3 := Lib.hid h3
              clear h3
              have hn := HN.out (fun h => E1.out h.2) (fun h => E3.out h.2)
              go_wp2
              go_round
              case rel => exact ⟨1, 0, Nat.le_refl _, by go_num, rfl, by omega, fun h => by omega, fun _ => hn⟩
              case measure => simp [intOf]
          · have e2 : (p == b) = false := by simpa using h2
            have E2 := Lib.hid h2
            clear h2
            have hn := HN.out (fun h => E1.out h.2) (fun h => E2.out h.1)
            go_wp2
            go_round
            case rel => exact ⟨1, 0, Nat.le_refl _, by go_num, rfl, by omega, fun h => by omega, fun _ => hn⟩
            case measure => simp [intOf]
      · have e0 : (p == a) = false := by simpa using h0
        have E0 := Lib.hid h0
        clear h0
        by_cases h2 : p = b
        · have e2 : (p == b) = true := by simpa using h2
          have E2 := Lib.hid h2
          clear h2
          by_cases h3 : q = a
          · have e3 : (q == a) = true := by simpa using h3
            have E3 := Lib.hid h3
            clear h3
            have hn := HY.out (.inr ⟨E2.out, E3.out⟩)
            go_wp2
            go_round
            case rel => exact ⟨1, 1, Nat.le_refl _, by go_num, by go_num, by omega, fun h => by omega, fun _ => hn⟩
            case measure => simp [intOf]
          · have e3 : (q == a) = false := by simpa using h3
            have E3 := Lib.hid h3
            clear h3
            have hn := HN.out (fun h => E0.out h.1) (fun h => E3.out h.2)
            go_wp2
            go_round
            case rel => exact ⟨1, 0, Nat.le_refl _, by go_num, rfl, by omega, fun h => by omega, fun _ => hn⟩
            case measure => simp [intOf]
        · have e2 : (p == b) = false := by simpa using h2
          have E2 := Lib.hid h2
          clear h2
          have hn := HN.out (fun h => E0.out h.1) (fun h => E2.out h.1)
          go_wp2
          go_round
          case rel => exact ⟨1, 0, Nat.le_refl _, by go_num, rfl, by omega, fun h => by omega, fun _ => hn⟩
          case measure => simp [intOf]
    · obtain rfl : k = 1 := by omega
      have hf := H1.out rfl
      go_wp2
      go_ret
      rw [← hf.out]
      exact ⟨rfl, rfl⟩

end Go.Proofs.YtehkkpkhpbbpnaaDoor.RefF
