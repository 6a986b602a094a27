/-
  Contracts of package graph: isVertex, closedUp, Check, the closures adjacency and pairs hand back, and slices.Contains at lines.
-/
import Derived.Test.YtojkjdccjomaaaaDoorBase
import Derived.Test.YtojkjdccjomaaaaDoorLibS
import Derived.Test.YtojkjdccjomaaaaDoorGraphL
import Derived.Laws.StructEq
import Derived.Laws.Cover2
namespace Go.Proofs.YtojkjdccjomaaaaDoor
open Go.RowKit

theorem lineInfo : (Tryd.prog.info? 50).map (fun i => (i.zero, i.size, i.bytes)) = some (some (.agg #[.int .i64 0, .int .i64 0]), 2, 16) := by kernel_rfl
theorem rowInfo : (Tryd.prog.info? 25).map (fun i => (i.zero, i.size, i.bytes)) = some (some (.slice none 0 0), 1, 24) := by kernel_rfl

theorem lineStood : Tryd.prog.stoodInHeld 50 = false := by kernel_rfl
theorem lineStruct : Tryd.prog.underlying 50 = some (.struct (Tryd.prog.fieldsOf 50)) := by kernel_rfl
@[go_sem] theorem lineGuard : Tryd.prog.eqGuardType Tryd.prog.depth 50 = false := by kernel_rfl
@[go_sem] theorem eqLine (a b c d : Int) (w : World) : (Op.equalIn 10000 50 (.agg #[.int .i64 a, .int .i64 b]) (.agg #[.int .i64 c, .int .i64 d])).run Tryd.prog w = .ok (a == c && b == d) w := by
  have u3 := Tryd.underlying3
  have a3 := Tryd.isAgg3
  have z3 := Tryd.sizeOf3
  rw [show (10000 : Nat) = 9999 + 1 from rfl, run_equalIn_struct w 9999 _ _ _ lineStruct lineStood]
  simp only [Program.fieldsOf, Tryd.underlying50]
  go_simp
  by_cases h1 : a = c <;> by_cases h2 : b = d <;> simp [h1, h2]

/-! ### isVertex, closedUp -/
theorem isVertex_yes (n v : Int) (w : World) (h1 : 0 ≤ v) (h2 : v < n) :
    Calls Tryd.prog 39 #[.int .i64 n, .int .i64 v] w fun e w' => e = .returned (.bool true) ∧ w = w' := by
  go_enter Tryd.func39, Tryd.ntmps39
  go_wp2
  go_ret
  exact ⟨rfl, rfl⟩
theorem isVertex_no (n v : Int) (w : World) (h : v < 0 ∨ n ≤ v) :
    Calls Tryd.prog 39 #[.int .i64 n, .int .i64 v] w fun e w' => e = .returned (.bool false) ∧ w = w' := by
  by_cases ha : v < 0
  · go_enter Tryd.func39, Tryd.ntmps39
    go_wp2
    go_ret
    exact ⟨rfl, rfl⟩
  · have h1 : 0 ≤ v := by omega
    have hd : decide (v < n) = false := by simp; omega
    clear h ha
    go_enter Tryd.func39, Tryd.ntmps39
    go_wp2
    go_ret
    exact ⟨rfl, rfl⟩

/-! ### slices.Index, slices.Contains -/
theorem has_drop {ls : List Gr.Ln} {k : Nat} {a b : Int} (hk : k < ls.length) (x : Gr.Ln) (hx : x = ls.getD k (0, 0)) (h : ¬ x = (a, b)) : (ls.drop k).contains (a, b) = (ls.drop (k + 1)).contains (a, b) := by
  subst hx
  rw [List.drop_eq_getElem_cons hk]
  simp only [List.getD, hk, List.getElem?_eq_getElem, Option.getD_some] at h
  simp only [List.contains_cons]
  have : ((a, b) == ls[k]) = false := by simp only [beq_eq_false_iff_ne, ne_eq]; exact fun e => h e.symm
  rw [this, Bool.false_or]
theorem has_at {ls : List Gr.Ln} {k : Nat} {a b : Int} (hk : k < ls.length) (x : Gr.Ln) (hx : x = ls.getD k (0, 0)) (h : x = (a, b)) : Gr.has ls a b = true := by
  subst hx
  simp only [List.getD, hk, List.getElem?_eq_getElem, Option.getD_some] at h
  rw [Gr.has_iff, ← h]
  exact List.getElem_mem hk

set_option maxHeartbeats 400000 in
theorem Index_any (A : Option Addr) (n c : Nat) (ls : List Gr.Ln) (a b : Int) (w : World) (hr : RdP w w.heap.size A n c ls) :
    Calls Tryd.prog 49 #[.slice A n c, .agg #[.int .i64 a, .int .i64 b]] w fun e w' => (∃ r : Int, e = .returned (.int .i64 r) ∧ Hid (decide (0 ≤ r) = Gr.has ls a b)) ∧ Below w.heap.size w w' := by
  have HX := Lib.hid hr.len
  have hbig := hr.big
  go_enter Tryd.func49, Tryd.ntmps49
  go_wp2
  obtain ⟨w1, hw1⟩ : ∃ w1, w1 = w.alloc (.cells #[.int .i64 a, .int .i64 b] 50) := ⟨_, rfl⟩
  have hb1 : Below w.heap.size w w1 := by rw [hw1]; exact (Below.refl _ _).alloc (Nat.le_refl _) _
  have hc1 : w1.cell? ⟨w.heap.size, 0, none⟩ = some (.int .i64 a) := by rw [hw1]; simp
  have hc2 : w1.cell? ⟨w.heap.size, 1, none⟩ = some (.int .i64 b) := by rw [hw1]; simp
  have hs1 : w.heap.size < w1.heap.size := by rw [hw1]; simp
  rw [← hw1]
  clear hw1
  go_loopw [5, 8] (fun _ i wr => ∃ k : Nat, k ≤ n ∧ i = .int .i64 k ∧ Below w1.heap.size w1 wr ∧ Hid (Gr.has ls a b = (ls.drop k).contains (a, b))) (fun _ i _ => n - (intOf i).toNat)
  case atStart => exact ⟨0, Nat.zero_le _, rfl, Below.refl _ _, by show _ = _; simp [Gr.has]⟩
  case round =>
    obtain ⟨k, hk, rfl, hbel, H⟩ := hrel
    have d1 : wr.cell? ⟨w.heap.size, 0, none⟩ = some (.int .i64 a) := (hbel.cell (by exact hs1)).trans hc1
    have d2 : wr.cell? ⟨w.heap.size, 1, none⟩ = some (.int .i64 b) := (hbel.cell (by exact hs1)).trans hc2
    by_cases hlt : k < n
    · obtain ⟨b1, o1, rfl, hbb, hcc⟩ := hr.at_ (by omega)
      obtain ⟨x, y⟩ := hcc k hlt
      have g1 : wr.cell? ⟨b1, o1 + k * 2, none⟩ = some (.int .i64 (ls.getD k (0, 0)).1) := (hbel.cell (by show b1 < _; omega)).trans ((hb1.cell (by exact hbb)).trans x)
      have g2 : wr.cell? ⟨b1, o1 + k * 2 + 1, none⟩ = some (.int .i64 (ls.getD k (0, 0)).2) := (hbel.cell (by show b1 < _; omega)).trans ((hb1.cell (by exact hbb)).trans y)
      clear hcc x y
      obtain ⟨⟨p, q⟩, hp⟩ : ∃ p, p = ls.getD k (0, 0) := ⟨_, rfl⟩
      rw [← hp] at g1 g2
      have HP := Lib.hid hp
      clear hp
      simp only at g1 g2
      by_cases he : a = p ∧ b = q
      · obtain ⟨rfl, rfl⟩ := he
        have hfin : Hid (Gr.has ls a b = true) := by show _ = _; exact has_at (by rw [HX.out]; exact hlt) _ HP.out rfl
        go_wp2
        go_quiet (fail)
        go_wp2
        go_ret
        exact ⟨⟨_, rfl, by show _ = _; rw [hfin.out]; simp⟩, hb1.trans ((hbel.trans (Below.drewN' _ _ _)).mono hb1.size)⟩
      · have hnext : Hid (Gr.has ls a b = (ls.drop (k + 1)).contains (a, b)) := by
          show _ = _
          rw [H.out, has_drop (by rw [HX.out]; exact hlt) _ HP.out (by intro e; simp only [Prod.mk.injEq] at e; exact he ⟨e.1.symm, e.2.symm⟩)]
        by_cases hap : a = p
        · subst hap
          have hd : (b == q) = false := by simpa using he
          clear he
          go_wp2
          go_quiet (fail)
          go_wp2
          go_roundw
          case rel => exact ⟨k + 1, by omega, by go_num, hbel.trans (Below.drewN' _ _ _), hnext⟩
          case measure => simp [intOf]; omega
        · have hd : (a == p) = false := by simpa using hap
          clear he hap
          go_wp2
          go_quiet (fail)
          go_wp2
          go_roundw
          case rel => exact ⟨k + 1, by omega, by go_num, hbel.trans (Below.drewN' _ _ _), hnext⟩
          case measure => simp [intOf]; omega
    · have hfin : Hid (Gr.has ls a b = false) := by
        show _ = _
        rw [H.out, List.drop_eq_nil_of_le (by rw [HX.out]; omega)]; rfl
      go_wp2
      go_ret
      exact ⟨⟨_, rfl, by show _ = _; rw [hfin.out]; rfl⟩, hb1.trans (hbel.mono hb1.size)⟩

end Go.Proofs.YtojkjdccjomaaaaDoor
