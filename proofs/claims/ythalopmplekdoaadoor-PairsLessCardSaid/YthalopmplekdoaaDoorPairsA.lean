/-
  Contracts of package pairs: isVariable, Check, negation, place.
-/
import Derived.Test.YthalopmplekdoaaDoorLibO
import Derived.Test.YthalopmplekdoaaDoorPairsQ
import Derived.Test.YthalopmplekdoaaDoorBase
import Derived.Deep.WholeRow
import Derived.Laws.Rows
namespace Go.Proofs.YthalopmplekdoaaDoor
open Go.RowKit

attribute [local go_sem] Oper.semAt_some
set_option linter.unusedSimpArgs false
set_option linter.unusedVariables false

theorem isVar_yes (n x : Int) (w : World) (h0 : 0 ≤ x) (h1 : x < n) :
    Calls Tryd.prog 20 #[.int .i64 n, .int .i64 x] w fun e w' => e = .returned (.bool true) ∧ w = w' := by
  go_enter Tryd.func20, Tryd.ntmps20
  go_wp2
  go_ret
  exact ⟨rfl, rfl⟩
theorem isVar_no (n x : Int) (w : World) (h : x < 0 ∨ n ≤ x) :
    Calls Tryd.prog 20 #[.int .i64 n, .int .i64 x] w fun e w' => e = .returned (.bool false) ∧ w = w' := by
  by_cases ha : x < 0
  · have hd : decide (0 ≤ x) = false := by simp; omega
    go_enter Tryd.func20, Tryd.ntmps20
    go_wp2
    go_ret
    exact ⟨rfl, rfl⟩
  · have h1 : 0 ≤ x := by omega
    have hd : decide (x < n) = false := by simp; omega
    clear h ha
    go_enter Tryd.func20, Tryd.ntmps20
    go_wp2
    go_ret
    exact ⟨rfl, rfl⟩

set_option maxRecDepth 100000 in
set_option maxHeartbeats 1000000 in
theorem PCheck_any (n : Int) (A : Option Addr) (k c : Nat) (cs : List Or2) (w : World) (hr : RdO w w.heap.size A k c cs) :
    Calls Tryd.prog 9 #[.int .i64 n, .slice A k c] w fun e w' => e = .returned (errOf (Pa.code n cs)) ∧ Below w.heap.size w w' := by
  have HX := Lib.hid hr.len
  have hbig := hr.big
  by_cases h1 : n < 1
  · have hfin : Hid (Pa.code n cs = 1) := Pa.code_range (.inl h1)
    go_enter Tryd.func9, Tryd.ntmps9
    go_wp2
    go_ret
    exact ⟨by rw [hfin.out]; rfl, Below.refl _ _⟩
  by_cases h4 : 4 < n
  · have hfin : Hid (Pa.code n cs = 1) := Pa.code_range (.inr h4)
    go_enter Tryd.func9, Tryd.ntmps9
    go_wp2
    go_ret
    exact ⟨by rw [hfin.out]; rfl, Below.refl _ _⟩
  by_cases h20 : 20 < k
  · have hfin : Hid (Pa.code n cs = 4) := Pa.code_full (by omega) (by rw [HX.out]; exact h20)
    go_enter Tryd.func9, Tryd.ntmps9
    go_wp2
    go_ret
    exact ⟨by rw [hfin.out]; rfl, Below.refl _ _⟩
  have h0 : Hid (∀ i : Nat, i < 0 → Pa.fits n (cs.getD i or0) = true) := fun i hi => by omega
  go_enter Tryd.func9, Tryd.ntmps9
  go_wp2
  go_loopw [6, 20] (fun _ i wr => ∃ j : Nat, j ≤ k ∧ i = .int .i64 j ∧ Below w.heap.size w wr ∧ Hid (∀ i : Nat, i < j → Pa.fits n (cs.getD i or0) = true)) (fun _ i _ => k - (intOf i).toNat)
  case atStart => exact ⟨0, Nat.zero_le _, rfl, Below.refl _ _, h0⟩
  case round =>
    clear h0
    obtain ⟨j, hj, rfl, hbel, H⟩ := hrel
    by_cases hlt : j < k
    · obtain ⟨b1, o1, rfl, hbb, hcc⟩ := hr.at_ (by omega)
      obtain ⟨x0, x1, x2, x3⟩ := hcc j hlt
      have g0 : wr.cell? ⟨b1, o1 + j * 4, none⟩ = some (.int .i64 (cs.getD j or0).1.1) := (hbel.cell (by exact hbb)).trans x0
      have g1 : wr.cell? ⟨b1, o1 + j * 4 + 1, none⟩ = some (.bool (cs.getD j or0).1.2) := (hbel.cell (by exact hbb)).trans x1
      have g2 : wr.cell? ⟨b1, o1 + j * 4 + 2, none⟩ = some (.int .i64 (cs.getD j or0).2.1) := (hbel.cell (by exact hbb)).trans x2
      have g3 : wr.cell? ⟨b1, o1 + j * 4 + 3, none⟩ = some (.bool (cs.getD j or0).2.2) := (hbel.cell (by exact hbb)).trans x3
      clear hcc x0 x1 x2 x3
      have hmem : Hid (cs.getD j or0 ∈ cs) := by
        show _ ∈ _
        have : j < cs.length := by rw [HX.out]; exact hlt
        simp [List.getD, this]
      obtain ⟨⟨⟨a, s⟩, ⟨b, t⟩⟩, hp⟩ : ∃ p, p = cs.getD j or0 := ⟨_, rfl⟩
      rw [← hp] at g0 g1 g2 g3 hmem
      have HP := Lib.hid hp
      clear hp
      simp only at g0 g1 g2 g3
      have hsz := hbel.size
      have hb2 : Below w.heap.size w (wr.alloc (.cells #[.int .i64 a, .bool s, .int .i64 b, .bool t] 43)) := hbel.alloc hsz _
      by_cases ha : a < 0 ∨ n ≤ a
      · have hfin : Hid (Pa.code n cs = 1) := Pa.code_name (by omega) (by rw [HX.out]; exact h20) hmem.out (by unfold Pa.fits Pa.isName; simp; omega)
        go_wp2_with fail
        refine (isVar_no n a _ ha).mono ?_
        rintro e w1 ⟨rfl, rfl⟩
        go_wp2
        go_ret
        exact ⟨by rw [hfin.out]; rfl, hb2⟩
      · by_cases hb : b < 0 ∨ n ≤ b
        · have hfin : Hid (Pa.code n cs = 1) := Pa.code_name (by omega) (by rw [HX.out]; exact h20) hmem.out (by unfold Pa.fits Pa.isName; simp; omega)
          go_wp2_with fail
          refine (isVar_yes n a _ (by omega) (by omega)).mono ?_
          rintro e w1 ⟨rfl, rfl⟩
          go_wp2_with fail
          refine (isVar_no n b _ hb).mono ?_
          rintro e w1 ⟨rfl, rfl⟩
          go_wp2
          go_ret
          exact ⟨by rw [hfin.out]; rfl, hb2⟩
        · have hnext : Hid (∀ i : Nat, i < j + 1 → Pa.fits n (cs.getD i or0) = true) := by
            intro i hi
            by_cases e : i = j
            · rw [e, ← HP.out]; unfold Pa.fits Pa.isName; simp; omega
            · exact H.out i (by omega)
          go_wp2_with fail
          refine (isVar_yes n a _ (by omega) (by omega)).mono ?_
          rintro e w1 ⟨rfl, rfl⟩
          go_wp2_with fail
          refine (isVar_yes n b _ (by omega) (by omega)).mono ?_
          rintro e w1 ⟨rfl, rfl⟩
          go_wp2
          go_roundw
          case rel => exact ⟨j + 1, by omega, by go_num, hb2, hnext⟩
          case measure => simp [intOf]; omega
    · have hfin : Hid (Pa.code n cs = 0) := by
        refine Pa.code_zero.2 ⟨by omega, by omega, by rw [HX.out]; omega, fun c hc => ?_⟩
        obtain ⟨i, hi, e⟩ := List.mem_iff_getElem.1 hc
        have := H.out i (by rw [HX.out] at hi; omega)
        rw [← e]
        simpa [List.getD, hi] using this
      go_wp2
      go_ret
      exact ⟨by rw [hfin.out]; rfl, hbel⟩

theorem PCheck_nil (n : Int) (A : Option Addr) (k c : Nat) (cs : List Or2) (w : World) (hr : RdO w w.heap.size A k c cs) (h : Pa.code n cs = 0) :
    Calls Tryd.prog 9 #[.int .i64 n, .slice A k c] w fun e w' => e = .returned .nilIface ∧ Below w.heap.size w w' :=
  (PCheck_any n A k c cs w hr).mono fun e w' he => ⟨he.1.trans (by rw [errOf_zero h]), he.2⟩
theorem PCheck_err (n : Int) (A : Option Addr) (k c : Nat) (cs : List Or2) (w : World) (hr : RdO w w.heap.size A k c cs) (h : Pa.code n cs ≠ 0) :
    Calls Tryd.prog 9 #[.int .i64 n, .slice A k c] w fun e w' => e = .returned (errv (Pa.code n cs)) ∧ Below w.heap.size w w' :=
  (PCheck_any n A k c cs w hr).mono fun e w' he => ⟨he.1.trans (by rw [errOf_pos h]), he.2⟩

theorem negation_any (a : Int) (s : Bool) (w : World) :
    Calls Tryd.prog 23 #[.agg #[.int .i64 a, .bool s]] w fun e w' => e = .returned (.agg #[.int .i64 a, .bool (!s)]) ∧ Below w.heap.size w w' := by
  have hb1 : Below w.heap.size w (w.alloc (.cells #[.int .i64 a, .bool s] 41)) := (Below.refl _ _).alloc (Nat.le_refl _) _
  go_enter Tryd.func23, Tryd.ntmps23
  go_wp2
  refine bodyPost_ret (results_cell_row rfl _ _ (w.heap.size + 1) _ _ _ _ rfl (heap_alloc2_new w _ _) Tryd.underlying41 rfl (by kernel_rfl)) rfl ?_
  exact ⟨rfl, hb1.alloc hb1.size _⟩

theorem place_any (a : Int) (s : Bool) (w : World) (h0 : 0 ≤ a) (h4 : a < 4) :
    Calls Tryd.prog 28 #[.agg #[.int .i64 a, .bool s]] w fun e w' => e = .returned (.int .i64 ((Pa.pl (a, s) : Nat) : Int)) ∧ Below w.heap.size w w' := by
  have hb1 : Below w.heap.size w (w.alloc (.cells #[.int .i64 a, .bool s] 41)) := (Below.refl _ _).alloc (Nat.le_refl _) _
  cases s
  · have hfin : Hid (((Pa.pl (a, false) : Nat) : Int) = a) := by show _ = _; unfold Pa.pl; simp; omega
    go_enter Tryd.func28, Tryd.ntmps28
    go_wp2
    go_ret
    exact ⟨by rw [hfin.out]; rfl, hb1⟩
  · have hfin : Hid (((Pa.pl (a, true) : Nat) : Int) = 4 + a) := by show _ = _; unfold Pa.pl; simp; omega
    have hw : IntKind.i64.wrap (4 + a) = 4 + a := by rw [IntKind.wrap_i64]; omega
    go_enter Tryd.func28, Tryd.ntmps28
    go_wp2
    go_ret
    exact ⟨by rw [hfin.out]; rfl, hb1⟩

end Go.Proofs.YthalopmplekdoaaDoor
