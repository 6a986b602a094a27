/-
  Contracts of slices.Contains at lines, of the closures of package graph, of adjacency and pairs, and of Check.
-/
import Derived.Test.YtojkjdccjomaaaaDoorGraphA
namespace Go.Proofs.YtojkjdccjomaaaaDoor
open Go.RowKit

theorem Contains_any (A : Option Addr) (n c : Nat) (ls : List Gr.Ln) (a b : Int) (t : Bool) (w : World) (hr : RdP w w.heap.size A n c ls) (ht : Gr.has ls a b = t) :
    Calls Tryd.prog 42 #[.slice A n c, .agg #[.int .i64 a, .int .i64 b]] w fun e w' => e = .returned (.bool t) ∧ Below w.heap.size w w' := by
  have H := Lib.hid ht
  clear ht
  have hbel : Below w.heap.size w (w.alloc (.cells #[.int .i64 a, .int .i64 b] 50)) := (Below.refl _ _).alloc (Nat.le_refl _) _
  go_enter Tryd.func42, Tryd.ntmps42
  go_wp2_with fail
  refine (Index_any A n c ls a b _ (hr.past hbel)).mono ?_
  rintro e w1 ⟨⟨r, rfl, hd⟩, hb⟩
  have hb' := hbel.trans (hb.mono hbel.size)
  have hdr : Hid (decide (0 ≤ r) = t) := by show _ = _; rw [hd.out, H.out]
  clear hd
  go_wp2
  go_ret
  exact ⟨by show Ending.returned (.bool (decide (0 ≤ r))) = _; rw [hdr.out], hb'⟩

/-- the closure of adjacency, which has captured the box L of the lines -/
theorem adj1_any (L : Nat) (A : Option Addr) (n c : Nat) (ls : List Gr.Ln) (a b : Int) (t : Bool) (w : World) (hL : w.cell? ⟨L, 0, none⟩ = some (.slice A n c)) (hr : RdP w w.heap.size A n c ls) (ht : Gr.adj ls a b = t) :
    Calls Tryd.prog 41 #[.int .i64 a, .int .i64 b, .pointer (some ⟨L, 0, none⟩)] w fun e w' => e = .returned (.bool t) ∧ Below w.heap.size w w' := by
  cases h1 : Gr.has ls a b
  · have h2 : Gr.has ls b a = t := by rw [← ht]; unfold Gr.adj; rw [h1]; rfl
    clear ht
    have H1 := Lib.hid h1
    have H2 := Lib.hid h2
    clear h1 h2
    go_enter Tryd.func41, Tryd.ntmps41
    go_wp2_with fail
    refine (Contains_any A n c ls a b false _ hr H1.out).mono ?_
    rintro e w1 ⟨rfl, hb⟩
    have hL1 : w1.cell? ⟨L, 0, none⟩ = some (.slice A n c) := (hb.cell (World.block_lt_of_cell? w _ hL)).trans hL
    go_wp2_with fail
    refine (Contains_any A n c ls b a t _ (hr.past hb) H2.out).mono ?_
    rintro e w2 ⟨rfl, hb2⟩
    go_wp2
    go_ret
    exact ⟨rfl, hb.trans (hb2.mono hb.size)⟩
  · have h2 : Hid (t = true) := by show _ = _; rw [← ht]; unfold Gr.adj; rw [h1]; rfl
    clear ht
    have H1 := Lib.hid h1
    clear h1
    go_enter Tryd.func41, Tryd.ntmps41
    go_wp2_with fail
    refine (Contains_any A n c ls a b true _ hr H1.out).mono ?_
    rintro e w1 ⟨rfl, hb⟩
    go_wp2
    go_ret
    exact ⟨by rw [h2.out]; rfl, hb⟩


theorem adjacency_any (A : Option Addr) (n c : Nat) (w : World) :
    Calls Tryd.prog 32 #[.slice A n c] w fun e w' => e = .returned (.func (.func 41) #[] #[.pointer (some ⟨w.heap.size, 0, none⟩)]) ∧ w' = w.alloc (.cells #[.slice A n c] 22) := by
  have hmf : ∀ (fn : Fn) (first cap : Array Value) (w : World), (Instr.makeFunc fn first cap).run Tryd.prog w = .ok (.func fn first cap) w := fun _ _ _ _ => rfl
  go_enter Tryd.func32, Tryd.ntmps32
  go_wp2
  go_ret
  exact ⟨rfl, rfl⟩

theorem pairs_any (n : Int) (g : Nat) (lb : Array Value) (w : World) :
    Calls Tryd.prog 31 #[.int .i64 n, .func (.func g) #[] lb] w fun e w' => e = .returned (.func (.func 40) #[] #[.pointer (some ⟨w.heap.size, 0, none⟩), .pointer (some ⟨w.heap.size + 1, 0, none⟩)]) ∧ w' = (w.alloc (.cells #[.int .i64 n] 3)).alloc (.cells #[.func (.func g) #[] lb] 47) := by
  have hmf : ∀ (fn : Fn) (first cap : Array Value) (w : World), (Instr.makeFunc fn first cap).run Tryd.prog w = .ok (.func fn first cap) w := fun _ _ _ _ => rfl
  go_enter Tryd.func31, Tryd.ntmps31
  go_wp2
  go_ret
  exact ⟨rfl, rfl⟩

set_option maxHeartbeats 1000000 in
theorem GCheck_any (n : Int) (A : Option Addr) (k c : Nat) (ls : List Gr.Ln) (w : World) (hr : RdP w w.heap.size A k c ls) :
    Calls Tryd.prog 30 #[.int .i64 n, .slice A k c] w fun e w' => e = .returned (errOf (Gr.code n ls)) ∧ Below w.heap.size w w' := by
  have HX := Lib.hid hr.len
  have hbig := hr.big
  by_cases h1 : n < 1
  · have hfin : Hid (Gr.code n ls = 1) := by show _ = _; unfold Gr.code; rw [if_pos (.inl h1)]
    go_enter Tryd.func30, Tryd.ntmps30
    go_wp2
    go_ret
    exact ⟨by rw [hfin.out]; rfl, Below.refl _ _⟩
  · by_cases h8 : 8 < n
    · have hfin : Hid (Gr.code n ls = 1) := by show _ = _; unfold Gr.code; rw [if_pos (.inr h8)]
      go_enter Tryd.func30, Tryd.ntmps30
      go_wp2
      go_ret
      exact ⟨by rw [hfin.out]; rfl, Below.refl _ _⟩
    · by_cases h24 : 24 < k
      · have hfin : Hid (Gr.code n ls = 4) := by show _ = _; unfold Gr.code; rw [if_neg (by omega), if_pos (by rw [HX.out]; exact h24)]
        go_enter Tryd.func30, Tryd.ntmps30
        go_wp2
        go_ret
        exact ⟨by rw [hfin.out]; rfl, Below.refl _ _⟩
      · have hcode : Hid (Gr.code n ls = Gr.fault n ls) := by show _ = _; unfold Gr.code; rw [if_neg (by omega), if_neg (by rw [HX.out]; exact h24)]
        go_enter Tryd.func30, Tryd.ntmps30
        go_wp2
        go_loopw [6, 20] (fun _ i wr => ∃ j : Nat, j ≤ k ∧ i = .int .i64 j ∧ Below w.heap.size w wr ∧ Hid (Gr.code n ls = Gr.fault n (ls.drop j))) (fun _ i _ => k - (intOf i).toNat)
        case atStart => exact ⟨0, Nat.zero_le _, rfl, Below.refl _ _, hcode⟩
        case round =>
          obtain ⟨j, hj, rfl, hbel, H⟩ := hrel
          by_cases hlt : j < k
          · obtain ⟨b1, o1, rfl, hbb, hcc⟩ := hr.at_ (by omega)
            obtain ⟨x, y⟩ := hcc j hlt
            have g1 : wr.cell? ⟨b1, o1 + j * 2, none⟩ = some (.int .i64 (ls.getD j (0, 0)).1) := (hbel.cell (by exact hbb)).trans x
            have g2 : wr.cell? ⟨b1, o1 + j * 2 + 1, none⟩ = some (.int .i64 (ls.getD j (0, 0)).2) := (hbel.cell (by exact hbb)).trans y
            clear hcc x y
            obtain ⟨⟨p, q⟩, hp⟩ : ∃ p, p = ls.getD j (0, 0) := ⟨_, rfl⟩
            rw [← hp] at g1 g2
            have HP := Lib.hid hp
            clear hp
            simp only at g1 g2
            have hkl : Hid (j < ls.length) := by show _ < _; rw [HX.out]; exact hlt
            have hsz := hbel.size
            have hb2 : Below w.heap.size w (wr.alloc (.cells #[.int .i64 p, .int .i64 q] 50)) := hbel.alloc hsz _
            by_cases ha : p < 0 ∨ n ≤ p
            · have hfin : Hid (Gr.code n ls = 1) := by show _ = _; rw [H.out, Gr.fault_bad hkl.out (by rw [← HP.out]; simp only; omega)]
              go_wp2_with fail
              refine (isVertex_no n p _ ha).mono ?_
              rintro e w1 ⟨rfl, rfl⟩
              go_wp2
              go_ret
              exact ⟨by rw [hfin.out]; rfl, hb2⟩
            · by_cases hq : q < 0 ∨ n ≤ q
              · have hfin : Hid (Gr.code n ls = 1) := by show _ = _; rw [H.out, Gr.fault_bad hkl.out (by rw [← HP.out]; simp only; omega)]
                go_wp2_with fail
                refine (isVertex_yes n p _ (by omega) (by omega)).mono ?_
                rintro e w1 ⟨rfl, rfl⟩
                go_wp2_with fail
                refine (isVertex_no n q _ hq).mono ?_
                rintro e w1 ⟨rfl, rfl⟩
                go_wp2
                go_ret
                exact ⟨by rw [hfin.out]; rfl, hb2⟩
              · by_cases hpq : p = q
                · have hfin : Hid (Gr.code n ls = 3) := by show _ = _; rw [H.out, Gr.fault_same hkl.out (by rw [← HP.out]; simp only; omega) (by rw [← HP.out]; exact hpq)]
                  subst hpq
                  go_wp2_with fail
                  refine (isVertex_yes n p _ (by omega) (by omega)).mono ?_
                  rintro e w1 ⟨rfl, rfl⟩
                  go_wp2_with fail
                  refine (isVertex_yes n p _ (by omega) (by omega)).mono ?_
                  rintro e w1 ⟨rfl, rfl⟩
                  go_wp2
                  go_ret
                  exact ⟨by rw [hfin.out]; rfl, hb2⟩
                · have hnext : Hid (Gr.code n ls = Gr.fault n (ls.drop (j + 1))) := by show _ = _; rw [H.out, Gr.fault_on hkl.out (by rw [← HP.out]; simp only; omega) (by rw [← HP.out]; exact hpq)]
                  have hd : (p == q) = false := by simpa using hpq
                  go_wp2_with fail
                  refine (isVertex_yes n p _ (by omega) (by omega)).mono ?_
                  rintro e w1 ⟨rfl, rfl⟩
                  go_wp2_with fail
                  refine (isVertex_yes n q _ (by omega) (by omega)).mono ?_
                  rintro e w1 ⟨rfl, rfl⟩
                  go_wp2
                  go_roundw
                  case rel => exact ⟨j + 1, by omega, by go_num, hb2, hnext⟩
                  case measure => simp [intOf]; omega
          · have hfin : Hid (Gr.code n ls = 0) := by
              show _ = _
              rw [H.out, List.drop_eq_nil_of_le (by rw [HX.out]; omega)]; rfl
            go_wp2
            go_ret
            exact ⟨by rw [hfin.out]; rfl, hbel⟩

theorem GCheck_nil (n : Int) (A : Option Addr) (k c : Nat) (ls : List Gr.Ln) (w : World) (hr : RdP w w.heap.size A k c ls) (h : Gr.code n ls = 0) :
    Calls Tryd.prog 30 #[.int .i64 n, .slice A k c] w fun e w' => e = .returned .nilIface ∧ Below w.heap.size w w' :=
  (GCheck_any n A k c ls w hr).mono fun e w' he => ⟨he.1.trans (by rw [errOf_zero h]), he.2⟩
theorem GCheck_err (n : Int) (A : Option Addr) (k c : Nat) (ls : List Gr.Ln) (w : World) (hr : RdP w w.heap.size A k c ls) (h : Gr.code n ls ≠ 0) :
    Calls Tryd.prog 30 #[.int .i64 n, .slice A k c] w fun e w' => e = .returned (errv (Gr.code n ls)) ∧ Below w.heap.size w w' :=
  (GCheck_any n A k c ls w hr).mono fun e w' he => ⟨he.1.trans (by rw [errOf_pos h]), he.2⟩

end Go.Proofs.YtojkjdccjomaaaaDoor
