/-
  Contracts of brambleweirref1 on lines: Goes, Beside, Near, Lines.
-/
import Derived.Test.YtojkjdccjomaaaaDoorGraphE
namespace Go.Proofs.YtojkjdccjomaaaaDoor.RefL
open Go.RowKit

theorem in_yes (n a b : Int) (w : World) (h1 : a ≤ n) (h2 : n ≤ b) :
    Calls Tryd.prog 24 #[.int .i64 n, .int .i64 a, .int .i64 b] w fun e w' => e = .returned (.bool true) ∧ w = w' := by
  go_enter Tryd.func24, Tryd.ntmps24
  go_wp2
  go_ret
  exact ⟨rfl, rfl⟩
theorem in_no (n a b : Int) (w : World) (h : n < a ∨ b < n) :
    Calls Tryd.prog 24 #[.int .i64 n, .int .i64 a, .int .i64 b] w fun e w' => e = .returned (.bool false) ∧ w = w' := by
  by_cases ha : n < a
  · go_enter Tryd.func24, Tryd.ntmps24
    go_wp2
    go_ret
    exact ⟨rfl, rfl⟩
  · have h1 : a ≤ n := by omega
    have hd : decide (n ≤ b) = false := by simp; omega
    clear h ha
    go_enter Tryd.func24, Tryd.ntmps24
    go_wp2
    go_ret
    exact ⟨rfl, rfl⟩

set_option maxHeartbeats 1000000 in
theorem Goes_any (A : Option Addr) (n c : Nat) (ls : List Gr.Ln) (a b : Int) (t : Bool) (w : World) (hr : RdP w w.heap.size A n c ls) (ht : Gr.has ls a b = t) :
    Calls Tryd.prog 25 #[.slice A n c, .int .i64 a, .int .i64 b] w fun e w' => e = .returned (.bool t) ∧ w = w' := by
  have HX := Lib.hid hr.len
  have HT := Lib.hid ht
  clear ht
  have hbig := hr.big
  go_enter Tryd.func25, Tryd.ntmps25
  go_wp2
  go_loop [7] (fun i => ∃ k : Nat, k ≤ n ∧ i = .int .i64 k ∧ Hid (t = (ls.drop k).contains (a, b))) (fun i => n - (intOf i).toNat)
  case atStart => exact ⟨0, Nat.zero_le _, rfl, by show _ = _; rw [← HT.out]; rfl⟩
  case round =>
    obtain ⟨k, hk, rfl, H⟩ := hrel
    by_cases hlt : k < n
    · obtain ⟨b1, o1, rfl, hbb, hcc⟩ := hr.at_ (by omega)
      obtain ⟨g1, g2⟩ := hcc k hlt
      clear hcc
      obtain ⟨⟨p, q⟩, hp⟩ : ∃ p, p = ls.getD k (0, 0) := ⟨_, rfl⟩
      rw [← hp] at g1 g2
      have HP := Lib.hid hp
      clear hp
      simp only at g1 g2
      by_cases he : p = a ∧ q = b
      · obtain ⟨rfl, rfl⟩ := he
        have hfin : Hid (t = true) := by show _ = _; rw [← HT.out]; exact has_at (by rw [HX.out]; exact hlt) _ HP.out rfl
        go_wp2
        go_ret
        exact ⟨by rw [hfin.out]; rfl, rfl⟩
      · have hnext : Hid (t = (ls.drop (k + 1)).contains (a, b)) := by
          show _ = _
          rw [H.out, has_drop (by rw [HX.out]; exact hlt) _ HP.out (by intro e; simp only [Prod.mk.injEq] at e; exact he e)]
        by_cases hpa : p = a
        · subst hpa
          have hd : (q == b) = false := by simpa using he
          clear he
          go_wp2
          go_round
          case rel => exact ⟨k + 1, by omega, by go_num, hnext⟩
          case measure => simp [intOf]; omega
        · have hd : (p == a) = false := by simpa using hpa
          clear he hpa
          go_wp2
          go_round
          case rel => exact ⟨k + 1, by omega, by go_num, hnext⟩
          case measure => simp [intOf]; omega
    · have hfin : Hid (t = false) := by
        show _ = _
        rw [H.out, List.drop_eq_nil_of_le (by rw [HX.out]; omega)]; rfl
      go_wp2
      go_ret
      exact ⟨by rw [hfin.out]; rfl, rfl⟩

theorem Beside_any (A : Option Addr) (n c : Nat) (ls : List Gr.Ln) (a b : Int) (t : Bool) (w : World) (hr : RdP w w.heap.size A n c ls) (ht : Gr.adj ls a b = t) :
    Calls Tryd.prog 15 #[.slice A n c, .int .i64 a, .int .i64 b] w fun e w' => e = .returned (.bool t) ∧ w = w' := by
  cases h1 : Gr.has ls a b
  · have h2 : Gr.has ls b a = t := by rw [← ht]; unfold Gr.adj; rw [h1]; rfl
    clear ht
    have H1 := Lib.hid h1
    have H2 := Lib.hid h2
    clear h1 h2
    go_enter Tryd.func15, Tryd.ntmps15
    go_wp2_with fail
    refine (Goes_any A n c ls a b false _ hr H1.out).mono ?_
    rintro e w1 ⟨rfl, rfl⟩
    go_wp2_with fail
    refine (Goes_any A n c ls b a t _ hr H2.out).mono ?_
    rintro e w2 ⟨rfl, rfl⟩
    go_wp2
    go_ret
    exact ⟨rfl, rfl⟩
  · have h2 : Hid (t = true) := by show _ = _; rw [← ht]; unfold Gr.adj; rw [h1]; rfl
    clear ht
    have H1 := Lib.hid h1
    clear h1
    go_enter Tryd.func15, Tryd.ntmps15
    go_wp2_with fail
    refine (Goes_any A n c ls a b true _ hr H1.out).mono ?_
    rintro e w1 ⟨rfl, rfl⟩
    go_wp2
    go_ret
    exact ⟨by rw [h2.out]; rfl, rfl⟩

/-- the points beside a, up to b -/
def rowTo (ls : List Gr.Ln) (a b : Nat) : List Int := ((List.range b).filter fun b : Nat => Gr.adj ls (a : Int) (b : Int)).map fun b => ((b : Nat) : Int)
theorem rowTo_hit {ls : List Gr.Ln} {a b : Nat} (h : Gr.adj ls (a : Int) (b : Int) = true) : rowTo ls a (b + 1) = rowTo ls a b ++ [(b : Int)] := by simp [rowTo, List.range_succ, List.filter_append, h]
theorem rowTo_miss {ls : List Gr.Ln} {a b : Nat} (h : Gr.adj ls (a : Int) (b : Int) = false) : rowTo ls a (b + 1) = rowTo ls a b := by simp [rowTo, List.range_succ, List.filter_append, h]
theorem rowTo_len (ls : List Gr.Ln) (a b : Nat) : (rowTo ls a b).length ≤ b := by
  have := List.length_filter_le (fun b : Nat => Gr.adj ls (a : Int) (b : Int)) (List.range b)
  simpa [rowTo] using this


set_option maxHeartbeats 2000000 in
theorem Lines_any (n : Int) (A : Option Addr) (k c : Nat) (ls : List Gr.Ln) (w : World) (hr : RdP w w.heap.size A k c ls) :
    Calls Tryd.prog 13 #[.int .i64 n, .slice A k c] w fun e w' => e = .returned (.int .i64 (Gr.code n ls)) ∧ Below w.heap.size w w' := by
  have HX := Lib.hid hr.len
  have hbig := hr.big
  by_cases h1 : n < 1 ∨ 8 < n
  · have hfin : Hid (Gr.code n ls = 1) := by show _ = _; unfold Gr.code; rw [if_pos h1]
    go_enter Tryd.func13, Tryd.ntmps13
    go_wp2_with fail
    refine (in_no n 1 8 _ h1).mono ?_
    rintro e w1 ⟨rfl, rfl⟩
    go_wp2
    go_ret
    exact ⟨by rw [hfin.out]; rfl, Below.refl _ _⟩
  by_cases h24 : 24 < k
  · have hfin : Hid (Gr.code n ls = 4) := by show _ = _; unfold Gr.code; rw [if_neg h1, if_pos (by rw [HX.out]; exact h24)]
    go_enter Tryd.func13, Tryd.ntmps13
    go_wp2_with fail
    refine (in_yes n 1 8 _ (by omega) (by omega)).mono ?_
    rintro e w1 ⟨rfl, rfl⟩
    go_wp2
    go_ret
    exact ⟨by rw [hfin.out]; rfl, Below.refl _ _⟩
  have hcode : Hid (Gr.code n ls = Gr.fault n ls) := by show _ = _; unfold Gr.code; rw [if_neg h1, if_neg (by rw [HX.out]; exact h24)]
  go_enter Tryd.func13, Tryd.ntmps13
  go_wp2_with fail
  refine (in_yes n 1 8 _ (by omega) (by omega)).mono ?_
  rintro e w1 ⟨rfl, rfl⟩
  have hn1 : 1 ≤ n := by omega
  have hn8 : n ≤ 8 := by omega
  clear h1
  go_wp2
  go_loopw [5] (fun i wr => ∃ j : Nat, j ≤ k ∧ i = .int .i64 j ∧ Below w.heap.size w wr ∧ Hid (Gr.code n ls = Gr.fault n (ls.drop j))) (fun i _ => k - (intOf i).toNat)
  case atStart => exact ⟨0, Nat.zero_le _, rfl, Below.refl _ _, hcode⟩
  case round =>
    obtain ⟨j, hj, rfl, hbel, H⟩ := hrel
    by_cases hlt : j < k
    · obtain ⟨b1, o1, rfl, hbb, hcc⟩ := hr.at_ (by omega)
      obtain ⟨x, y⟩ := hcc j hlt
      have g1 : wr.cell? ⟨b1, o1 + j * 2, none⟩ = some (.int .i64 (ls.getD j (0, 0)).1) := (hbel.cell (by exact hbb)).trans x
      have g2 : wr.cell? ⟨b1, o1 + j * 2 + 1, none⟩ = some (.int .i64 (ls.getD j (0, 0)).2) := (hbel.cell (by exact hbb)).trans y
      clear hcc x y
      obtain ⟨⟨p, q⟩, hp⟩ : ∃ p, p = ls.getD j (0, 0) := ⟨_, rfl⟩
      rw [← hp] at g1 g2
      have HP := Lib.hid hp
      clear hp
      simp only at g1 g2
      have hkl : Hid (j < ls.length) := by show _ < _; rw [HX.out]; exact hlt
      have k1 : (0 : Int) ≤ (j : Int) := by omega
      have k2 : (j : Int) < (k : Int) := by omega
      by_cases ha : p < 0 ∨ n - 1 < p
      · have hfin : Hid (Gr.code n ls = 1) := by show _ = _; rw [H.out, Gr.fault_bad hkl.out (by rw [← HP.out]; simp only; omega)]
        go_wp2_with fail
        refine (in_no p 0 (n - 1) _ ha).mono ?_
        rintro e w1 ⟨rfl, rfl⟩
        go_wp2
        go_ret
        exact ⟨by rw [hfin.out]; rfl, hbel⟩
      by_cases hq : q < 0 ∨ n - 1 < q
      · have hfin : Hid (Gr.code n ls = 1) := by show _ = _; rw [H.out, Gr.fault_bad hkl.out (by rw [← HP.out]; simp only; omega)]
        go_wp2_with fail
        refine (in_yes p 0 (n - 1) _ (by omega) (by omega)).mono ?_
        rintro e w1 ⟨rfl, rfl⟩
        go_wp2_with fail
        refine (in_no q 0 (n - 1) _ hq).mono ?_
        rintro e w1 ⟨rfl, rfl⟩
        go_wp2
        go_ret
        exact ⟨by rw [hfin.out]; rfl, hbel⟩
      by_cases hpq : p = q
      · have hfin : Hid (Gr.code n ls = 3) := by show _ = _; rw [H.out, Gr.fault_same hkl.out (by rw [← HP.out]; simp only; omega) (by rw [← HP.out]; exact hpq)]
        subst hpq
        go_wp2_with fail
        refine (in_yes p 0 (n - 1) _ (by omega) (by omega)).mono ?_
        rintro e w1 ⟨rfl, rfl⟩
        go_wp2_with fail
        refine (in_yes p 0 (n - 1) _ (by omega) (by omega)).mono ?_
        rintro e w1 ⟨rfl, rfl⟩
        go_wp2
        go_quiet (fail)
        go_wp2
        go_ret
        exact ⟨by rw [hfin.out]; rfl, hbel.trans (Below.drewN' _ _ _)⟩
      · have hnext : Hid (Gr.code n ls = Gr.fault n (ls.drop (j + 1))) := by show _ = _; rw [H.out, Gr.fault_on hkl.out (by rw [← HP.out]; simp only; omega) (by rw [← HP.out]; exact hpq)]
        have hd : (p == q) = false := by simpa using hpq
        go_wp2_with fail
        refine (in_yes p 0 (n - 1) _ (by omega) (by omega)).mono ?_
        rintro e w1 ⟨rfl, rfl⟩
        go_wp2_with fail
        refine (in_yes q 0 (n - 1) _ (by omega) (by omega)).mono ?_
        rintro e w1 ⟨rfl, rfl⟩
        go_wp2
        go_quiet (fail)
        go_wp2
        go_roundw
        case rel => exact ⟨j + 1, by omega, by go_num, hbel.trans (Below.drewN' _ _ _), hnext⟩
        case measure => simp [intOf]; omega
    · have hfin : Hid (Gr.code n ls = 0) := by
        show _ = _
        rw [H.out, List.drop_eq_nil_of_le (by rw [HX.out]; omega)]; rfl
      go_wp2
      go_ret
      exact ⟨by rw [hfin.out]; rfl, hbel⟩

end Go.Proofs.YtojkjdccjomaaaaDoor.RefL
