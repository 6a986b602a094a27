/-
  Contracts of the reference's All, Degrees and Set: what each call returns and what it leaves in memory.
-/
import Derived.Test.YtjjjnhdongaclaaDoorRefL
import Derived.Test.YtjjjnhdongaclaaDoorLibT
import Derived.Test.YtjjjnhdongaclaaDoorDegreeI
namespace Go.Proofs.YtjjjnhdongaclaaDoor.RefD
open Go.RowKit

/-- a slice of the call's own that is not empty -/
theorem row_of {w : World} {base e : Nat} {v : Value} {zs : List Int} (h : Own w base e v zs) (hp : 0 < zs.length) : ∃ g cap, v = .slice (some ⟨g, 0, none⟩) zs.length cap := by
  rcases h.2 with ⟨rfl, h0⟩ | ⟨g, cap, cur, rfl, _⟩
  · omega
  · exact ⟨g, cap, rfl⟩

set_option maxHeartbeats 400000 in
theorem All_any {B : Nat} (A : Option Addr) (n c : Nat) (l : List Int) (t : Bool) (w : World) (hr : Rd w B A n c l) (ht : decide (∀ d ∈ l, 0 ≤ d ∧ d ≤ 7) = t) :
    Calls Tryd.prog 19 #[.slice A n c, .int .i64 0, .int .i64 7] w fun e w' => e = .returned (.bool t) ∧ w = w' := by
  have HX := Lib.hid hr.len
  have HT := Lib.hid ht
  clear ht
  have hbig := hr.big
  go_enter Tryd.func19, Tryd.ntmps19
  go_wp2
  go_loop [7] (fun i => ∃ k : Nat, k ≤ n ∧ i = .int .i64 k ∧ Hid (De.okTo l k)) (fun i => n - (intOf i).toNat)
  case atStart => exact ⟨0, Nat.zero_le _, rfl, De.okTo_zero l⟩
  case round =>
    obtain ⟨k, hk, rfl, H⟩ := hrel
    by_cases hlt : k < n
    · obtain ⟨b1, o1, rfl, hb1, hc1⟩ := hr.at_ (by omega)
      have g1 := hc1 k hlt
      clear hc1
      obtain ⟨p, hp⟩ : ∃ p, p = l.getD k 0 := ⟨_, rfl⟩
      rw [← hp] at g1
      have hkl : k < l.length := by rw [HX.out]; exact hlt
      have HP := Lib.hid hp
      have hmem : Hid (p ∈ l) := by show _ ∈ _; rw [hp]; simp [List.getD, hkl]
      have HK := Lib.hid hkl
      clear hp hkl
      by_cases hin : p < 0 ∨ 7 < p
      · have hfin : Hid (t = false) := by
          show _ = _
          rw [← HT.out, decide_eq_false_iff_not]
          intro h
          have := h p hmem.out
          omega
        go_wp2_with fail
        refine (RefL.in_no p 0 7 _ hin).mono ?_
        rintro e y ⟨rfl, rfl⟩
        go_wp2
        go_ret
        exact ⟨by rw [hfin.out]; rfl, rfl⟩
      · have hnext : Hid (De.okTo l (k + 1)) := De.okTo_succ H.out HK.out (by rw [← HP.out]; omega) (by rw [← HP.out]; omega)
        go_wp2_with fail
        refine (RefL.in_yes p 0 7 _ (by omega) (by omega)).mono ?_
        rintro e y ⟨rfl, rfl⟩
        go_wp2
        go_round
        case rel => exact ⟨k + 1, by omega, by go_num, hnext⟩
        case measure => simp [intOf]; omega
    · have hfin : Hid (t = true) := by
        show _ = _
        rw [← HT.out, decide_eq_true_eq]
        exact De.okTo_all H.out (by rw [HX.out]; omega)
      go_wp2
      go_ret
      exact ⟨by rw [hfin.out]; rfl, rfl⟩

theorem Degrees_any {B : Nat} (A : Option Addr) (n c : Nat) (l : List Int) (w : World) (hr : Rd w B A n c l) :
    Calls Tryd.prog 6 #[.slice A n c] w fun e w' => e = .returned (.int .i64 (De.code l)) ∧ w = w' := by
  have HX := Lib.hid hr.len
  have hbig := hr.big
  by_cases h0 : n = 0
  · subst h0
    have hfin : Hid (De.code l = 5) := by show _ = _; exact De.code_none HX.out
    go_enter Tryd.func6, Tryd.ntmps6
    go_wp2
    go_ret
    exact ⟨by rw [hfin.out]; rfl, rfl⟩
  · have hd0 : ((n : Int) == 0) = false := by simp only [beq_eq_false_iff_ne, ne_eq]; omega
    by_cases h8 : 8 < n
    · have hfin : Hid (De.code l = 4) := by show _ = _; exact De.code_full (by rw [HX.out]; exact h8)
      go_enter Tryd.func6, Tryd.ntmps6
      go_wp2
      go_ret
      exact ⟨by rw [hfin.out]; rfl, rfl⟩
    · have hl0 : Hid (l.length ≠ 0) := by show _ ≠ _; rw [HX.out]; exact h0
      have hl8 : Hid (l.length ≤ 8) := by show _ ≤ _; rw [HX.out]; omega
      cases ht : decide (∀ d ∈ l, 0 ≤ d ∧ d ≤ 7) with
      | true =>
        have hfin : Hid (De.code l = 0) := by show _ = _; exact De.code_good hl0.out hl8.out (of_decide_eq_true ht)
        have HT := Lib.hid ht
        clear ht
        go_enter Tryd.func6, Tryd.ntmps6
        go_wp2_with fail
        refine (All_any A n c l true _ hr HT.out).mono ?_
        rintro e y ⟨rfl, rfl⟩
        go_wp2
        go_ret
        exact ⟨by rw [hfin.out]; rfl, rfl⟩
      | false =>
        have hfin : Hid (De.code l = 1) := by
          show _ = _
          unfold De.code
          rw [if_neg hl0.out, if_neg (by have := hl8.out; omega), if_neg (of_decide_eq_false ht)]
        have HT := Lib.hid ht
        clear ht
        go_enter Tryd.func6, Tryd.ntmps6
        go_wp2_with fail
        refine (All_any A n c l false _ hr HT.out).mono ?_
        rintro e y ⟨rfl, rfl⟩
        go_wp2
        go_ret
        exact ⟨by rw [hfin.out]; rfl, rfl⟩

set_option maxHeartbeats 1000000 in
/-- Set: a new list with one number put in -/
theorem Set_any (A : Option Addr) (n c : Nat) (l : List Int) (i : Nat) (x : Int) (w : World) (hr : Rd w w.heap.size A n c l) (hi : i < n) (hsm : n ≤ 1048576) :
    Calls Tryd.prog 20 #[.slice A n c, .int .i64 (i : Int), .int .i64 x] w fun e w' => ∃ g cap, e = .returned (.slice (some ⟨g, 0, none⟩) n cap) ∧ Own w' w.heap.size 3 (.slice (some ⟨g, 0, none⟩) n cap) (l.set i x) ∧ Below w.heap.size w w' := by
  have HX := Lib.hid hr.len
  go_enter Tryd.func20, Tryd.ntmps20
  go_wp2_with (at_builtin; refine wpList_app _ rfl (.tmp 8) (.tmp 9) _ rfl w.heap.size 3 Tryd.underlying22 intInfo (.slice none 0 0) [] rfl (Own.nil w w.heap.size 3) A n c l rfl hr (by simp; omega) (Nat.le_refl _) ?_; intro v1 w1 hown1 hg1 hat1; rw [List.nil_append] at hown1; obtain ⟨g, cap, hv⟩ := row_of hown1 (by rw [HX.out]; omega); rw [HX.out] at hv; subst hv; have g2 := hown1.cell i hi; have g3 := hown1.frozen i; have hst := hown1.store i x; have hba := hown1.base_le)
  have hb1 : Below w.heap.size w w1 := below_app (Below.refl _ _) (Own.nil w w.heap.size 3) hg1 (Nat.le_refl _)
  go_ret
  exact ⟨g, cap, rfl, hst.1, hb1.setCell (p := ⟨g, i, none⟩) hba _⟩

end Go.Proofs.YtjjjnhdongaclaaDoor.RefD
