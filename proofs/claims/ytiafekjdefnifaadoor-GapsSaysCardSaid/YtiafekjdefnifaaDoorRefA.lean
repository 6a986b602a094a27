/-
  Contracts of the document's answer for Elias codes (package brambleweirref1): Behind, Binary, Gamma, Delta, All, Bits.
-/
import Derived.Test.YtiafekjdefnifaaDoorEliasD
import Derived.RegionTactic
import Derived.Deep.RegionLaw
import Derived.Deep.RegionWith
namespace Go.Proofs.YtiafekjdefnifaaDoor.R
open Go.RowKit

theorem Behind_any (A : Option Addr) (n c : Nat) (zs : List Int) (x : Int) (w : World) (hr : Rd w w.heap.size A n c zs) (hn : n ≤ 1000000) :
    Calls Tryd.prog 33 #[.slice A n c, .int .i64 x] w fun e w' => ∃ v, e = .returned v ∧ Own w' w.heap.size 3 v (zs ++ [x]) ∧ Below w.heap.size w w' := by
  have HL := Lib.hid hr.len
  go_enter Tryd.func33, Tryd.ntmps33
  go_wp2_with (first
    | (at_builtin; refine wpList_app _ rfl (.tmp 6) (.tmp 7) _ rfl w.heap.size 3 Tryd.underlying22 intInfo _ _ rfl (Own.nil w w.heap.size 3) A n c zs rfl hr (by simp; omega) (Nat.le_refl _) ?_; intro v1 w1 hown1 hg1 hat1; rw [List.nil_append] at hown1; have hb1 : Below w.heap.size w w1 := (Below.refl _ _).grown hg1 (Nat.le_refl _) (fun _ h => by cases h); have hs1 := hb1.size)
    | (at_builtin; refine wpList_app _ rfl (.tmp 9) (.tmp 11) _ rfl w.heap.size 3 Tryd.underlying22 intInfo _ zs rfl (hown1.below ((Below.refl _ _).alloc (Nat.le_refl _) _)) (some ⟨w1.heap.size, 0, none⟩) 1 1 [x] rfl (Rd.one _ _ _) (by rw [HL.out]; omega) (by simp; omega) ?_; intro v2 w2 hown2 hg2 hat2))
  go_ret
  exact ⟨_, rfl, hown2, below_app (hb1.alloc hs1 _) (hown1.below ((Below.refl _ _).alloc (Nat.le_refl _) _)) hg2 (by simp; omega)⟩

theorem Binary_any (k : Nat) : ∀ (a : Int) (w : World), 0 ≤ a → a ≤ k → a ≤ 1000000 →
    Calls Tryd.prog 22 #[.int .i64 a] w fun e w' => ∃ v, e = .returned v ∧ Own w' w.heap.size 3 v (El.bin a.toNat) ∧ Below w.heap.size w w' := by
  induction k with
  | zero =>
    intro a w h0 hk h6
    obtain rfl : a = 0 := by omega
    go_enter Tryd.func22, Tryd.ntmps22
    go_wp2_with fail
    go_ret
    refine ⟨_, rfl, ?_, (Below.refl _ _).alloc (Nat.le_refl _) _⟩
    rw [El.bin_small (by simp)]
    exact Own.one _ _ _ _ (Nat.le_refl _)
  | succ k ih =>
    intro a w h0 hk h6
    have IH := Lib.hid ih
    clear ih
    by_cases h2 : a < 2
    · go_enter Tryd.func22, Tryd.ntmps22
      go_wp2_with fail
      go_ret
      refine ⟨_, rfl, ?_, (Below.refl _ _).alloc (Nat.le_refl _) _⟩
      rw [El.bin_small (by omega), Int.toNat_of_nonneg h0]
      exact Own.one _ _ _ _ (Nat.le_refl _)
    · have hbl := El.bin_len_le (n := (a / 2).toNat) (by omega) (by omega)
      have hfin : Hid (El.bin a.toNat = El.bin (a / 2).toNat ++ [a % 2]) := by
        show _ = _
        rw [El.bin_step (by omega), show a.toNat / 2 = (a / 2).toNat by omega, show ((a.toNat % 2 : Nat) : Int) = a % 2 by omega]
      go_enter Tryd.func22, Tryd.ntmps22
      go_wp2_with fail
      refine (IH.out (a / 2) _ (by omega) (by omega) (by omega)).mono ?_
      rintro e w1 ⟨v1, rfl, hown1, hb1⟩
      obtain ⟨A1, c1, rfl, hr1⟩ := hown1.rd
      go_wp2_with fail
      refine (Behind_any _ _ _ _ _ _ hr1 (by omega)).mono ?_
      rintro e w2 ⟨v2, rfl, hown2, hb2⟩
      go_wp2
      go_ret
      refine ⟨_, rfl, ?_, hb1.trans (hb2.mono hb1.size)⟩
      rw [hfin.out]
      exact hown2.mono hb1.size

theorem Binary_nat (n : Nat) (w : World) (h : n ≤ 1000000) :
    Calls Tryd.prog 22 #[.int .i64 n] w fun e w' => ∃ v, e = .returned v ∧ Own w' w.heap.size 3 v (El.bin n) ∧ Below w.heap.size w w' := by
  have := Binary_any n n w (by omega) (by omega) (by omega)
  rwa [Int.toNat_natCast] at this

theorem Gamma_any (n : Nat) (w : World) (h1 : 1 ≤ n) (h2 : n ≤ 1000000) :
    Calls Tryd.prog 23 #[.int .i64 n] w fun e w' => ∃ v, e = .returned v ∧ Own w' w.heap.size 3 v (El.gamma n) ∧ Below w.heap.size w w' := by
  obtain ⟨i0, hi, hz0, hz1, hz2⟩ := info_parts intInfo
  have hbl := El.bin_len_le h1 h2
  have hp := El.bin_pos n
  go_enter Tryd.func23, Tryd.ntmps23
  go_wp2_with fail
  refine (Binary_nat _ _ h2).mono ?_
  rintro e w0 ⟨v0, rfl, hown0, hb0⟩
  obtain ⟨A, c, rfl, hr⟩ := hown0.rd
  have hs0 := hb0.size
  go_wp2_with (first
    | (refine wpList_make_full _ rfl (.tmp 9) (.tmp 9) 22 rfl w.heap.size 3 i0 (.int .i64 0) 1 Tryd.underlying22 hi hz0 hz1 .i64 .i64 _ _ ((El.bin n).length - 1) rfl rfl (by omega) (by omega) (by rw [hz2]; omega) (by simp only [maxLen]; omega) hs0 ?_; intro w1 hown1 hg1; have hown2 := Own.made hown1; clear hown1; have hb1 : Below w.heap.size w w1 := hb0.grown hg1 hs0 (fun _ h => by cases h); have hb01 : Below w0.heap.size w0 w1 := (Below.refl _ _).grown hg1 (Nat.le_refl _) (fun _ h => by cases h); have hz := hb1.size)
    | (at_builtin; refine wpList_app _ rfl (.tmp 11) (.tmp 12) _ rfl w.heap.size 3 Tryd.underlying22 intInfo _ _ rfl hown2 _ _ _ _ rfl (hr.below hb01) (by simp; omega) hz ?_; intro v2 w2 hown3 hg2 hat2; have hb2 := below_app hb1 hown2 hg2 hz))
  go_ret
  exact ⟨_, rfl, hown3, hb2⟩

set_option maxHeartbeats 1000000 in
theorem Delta_any (n : Nat) (w : World) (h1 : 1 ≤ n) (h2 : n ≤ 1000000) :
    Calls Tryd.prog 15 #[.int .i64 n] w fun e w' => ∃ v, e = .returned v ∧ Own w' w.heap.size 3 v (El.delta n) ∧ Below w.heap.size w w' := by
  have hbl := El.bin_len_le h1 h2
  have hp := El.bin_pos n
  have hbl2 := El.bin_len_le hp (by omega : (El.bin n).length ≤ 1000000)
  have hgl : (El.gamma (El.bin n).length).length ≤ 60 := by rw [El.gamma_len]; omega
  go_enter Tryd.func15, Tryd.ntmps15
  go_wp2_with fail
  refine (Binary_nat _ _ h2).mono ?_
  rintro e w1 ⟨v1, rfl, hown1, hb1⟩
  obtain ⟨A1, c1, rfl, hr1⟩ := hown1.rd
  obtain ⟨b, off, rfl, hbb, _⟩ := hr1.at_ (by omega)
  have hle1 := hr1.le
  have hcap1 := hr1.cap
  have hs1 := hb1.size
  have hp1 : (1 : Int) ≤ ((El.bin n).length : Int) := by omega
  have hp6 : (El.bin n).length ≤ 1000000 := by omega
  by_cases hc1 : c1 = 1
  · subst hc1
    have hroom : (El.gamma (El.bin n).length).length + 0 ≤ 17592186044416 := by omega
    go_wp2_with fail
    go_region_law (first | (refine step_app _ rfl (.tmp 8) (.tmp 10) _ rfl w.heap.size 3 Tryd.underlying22 intInfo v2 (El.gamma (El.bin n).length) rfl hown2' (some ⟨b, off, none⟩) (0) (0) (El.bin n).tail rfl hr2 hroom hsz2 ?_; intro v3 w3 hown3 hg3 hat3) | (go_simp; go_at_call 23; refine (Gamma_any _ _ hp hp6).mono ?_; rintro e w2 ⟨v2, rfl, hown2, hb2⟩; have hown2' := hown2.mono (base' := w.heap.size) hs1; have hsz2 : w.heap.size ≤ w2.heap.size := Nat.le_trans hs1 hb2.size; have hr2 := Rd.empty w2 0 ⟨b, off, none⟩ 0 0 (El.bin n).tail (by simp; omega) rfl (by omega)))
    all_goals go_wp2
    all_goals go_ret
    all_goals exact ⟨_, rfl, hown3, below_app (hb1.drew.trans (hb2.mono hs1)) hown2' hg3 hsz2⟩
  · have hroom : (El.gamma (El.bin n).length).length + ((El.bin n).length - 1) ≤ 17592186044416 := by omega
    go_wp2_with fail
    go_region_law (first | (refine step_app _ rfl (.tmp 8) (.tmp 10) _ rfl w.heap.size 3 Tryd.underlying22 intInfo v2 (El.gamma (El.bin n).length) rfl hown2' (some ⟨b, off + 1, none⟩) ((El.bin n).length - 1) (c1 - 1) (El.bin n).tail rfl hr2 hroom hsz2 ?_; intro v3 w3 hown3 hg3 hat3) | (go_simp; go_at_call 23; refine (Gamma_any _ _ hp hp6).mono ?_; rintro e w2 ⟨v2, rfl, hown2, hb2⟩; have hown2' := hown2.mono (base' := w.heap.size) hs1; have hsz2 : w.heap.size ≤ w2.heap.size := Nat.le_trans hs1 hb2.size; have hr2 := (hr1.drew.past hb2).tail (by omega) hc1))
    all_goals go_wp2
    all_goals go_ret
    all_goals exact ⟨_, rfl, hown3, below_app (hb1.drew.trans (hb2.mono hs1)) hown2' hg3 hsz2⟩

theorem in_yes (n a b : Int) (w : World) (h1 : a ≤ n) (h2 : n ≤ b) :
    Calls Tryd.prog 13 #[.int .i64 n, .int .i64 a, .int .i64 b] w fun e w' => e = .returned (.bool true) ∧ w = w' := by
  go_enter Tryd.func13, Tryd.ntmps13
  go_wp2
  go_ret
  exact ⟨rfl, rfl⟩
theorem in_no (n a b : Int) (w : World) (h : n < a ∨ b < n) :
    Calls Tryd.prog 13 #[.int .i64 n, .int .i64 a, .int .i64 b] w fun e w' => e = .returned (.bool false) ∧ w = w' := by
  by_cases ha : n < a
  · go_enter Tryd.func13, Tryd.ntmps13
    go_wp2
    go_ret
    exact ⟨rfl, rfl⟩
  · have h1 : a ≤ n := by omega
    have hd : decide (n ≤ b) = false := by simp; omega
    clear h ha
    go_enter Tryd.func13, Tryd.ntmps13
    go_wp2
    go_ret
    exact ⟨rfl, rfl⟩

/-- All: are all numbers within bounds? -/
def Within (zs : List Int) (a b : Int) : Bool := zs.all fun x => decide (a ≤ x) && decide (x ≤ b)
theorem within_of {zs : List Int} {n : Nat} {a b : Int} (hn : zs.length = n) (h : ∀ j, j < n → a ≤ zs.getD j 0 ∧ zs.getD j 0 ≤ b) : Within zs a b = true := by
  unfold Within
  rw [List.all_eq_true]
  intro x hx
  obtain ⟨j, hj, rfl⟩ := List.mem_iff_getElem.1 hx
  have := h j (by omega)
  simpa [List.getD, hj] using this
theorem within_not {zs : List Int} {j : Nat} {a b : Int} (hj : j < zs.length) (h : zs.getD j 0 < a ∨ b < zs.getD j 0) : Within zs a b = false := by
  unfold Within
  rw [List.all_eq_false]
  refine ⟨zs.getD j 0, by simp [List.getD, hj], ?_⟩
  simp only [Bool.and_eq_true, decide_eq_true_eq]
  omega

set_option maxHeartbeats 400000 in
theorem All_any {B : Nat} (A : Option Addr) (n c : Nat) (zs : List Int) (a b : Int) (w : World) (hr : Rd w B A n c zs) :
    Calls Tryd.prog 37 #[.slice A n c, .int .i64 a, .int .i64 b] w fun e w' => e = .returned (.bool (Within zs a b)) ∧ w = w' := by
  have HX := Lib.hid hr.len
  have hbig := hr.big
  go_enter Tryd.func37, Tryd.ntmps37
  go_wp2
  go_loop [7] (fun i => ∃ k : Nat, k ≤ n ∧ i = .int .i64 k ∧ Hid (∀ j, j < k → a ≤ zs.getD j 0 ∧ zs.getD j 0 ≤ b)) (fun i => n - (intOf i).toNat)
  case atStart => exact ⟨0, Nat.zero_le _, rfl, fun j hj => by omega⟩
  case round =>
    obtain ⟨k, hk, rfl, H⟩ := hrel
    by_cases hlt : k < n
    · obtain ⟨b1, o1, rfl, hb1, hc1⟩ := hr.at_ (by omega)
      have g1 := hc1 k hlt
      clear hc1
      obtain ⟨p, hp⟩ : ∃ p, p = zs.getD k 0 := ⟨_, rfl⟩
      rw [← hp] at g1
      have HP := Lib.hid hp
      clear hp
      by_cases hin : a ≤ p ∧ p ≤ b
      · obtain ⟨i1, i2⟩ := hin
        go_wp2_with (go_at_call 13; refine (in_yes _ _ _ _ i1 i2).mono ?_; rintro e w' ⟨rfl, rfl⟩)
        go_round
        case rel =>
          refine ⟨k + 1, by omega, by go_num, ?_⟩
          intro j hj
          rcases Nat.lt_or_ge j k with h' | h'
          · exact H.out j h'
          · obtain rfl : j = k := by omega
            rw [← HP.out]
            exact ⟨i1, i2⟩
        case measure => simp [intOf]; omega
      · have hno : p < a ∨ b < p := by omega
        have hfin : Hid (Within zs a b = false) := within_not (j := k) (by rw [HX.out]; exact hlt) (by rw [← HP.out]; exact hno)
        clear hin
        go_wp2_with (go_at_call 13; refine (in_no _ _ _ _ hno).mono ?_; rintro e w' ⟨rfl, rfl⟩)
        go_ret
        exact ⟨by rw [hfin.out]; rfl, rfl⟩
    · obtain rfl : k = n := by omega
      have hfin : Hid (Within zs a b = true) := within_of HX.out H.out
      go_wp2
      go_ret
      exact ⟨by rw [hfin.out]; rfl, rfl⟩

/-- Bits: what is wrong with some bits -/
def bcode (bs : List Int) : Int := if 600 < bs.length then 4 else if bs.all (fun x => x == 0 || x == 1) = true then 0 else 1
theorem within01 (bs : List Int) : Within bs 0 1 = bs.all (fun x => x == 0 || x == 1) := by
  unfold Within
  congr 1
  funext x
  rw [Bool.eq_iff_iff]
  simp
  omega

theorem Bits_any {B : Nat} (A : Option Addr) (n c : Nat) (bs : List Int) (w : World) (hr : Rd w B A n c bs) :
    Calls Tryd.prog 25 #[.slice A n c] w fun e w' => e = .returned (.int .i64 (bcode bs)) ∧ w = w' := by
  have HX := Lib.hid hr.len
  have hbig := hr.big
  by_cases h6 : 600 < n
  · have hfin : Hid (bcode bs = 4) := by show _ = _; unfold bcode; rw [if_pos (by rw [HX.out]; exact h6)]
    go_enter Tryd.func25, Tryd.ntmps25
    go_wp2
    go_ret
    exact ⟨by rw [hfin.out]; rfl, rfl⟩
  · have hfin : Hid (bcode bs = if Within bs 0 1 = true then 0 else 1) := by show _ = _; unfold bcode; rw [if_neg (by rw [HX.out]; exact h6), within01]
    cases hw : Within bs 0 1 with
    | true =>
      have HW := Lib.hid hw
      clear hw
      go_enter Tryd.func25, Tryd.ntmps25
      go_wp2_with (go_at_call 37; refine (All_any _ _ _ _ _ _ _ hr).mono ?_; rintro e w' ⟨rfl, rfl⟩; rw [HW.out])
      go_ret
      exact ⟨by rw [hfin.out, HW.out]; rfl, rfl⟩
    | false =>
      have HW := Lib.hid hw
      clear hw
      go_enter Tryd.func25, Tryd.ntmps25
      go_wp2_with (go_at_call 37; refine (All_any _ _ _ _ _ _ _ hr).mono ?_; rintro e w' ⟨rfl, rfl⟩; rw [HW.out])
      go_ret
      exact ⟨by rw [hfin.out, HW.out]; rfl, rfl⟩

end Go.Proofs.YtiafekjdefnifaaDoor.R
