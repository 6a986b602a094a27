/-
  Contracts of check, cutDigits, cutGamma and cutDelta of package elias.
-/
import Derived.Test.YtghdallaohpelaaEliasB
namespace Go.Proofs.Ytghdallaohpelaa
open Go.RowKit

theorem check_full (A : Option Addr) (n c : Nat) (w : World) (h : 600 < n) (hb : n ≤ 9223372036854775807) :
    Calls Try.prog 36 #[.slice A n c] w fun e w' => e = .returned (errv 4) ∧ w = w' := by
  go_enter Try.func36, Try.ntmps36
  go_wp2
  go_ret
  exact ⟨rfl, rfl⟩

theorem bits_upto {bs : List Int} {n : Nat} (hn : bs.length = n) (h : ∀ j, j < n → bs.getD j 0 = 0 ∨ bs.getD j 0 = 1) : El.Bits bs := by
  intro x hx
  obtain ⟨j, hj, rfl⟩ := List.mem_iff_getElem.1 hx
  have := h j (by omega)
  simpa [List.getD, hj] using this
theorem bits_at {bs : List Int} (h : El.Bits bs) {j : Nat} (hj : j < bs.length) : bs.getD j 0 = 0 ∨ bs.getD j 0 = 1 := by
  refine h _ ?_
  simp [List.getD, hj]
theorem upto_step {bs : List Int} {k : Nat} (h : ∀ j, j < k → bs.getD j 0 = 0 ∨ bs.getD j 0 = 1) (hk : bs.getD k 0 = 0 ∨ bs.getD k 0 = 1) : ∀ j, j < k + 1 → bs.getD j 0 = 0 ∨ bs.getD j 0 = 1 := by
  intro j hj
  rcases Nat.lt_or_ge j k with h' | h'
  · exact h j h'
  · obtain rfl : j = k := by omega
    exact hk

def chk (bs : List Int) : Value := if bs.all (fun x => x == 0 || x == 1) = true then .nilIface else errv 1
theorem chk_ok {bs : List Int} (h : El.Bits bs) : chk bs = .nilIface := by
  unfold chk
  rw [if_pos]
  simpa [El.Bits] using h
theorem chk_bad {bs : List Int} (h : ¬ El.Bits bs) : chk bs = errv 1 := by
  unfold chk
  rw [if_neg]
  intro h'
  exact h (by simpa [El.Bits] using h')

set_option maxHeartbeats 400000 in
theorem check_any {B : Nat} (A : Option Addr) (n c : Nat) (bs : List Int) (w : World) (hr : Rd w B A n c bs) (h : n ≤ 600) :
    Calls Try.prog 36 #[.slice A n c] w fun e w' => e = .returned (chk bs) ∧ w = w' := by
  have HX := Lib.hid hr.len
  go_enter Try.func36, Try.ntmps36
  go_wp2
  go_loop [11] (fun i => ∃ k : Nat, k ≤ n ∧ i = .int .i64 k ∧ Hid (∀ j, j < k → bs.getD j 0 = 0 ∨ bs.getD j 0 = 1)) (fun i => n - (intOf i).toNat)
  case atStart => exact ⟨0, Nat.zero_le _, rfl, by intro j hj; omega⟩
  case round =>
    obtain ⟨k, hk, rfl, H⟩ := hrel
    by_cases hlt : k < n
    · obtain ⟨b1, o1, rfl, hb1, hc1⟩ := hr.at_ (by omega)
      have g1 := hc1 k hlt
      clear hc1
      obtain ⟨p, hp⟩ : ∃ p, p = bs.getD k 0 := ⟨_, rfl⟩
      rw [← hp] at g1
      have HP := Lib.hid hp
      clear hp
      by_cases h0 : p = 0
      · subst h0
        go_wp2
        go_round
        case rel => exact ⟨k + 1, by omega, by go_num, upto_step H.out (.inl HP.out.symm)⟩
        case measure => simp [intOf]; omega
      · by_cases h1 : p = 1
        · subst h1
          go_wp2
          go_round
          case rel => exact ⟨k + 1, by omega, by go_num, upto_step H.out (.inr HP.out.symm)⟩
          case measure => simp [intOf]; omega
        · have e0 : (p != 0) = true := by simpa using h0
          have e1 : (p != 1) = true := by simpa using h1
          have hbad : Hid (chk bs = errv 1) := chk_bad (fun hb => by
            have := bits_at hb (j := k) (by rw [HX.out]; exact hlt)
            rw [← HP.out] at this
            omega)
          clear h0 h1
          go_wp2
          go_ret
          exact ⟨by rw [hbad.out]; rfl, rfl⟩
    · obtain rfl : k = n := by omega
      have hok : Hid (chk bs = .nilIface) := chk_ok (bits_upto HX.out H.out)
      go_wp2
      go_ret
      exact ⟨by rw [hok.out]; rfl, rfl⟩

theorem cutD_round {m : Int} {bs : List Int} {j k : Nat} (hj : j < k) (hl : j < bs.length) :
    El.cutD m (bs.drop j) (k - j) = if 1000000 < 2 * m + bs.getD j 0 then none else El.cutD (2 * m + bs.getD j 0) (bs.drop (j + 1)) (k - (j + 1)) := by
  rw [List.drop_eq_getElem_cons hl, show k - j = (k - (j + 1)) + 1 by omega, El.cutD]
  simp [List.getD, hl]

/-- what cutDigits, cutGamma, cutDelta hand back -/
def Cut (B : Nat) (w w' : World) (o : Option (Int × List Int)) (e : Ending) : Prop :=
  Below w.heap.size w w' ∧
  match o with
  | none => e = .returned (.tuple #[.int .i64 0, .slice none 0 0, .bool false])
  | some (m, r) => ∃ A n c, e = .returned (.tuple #[.int .i64 m, .slice A n c, .bool true]) ∧ Rd w' B A n c r

set_option maxHeartbeats 400000 in
theorem cutDigits_any {B : Nat} (n : Int) (A : Option Addr) (l c k : Nat) (bs : List Int) (w : World) (hr : Rd w B A l c bs) (h0 : 0 ≤ n) (h1 : n ≤ 1000000) (hk : k ≤ 2000000) (hb : El.Bits bs) :
    Calls Try.prog 38 #[.int .i64 n, .slice A l c, .int .i64 k] w fun e w' => Cut B w w' (El.cutD n bs k) e := by
  have HX := Lib.hid hr.len
  have hle := hr.le
  have hcap := hr.cap
  by_cases hkl : l < k
  · have hn : Hid (El.cutD n bs k = none) := El.cutD_short _ _ _ (by rw [HX.out]; exact hkl)
    go_enter Try.func38, Try.ntmps38
    go_wp2
    go_ret3
    unfold Cut
    rw [hn.out]
    exact ⟨Below.refl _ _, rfl⟩
  · go_enter Try.func38, Try.ntmps38
    go_wp2
    go_loop [0, 19] (fun x i => ∃ (j : Nat) (m : Int), j ≤ k ∧ 0 ≤ m ∧ m ≤ 1000000 ∧ x = .int .i64 m ∧ i = .int .i64 j ∧ Hid (El.cutD n bs k = El.cutD m (bs.drop j) (k - j))) (fun _ i => k - (intOf i).toNat)
    case atStart => exact ⟨0, n, Nat.zero_le _, h0, h1, rfl, rfl, by show _ = _; simp⟩
    case round =>
      obtain ⟨j, m, hj, hm0, hm1, rfl, rfl, H⟩ := hrel
      by_cases hlt : j < k
      · obtain ⟨b1, o1, rfl, hb1, hc1⟩ := hr.at_ (by omega)
        have g1 := hc1 j (by omega)
        have hs := cutD_round (m := m) (bs := bs) hlt (by rw [HX.out]; omega)
        have hbit := bits_at hb (j := j) (by rw [HX.out]; omega)
        clear hc1
        obtain ⟨p, hp⟩ : ∃ p, p = bs.getD j 0 := ⟨_, rfl⟩
        rw [← hp] at g1 hs hbit
        have hp0 : 0 ≤ p := by omega
        have hp1 : p ≤ 1 := by omega
        have HS := Lib.hid hs
        clear hp hs hbit
        by_cases hbig : 1000000 < 2 * m + p
        · have hn : Hid (El.cutD n bs k = none) := by show _ = _; rw [H.out, HS.out, if_pos hbig]
          go_wp2
          go_ret3
          unfold Cut
          rw [hn.out]
          exact ⟨Below.refl _ _, rfl⟩
        · go_wp2
          go_round
          case rel => exact ⟨j + 1, 2 * m + p, by omega, by omega, by omega, by go_num, by go_num, by show _ = _; rw [H.out, HS.out, if_neg hbig]⟩
          case measure => simp [intOf]; omega
      · obtain rfl : j = k := by omega
        have hfin : Hid (El.cutD n bs j = some (m, bs.drop j)) := by show _ = _; rw [H.out, Nat.sub_self]; simp [El.cutD]
        go_wp2
        go_quiet (fail)
        all_goals go_wp2
        all_goals go_ret3
        all_goals unfold Cut
        all_goals rw [hfin.out]
        · exact ⟨Below.drewN' _ _ _, _, _, _, rfl, (hr.drop_all (by omega) (by assumption)).drewN _⟩
        · exact ⟨Below.drewN' _ _ _, _, _, _, rfl, (hr.drop_map (by omega) (by assumption)).drewN _⟩

theorem cutDigits_int {B : Nat} (n : Int) (A : Option Addr) (l c : Nat) (k : Int) (bs : List Int) (w : World) (hr : Rd w B A l c bs) (h0 : 0 ≤ n) (h1 : n ≤ 1000000) (hk0 : 0 ≤ k) (hk : k ≤ 2000000) (hb : El.Bits bs) :
    Calls Try.prog 38 #[.int .i64 n, .slice A l c, .int .i64 k] w fun e w' => Cut B w w' (El.cutD n bs k.toNat) e := by
  obtain ⟨m, rfl⟩ := Int.eq_ofNat_of_zero_le hk0
  rw [Int.toNat_natCast]
  exact cutDigits_any n A l c m bs w hr h0 h1 (by omega) hb

set_option maxHeartbeats 800000 in
theorem cutGamma_any {B : Nat} (A : Option Addr) (l c : Nat) (bs : List Int) (w : World) (hr : Rd w B A l c bs) (hl : l ≤ 600) (hb : El.Bits bs) :
    Calls Try.prog 37 #[.slice A l c] w fun e w' => Cut B w w' (El.cutG bs) e := by
  have HX := Lib.hid hr.len
  have hle := hr.le
  have hcap := hr.cap
  go_enter Try.func37, Try.ntmps37
  go_wp2
  go_loop [5] (fun i => ∃ j : Nat, j ≤ l ∧ i = .int .i64 j ∧ Hid (∀ t, t < j → bs.getD t 0 = 0)) (fun i => l - (intOf i).toNat)
  case atStart => exact ⟨0, Nat.zero_le _, rfl, fun t ht => by omega⟩
  case round =>
    obtain ⟨j, hj, rfl, H⟩ := hrel
    have fin : (j < l → bs.getD j 0 ≠ 0) → Hid (El.cutG bs = El.cutD 0 (bs.drop j) (j + 1)) := by
      intro hne
      have hz := El.zeros_eq bs j (by rw [HX.out]; exact hj) H.out (by rw [HX.out]; exact hne)
      show _ = _
      rw [El.cutG, hz]
    by_cases hlt : j < l
    · obtain ⟨b1, o1, rfl, hb1, hc1⟩ := hr.at_ (by omega)
      have g1 := hc1 j (by omega)
      clear hc1
      obtain ⟨p, hp⟩ : ∃ p, p = bs.getD j 0 := ⟨_, rfl⟩
      rw [← hp] at g1 fin
      have HP := Lib.hid hp
      clear hp
      by_cases h0 : p = 0
      · subst h0
        clear fin
        go_wp2
        go_round
        case rel =>
          refine ⟨j + 1, by omega, by go_num, ?_⟩
          intro t ht
          rcases Nat.lt_or_ge t j with h' | h'
          · exact H.out t h'
          · obtain rfl : t = j := by omega
            exact HP.out.symm
        case measure => simp [intOf]; omega
      · have e0 : (p == 0) = false := by simpa using h0
        have HF := fin (fun _ => h0)
        clear fin h0
        have hcj : ¬ c = j := by omega
        have hr2 := hr.drop_lit (k := j) (by omega) hcj
        go_wp2_with fail
        refine (cutDigits_int _ _ _ _ _ _ _ hr2 (by omega) (by omega) (by omega) (by omega) (hb.drop _)).mono ?_
        rintro e w1 ⟨hb1, h⟩
        have hcount : ((j : Int) + 1).toNat = j + 1 := by omega
        rw [hcount, ← HF.out] at h
        clear hcount
        cases hcut : El.cutG bs with
        | none =>
          rw [hcut] at h
          simp only at h
          subst h
          have HC := Lib.hid hcut
          clear hcut
          go_wp2
          go_ret3
          unfold Cut
          rw [HC.out]
          exact ⟨hb1, rfl⟩
        | some q =>
          obtain ⟨m, r⟩ := q
          rw [hcut] at h
          simp only at h
          obtain ⟨A2, n2, c2, rfl, hr3⟩ := h
          have HC := Lib.hid hcut
          clear hcut
          go_wp2
          go_ret3
          unfold Cut
          rw [HC.out]
          exact ⟨hb1, _, _, _, rfl, hr3⟩
    · obtain rfl : j = l := by omega
      have HF := fin (fun h => by omega)
      clear fin
      have hn : Hid (El.cutG bs = none) := by
        show _ = _
        rw [HF.out]
        exact El.cutD_short _ _ _ (by rw [List.length_drop, HX.out]; omega)
      by_cases hcj : c = j
      · have hr2 := hr.drop_all (k := j) (by omega) hcj
        rw [Nat.sub_self] at hr2
        subst hcj
        go_wp2_with fail
        refine (cutDigits_int _ _ _ _ _ _ _ hr2 (by omega) (by omega) (by omega) (by omega) (hb.drop _)).mono ?_
        rintro e w1 ⟨hb1, h⟩
        rw [show ((c : Int) + 1).toNat = c + 1 by omega, ← HF.out, hn.out] at h
        simp only at h
        subst h
        go_wp2
        go_ret3
        unfold Cut
        rw [hn.out]
        exact ⟨hb1, rfl⟩
      · have hr2 := hr.drop_map (k := j) (by omega) hcj
        rw [Nat.sub_self] at hr2
        go_wp2_with fail
        refine (cutDigits_int _ _ _ _ _ _ _ hr2 (by omega) (by omega) (by omega) (by omega) (hb.drop _)).mono ?_
        rintro e w1 ⟨hb1, h⟩
        rw [show ((j : Int) + 1).toNat = j + 1 by omega, ← HF.out, hn.out] at h
        simp only at h
        subst h
        go_wp2
        go_ret3
        unfold Cut
        rw [hn.out]
        exact ⟨hb1, rfl⟩

end Go.Proofs.Ytghdallaohpelaa
