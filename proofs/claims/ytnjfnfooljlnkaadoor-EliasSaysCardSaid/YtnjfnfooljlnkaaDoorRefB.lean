/-
  Contracts of the document's answer for Elias codes (package brambleweirref1): one, ReadGamma, ReadDelta.
-/
import Derived.Test.YtnjfnfooljlnkaaDoorRefA
namespace Go.Proofs.YtnjfnfooljlnkaaDoor.R
open Go.RowKit

/-- what 'one' hands back: the number, and how many bits its code has (0: there is none) -/
def One (n at_ : Nat) (bs : List Int) (o : Option (Int × List Int)) (e : Ending) : Prop :=
  match o with
  | none => e = .returned (.tuple #[.int .i64 0, .int .i64 0])
  | some (m, r) => ∃ K : Nat, 0 < K ∧ at_ + K ≤ n ∧ r = bs.drop (at_ + K) ∧ e = .returned (.tuple #[.int .i64 m, .int .i64 K])

set_option maxRecDepth 100000 in
set_option maxHeartbeats 2000000 in
theorem one_any {B : Nat} (A : Option Addr) (n c a : Nat) (bs : List Int) (w : World) (hr : Rd w B A n c bs) (hn : n ≤ 600) (ha : a ≤ n) (hb : El.Bits bs) :
    Calls Tryd.prog 21 #[.slice A n c, .int .i64 a] w fun e w' => One n a bs (El.cutG (bs.drop a)) e ∧ w = w' := by
  have HX := Lib.hid hr.len
  go_enter Tryd.func21, Tryd.ntmps21
  go_wp2
  go_loop [6] (fun i => ∃ k : Nat, a + k ≤ n ∧ i = .int .i64 k ∧ Hid (∀ t, t < k → (bs.drop a).getD t 0 = 0)) (fun i => n - a - (intOf i).toNat)
  case atStart => exact ⟨0, by omega, rfl, fun t ht => by omega⟩
  case round =>
    obtain ⟨k, hk, rfl, H⟩ := hrel
    have fin : (a + k < n → bs.getD (a + k) 0 ≠ 0) → Hid (El.cutG (bs.drop a) = El.cutD 0 ((bs.drop a).drop k) (k + 1)) := by
      intro hne
      have hz := El.zeros_eq (bs.drop a) k (by rw [List.length_drop, HX.out]; omega) H.out (by rw [List.length_drop, HX.out, getD_drop]; intro h; exact hne (by omega))
      show _ = _
      rw [El.cutG, hz]
    have rest : Hid (El.cutG (bs.drop a) = El.cutD 0 ((bs.drop a).drop k) (k + 1)) → (n ≤ a + 2 * k → El.cutG (bs.drop a) = none) := by
      intro h hle
      rw [h.out]
      exact El.cutD_short _ _ _ (by rw [List.length_drop, List.length_drop, HX.out]; omega)
    by_cases hlt : a + k < n
    · obtain ⟨b1, o1, rfl, hb1, hc1⟩ := hr.at_ (by omega)
      have g1 := hc1 (a + k) hlt
      obtain ⟨p, hp⟩ : ∃ p, p = bs.getD (a + k) 0 := ⟨_, rfl⟩
      rw [← hp] at g1 fin
      have HP := Lib.hid hp
      clear hp
      by_cases h0 : p = 0
      · subst h0
        clear fin rest hc1
        go_wp2
        go_round
        case rel =>
          refine ⟨k + 1, by omega, by go_num, ?_⟩
          intro t ht
          rcases Nat.lt_or_ge t k with h' | h'
          · exact H.out t h'
          · obtain rfl : t = k := by omega
            rw [getD_drop]
            exact HP.out.symm
        case measure => simp [intOf]; omega
      · have e0 : (p == 0) = false := by simpa using h0
        have HF := fin (fun _ => h0)
        have hrest := rest HF
        clear fin h0 rest
        have HC := Lib.hid hc1
        clear hc1
        by_cases hshort : n ≤ a + 2 * k
        · have hnone := Lib.hid (hrest hshort)
          clear hrest
          go_wp2
          go_ret2
          unfold One
          rw [hnone.out]
          exact ⟨rfl, rfl⟩
        · clear hrest
          go_wp2
          go_loop [7, 8] (fun x i => ∃ (j : Nat) (m : Int), j ≤ k + 1 ∧ 0 ≤ m ∧ m ≤ 1000000 ∧ x = .int .i64 m ∧ i = .int .i64 ((k : Int) + (j : Int)) ∧ Hid (El.cutG (bs.drop a) = El.cutD m (((bs.drop a).drop k).drop j) (k + 1 - j))) (fun _ i => 2 * k + 1 - (intOf i).toNat)
          case atStart => exact ⟨0, 0, by omega, by omega, by omega, rfl, by simp, by show _ = _; rw [HF.out]; simp⟩
          case round =>
            obtain ⟨j, m, hj, hm0, hm1, rfl, rfl, H2⟩ := hrel
            by_cases hjk : j < k + 1
            · have g2 := HC.out (a + (k + j)) (by omega)
              have hs := cutD_round (m := m) (bs := (bs.drop a).drop k) hjk (by rw [List.length_drop, List.length_drop, HX.out]; omega)
              have hbit := bits_at hb (j := a + (k + j)) (by rw [HX.out]; omega)
              rw [getD_drop, getD_drop] at hs
              obtain ⟨q, hq⟩ : ∃ q, q = bs.getD (a + (k + j)) 0 := ⟨_, rfl⟩
              rw [← hq] at g2 hs hbit
              have hq0 : 0 ≤ q := by omega
              have hq1 : q ≤ 1 := by omega
              have HS := Lib.hid hs
              clear hq hs hbit
              by_cases hbig : 1000000 < 2 * m + q
              · have hnone : Hid (El.cutG (bs.drop a) = none) := by show _ = _; rw [H2.out, HS.out, if_pos hbig]
                go_wp2
                go_ret2
                unfold One
                rw [hnone.out]
                exact ⟨rfl, rfl⟩
              · go_wp2
                go_round
                case rel => exact ⟨j + 1, 2 * m + q, by omega, by omega, by omega, rfl, by simp [Int.add_assoc], by show _ = _; rw [H2.out, HS.out, if_neg hbig]⟩
                case measure => simp [intOf]; omega
            · obtain rfl : j = k + 1 := by omega
              have hfin : Hid (El.cutG (bs.drop a) = some (m, bs.drop (a + (2 * k + 1)))) := by
                show _ = _
                rw [H2.out, Nat.sub_self]
                simp only [El.cutD, List.drop_drop]
                congr 3
                omega
              go_wp2
              go_ret2
              unfold One
              rw [hfin.out]
              exact ⟨⟨2 * k + 1, by omega, by omega, rfl, by simp⟩, rfl⟩
    · obtain rfl : n = a + k := by omega
      have HF := fin (fun h => by omega)
      have hnone := Lib.hid (rest HF (by omega))
      clear fin rest
      go_wp2
      go_ret2
      unfold One
      rw [hnone.out]
      exact ⟨rfl, rfl⟩

/-- what ReadGamma and ReadDelta hand back: the list, and the error's number -/
def RRead (w w' : World) (o : Option (List Int)) (bs : List Int) (e : Ending) : Prop :=
  Below w.heap.size w w' ∧ ((rcode o bs ≠ 0 ∧ e = .returned (.tuple #[.slice none 0 0, .int .i64 (rcode o bs)])) ∨
    (∃ v ns, rcode o bs = 0 ∧ o = some ns ∧ e = .returned (.tuple #[v, .int .i64 0]) ∧ Own w' w.heap.size 3 v ns))

theorem bcode_full {bs : List Int} (h : 600 < bs.length) : bcode bs = 4 := by unfold bcode; rw [if_pos h]
theorem bcode_bad {bs : List Int} (h : ¬ 600 < bs.length) (hb : ¬ El.Bits bs) : bcode bs = 1 := by
  unfold bcode
  rw [if_neg h, if_neg]
  intro h'
  exact hb (by simpa [El.Bits] using h')
theorem bcode_ok {bs : List Int} (h : ¬ 600 < bs.length) (hb : El.Bits bs) : bcode bs = 0 := by
  unfold bcode
  rw [if_neg h, if_pos]
  simpa [El.Bits] using hb

set_option maxRecDepth 100000 in
set_option maxHeartbeats 2000000 in
theorem ReadGamma_any (A : Option Addr) (n c : Nat) (bs : List Int) (w : World) (hr : Rd w w.heap.size A n c bs) :
    Calls Tryd.prog 11 #[.slice A n c] w fun e w' => RRead w w' (El.readG bs) bs e := by
  have HX := Lib.hid hr.len
  have hbig := hr.big
  by_cases h6 : 600 < n
  · have hc : Hid (bcode bs = 4) := bcode_full (by rw [HX.out]; exact h6)
    have hcode : Hid (rcode (El.readG bs) bs = 4) := rcode_full (by rw [HX.out]; exact h6)
    go_enter Tryd.func11, Tryd.ntmps11
    go_wp2_with (go_at_call 20; refine (Bits_any _ _ _ _ _ hr).mono ?_; rintro e w' ⟨rfl, rfl⟩; rw [hc.out])
    go_ret2
    unfold RRead
    rw [hcode.out]
    exact ⟨Below.refl _ _, .inl ⟨by omega, rfl⟩⟩
  · by_cases hbits : El.Bits bs
    · have hc : Hid (bcode bs = 0) := bcode_ok (by rw [HX.out]; exact h6) hbits
      have hcode : Hid (rcode (El.readG bs) bs = if (El.readG bs).isSome = true then 0 else 2) := rcode_bits (by rw [HX.out]; exact h6) hbits
      go_enter Tryd.func11, Tryd.ntmps11
      go_wp2_with (go_at_call 20; refine (Bits_any _ _ _ _ _ hr).mono ?_; rintro e w' ⟨rfl, rfl⟩; rw [hc.out])
      go_loopw [5, 6] (fun v i wr => ∃ (a : Nat) (ns : List Int), a ≤ n ∧ i = .int .i64 a ∧ Own wr w.heap.size 3 v ns ∧ ns.length ≤ a ∧ Below w.heap.size w wr ∧ Reading El.cutG bs (bs.drop a) ns) (fun _ i _ => n - (intOf i).toNat)
      case atStart => exact ⟨0, [], Nat.zero_le _, rfl, Own.nil _ _ _, by simp, Below.refl _ _, by simpa using Reading.start El.cutG bs⟩
      case round =>
        obtain ⟨a, ns, ha, rfl, hown, hlen, hbel, hread⟩ := hrel
        have hsz := hbel.size
        by_cases hlt : a < n
        · have hpos : 0 < (bs.drop a).length := by rw [List.length_drop, HX.out]; omega
          have hr1 := hr.below hbel
          cases hcr : El.cutG (bs.drop a) with
          | none =>
            have hfin : Hid (El.readG bs = none) := hread.none_ hpos hcr
            have hcr' := Lib.hid hcr
            clear hcr hpos
            go_wp2_with fail
            refine (one_any _ _ _ _ _ _ hr1 (by omega) ha hbits).mono ?_
            rintro e w1 ⟨h, rfl⟩
            rw [hcr'.out] at h
            simp only [One] at h
            subst h
            go_wp2
            go_ret2
            unfold RRead
            rw [hcode.out, hfin.out]
            exact ⟨hbel, .inl ⟨by simp, rfl⟩⟩
          | some q =>
            obtain ⟨m, r⟩ := q
            obtain ⟨_, _, _, hrl, _⟩ := El.cutG_some (hbits.drop a) hcr
            have hread2 := hread.some_ hpos hcr hrl
            have hcr' := Lib.hid hcr
            clear hcr hpos hrl
            go_wp2_with fail
            refine (one_any _ _ _ _ _ _ hr1 (by omega) ha hbits).mono ?_
            rintro e w1 ⟨h, rfl⟩
            rw [hcr'.out] at h
            simp only [One] at h
            obtain ⟨K, hK0, hKn, hrK, rfl⟩ := h
            rw [hrK] at hread2
            clear hrK
            go_wp2_with (at_builtin; refine wpList_app _ rfl (.tmp 26) (.tmp 28) _ rfl w.heap.size 3 Tryd.underlying22 intInfo _ ns rfl (hown.below ((Below.refl _ _).alloc (Nat.le_refl _) _)) (some ⟨wr.heap.size, 0, none⟩) 1 1 [m] rfl (Rd.one _ _ _) (by omega) (by simp; omega) ?_; intro v3 w3 hown3 hg3 hat3)
            have hb3 := below_app (hbel.alloc hsz _) (hown.below ((Below.refl _ _).alloc (Nat.le_refl _) _)) hg3 (by simp; omega)
            go_roundw
            case rel => exact ⟨a + K, ns ++ [m], hKn, by go_num, hown3, by simp; omega, hb3, hread2⟩
            case measure => simp [intOf]; omega
        · obtain rfl : a = n := by omega
          have hnil : bs.drop a = [] := List.drop_eq_nil_of_le (by rw [HX.out]; exact Nat.le_refl _)
          rw [hnil] at hread
          have hfin : Hid (El.readG bs = some ns) := hread.stop
          clear hnil
          go_wp2
          go_ret2
          unfold RRead
          rw [hcode.out, hfin.out]
          exact ⟨hbel, .inr ⟨_, ns, rfl, rfl, rfl, hown⟩⟩
    · have hc : Hid (bcode bs = 1) := bcode_bad (by rw [HX.out]; exact h6) hbits
      have hcode : Hid (rcode (El.readG bs) bs = 1) := rcode_bad (by rw [HX.out]; exact h6) hbits
      go_enter Tryd.func11, Tryd.ntmps11
      go_wp2_with (go_at_call 20; refine (Bits_any _ _ _ _ _ hr).mono ?_; rintro e w' ⟨rfl, rfl⟩; rw [hc.out])
      go_ret2
      unfold RRead
      rw [hcode.out]
      exact ⟨Below.refl _ _, .inl ⟨by omega, rfl⟩⟩

end Go.Proofs.YtnjfnfooljlnkaaDoor.R
