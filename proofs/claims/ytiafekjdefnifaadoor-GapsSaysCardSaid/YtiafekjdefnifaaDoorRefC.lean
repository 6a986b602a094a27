/-
  Contract of the document's answer for reading delta codes (package brambleweirref1): ReadDelta.
-/
import Derived.Test.YtiafekjdefnifaaDoorRefB
namespace Go.Proofs.YtiafekjdefnifaaDoor.R
open Go.RowKit

theorem cutDl_of {bs : List Int} {s : Int} {r : List Int} (h : El.cutG bs = some (s, r)) : El.cutDl bs = El.cutD 1 r (s - 1).toNat := by rw [El.cutDl, h]
theorem cutDl_no {bs : List Int} (h : El.cutG bs = none) : El.cutDl bs = none := by rw [El.cutDl, h]

set_option maxRecDepth 100000 in
set_option maxHeartbeats 4000000 in
theorem ReadDelta_any (A : Option Addr) (n c : Nat) (bs : List Int) (w : World) (hr : Rd w w.heap.size A n c bs) :
    Calls Tryd.prog 18 #[.slice A n c] w fun e w' => RRead w w' (El.readD bs) bs e := by
  have HX := Lib.hid hr.len
  have hbig := hr.big
  by_cases h6 : 600 < n
  · have hc : Hid (bcode bs = 4) := bcode_full (by rw [HX.out]; exact h6)
    have hcode : Hid (rcode (El.readD bs) bs = 4) := rcode_full (by rw [HX.out]; exact h6)
    go_enter Tryd.func18, Tryd.ntmps18
    go_wp2_with (go_at_call 25; refine (Bits_any _ _ _ _ _ hr).mono ?_; rintro e w' ⟨rfl, rfl⟩; rw [hc.out])
    go_ret2
    unfold RRead
    rw [hcode.out]
    exact ⟨Below.refl _ _, .inl ⟨by omega, rfl⟩⟩
  · by_cases hbits : El.Bits bs
    · have hc : Hid (bcode bs = 0) := bcode_ok (by rw [HX.out]; exact h6) hbits
      have hcode : Hid (rcode (El.readD bs) bs = if (El.readD bs).isSome = true then 0 else 2) := rcode_bits (by rw [HX.out]; exact h6) hbits
      go_enter Tryd.func18, Tryd.ntmps18
      go_wp2_with (go_at_call 25; refine (Bits_any _ _ _ _ _ hr).mono ?_; rintro e w' ⟨rfl, rfl⟩; rw [hc.out])
      go_loopw [5, 6] (fun v i wr => ∃ (a : Nat) (ns : List Int), a ≤ n ∧ i = .int .i64 a ∧ Own wr w.heap.size 3 v ns ∧ ns.length ≤ a ∧ Below w.heap.size w wr ∧ Reading El.cutDl bs (bs.drop a) ns) (fun _ i _ => n - (intOf i).toNat)
      case atStart => exact ⟨0, [], Nat.zero_le _, rfl, Own.nil _ _ _, by simp, Below.refl _ _, by simpa using Reading.start El.cutDl bs⟩
      case round =>
        obtain ⟨a, ns, ha, rfl, hown, hlen, hbel, hread⟩ := hrel
        have hsz := hbel.size
        by_cases hlt : a < n
        · have hpos : 0 < (bs.drop a).length := by rw [List.length_drop, HX.out]; omega
          have hr1 := hr.below hbel
          cases hcr : El.cutG (bs.drop a) with
          | none =>
            have hfin : Hid (El.readD bs = none) := hread.none_ hpos (cutDl_no hcr)
            have hcr' := Lib.hid hcr
            clear hcr hpos
            go_wp2_with fail
            refine (one_any _ _ _ _ _ _ hr1 (by omega) ha hbits).mono ?_
            rintro e w1 ⟨h, rfl⟩
            rw [hcr'.out] at h
            simp only [One] at h
            subst h
            go_wp2
            go_ret2
            unfold RRead
            rw [hcode.out, hfin.out]
            exact ⟨hbel, .inl ⟨by simp, rfl⟩⟩
          | some q =>
            obtain ⟨s, r⟩ := q
            obtain ⟨hs1, hs2, _, hrl, hrb⟩ := El.cutG_some (hbits.drop a) hcr
            have hdl := cutDl_of hcr
            have hcr' := Lib.hid hcr
            clear hcr hrl
            go_wp2_with fail
            refine (one_any _ _ _ _ _ _ hr1 (by omega) ha hbits).mono ?_
            rintro e w1 ⟨h, rfl⟩
            rw [hcr'.out] at h
            simp only [One] at h
            obtain ⟨K, hK0, hKn, hrK, rfl⟩ := h
            subst hrK
            obtain ⟨S, hS⟩ : ∃ S : Nat, S = (s - 1).toNat := ⟨_, rfl⟩
            rw [← hS] at hdl
            have hS1 : (S : Int) ≤ s - 1 := by omega
            have hS2 : s - 1 ≤ (S : Int) := by omega
            clear hS
            have HD := Lib.hid hdl
            clear hdl hcr'
            have hk0 : ((K : Int) == 0) = false := by simp; omega
            by_cases hfit : (n : Int) < (a : Int) + (K : Int) + s - 1
            · have hfin : Hid (El.readD bs = none) := hread.none_ hpos (by rw [HD.out]; exact El.cutD_short _ _ _ (by rw [List.length_drop, HX.out]; omega))
              clear hpos
              go_wp2
              go_ret2
              unfold RRead
              rw [hcode.out, hfin.out]
              exact ⟨hbel, .inl ⟨by simp, rfl⟩⟩
            · have HP := Lib.hid hpos
              clear hpos
              go_wp2_with fail
              go_loop [9, 10] (fun x i => ∃ (j : Nat) (m : Int), j ≤ S ∧ 0 ≤ m ∧ m ≤ 1000000 ∧ x = .int .i64 m ∧ i = .int .i64 j ∧ Hid (El.cutDl (bs.drop a) = El.cutD m ((bs.drop (a + K)).drop j) (S - j))) (fun _ i => S - (intOf i).toNat)
              case atStart => exact ⟨0, 1, Nat.zero_le _, by omega, by omega, rfl, rfl, by show _ = _; rw [HD.out]; simp⟩
              case round =>
                obtain ⟨j, m, hj, hm0, hm1, rfl, rfl, H2⟩ := hrel
                by_cases hjS : j < S
                · obtain ⟨b1, o1, rfl, hb1, hc1⟩ := hr1.at_ (by omega)
                  have g2 := hc1 (a + K + j) (by omega)
                  have hs := cutD_round (m := m) (bs := bs.drop (a + K)) hjS (by rw [List.length_drop, HX.out]; omega)
                  have hbit := bits_at hbits (j := a + K + j) (by rw [HX.out]; omega)
                  rw [getD_drop] at hs
                  clear hc1
                  obtain ⟨q, hq⟩ : ∃ q, q = bs.getD (a + K + j) 0 := ⟨_, rfl⟩
                  rw [← hq] at g2 hs hbit
                  have hq0 : 0 ≤ q := by omega
                  have hq1 : q ≤ 1 := by omega
                  have HS := Lib.hid hs
                  clear hq hs hbit
                  by_cases hbg : 1000000 < 2 * m + q
                  · have hfin : Hid (El.readD bs = none) := hread.none_ HP.out (by rw [H2.out, HS.out, if_pos hbg])
                    go_wp2
                    go_ret2
                    unfold RRead
                    rw [hcode.out, hfin.out]
                    exact ⟨hbel, .inl ⟨by simp, rfl⟩⟩
                  · go_wp2
                    go_round
                    case rel => exact ⟨j + 1, 2 * m + q, by omega, by omega, by omega, by go_num, by go_num, by show _ = _; rw [H2.out, HS.out, if_neg hbg]⟩
                    case measure => simp [intOf]; omega
                · obtain rfl : j = S := by omega
                  have hcut : El.cutDl (bs.drop a) = some (m, bs.drop (a + K + j)) := by
                    rw [H2.out, Nat.sub_self]
                    simp [El.cutD, List.drop_drop]
                  have hread2 := hread.some_ HP.out hcut (by rw [List.length_drop, List.length_drop, HX.out]; omega)
                  clear hcut
                  go_wp2_with (at_builtin; refine wpList_app _ rfl (.tmp 58) (.tmp 60) _ rfl w.heap.size 3 Tryd.underlying22 intInfo _ ns rfl (hown.below ((Below.refl _ _).alloc (Nat.le_refl _) _)) (some ⟨wr.heap.size, 0, none⟩) 1 1 [m] rfl (Rd.one _ _ _) (by omega) (by simp; omega) ?_; intro v3 w3 hown3 hg3 hat3)
                  have hb3 := below_app (hbel.alloc hsz _) (hown.below ((Below.refl _ _).alloc (Nat.le_refl _) _)) hg3 (by simp; omega)
                  go_roundw
                  case rel => exact ⟨a + K + j, ns ++ [m], by omega, by simp; omega, hown3, by simp; omega, hb3, hread2⟩
                  case measure => simp [intOf]; omega
        · obtain rfl : a = n := by omega
          have hnil : bs.drop a = [] := List.drop_eq_nil_of_le (by rw [HX.out]; exact Nat.le_refl _)
          rw [hnil] at hread
          have hfin : Hid (El.readD bs = some ns) := hread.stop
          clear hnil
          go_wp2
          go_ret2
          unfold RRead
          rw [hcode.out, hfin.out]
          exact ⟨hbel, .inr ⟨_, ns, rfl, rfl, rfl, hown⟩⟩
    · have hc : Hid (bcode bs = 1) := bcode_bad (by rw [HX.out]; exact h6) hbits
      have hcode : Hid (rcode (El.readD bs) bs = 1) := rcode_bad (by rw [HX.out]; exact h6) hbits
      go_enter Tryd.func18, Tryd.ntmps18
      go_wp2_with (go_at_call 25; refine (Bits_any _ _ _ _ _ hr).mono ?_; rintro e w' ⟨rfl, rfl⟩; rw [hc.out])
      go_ret2
      unfold RRead
      rw [hcode.out]
      exact ⟨Below.refl _ _, .inl ⟨by omega, rfl⟩⟩

end Go.Proofs.YtiafekjdefnifaaDoor.R
