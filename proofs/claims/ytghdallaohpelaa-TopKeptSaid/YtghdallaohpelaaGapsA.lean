/-
  Contracts of package gaps: Check, gapsOf, listOf, deltasOf.
-/
import Derived.Test.YtghdallaohpelaaEliasD
import Derived.Test.YtghdallaohpelaaGaps
namespace Go.Proofs.Ytghdallaohpelaa
open Go.RowKit

set_option maxHeartbeats 400000 in
theorem Check_any {B : Nat} (A : Option Addr) (n c : Nat) (l : List Int) (w : World) (hr : Rd w B A n c l) :
    Calls Try.prog 25 #[.slice A n c] w fun e w' => e = .returned (errOf (Ga.code l)) ∧ w = w' := by
  have HX := Lib.hid hr.len
  have hbig := hr.big
  by_cases h30 : 30 < n
  · have hfin : Hid (Ga.code l = 4) := by show _ = _; unfold Ga.code; rw [if_pos (by rw [HX.out]; exact h30)]
    go_enter Try.func25, Try.ntmps25
    go_wp2
    go_ret
    exact ⟨by rw [hfin.out]; rfl, rfl⟩
  · have hcode : Hid (Ga.code l = Ga.fault (-1) l) := by show _ = _; unfold Ga.code; rw [if_neg (by rw [HX.out]; exact h30)]
    go_enter Try.func25, Try.ntmps25
    go_wp2
    go_loop [3, 12] (fun x i => ∃ (k : Nat) (a : Int), k ≤ n ∧ i = .int .i64 k ∧ x = .int .i64 a ∧ Hid (Ga.code l = Ga.fault a (l.drop k))) (fun _ i => n - (intOf i).toNat)
    case atStart => exact ⟨0, -1, Nat.zero_le _, rfl, rfl, hcode⟩
    case round =>
      obtain ⟨k, a, hk, rfl, rfl, H⟩ := hrel
      by_cases hlt : k < n
      · obtain ⟨b1, o1, rfl, hb1, hc1⟩ := hr.at_ (by omega)
        have g1 := hc1 k hlt
        clear hc1
        obtain ⟨p, hp⟩ : ∃ p, p = l.getD k 0 := ⟨_, rfl⟩
        rw [← hp] at g1
        have HP := Lib.hid hp
        clear hp
        have hkl : k < l.length := by rw [HX.out]; exact hlt
        by_cases h0 : p < 0
        · have hfin : Hid (Ga.code l = 1) := by show _ = _; rw [H.out, Ga.fault_bad hkl (by rw [← HP.out]; omega)]
          clear hkl
          go_wp2
          go_ret
          exact ⟨by rw [hfin.out]; rfl, rfl⟩
        · by_cases h1 : 1000000 ≤ p
          · have hfin : Hid (Ga.code l = 1) := by show _ = _; rw [H.out, Ga.fault_bad hkl (by rw [← HP.out]; omega)]
            clear hkl
            go_wp2
            go_ret
            exact ⟨by rw [hfin.out]; rfl, rfl⟩
          · by_cases h2 : p ≤ a
            · have hfin : Hid (Ga.code l = 3) := by show _ = _; rw [H.out, Ga.fault_low hkl (by rw [← HP.out]; omega) (by rw [← HP.out]; omega) (by rw [← HP.out]; omega)]
              clear hkl
              go_wp2
              go_ret
              exact ⟨by rw [hfin.out]; rfl, rfl⟩
            · have hnext : Hid (Ga.code l = Ga.fault p (l.drop (k + 1))) := by show _ = _; rw [H.out, Ga.fault_on hkl (by rw [← HP.out]; omega) (by rw [← HP.out]; omega) (by rw [← HP.out]; omega), ← HP.out]
              clear hkl
              go_wp2
              go_round
              case rel => exact ⟨k + 1, p, by omega, by go_num, rfl, hnext⟩
              case measure => simp [intOf]; omega
      · obtain rfl : k = n := by omega
        have hfin : Hid (Ga.code l = 0) := by show _ = _; rw [H.out, List.drop_eq_nil_of_le (by rw [HX.out]; exact Nat.le_refl _)]; rfl
        go_wp2
        go_ret
        exact ⟨by rw [hfin.out]; rfl, rfl⟩

set_option maxHeartbeats 400000 in
/-- gapsOf, at a list without fault -/
theorem gapsOf_any (A : Option Addr) (n c : Nat) (l : List Int) (w : World) (hr : Rd w w.heap.size A n c l) (h : Ga.code l = 0) :
    Calls Try.prog 27 #[.slice A n c] w fun e w' => ∃ v, e = .returned v ∧ Own w' w.heap.size 3 v (Ga.gaps (-1) l) ∧ Below w.heap.size w w' := by
  have HX := Lib.hid hr.len
  obtain ⟨hn30, hup⟩ := Ga.code_zero h
  rw [HX.out] at hn30
  clear h
  go_enter Try.func27, Try.ntmps27
  go_wp2
  go_loopw [3, 4, 9] (fun v x i wr => ∃ (k : Nat) (a : Int), k ≤ n ∧ i = .int .i64 k ∧ x = .int .i64 a ∧ Own wr w.heap.size 3 v (Ga.gaps (-1) (l.take k)) ∧ Below w.heap.size w wr ∧ Hid (a = Ga.lastAt (-1) l k)) (fun _ _ i _ => n - (intOf i).toNat)
  case atStart => exact ⟨0, -1, Nat.zero_le _, rfl, rfl, by simpa [Ga.gaps] using Own.nil _ _ _, Below.refl _ _, rfl⟩
  case round =>
    obtain ⟨k, a, hk, rfl, rfl, hown, hbel, H⟩ := hrel
    have hsz := hbel.size
    by_cases hlt : k < n
    · obtain ⟨b1, o1, rfl, hb1, hc1⟩ := hr.at_ (by omega)
      have g1 : wr.cell? ⟨b1, o1 + k, none⟩ = some (.int .i64 (l.getD k 0)) := (hbel.cell (by exact hb1)).trans (hc1 k hlt)
      clear hc1
      have hkl : k < l.length := by rw [HX.out]; exact hlt
      obtain ⟨p1, p2, p3⟩ := Ga.Up.at_ l _ hup k hkl
      have hlow := Ga.Up.low hup (by omega) k (by omega)
      have hnext := Ga.gaps_take l (-1) k hkl
      have hln : (Ga.gaps (-1) (l.take k)).length = k := by rw [Ga.gaps_len, List.length_take]; omega
      rw [← H.out] at hnext p3 hlow
      have hl1 := Ga.lastAt_succ (-1) l k
      obtain ⟨p, hp⟩ : ∃ p, p = l.getD k 0 := ⟨_, rfl⟩
      rw [← hp] at g1 p1 p2 p3 hnext hl1
      have HL := Lib.hid hl1
      have HN := Lib.hid hnext
      clear hp hl1 hnext hkl
      go_wp2_with (at_builtin; refine wpList_app _ rfl (.tmp 13) (.tmp 17) _ rfl w.heap.size 3 Try.underlying31 intInfo _ _ rfl (hown.below ((Below.refl _ _).alloc (Nat.le_refl _) _)) (some ⟨wr.heap.size, 0, none⟩) 1 1 [p - a] rfl (Rd.one _ _ _) (by omega) (by simp; omega) ?_; intro v1 w1 hown1 hg1 hat1)
      have hb1 := below_app (hbel.alloc hsz _) (hown.below ((Below.refl _ _).alloc (Nat.le_refl _) _)) hg1 (by simp; omega)
      go_roundw
      case rel => exact ⟨k + 1, p, by omega, by go_num, rfl, by rw [HN.out]; exact hown1, hb1, HL.out.symm⟩
      case measure => simp [intOf]; omega
    · obtain rfl : k = n := by omega
      have hfin : Hid (l.take k = l) := List.take_of_length_le (by rw [HX.out]; exact Nat.le_refl _)
      go_wp2
      go_ret
      refine ⟨_, rfl, ?_, hbel⟩
      rw [hfin.out] at hown
      exact hown

set_option maxHeartbeats 400000 in
/-- deltasOf, at numbers that have codes -/
theorem deltasOf_any (A : Option Addr) (n c : Nat) (ns : List Int) (w : World) (hr : Rd w w.heap.size A n c ns) (hns : El.Nums ns) (hn : n ≤ 1000) :
    Calls Try.prog 26 #[.slice A n c] w fun e w' => ∃ v, e = .returned (.tuple #[v, .nilIface]) ∧ Own w' w.heap.size 3 v (El.codes El.delta ns) ∧ Below w.heap.size w w' := by
  have HX := Lib.hid hr.len
  go_enter Try.func26, Try.ntmps26
  go_wp2
  go_loopw [4, 11] (fun v i wr => ∃ (k : Nat), k ≤ n ∧ i = .int .i64 k ∧ Own wr w.heap.size 3 v (El.codes El.delta (ns.take k)) ∧ Below w.heap.size w wr) (fun _ i _ => n - (intOf i).toNat)
  case atStart => exact ⟨0, Nat.zero_le _, rfl, by simpa [El.codes] using Own.nil _ _ _, Below.refl _ _⟩
  case round =>
    obtain ⟨k, hk, rfl, hown, hbel⟩ := hrel
    have hsz := hbel.size
    by_cases hlt : k < n
    · obtain ⟨b1, o1, rfl, hb1, hc1⟩ := hr.at_ (by omega)
      have g1 : wr.cell? ⟨b1, o1 + k, none⟩ = some (.int .i64 (ns.getD k 0)) := (hbel.cell (by exact hb1)).trans (hc1 k hlt)
      clear hc1
      have hkl : k < ns.length := by rw [HX.out]; exact hlt
      obtain ⟨p1, p2⟩ := Ga.nums_at hns hkl
      have hnext := Ga.codes_take hkl
      have hle := Ga.codes_le _ (Ga.Nums.take hns k)
      rw [List.length_take] at hle
      obtain ⟨p, hp⟩ : ∃ p : Nat, (p : Int) = ns.getD k 0 := ⟨(ns.getD k 0).toNat, by omega⟩
      rw [← hp] at g1 p1 p2 hnext
      rw [Int.toNat_natCast] at hnext
      have HN := Lib.hid hnext
      have hdl := Ga.delta_le (n := p) (by omega) (by omega)
      clear hp hnext hkl
      go_wp2_with fail
      refine (Delta_yes _ _ (by omega) (by omega)).mono ?_
      rintro e w1 ⟨v1, rfl, hown1, hb1'⟩
      obtain ⟨A1, c1, rfl, hr1⟩ := hown1.rd
      have hs1 := hb1'.size
      have hownB := hown.below hb1'
      go_wp2_with (at_builtin; refine wpList_app _ rfl (.tmp 23) (.tmp 24) _ rfl w.heap.size 3 Try.underlying31 intInfo _ _ rfl hownB _ _ _ _ rfl hr1 (by omega) (by omega) ?_; intro v2 w2 hown2 hg2 hat2)
      have hb2 := below_app (hbel.trans (hb1'.mono hsz)) hownB hg2 (by omega)
      go_roundw
      case rel => exact ⟨k + 1, by omega, by go_num, by rw [HN.out]; exact hown2, hb2⟩
      case measure => simp [intOf]; omega
    · obtain rfl : k = n := by omega
      have hfin : Hid (ns.take k = ns) := List.take_of_length_le (by rw [HX.out]; exact Nat.le_refl _)
      go_wp2
      go_ret2
      refine ⟨_, rfl, ?_, hbel⟩
      rw [hfin.out] at hown
      exact hown

set_option maxHeartbeats 400000 in
/-- listOf, at differences that have been codes -/
theorem listOf_any (A : Option Addr) (n c : Nat) (gs : List Int) (w : World) (hr : Rd w w.heap.size A n c gs) (hns : El.Nums gs) (hn : n ≤ 1000) :
    Calls Try.prog 28 #[.slice A n c] w fun e w' => Below w.heap.size w w' ∧ ((Ga.list (-1) gs = none ∧ e = .returned (.tuple #[.slice none 0 0, errv 1])) ∨
      ∃ v l, Ga.list (-1) gs = some l ∧ e = .returned (.tuple #[v, .nilIface]) ∧ Own w' w.heap.size 3 v l) := by
  have HX := Lib.hid hr.len
  go_enter Try.func28, Try.ntmps28
  go_wp2
  go_loopw [4, 5, 10] (fun v x i wr => ∃ (k : Nat) (a : Int) (out : List Int), k ≤ n ∧ i = .int .i64 k ∧ x = .int .i64 a ∧ Own wr w.heap.size 3 v out ∧ Below w.heap.size w wr ∧ Ga.Listing gs k out ∧ Hid (a = Ga.lastAt (-1) out k)) (fun _ _ i _ => n - (intOf i).toNat)
  case atStart => exact ⟨0, -1, [], Nat.zero_le _, rfl, rfl, Own.nil _ _ _, Below.refl _ _, Ga.Listing.start gs, rfl⟩
  case round =>
    obtain ⟨k, a, out, hk, rfl, rfl, hown, hbel, hL, H⟩ := hrel
    have hsz := hbel.size
    by_cases hlt : k < n
    · obtain ⟨b1, o1, rfl, hb1, hc1⟩ := hr.at_ (by omega)
      have g1 : wr.cell? ⟨b1, o1 + k, none⟩ = some (.int .i64 (gs.getD k 0)) := (hbel.cell (by exact hb1)).trans (hc1 k hlt)
      clear hc1
      have hkl : k < gs.length := by rw [HX.out]; exact hlt
      obtain ⟨p1, p2⟩ := Ga.nums_at hns hkl
      have hbad := hL.bad hkl
      have hon := hL.on hkl p1
      obtain ⟨hlen, ha1, ha2, _⟩ := hL
      have hl1 : Ga.lastAt (-1) (out ++ [Ga.lastAt (-1) out k + gs.getD k 0]) (k + 1) = Ga.lastAt (-1) out k + gs.getD k 0 := by rw [Ga.lastAt_succ, ← hlen]; simp [List.getD]
      rw [← H.out] at hbad hon ha1 ha2 hl1
      obtain ⟨p, hp⟩ : ∃ p, p = gs.getD k 0 := ⟨_, rfl⟩
      rw [← hp] at g1 p1 p2 hbad hon hl1
      have HL := Lib.hid hl1
      have HB := Lib.hid hbad
      have HO := Lib.hid hon
      have HLEN := Lib.hid hlen
      have hroom : out.length ≤ 1000 := by omega
      clear hp hl1 hkl hbad hon hlen
      by_cases hgt : 1000000 ≤ a + p
      · have hnone := Lib.hid (HB.out hgt)
        go_wp2
        go_ret2
        exact ⟨hbel, .inl ⟨hnone.out, rfl⟩⟩
      · have hnext := HO.out (by omega)
        go_wp2_with (at_builtin; refine wpList_app _ rfl (.tmp 20) (.tmp 22) _ rfl w.heap.size 3 Try.underlying31 intInfo _ _ rfl (hown.below ((Below.refl _ _).alloc (Nat.le_refl _) _)) (some ⟨wr.heap.size, 0, none⟩) 1 1 [a + p] rfl (Rd.one _ _ _) (by omega) (by simp; omega) ?_; intro v1 w1 hown1 hg1 hat1)
        have hb1 := below_app (hbel.alloc hsz _) (hown.below ((Below.refl _ _).alloc (Nat.le_refl _) _)) hg1 (by simp; omega)
        go_roundw
        case rel => exact ⟨k + 1, a + p, _, by omega, by go_num, by go_num, hown1, hb1, hnext, HL.out.symm⟩
        case measure => simp [intOf]; omega
    · obtain rfl : k = n := by omega
      have hfin := hL.stop (by rw [HX.out]; exact Nat.le_refl _)
      have HF := Lib.hid hfin
      clear hfin
      go_wp2
      go_ret2
      exact ⟨hbel, .inr ⟨_, out, HF.out, rfl, hown⟩⟩

end Go.Proofs.Ytghdallaohpelaa
