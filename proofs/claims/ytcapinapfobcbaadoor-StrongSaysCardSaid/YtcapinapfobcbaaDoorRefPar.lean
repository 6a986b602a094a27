/-
  The reference's Parts: of each point the least one that ways lead to and back from.
-/
import Derived.Test.YtcapinapfobcbaaDoorRefOne
import Derived.Test.YtcapinapfobcbaaDoorStrongN
import Derived.BigQuiet
namespace Go.Proofs.YtcapinapfobcbaaDoor.RefPar
open Go.RowKit
set_option linter.unusedSimpArgs false
set_option linter.unusedVariables false

def ptsTo (m : Nat) (ls : List Gr.Ln) (i : Nat) : List Int := (List.range i).map fun j => ((Sg.pt m ls j : Nat) : Int)
theorem ptsTo_succ (m : Nat) (ls : List Gr.Ln) (i : Nat) : ptsTo m ls (i + 1) = ptsTo m ls i ++ [((Sg.pt m ls i : Nat) : Int)] := by simp [ptsTo, List.range_succ]
theorem ptsTo_len (m : Nat) (ls : List Gr.Ln) (i : Nat) : (ptsTo m ls i).length = i := by simp [ptsTo]

set_option maxRecDepth 100000 in
set_option maxHeartbeats 2000000 in
theorem Parts_any (m : Nat) (A : Option Addr) (n c : Nat) (ls : List Gr.Ln) (w : World) (hr : RdP w w.heap.size A n c ls) (hm1 : 1 ≤ m) (hm8 : m ≤ 8) :
    Calls Tryd.prog 5 #[.int .i64 (m : Int), .slice A n c] w fun e w' => ∃ A1 c1, e = .returned (.slice A1 m c1) ∧ Rd w' w'.heap.size A1 m c1 (Sg.parts m ls) ∧ Below w.heap.size w w' := by
  go_enter Tryd.func5, Tryd.ntmps5
  go_wp2_with fail
  refine (RefF.Far_one m A n c ls _ hr hm1 hm8).mono ?_
  rintro e w1 ⟨gb, cb, rfl, hrr, hb1⟩
  obtain ⟨B, hB⟩ : ∃ B, B = w1.heap.size := ⟨_, rfl⟩
  have HB := Lib.hid hB
  have hb1s := hb1.size
  rw [← hB] at hb1s hrr
  have H0 : Below B w1 w1 := Below.refl _ _
  have hO0 : Own w1 B 3 (.slice none 0 0) (ptsTo m ls 0) := Own.nil _ _ _
  clear hB hr
  go_wp2
  go_loopw [6, 7, 8] (fun v iv _ wr => ∃ i : Nat, i ≤ m ∧ iv = .int .i64 (i : Int) ∧ Own wr B 3 v (ptsTo m ls i) ∧ Below B w1 wr) (fun _ iv _ _ => m - (intOf iv).toNat)
  case atStart => exact ⟨0, Nat.zero_le _, rfl, hO0, H0⟩
  case round =>
    clear hO0 H0
    obtain ⟨i, hi, rfl, hown, hbel⟩ := hrel
    by_cases hlt : i < m
    · have hsz : B ≤ wr.heap.size := by have := hbel.size; rw [← HB.out] at this; exact this
      have hrrw := (hrr.below hbel).more hsz
      obtain ⟨hp1, hp2, hp3⟩ := Sg.pt_spec (ls := ls) hlt
      obtain ⟨q, hq⟩ : ∃ q, q = Sg.pt m ls i := ⟨_, rfl⟩
      have HX : Hid (ptsTo m ls (i + 1) = ptsTo m ls i ++ [(q : Int)]) := by show _ = _; rw [ptsTo_succ, hq]
      rw [← hq] at hp1 hp2 hp3
      have hqm : q < m := by omega
      have HP2 := Lib.hid hp2
      have HP3 := Lib.hid hp3
      have HO := Lib.hid hown
      have i1 : (0 : Int) ≤ (i : Int) := by omega
      have i2 : (i : Int) < (m : Int) := by omega
      clear hq hp1 hp2 hp3 hown
      go_wp2
      go_loopw [8] (fun kv wk => ∃ k : Nat, k ≤ q ∧ kv = .int .i64 (k : Int) ∧ wr = wk) (fun kv _ => m - (intOf kv).toNat)
      case atStart => exact ⟨0, Nat.zero_le _, rfl, rfl⟩
      case round =>
        obtain ⟨k, hk, rfl, rfl⟩ := hrel
        have hkm : k < m := by omega
        have k1 : (0 : Int) ≤ (k : Int) := by omega
        have k2 : (k : Int) < (m : Int) := by omega
        obtain ⟨g, o, cc, g1, g2⟩ := RefF.far_cell hrrw hlt hkm
        obtain ⟨d, hd⟩ : ∃ d, d = Wa.dist m (To.frow m ls) i k := ⟨_, rfl⟩
        rw [← hd] at g2
        obtain ⟨g', o', cc', g3, g4⟩ := RefF.far_cell hrrw hkm hlt
        obtain ⟨d', hd'⟩ : ∃ d, d = Wa.dist m (To.frow m ls) k i := ⟨_, rfl⟩
        rw [← hd'] at g4
        have HBO : Hid (Sg.both m ls i k = (decide (0 ≤ d) && decide (0 ≤ d'))) := by show _ = _; unfold Sg.both Sg.reach; rw [hd, hd']
        clear hd hd'
        by_cases h1 : 0 ≤ d
        · by_cases h2 : 0 ≤ d'
          · have hkq : k = q := by
              rcases Nat.lt_or_ge k q with h | h
              · have h3 := HP3.out k h
                rw [HBO.out] at h3
                simp only [Bool.and_eq_false_iff, decide_eq_false_iff_not] at h3
                omega
              · omega
            subst hkq
            have hownH := HO.out.below ((Below.refl wr.heap.size wr).alloc (Nat.le_refl _) (.cells #[.int .i64 (k : Int)] 3))
            have hrd2 := Rd.one wr (k : Int) 3
            have hql : (ptsTo m ls i).length + 1 ≤ 17592186044416 := by rw [ptsTo_len]; omega
            have hb2 := hbel.alloc hsz (.cells #[.int .i64 (k : Int)] 3)
            clear HBO hrrw
            go_wp2_with (at_builtin; refine wpList_app _ rfl (.tmp 37) (.tmp 39) 24 rfl B 3 Tryd.underlying24 intInfo _ _ rfl hownH (some ⟨wr.heap.size, 0, none⟩) 1 1 [(k : Int)] rfl hrd2 hql (by simp; omega) ?_; intro v3 w3 hown3 hg3 hat3)
            rw [← HX.out] at hown3
            go_roundw
            case rel => exact ⟨i + 1, by omega, by go_num, hown3, hb2.grown hg3 (by simp; omega) (fun k hk => hownH.at_base k hk)⟩
            case measure => simp [intOf]; omega
          · have hkq : k < q := by
              rcases Nat.lt_or_ge k q with h | h
              · exact h
              · obtain rfl : k = q := by omega
                have h3 := HP2.out
                rw [HBO.out] at h3
                simp only [Bool.and_eq_true, decide_eq_true_eq] at h3
                omega
            have h1' : decide (d < 0) = false := by simp; omega
            have h2' : d' < 0 := by omega
            clear HBO
            go_wp2
            go_roundw
            case rel => exact ⟨k + 1, by omega, by go_num, trivial⟩
            case measure => simp [intOf]; omega
        · have hkq : k < q := by
            rcases Nat.lt_or_ge k q with h | h
            · exact h
            · obtain rfl : k = q := by omega
              have h3 := HP2.out
              rw [HBO.out] at h3
              simp only [Bool.and_eq_true, decide_eq_true_eq] at h3
              omega
          have h1' : d < 0 := by omega
          clear HBO
          go_wp2
          go_roundw
          case rel => exact ⟨k + 1, by omega, by go_num, trivial⟩
          case measure => simp [intOf]; omega
    · obtain rfl : i = m := by omega
      obtain ⟨A1, c1, rfl, hrd⟩ := hown.rd
      rw [ptsTo_len] at hrd ⊢
      have hrd' : Rd wr wr.heap.size A1 i c1 (Sg.parts i ls) := hrd
      have hb := hb1.trans (hbel.mono hb1s)
      clear hown hrd hrr
      go_wp2
      go_ret
      exact ⟨_, _, rfl, hrd', hb⟩

end Go.Proofs.YtcapinapfobcbaaDoor.RefPar
