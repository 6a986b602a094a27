/-
  The reference's Far over lines one way, over all points: how far by lines as they go; and its Comes.
-/
import Derived.Test.YtfemjailphcnhaaDoorRefX0
import Derived.Test.YtfemjailphcnhaaDoorTopoP
namespace Go.Proofs.YtfemjailphcnhaaDoor.RefF
open Go.RowKit
set_option linter.unusedSimpArgs false
set_option linter.unusedVariables false

theorem start_one {m : Nat} (ls : List Gr.Ln) : Wf.Steps m (To.frow m ls) (start ls false (-1)) := by
  intro i j hi hj
  unfold start
  have h : steps ls false (-1) i j = (To.frow m ls i).contains j := by
    have h1 : ¬ (i : Int) = -1 := by omega
    have h2 : ¬ (j : Int) = -1 := by omega
    have h3 : steps ls false (-1) i j = Gr.has ls (i : Int) (j : Int) := by simp [steps, h1, h2]
    rw [h3]
    cases h : Gr.has ls (i : Int) (j : Int) with
    | true =>
      have : j ∈ To.frow m ls i := To.mem_frow.2 ⟨hj, h⟩
      exact (by simpa using this : (To.frow m ls i).contains j = true).symm
    | false =>
      have : ¬ j ∈ To.frow m ls i := fun hh => by have := (To.mem_frow.1 hh).2; rw [h] at this; cases this
      exact (by simpa using this : (To.frow m ls i).contains j = false).symm
  rw [h]
theorem matF_one (m : Nat) (ls : List Gr.Ln) : matF m m (Wf.dk (start ls false (-1)) m) = matF m m (fun i j => Wa.dist m (To.frow m ls) i j) := by
  unfold matF
  refine List.map_congr_left fun i hi => rowF_congr fun j hj => ?_
  exact Wf.far_dist (start_base ls false (-1)) (To.frow_ok m ls) (start_one ls) (by simpa using hi) hj

theorem Far_one (m : Nat) (A : Option Addr) (n c : Nat) (ls : List Gr.Ln) (w : World) (hr : RdP w w.heap.size A n c ls) (hm1 : 1 ≤ m) (hm8 : m ≤ 8) :
    Calls Tryd.prog 28 #[.int .i64 (m : Int), .slice A n c, .bool false, .int .i64 (-1)] w fun e w' => ∃ gb cb, e = .returned (.slice (some ⟨gb, 0, none⟩) m cb) ∧
      RdR w' w'.heap.size (some ⟨gb, 0, none⟩) m cb (matF m m (fun i j => Wa.dist m (To.frow m ls) i j)) ∧ Below w.heap.size w w' := by
  refine (Far_any m A n c ls false (-1) w hr hm1 hm8).mono ?_
  rintro e w' ⟨gb, cb, rfl, h2, h3⟩
  rw [matF_one] at h2
  exact ⟨gb, cb, rfl, h2, h3⟩

set_option maxRecDepth 100000 in
set_option maxHeartbeats 2000000 in
theorem Comes_any (m a b : Nat) (A : Option Addr) (n c : Nat) (ls : List Gr.Ln) (t : Bool) (w : World) (hr : RdP w w.heap.size A n c ls) (hm8 : m ≤ 8) (ha : a < m) (hb : b < m) (ht : To.comes m ls a b = t) :
    Calls Tryd.prog 15 #[.int .i64 (m : Int), .slice A n c, .int .i64 (a : Int), .int .i64 (b : Int)] w fun e w' => e = .returned (.bool t) ∧ Below w.heap.size w w' := by
  have HT := Lib.hid ht
  clear ht
  have H0 : Hid (To.comesTo m ls a b 0 = false) := rfl
  go_enter Tryd.func15, Tryd.ntmps15
  go_wp2_with fail
  refine (Far_one m A n c ls _ hr (by omega) hm8).mono ?_
  rintro e w1 ⟨gb, cb, rfl, hrr, hb1⟩
  have hr1 := hr.past hb1
  go_wp2
  go_loopw [10] (fun kv wr => ∃ k : Nat, k ≤ m ∧ kv = .int .i64 (k : Int) ∧ Hid (To.comesTo m ls a b k = false) ∧ w1 = wr) (fun kv _ => m - (intOf kv).toNat)
  case atStart => exact ⟨0, Nat.zero_le _, rfl, H0, rfl⟩
  case round =>
    obtain ⟨k, hk, rfl, H, rfl⟩ := hrel
    by_cases hlt : k < m
    · have k1 : (0 : Int) ≤ (k : Int) := by omega
      have k2 : (k : Int) < (m : Int) := by omega
      have b1 : (0 : Int) ≤ (b : Int) := by omega
      have b2 : (b : Int) < (m : Int) := by omega
      obtain ⟨s, hs⟩ : ∃ s, Gr.has ls (a : Int) (k : Int) = s := ⟨_, rfl⟩
      obtain ⟨d, hd⟩ : ∃ d, d = Wa.dist m (To.frow m ls) k b := ⟨_, rfl⟩
      have HN : Hid (To.comesTo m ls a b (k + 1) = (s && decide (0 ≤ d))) := by show _ = _; rw [To.comesTo_succ, H.out, hs, hd]; simp
      have HY : Hid (s = true → 0 ≤ d → t = true) := fun h1 h2 => by rw [← HT.out]; exact To.comesTo_mono hlt (by rw [hs]; exact h1) (by rw [← hd]; exact h2)
      have HS := Lib.hid hs
      clear hs
      cases s with
      | false =>
        have HN2 : Hid (To.comesTo m ls a b (k + 1) = false) := by show _ = _; rw [HN.out]; rfl
        clear hd HN HY
        go_wp2_with fail
        refine (RefL.Goes_any A n c ls a k false _ hr1 HS.out).mono ?_
        rintro e w2 ⟨rfl, rfl⟩
        go_wp2
        go_roundw
        case rel => exact ⟨k + 1, by omega, by go_num, HN2, trivial⟩
        case measure => simp [intOf]; omega
      | true =>
        obtain ⟨g, o, cc, g1, g2⟩ := far_cell hrr hlt hb
        rw [← hd] at g2
        clear hd
        by_cases h : 0 ≤ d
        · have hfin : Hid (t = true) := HY.out rfl h
          clear HN HY
          go_wp2_with fail
          refine (RefL.Goes_any A n c ls a k true _ hr1 HS.out).mono ?_
          rintro e w2 ⟨rfl, rfl⟩
          go_wp2
          go_ret
          exact ⟨by rw [hfin.out]; rfl, hb1⟩
        · have HN2 : Hid (To.comesTo m ls a b (k + 1) = false) := by show _ = _; rw [HN.out]; simp; omega
          have d1 : decide (0 ≤ d) = false := by simp; omega
          clear HN HY h
          go_wp2_with fail
          refine (RefL.Goes_any A n c ls a k true _ hr1 HS.out).mono ?_
          rintro e w2 ⟨rfl, rfl⟩
          go_wp2
          go_roundw
          case rel => exact ⟨k + 1, by omega, by go_num, HN2, trivial⟩
          case measure => simp [intOf]; omega
    · obtain rfl : k = m := by omega
      have hfin : Hid (t = false) := by show _ = _; rw [← HT.out]; exact H.out
      go_wp2
      go_ret
      exact ⟨by rw [hfin.out]; rfl, hb1⟩

end Go.Proofs.YtfemjailphcnhaaDoor.RefF
