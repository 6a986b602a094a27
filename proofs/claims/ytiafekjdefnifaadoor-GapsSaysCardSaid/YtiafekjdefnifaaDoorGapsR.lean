/-
  Contract of package gaps: Runs.
-/
import Derived.Test.YtiafekjdefnifaaDoorGapsA
import Derived.Test.YtiafekjdefnifaaDoorLibP
import Derived.RegionTactic
import Derived.BigRegion
namespace Go.Proofs.YtiafekjdefnifaaDoor
open Go.RowKit

theorem pairInfo : (Tryd.prog.info? 30).map (fun i => (i.zero, i.size, i.bytes)) = some (some (.agg #[.int .i64 0, .int .i64 0]), 2, 16) := by kernel_rfl

/-- what Runs hands back -/
def RunsPost (w w' : World) (l : List Int) (e : Ending) : Prop :=
  Below w.heap.size w w' ∧ ((Ga.code l ≠ 0 ∧ e = .returned (.tuple #[.slice none 0 0, errv (Ga.code l)])) ∨
    ∃ v, Ga.code l = 0 ∧ e = .returned (.tuple #[v, .nilIface]) ∧ OwnP w' w.heap.size 30 v (Ga.runs (-2) l))

set_option maxRecDepth 100000 in
set_option maxHeartbeats 2000000 in
theorem Runs_any (A : Option Addr) (n c : Nat) (l : List Int) (w : World) (hr : Rd w w.heap.size A n c l) :
    Calls Tryd.prog 10 #[.slice A n c] w fun e w' => RunsPost w w' l e := by
  have HX := Lib.hid hr.len
  have hbig := hr.big
  by_cases hc : Ga.code l = 0
  · have HE := Lib.hid (errOf_zero hc)
    obtain ⟨hn30, hup⟩ := Ga.code_zero hc
    rw [HX.out] at hn30
    have HC := Lib.hid hc
    clear hc
    go_enter Tryd.func10, Tryd.ntmps10
    go_wp2_with fail
    refine (Check_any _ _ _ _ _ hr).mono ?_
    rintro e w' ⟨rfl, rfl⟩
    rw [HE.out]
    go_wp2_with fail
    go_loopw [5, 15] (fun v i wr => ∃ (k : Nat) (rs : List (Int × Int)), k ≤ n ∧ i = .int .i64 k ∧ OwnP wr w.heap.size 30 v rs ∧ Below w.heap.size w wr ∧ Ga.Running l k rs) (fun _ i _ => n - (intOf i).toNat)
    case atStart => exact ⟨0, [], Nat.zero_le _, rfl, OwnP.nil _ _ _, Below.refl _ _, Ga.Running.start l⟩
    case round =>
      obtain ⟨k, rs, hk, rfl, hown, hbel, hR⟩ := hrel
      have hsz := hbel.size
      by_cases hlt : k < n
      · obtain ⟨b1, o1, rfl, hb1, hc1⟩ := hr.at_ (by omega)
        have hkl : k < l.length := by rw [HX.out]; exact hlt
        have g1 : wr.cell? ⟨b1, o1 + k, none⟩ = some (.int .i64 (l.getD k 0)) := (hbel.cell (by exact hb1)).trans (hc1 k hlt)
        obtain ⟨p1, p2, p3⟩ := Ga.Up.at_ l _ hup k hkl
        have hfresh := Lib.hid (hR.fresh hkl)
        have hrl : rs.length ≤ k := hR.1
        by_cases h0 : k = 0
        · subst h0
          rw [Nat.add_zero] at g1
          have hne := Lib.hid (hfresh.out (by rw [Ga.lastAt_zero]; omega))
          clear hfresh hc1 p3 hkl hR
          obtain ⟨p, hp⟩ : ∃ p, p = l.getD 0 0 := ⟨_, rfl⟩
          rw [← hp] at g1 p1 p2 hne
          have HP := Lib.hid hp
          clear hp
          go_wp2_with (at_builtin; refine wpList_appP _ rfl (.tmp 32) (.tmp 35) _ rfl w.heap.size 30 Tryd.underlying28 pairInfo _ _ rfl (hown.below ((Below.refl _ _).alloc (Nat.le_refl _) _)) (some ⟨wr.heap.size, 0, none⟩) 1 1 [(p, 0)] rfl (RdP.one _ _ _) (by omega) (by simp; omega) ?_; intro v1 w1 hown1 hg1 hat1)
          have hb2 := below_appP (hbel.alloc hsz _) (hown.below ((Below.refl _ _).alloc (Nat.le_refl _) _)) hg1 (by simp; omega)
          have hs2 := hb2.size
          obtain ⟨g, cap, rfl, hg0, hg1', hcap1, hcap2, _, ce2, fr, hset⟩ := hown1.last
          obtain ⟨S, hS⟩ : ∃ S, S = rs.length := ⟨_, rfl⟩
          rw [← hS] at hcap1 ce2 fr hset hrl ⊢
          clear hS
          obtain ⟨hset1, hset2⟩ := hset 1
          clear hset hat1 hg1
          have hb3 := hb2.grown hset2 hs2 (fun j hj => by simp only [Option.some.injEq] at hj; omega)
          go_wp2_with fail
          go_region
          go_wp2
          go_roundw
          case rel => exact ⟨1, rs ++ [(p, 1)], by omega, by go_num, hset1, hb3.drew, hne.out⟩
          case measure => simp [intOf]; omega
        · have hkp : 0 < k := by omega
          have h0' : ((k : Int) == 0) = false := by simp; omega
          have g0 : wr.cell? ⟨b1, o1 + (k - 1), none⟩ = some (.int .i64 (l.getD (k - 1) 0)) := (hbel.cell (by exact hb1)).trans (hc1 (k - 1) (by omega))
          have hla : Ga.lastAt (-2) l k = l.getD (k - 1) 0 := by unfold Ga.lastAt; rw [if_neg h0]
          obtain ⟨q1, q2, _⟩ := Ga.Up.at_ l _ hup (k - 1) (by omega)
          rw [hla] at hfresh
          obtain ⟨front, a, x, hrs, hx0, hx1⟩ : ∃ (front : List (Int × Int)) (a x : Int), rs = front ++ [(a, x)] ∧ 0 ≤ x ∧ x ≤ (k : Int) := by
            rcases hR.2.1 with ⟨h, _⟩ | ⟨_, h⟩
            · omega
            · exact h
          subst hrs
          have hon := Lib.hid (hR.on hkl hx0 hx1)
          rw [hla] at hon
          obtain ⟨p, hp⟩ : ∃ p, p = l.getD k 0 := ⟨_, rfl⟩
          obtain ⟨q, hq⟩ : ∃ q, q = l.getD (k - 1) 0 := ⟨_, rfl⟩
          rw [← hp] at g1 p1 p2 hfresh hon
          rw [← hq] at g0 q1 q2 hfresh hon
          have HP := Lib.hid hp
          have HQ := Lib.hid hq
          clear hp hq hla hc1 p3 hkl hR h0
          by_cases hpq : p = q + 1
          · have hne := Lib.hid (hon.out hpq)
            subst hpq
            clear hfresh hon
            obtain ⟨g, cap, rfl, hg0, hg1', hcap1, hcap2, _, ce2, fr, hset⟩ := hown.last
            obtain ⟨S, hS⟩ : ∃ S, S = front.length := ⟨_, rfl⟩
            have hrl' : S + 1 ≤ k := by simp at hrl; omega
            rw [← hS] at hcap1 ce2 fr hset
            rw [← hS]
            clear hS hrl
            obtain ⟨hset1, hset2⟩ := hset (x + 1)
            clear hset
            have hb3 := hbel.grown hset2 hsz (fun j hj => by simp only [Option.some.injEq] at hj; omega)
            go_wp2_with fail
            go_region
            go_wp2
            go_roundw
            case rel => exact ⟨k + 1, front ++ [(a, x + 1)], by omega, by go_num, hset1, hb3.drew, hne.out⟩
            case measure => simp [intOf]; omega
          · have hne := Lib.hid (hfresh.out hpq)
            have hd : (p != q + 1) = true := by simpa using hpq
            clear hfresh hon hpq
            obtain ⟨rs, hrs⟩ : ∃ rs, rs = front ++ [(a, x)] := ⟨_, rfl⟩
            rw [← hrs] at hne hown hrl
            clear hrs
            go_wp2_with (at_builtin; refine wpList_appP _ rfl (.tmp 32) (.tmp 35) _ rfl w.heap.size 30 Tryd.underlying28 pairInfo _ _ rfl (hown.below ((Below.refl _ _).alloc (Nat.le_refl _) _)) (some ⟨wr.heap.size, 0, none⟩) 1 1 [(p, 0)] rfl (RdP.one _ _ _) (by omega) (by simp; omega) ?_; intro v1 w1 hown1 hg1 hat1)
            have hb2 := below_appP (hbel.alloc hsz _) (hown.below ((Below.refl _ _).alloc (Nat.le_refl _) _)) hg1 (by simp; omega)
            have hs2 := hb2.size
            obtain ⟨g, cap, rfl, hg0, hg1', hcap1, hcap2, _, ce2, fr, hset⟩ := hown1.last
            obtain ⟨S, hS⟩ : ∃ S, S = rs.length := ⟨_, rfl⟩
            rw [← hS] at hcap1 ce2 fr hset hrl ⊢
            clear hS
            obtain ⟨hset1, hset2⟩ := hset 1
            clear hset hat1 hg1
            have hb3 := hb2.grown hset2 hs2 (fun j hj => by simp only [Option.some.injEq] at hj; omega)
            go_wp2_with fail
            go_region
            go_wp2
            go_roundw
            case rel => exact ⟨k + 1, rs ++ [(p, 1)], by omega, by go_num, hset1, hb3.drew, hne.out⟩
            case measure => simp [intOf]; omega
      · obtain rfl : k = n := by omega
        have hfin := Lib.hid (hR.stop (by rw [HX.out]; exact Nat.le_refl _))
        go_wp2
        go_ret2
        refine ⟨hbel, .inr ⟨_, HC.out, rfl, ?_⟩⟩
        rw [hfin.out]
        exact hown
  · have HE := Lib.hid (errOf_pos hc)
    have HC := Lib.hid hc
    clear hc
    go_enter Tryd.func10, Tryd.ntmps10
    go_wp2_with fail
    refine (Check_any _ _ _ _ _ hr).mono ?_
    rintro e w' ⟨rfl, rfl⟩
    rw [HE.out]
    go_wp2
    go_ret2
    exact ⟨Below.refl _ _, .inl ⟨HC.out, rfl⟩⟩

end Go.Proofs.YtiafekjdefnifaaDoor
