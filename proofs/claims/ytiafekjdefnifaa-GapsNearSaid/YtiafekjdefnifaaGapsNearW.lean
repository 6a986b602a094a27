/-
  The walk of the law GapsNear: for every three integers it returns true.
-/
import Derived.Test.YtiafekjdefnifaaGapsF
namespace Go.Proofs.Ytiafekjdefnifaa.gapsNear
open Go.RowKit

/-- k numbers from a on, each s more than the one before -/
def rise (a s : Int) : Nat → List Int
  | 0 => []
  | k + 1 => a :: rise (a + s) s k
theorem rise_len (s : Int) : ∀ (k : Nat) (a : Int), (rise a s k).length = k := by
  intro k
  induction k with
  | zero => intro a; rfl
  | succ k ih => intro a; simp [rise, ih]
theorem rise_snoc (s : Int) : ∀ (k : Nat) (a : Int), rise a s (k + 1) = rise a s k ++ [a + k * s] := by
  intro k
  induction k with
  | zero => intro a; simp [rise]
  | succ k ih =>
    intro a
    rw [rise, ih (a + s), rise, List.cons_append]
    congr 3
    rw [show ((k + 1 : Nat) : Int) = (k : Int) + 1 from rfl, Int.add_mul, Int.one_mul]
    omega
theorem rise_up {s : Int} (hs : 1 ≤ s) : ∀ (k : Nat) (a b : Int), b < a → 0 ≤ a → a + k * s ≤ 1000000 → Ga.Up b (rise a s k) := by
  intro k
  induction k with
  | zero => intro a b _ _ _; trivial
  | succ k ih =>
    intro a b h1 h2 h3
    rw [show ((k + 1 : Nat) : Int) = (k : Int) + 1 from rfl, Int.add_mul, Int.one_mul] at h3
    have hp : 0 ≤ (k : Int) * s := Int.mul_nonneg (by omega) (by omega)
    exact ⟨h2, by omega, h1, ih (a + s) a (by omega) (by omega) (by omega)⟩
theorem rise_code {a s : Int} {k : Nat} (h0 : 0 ≤ a) (h1 : a ≤ 900000) (s1 : 1 ≤ s) (s2 : s ≤ 3000) (hk : k ≤ 30) : Ga.code (rise a s k) = 0 := by
  refine Ga.code_up (by rw [rise_len]; exact hk) (rise_up s1 k a (-1) (by omega) h0 ?_)
  have : (k : Int) * s ≤ 30 * 3000 := Int.mul_le_mul (by omega) s2 (by omega) (by omega)
  omega
theorem gaps_rise (s : Int) : ∀ (k : Nat) (a : Int), Ga.gaps a (rise (a + s) s k) = List.replicate k s := by
  intro k
  induction k with
  | zero => intro a; rfl
  | succ k ih =>
    intro a
    rw [rise, Ga.gaps, ih (a + s), List.replicate_succ, show a + s - a = s by omega]
theorem codes_replicate (s : Int) : ∀ k : Nat, (El.codes El.delta (List.replicate k s)).length = k * (El.delta s.toNat).length := by
  intro k
  induction k with
  | zero => simp [El.codes]
  | succ k ih => rw [List.replicate_succ, El.codes_cons, List.length_append, ih, Nat.succ_mul]; omega
theorem write_len (a s : Int) (k : Nat) : (Ga.write (rise a s (k + 1))).length = (El.delta (k + 2)).length + (El.delta (a + 1).toNat).length + k * (El.delta s.toNat).length := by
  have e : Ga.nums (rise a s (k + 1)) = ((k : Int) + 2) :: (a + 1) :: List.replicate k s := by
    rw [Ga.nums, rise_len, rise, Ga.gaps, gaps_rise]
    congr 1
  rw [Ga.write, e, El.codes_cons, El.codes_cons, List.length_append, List.length_append, codes_replicate, show ((k : Int) + 2).toNat = k + 2 by omega]
  omega
theorem write_le {l : List Int} (h : Ga.code l = 0) : (Ga.write l).length ≤ 1860 := by
  have h1 := Ga.codes_le _ (Ga.nums_nums h)
  rw [Ga.nums_len] at h1
  have h2 := (Ga.code_zero h).1
  unfold Ga.write
  omega
theorem delta1 : (El.delta 1).length = 1 := by
  have b1 : El.bin 1 = [1] := El.bin_small (by omega)
  rw [El.delta, b1, El.gamma, show ([1] : List Int).length = 1 from rfl, b1]
  rfl

/-- two slices that do not share a block -/
def Apart (v u : Value) : Prop := ∀ k, v.ownBlock = some k → u.ownBlock ≠ some k
def Two (w : World) (B : Nat) (v u : Value) (a s : Int) (k : Nat) : Prop :=
  Own w B 3 v (rise a 1 k) ∧ Own w B 3 u (rise a s k) ∧ Apart v u

set_option maxRecDepth 100000 in
set_option maxHeartbeats 4000000 in
theorem walk (w : World) (a0 : Int) (_w0 : (Lit.int .i64 a0).wf = true) (a1 : Int) (_w1 : (Lit.int .i64 a1).wf = true) (a2 : Int) (_w2 : (Lit.int .i64 a2).wf = true) :
    Calls Try.prog 4 #[.int .i64 a0, .int .i64 a1, .int .i64 a2] w fun e w' => e = .returned (.bool true) ∧ Below w.heap.size w w' := by
  go_enter Try.func4, Try.ntmps4
  go_wp2_with fail
  refine (gfact_any _).mono ?_
  rintro e x1 ⟨rfl, hb1⟩
  have hs1 := hb1.size
  by_cases h0 : a0 < 0 ∨ 900000 < a0
  · go_wp2_with fail
    refine (in_no _ _ _ _ h0).mono ?_
    rintro e x2 ⟨rfl, rfl⟩
    go_wp2
    go_ret
    exact ⟨rfl, hb1⟩
  by_cases h1 : a1 < 1 ∨ 30 < a1
  · go_wp2_with fail
    refine (in_yes _ _ _ _ (by omega) (by omega)).mono ?_
    rintro e x2 ⟨rfl, rfl⟩
    go_wp2_with fail
    refine (in_no _ _ _ _ h1).mono ?_
    rintro e x2 ⟨rfl, rfl⟩
    go_wp2
    go_ret
    exact ⟨rfl, hb1⟩
  by_cases h2 : a2 < 1 ∨ 3000 < a2
  · go_wp2_with fail
    refine (in_yes _ _ _ _ (by omega) (by omega)).mono ?_
    rintro e x2 ⟨rfl, rfl⟩
    go_wp2_with fail
    refine (in_yes _ _ _ _ (by omega) (by omega)).mono ?_
    rintro e x2 ⟨rfl, rfl⟩
    go_wp2_with fail
    refine (in_no _ _ _ _ h2).mono ?_
    rintro e x2 ⟨rfl, rfl⟩
    go_wp2
    go_ret
    exact ⟨rfl, hb1⟩
  have p0 : 0 ≤ a0 := by omega
  have p1 : a0 ≤ 900000 := by omega
  have q0 : 1 ≤ a1 := by omega
  have q1 : a1 ≤ 30 := by omega
  have r0 : 1 ≤ a2 := by omega
  have r1 : a2 ≤ 3000 := by omega
  clear h0 h1 h2
  go_wp2_with fail
  refine (in_yes _ _ _ _ p0 p1).mono ?_
  rintro e x2 ⟨rfl, rfl⟩
  go_wp2_with fail
  refine (in_yes _ _ _ _ q0 q1).mono ?_
  rintro e x2 ⟨rfl, rfl⟩
  go_wp2_with fail
  refine (in_yes _ _ _ _ r0 r1).mono ?_
  rintro e x2 ⟨rfl, rfl⟩
  go_wp2_with fail
  go_loopw [8, 9, 10] (fun v u i wr => ∃ k : Nat, (k : Int) ≤ a1 ∧ i = .int .i64 k ∧ Two wr x1.heap.size v u a0 a2 k ∧ Below x1.heap.size x1 wr) (fun _ _ i _ => (a1 - intOf i).toNat)
  case atStart => exact ⟨0, by omega, rfl, ⟨Own.nil _ _ _, Own.nil _ _ _, fun k h => by simp [Value.ownBlock] at h⟩, Below.refl _ _⟩
  case round =>
    obtain ⟨k, hk, rfl, ⟨hov, hou, hap⟩, hbel⟩ := hrel
    have hszr := hbel.size
    by_cases hlt : (k : Int) < a1
    · have m1 : 0 ≤ (k : Int) * a2 := Int.mul_nonneg (by omega) (by omega)
      have m2 : (k : Int) * a2 ≤ 30 * 3000 := Int.mul_le_mul (by omega) r1 (by omega) (by omega)
      have hlv := rise_len 1 k a0
      have hlu := rise_len a2 k a0
      have hrv : (rise a0 1 k).length + 1 ≤ 17592186044416 := by omega
      have hru : (rise a0 a2 k).length + 1 ≤ 17592186044416 := by omega
      clear hlv hlu
      go_wp2_with (first
        | (at_builtin; refine wpList_app _ rfl (.tmp 42) (.tmp 46) _ rfl x1.heap.size 3 Try.underlying22 intInfo _ _ rfl (hov.below ((Below.refl _ _).alloc (Nat.le_refl _) _)) (some ⟨wr.heap.size, 0, none⟩) 1 1 [a0 + (k : Int)] rfl (Rd.one _ _ _) hrv (by simp; omega) ?_; intro v5 w5 hov5 hg5 hat5; have hw5 := below_app (hbel.alloc hszr _) (hov.below ((Below.refl _ _).alloc (Nat.le_refl _) _)) hg5 (by simp; omega); have hs5 := hw5.size; have hz5 := hg5.size; have hou5 := (hou.below ((Below.refl _ _).alloc (Nat.le_refl _) _)).grown hg5 (fun j hj => fun he => hap j he hj))
        | (at_builtin; refine wpList_app _ rfl (.tmp 48) (.tmp 54) _ rfl x1.heap.size 3 Try.underlying22 intInfo _ _ rfl (hou5.below ((Below.refl _ _).alloc (Nat.le_refl _) _)) (some ⟨w5.heap.size, 0, none⟩) 1 1 [a0 + (k : Int) * a2] rfl (Rd.one _ _ _) hru (by simp; omega) ?_; intro v6 w6 hou6 hg6 hat6))
      have hw6 := below_app (hw5.alloc hs5 _) (hou5.below ((Below.refl _ _).alloc (Nat.le_refl _) _)) hg6 (by simp; omega)
      have hov6 : Own w6 x1.heap.size 3 v5 (rise a0 1 k ++ [a0 + (k : Int)]) := (hov5.below ((Below.refl _ _).alloc (Nat.le_refl _) _)).grown hg6 (fun j hj => fun he => by
        rcases hat5 with h | h
        · rw [h] at hj; exact hap j hj he
        · rw [h] at hj
          have := hou.lt j he
          simp at hj
          omega)
      have hap' : Apart v5 v6 := by
        intro j hj he
        rcases hat6 with h | h
        · rw [h] at he
          rcases hat5 with h' | h'
          · rw [h'] at hj; exact hap j hj he
          · rw [h'] at hj
            have := hou.lt j he
            simp at hj
            omega
        · rw [h] at he
          have := hov5.lt j hj
          simp at he
          omega
      have e1 : rise a0 1 k ++ [a0 + (k : Int)] = rise a0 1 (k + 1) := by rw [rise_snoc, Int.mul_one]
      have e2 : rise a0 a2 k ++ [a0 + (k : Int) * a2] = rise a0 a2 (k + 1) := by rw [rise_snoc]
      rw [e1] at hov6
      rw [e2] at hou6
      clear e1 e2
      go_roundw
      case rel => exact ⟨k + 1, by omega, by go_num, ⟨hov6, hou6, hap'⟩, hw6⟩
      case measure => simp [intOf]; omega
    · obtain rfl : a1 = (k : Int) := by omega
      obtain ⟨m, rfl⟩ : ∃ m, k = m + 1 := ⟨k - 1, by omega⟩
      have c1 := Lib.hid (rise_code (k := m + 1) p0 p1 (Int.le_refl 1) (by omega) (by omega))
      have c2 := Lib.hid (rise_code (k := m + 1) p0 p1 r0 r1 (by omega))
      have c3 := Lib.hid (rise_code (k := 1) p0 p1 (Int.le_refl 1) (by omega) (by omega))
      have l1 := write_len a0 1 m
      have l2 := write_len a0 a2 m
      have l3 := write_len a0 1 0
      have hd : m * 1 ≤ m * (El.delta a2.toNat).length := Nat.mul_le_mul_left m (El.delta_pos _)
      rw [show ((1 : Int).toNat) = 1 from rfl, delta1] at l1 l3
      have L1 := Lib.hid l1
      have L2 := Lib.hid l2
      have L3 := Lib.hid l3
      clear l1 l2 l3
      obtain ⟨A1, d1, rfl, rv⟩ := hov.rd
      obtain ⟨A2, d2, rfl, ru⟩ := hou.rd
      obtain ⟨K, hK⟩ : ∃ K : Int, K = ((m + 1 : Nat) : Int) := ⟨_, rfl⟩
      have hD : ∀ x : World, Calls Try.prog 11 #[.int .i64 (K + 1)] x fun e w' => ∃ v, e = .returned (.tuple #[v, .nilIface]) ∧ Own w' x.heap.size 3 v (El.delta (m + 2)) ∧ Below x.heap.size x w' := by
        intro x
        rw [show K + 1 = ((m + 2 : Nat) : Int) by omega]
        exact Delta_yes _ _ (by omega) (by omega)
      have HD := Lib.hid hD
      have hw0 : Below w.heap.size w wr := hb1.trans (hbel.mono hs1)
      clear hov hou hap hbel hD hb1
      rw [← hK] at q1 hlt ⊢
      have hKm : K ≤ (m : Int) + 1 := by omega
      have hKm' : (m : Int) + 1 ≤ K := by omega
      clear hK
      go_wp2_with fail
      refine (Write_any _ _ _ _ _ rv).mono ?_
      rintro e x3 ⟨hb3, ⟨h3, rfl⟩ | ⟨v3, h3, rfl, hown3⟩⟩
      · exact absurd c1.out h3
      clear h3
      obtain ⟨A3, d3, rfl, r3⟩ := hown3.rd
      have hbig3 := write_le c1.out
      have ru3 := ru.past hb3
      have hw3 : Below w.heap.size w x3 := hw0.trans (hb3.mono hw0.size)
      clear hb3 hown3 rv ru r3
      obtain ⟨n3, hn3⟩ : ∃ n, n = (Ga.write (rise a0 1 (m + 1))).length := ⟨_, rfl⟩
      rw [← hn3] at hbig3 ⊢
      have HN3 := Lib.hid hn3
      clear hn3
      go_wp2_with fail
      refine (Write_any _ _ _ (rise a0 1 1) _ (by simpa [rise] using Rd.one x3 a0 3)).mono ?_
      rintro e x4 ⟨hb4', ⟨h4, rfl⟩ | ⟨v4, h4, rfl, hown4⟩⟩
      · exact absurd c3.out h4
      clear h4
      obtain ⟨A4, d4, rfl, r4⟩ := hown4.rd
      have hbig4 := write_le c3.out
      have hb4 : Below x3.heap.size x3 x4 := ((Below.refl _ _).alloc (Nat.le_refl _) _).trans (hb4'.mono (by simp))
      have ru4 := ru3.past hb4
      have hw4 : Below w.heap.size w x4 := hw3.trans (hb4.mono hw3.size)
      clear hb4 hb4' hown4 ru3 r4
      obtain ⟨n4, hn4⟩ : ∃ n, n = (Ga.write (rise a0 1 1)).length := ⟨_, rfl⟩
      rw [← hn4] at hbig4 ⊢
      have HN4 := Lib.hid hn4
      clear hn4
      go_wp2_with fail
      refine (Write_any _ _ _ _ _ ru4).mono ?_
      rintro e x5 ⟨hb5, ⟨h5, rfl⟩ | ⟨v5, h5, rfl, hown5⟩⟩
      · exact absurd c2.out h5
      clear h5
      obtain ⟨A5, d5, rfl, r5⟩ := hown5.rd
      have hbig5 := write_le c2.out
      have hw5 : Below w.heap.size w x5 := hw4.trans (hb5.mono hw4.size)
      clear hb5 hown5 ru4 r5
      obtain ⟨n5, hn5⟩ : ∃ n, n = (Ga.write (rise a0 a2 (m + 1))).length := ⟨_, rfl⟩
      rw [← hn5] at hbig5 ⊢
      have HN5 := Lib.hid hn5
      clear hn5
      go_wp2_with fail
      refine (HD.out _).mono ?_
      rintro e x6 ⟨v6, rfl, hown6, hb6⟩
      obtain ⟨A6, d6, rfl, r6⟩ := hown6.rd
      have hbig6 := Ga.delta_le (n := m + 2) (by omega) (by omega)
      have hw6 : Below w.heap.size w x6 := hw5.trans (hb6.mono hw5.size)
      clear hb6 hown6 r6
      obtain ⟨n6, hn6⟩ : ∃ n, n = (El.delta (m + 2)).length := ⟨_, rfl⟩
      rw [← hn6] at hbig6 ⊢
      have HN6 := Lib.hid hn6
      clear hn6
      go_wp2_with fail
      refine (Delta_yes 2 _ (by omega) (by omega)).mono ?_
      rintro e x7 ⟨v7, rfl, hown7, hb7⟩
      obtain ⟨A7, d7, rfl, r7⟩ := hown7.rd
      have hbig7 := Ga.delta_le (n := 2) (by omega) (by omega)
      have hw7 : Below w.heap.size w x7 := hw6.trans (hb7.mono hw6.size)
      clear hb7 hown7 r7
      obtain ⟨n7, hn7⟩ : ∃ n, n = (El.delta 2).length := ⟨_, rfl⟩
      rw [← hn7] at hbig7 ⊢
      have HN7 := Lib.hid hn7
      clear hn7
      have l1 := L1.out
      have l2 := L2.out
      have l3 := L3.out
      rw [← HN3.out, ← HN6.out] at l1
      rw [← HN5.out, ← HN6.out] at l2
      rw [Nat.zero_add, Nat.zero_add, ← HN4.out, ← HN7.out] at l3
      have heq : (((n3 : Nat) : Int) - n6 == ((n4 : Nat) : Int) - n7 + K - 1) = true := by simp; omega
      have hle : n3 ≤ n5 := by omega
      have hK1 : 1 ≤ K := by omega
      clear l1 l2 l3 hd hKm hKm' HD c1 c2 c3 q0 hk _w0 _w1 _w2 HN3 HN4 HN5 HN6 HN7 L1 L2 L3
      go_wp2
      go_ret
      exact ⟨rfl, hw7⟩

end Go.Proofs.Ytiafekjdefnifaa.gapsNear
