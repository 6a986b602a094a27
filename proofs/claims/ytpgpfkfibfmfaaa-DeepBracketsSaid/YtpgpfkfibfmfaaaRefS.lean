/-
  The contract of the reference's Rising, for lists that hold each number from 0 up to their length once.
-/
import Derived.Test.YtpgpfkfibfmfaaaRefL
import Derived.Test.YtpgpfkfibfmfaaaLibT
import Derived.Test.YtpgpfkfibfmfaaaWalkI
import Derived.BigQuiet
namespace Go.Proofs.Ytpgpfkfibfmfaaa.RefS
open Go.RowKit

set_option linter.unusedSimpArgs false

/-- the numbers below n, rising -/
def upTo (n : Nat) : List Int := (List.range n).map fun k => ((k : Nat) : Int)
theorem upTo_succ (n : Nat) : upTo (n + 1) = upTo n ++ [(n : Int)] := by simp [upTo, List.range_succ]
theorem upTo_len (n : Nat) : (upTo n).length = n := by simp [upTo]
theorem upTo_at {n k : Nat} (h : k < n) : (upTo n).getD k 0 = (k : Int) := by simp [upTo, List.getD, h]

/-- each number from 0 up to n lies in the list, once -/
structure Once (zs : List Int) (n : Nat) : Prop where
  all : ∀ k, k < n → ∃ p, p < n ∧ zs.getD p 0 = (k : Int)
  inj : ∀ p q, p < n → q < n → zs.getD p 0 = zs.getD q 0 → p = q
  pos : ∀ p, p < n → 0 ≤ zs.getD p 0

/-- which have been used: those below k -/
def usedTo (zs : List Int) (n k : Nat) : List Bool := (List.range n).map fun p => decide (zs.getD p 0 < (k : Int))
theorem used_at {zs : List Int} {n k p : Nat} (hp : p < n) : (usedTo zs n k).getD p false = decide (zs.getD p 0 < (k : Int)) := by
  have : (usedTo zs n k)[p]? = some (decide (zs.getD p 0 < (k : Int))) := by rw [usedTo, List.getElem?_map, List.getElem?_range hp]; rfl
  rw [List.getD, this]; rfl
theorem used_zero {zs : List Int} {n : Nat} (h : Once zs n) : usedTo zs n 0 = List.replicate n false := by
  refine List.ext_getElem (by simp [usedTo]) (fun p h1 h2 => ?_)
  have hp : p < n := by simpa [usedTo] using h1
  have := h.pos p hp
  simp only [usedTo, List.getElem_map, List.getElem_range, List.getElem_replicate, decide_eq_false_iff_not]
  omega
theorem used_succ {zs : List Int} {n k p : Nat} (h : Once zs n) (hp : p < n) (hz : zs.getD p 0 = (k : Int)) : (usedTo zs n k).set p true = usedTo zs n (k + 1) := by
  refine List.ext_getElem (by simp [usedTo]) (fun q h1 h2 => ?_)
  have hq : q < n := by simpa [usedTo] using h2
  rw [List.getElem_set]
  simp only [usedTo, List.getElem_map, List.getElem_range]
  by_cases e : p = q
  · subst e
    rw [if_pos rfl, hz]
    simp
    omega
  · rw [if_neg e]
    have hne : zs.getD q 0 ≠ (k : Int) := fun e2 => e (h.inj p q hp hq (hz.trans e2.symm))
    rw [decide_eq_decide]
    omega

/-- the best so far: the least of those from k on, of the first i -/
def Best (zs : List Int) (k i : Nat) (b : Int) : Prop :=
  (b = -1 ∧ ∀ j, j < i → zs.getD j 0 < (k : Int)) ∨ ∃ p : Nat, b = (p : Int) ∧ p < i ∧ (k : Int) ≤ zs.getD p 0 ∧ ∀ j, j < i → (k : Int) ≤ zs.getD j 0 → zs.getD p 0 ≤ zs.getD j 0
theorem Best.end_ {zs : List Int} {n k : Nat} {b : Int} (h : Best zs k n b) (ho : Once zs n) (hk : k < n) : ∃ p : Nat, b = (p : Int) ∧ p < n ∧ zs.getD p 0 = (k : Int) := by
  obtain ⟨q, hq, hz⟩ := ho.all k hk
  rcases h with ⟨_, h⟩ | ⟨p, rfl, hp, h1, h2⟩
  · have := h q hq; omega
  · have := h2 q hq (by omega)
    exact ⟨p, rfl, hp, by omega⟩
theorem Best.skip {zs : List Int} {k i : Nat} {b : Int} (h : Best zs k i b) (hi : zs.getD i 0 < (k : Int)) : Best zs k (i + 1) b := by
  rcases h with ⟨rfl, h⟩ | ⟨p, rfl, hp, h1, h2⟩
  · refine .inl ⟨rfl, fun j hj => ?_⟩
    rcases Nat.lt_or_ge j i with e | e
    · exact h j e
    · obtain rfl : j = i := by omega
      exact hi
  · refine .inr ⟨p, rfl, by omega, h1, fun j hj hk => ?_⟩
    rcases Nat.lt_or_ge j i with e | e
    · exact h2 j e hk
    · obtain rfl : j = i := by omega
      omega
theorem Best.first {zs : List Int} {k i : Nat} (h : Best zs k i (-1)) (hi : (k : Int) ≤ zs.getD i 0) : Best zs k (i + 1) (i : Int) := by
  rcases h with ⟨_, h⟩ | ⟨p, e, _⟩
  · refine .inr ⟨i, rfl, by omega, hi, fun j hj hk => ?_⟩
    rcases Nat.lt_or_ge j i with e | e
    · have := h j e; omega
    · obtain rfl : j = i := by omega
      omega
  · omega
theorem Best.less {zs : List Int} {k i p : Nat} (h : Best zs k i (p : Int)) (hi : (k : Int) ≤ zs.getD i 0) (hl : zs.getD i 0 < zs.getD p 0) : Best zs k (i + 1) (i : Int) := by
  rcases h with ⟨e, _⟩ | ⟨p', e, hp, h1, h2⟩
  · omega
  · obtain rfl : p = p' := by omega
    refine .inr ⟨i, rfl, by omega, hi, fun j hj hk => ?_⟩
    rcases Nat.lt_or_ge j i with e | e
    · have := h2 j e hk; omega
    · obtain rfl : j = i := by omega
      omega
theorem Best.keep {zs : List Int} {k i p : Nat} (h : Best zs k i (p : Int)) (hl : ¬ zs.getD i 0 < zs.getD p 0) : Best zs k (i + 1) (p : Int) := by
  rcases h with ⟨e, _⟩ | ⟨p', e, hp, h1, h2⟩
  · omega
  · obtain rfl : p = p' := by omega
    refine .inr ⟨p, rfl, by omega, h1, fun j hj hk => ?_⟩
    rcases Nat.lt_or_ge j i with e | e
    · exact h2 j e hk
    · obtain rfl : j = i := by omega
      omega

/-- what the outer loop keeps -/
def RisO (w : World) (s : Nat) (A : Option Addr) (n c : Nat) (zs : List Int) (k : Nat) (ov : Value) (W : World) : Prop :=
  Own W (s + 1) 3 ov (upTo k) ∧ SeenAt W s n (usedTo zs n k) ∧ Rd W s A n c zs ∧ Below s w W ∧ s + 1 ≤ W.heap.size

theorem RisO.drew {w : World} {s : Nat} {A : Option Addr} {n c : Nat} {zs : List Int} {k : Nat} {ov : Value} {W : World} (h : RisO w s A n c zs k ov W) (d : Nat) : RisO w s A n c zs k ov (W.drewN d) :=
  ⟨h.1, h.2.1, h.2.2.1, h.2.2.2.1.trans (Below.drewN' _ _ _), h.2.2.2.2⟩

set_option maxRecDepth 100000 in
set_option maxHeartbeats 4000000 in
theorem Rising_once (A : Option Addr) (n c : Nat) (zs : List Int) (w : World) (hr : Rd w w.heap.size A n c zs) (hn : n ≤ 1000) (ho : Once zs n) :
    Calls Try.prog 10 #[.slice A n c] w fun e w' => ∃ v, e = .returned v ∧ Own w' w.heap.size 3 v (upTo n) ∧ Below w.heap.size w w' := by
  obtain ⟨i0, hi, hz0, hz1, hz2⟩ := info_parts boolInfo
  have hml : n ≤ maxLen := by simp only [maxLen]; omega
  obtain ⟨zc, hzc⟩ : ∃ zc, zc = madeCells (Value.bool false).cells (n * 1) := ⟨_, rfl⟩
  have hmk : ∀ w : World, (Instr.makeSlice 46 (.int .i64 (n : Int)) (.int .i64 (n : Int))).run Try.prog w = .ok (.slice (some ⟨w.heap.size, 0, none⟩) n n) (w.alloc (.cells zc 4)) := fun w => by
    have := run_make (P := Try.prog) w 46 4 i0 (.bool false) Try.underlying46 hi hz0 .i64 .i64 (n : Int) (n : Int) (by omega) (Int.le_refl _) (by rw [hz2]; omega) (by omega)
    simp only [Int.toNat_natCast, hz1, ← hzc] at this
    exact this
  obtain ⟨s, hs⟩ : ∃ s, s = w.heap.size := ⟨_, rfl⟩
  obtain ⟨x0, hx0⟩ : ∃ x0, x0 = w.alloc (.cells zc 4) := ⟨_, rfl⟩
  have hS0 : SeenAt x0 s n (usedTo zs n 0) := by
    rw [used_zero ho, hx0, hs, hzc]
    exact SeenAt.made (World.ownsRow_lit w _ n (Nat.le_refl _) hml (size_madeCells _ _))
  have hb0 : Below s w x0 := by rw [hx0, hs]; exact (Below.refl _ _).alloc (Nat.le_refl _) _
  have hI0 : RisO w s A n c zs 0 (.slice none 0 0) x0 := ⟨Own.nil _ _ _, hS0, by rw [← hs] at hr; exact hr.below hb0, hb0, by rw [hx0, hs]; simp⟩
  have HO := Lib.hid ho
  have HX0 := Lib.hid hx0
  have HS := Lib.hid hs
  clear hzc ho hx0 hs hS0 hb0 hr
  go_enter Try.func10, Try.ntmps10
  go_wp2
  rw [← HX0.out, ← HS.out]
  go_loopw [3, 5] (fun ov kv wr => ∃ k : Nat, k ≤ n ∧ kv = .int .i64 (k : Int) ∧ RisO w s A n c zs k ov wr) (fun _ kv _ => n - (intOf kv).toNat)
  case atStart => exact ⟨0, Nat.zero_le _, rfl, hI0⟩
  case round =>
    obtain ⟨k, hkn, rfl, hI⟩ := hrel
    clear hI0
    by_cases hlt : k < n
    · have hB0 : Hid (Best zs k 0 (-1)) := .inl ⟨rfl, fun j hj => by omega⟩
      go_wp2
      go_loopw [6, 7] (fun bv iv wi => ∃ (i : Nat) (b : Int), i ≤ n ∧ iv = .int .i64 (i : Int) ∧ bv = .int .i64 b ∧ Hid (Best zs k i b) ∧ RisO w s A n c zs k u3 wi) (fun _ iv _ => n - (intOf iv).toNat)
      case atStart => exact ⟨0, -1, Nat.zero_le _, rfl, rfl, hB0, hI⟩
      case round =>
        clear hB0 hI
        obtain ⟨i, b, hin, rfl, rfl, HB, hI⟩ := hrel
        by_cases hli : i < n
        · have hi1 : (0 : Int) ≤ (i : Int) := by omega
          have hi2 : (i : Int) < (n : Int) := by omega
          obtain ⟨b1, o1, rfl, hb1, hc1⟩ := hI.2.2.1.at_ (by omega)
          have g1 : wr.cell? ⟨b1, o1 + i, none⟩ = some (.int .i64 (zs.getD i 0)) := hc1 i hli
          have g2 : wr.cell? ⟨s, i, none⟩ = some (.bool (decide (zs.getD i 0 < (k : Int)))) := by
            have := hI.2.1.cell hli
            rw [used_at hli] at this
            exact this
          by_cases hu : zs.getD i 0 < (k : Int)
          · rw [decide_eq_true hu] at g2
            have HN := Lib.hid (HB.out.skip hu)
            clear hc1 hu HB
            go_wp2
            go_quiet (fail)
            go_wp2
            go_roundw
            case rel => exact ⟨i + 1, b, by omega, by go_num, rfl, HN, hI.drew _⟩
            case measure => simp [intOf]; omega
          · rw [decide_eq_false hu] at g2
            by_cases hbn : b = -1
            · subst hbn
              have HN := Lib.hid (HB.out.first (by omega))
              clear hc1 hu HB
              go_wp2
              go_quiet (fail)
              go_wp2
              go_roundw
              case rel => exact ⟨i + 1, _, by omega, by go_num, rfl, HN, hI.drew _⟩
              case measure => simp [intOf]; omega
            · obtain ⟨p, rfl, hpi⟩ : ∃ p : Nat, b = (p : Int) ∧ p < i := by
                rcases HB.out with ⟨e, _⟩ | ⟨p, e, hp, _⟩
                · exact absurd e hbn
                · exact ⟨p, e, hp⟩
              have hp1 : (0 : Int) ≤ (p : Int) := by omega
              have hp2 : (p : Int) < (n : Int) := by omega
              have g3 : wr.cell? ⟨b1, o1 + p, none⟩ = some (.int .i64 (zs.getD p 0)) := hc1 p (by omega)
              have d1 : decide ((p : Int) < 0) = false := by simp
              by_cases hl : zs.getD i 0 < zs.getD p 0
              · have d2 : decide (zs.getD i 0 < zs.getD p 0) = true := decide_eq_true hl
                have HN := Lib.hid (HB.out.less (by omega) hl)
                clear hc1 hu HB hbn
                generalize zs.getD i 0 = x at g1 d2 hl
                generalize zs.getD p 0 = y at g3 d2 hl
                go_wp2
                go_quiet (fail)
                go_wp2
                go_roundw
                case rel => exact ⟨i + 1, _, by omega, by go_num, rfl, HN, hI.drew _⟩
                case measure => simp [intOf]; omega
              · have d2 : decide (zs.getD i 0 < zs.getD p 0) = false := decide_eq_false hl
                have HN := Lib.hid (HB.out.keep hl)
                clear hc1 hu HB hbn
                generalize zs.getD i 0 = x at g1 d2 hl
                generalize zs.getD p 0 = y at g3 d2 hl
                go_wp2
                go_quiet (fail)
                go_wp2
                go_roundw
                case rel => exact ⟨i + 1, _, by omega, by go_num, rfl, HN, hI.drew _⟩
                case measure => simp [intOf]; omega
        · obtain rfl : i = n := by omega
          obtain ⟨p, rfl, hp, hz⟩ := HB.out.end_ HO.out hlt
          clear HB
          obtain ⟨V, hV⟩ : ∃ V, V = wr := ⟨_, rfl⟩
          subst hV
          obtain ⟨a1, a2, a3, a4, a5⟩ := hI
          obtain ⟨b1, o1, rfl, hb1, hc1⟩ := a3.at_ (by omega)
          have g1 := hc1 p hp
          rw [hz] at g1
          have g2 := a2.cell hp
          have g3 := World.ownsRow.frozenAt a2 p
          have hp1 : (0 : Int) ≤ (p : Int) := by omega
          have hp2 : (p : Int) < (i : Int) := by omega
          clear hc1
          obtain ⟨V1, hV1⟩ : ∃ V1, V1 = V.setCell ⟨s, p, none⟩ (.bool true) := ⟨_, rfl⟩
          have hset := a2.set p true
          rw [used_succ HO.out hp hz, ← hV1] at hset
          have hne := own_ne (show (3 : Nat) ≠ 4 by decide) a1 a2
          have a1' := a1.grown hset.2 (fun k hk e => hne k hk (by rw [← e]; rfl))
          have g4 : V1.cell? ⟨b1, o1 + p, none⟩ = some (.int .i64 (k : Int)) := by
            rw [hV1]
            exact (World.cell?_setCell_other _ _ _ _ (fun e => by have : s = b1 := (congrArg Addr.block e); omega)).trans g1
          have hbV : Below s V V1 := by rw [hV1]; exact (Below.refl _ _).setCell (p := ⟨s, p, none⟩) (by simp) _
          have hszV : V1.heap.size = V.heap.size := by rw [hV1]; simp
          have a3' := a3.below hbV
          rw [hV1] at g4
          have HV1 := Lib.hid hV1
          clear hV1 hne
          go_wp2_with (at_builtin; rw [← HV1.out]; refine wpList_app _ rfl (.tmp 47) (.tmp 52) 24 rfl (s + 1) 3 Try.underlying24 intInfo u3 _ rfl (a1'.below ((Below.refl _ _).alloc (Nat.le_refl _) _)) (some ⟨V.heap.size, 0, none⟩) 1 1 [(k : Int)] rfl (by rw [← hszV]; exact Rd.one _ _ _) (by rw [upTo_len]; omega) (by simp; omega) ?_; intro v' w4 hown4 hgrow hat)
          go_roundw
          case rel =>
            have hba : Below s V (V1.alloc (.cells #[.int .i64 (k : Int)] 3)) := hbV.alloc (by omega) _
            have hb4 : Below s V w4 := hba.grown hgrow (by simp; omega) (fun k hk => by have := a1'.at_base k hk; omega)
            refine ⟨k + 1, by omega, by go_num, ?_, ?_, a3.below hb4, a4.trans hb4, ?_⟩
            · rw [upTo_succ]; exact hown4
            · exact World.ownsRow.kept (World.ownsRow.alloc hset.1 _) hgrow (.inr (fun e => by have := a1'.at_base s (by rw [← e]; rfl); omega))
            · have := hb4.size
              omega
          case measure => simp [intOf]; omega
    · obtain rfl : k = n := by omega
      go_wp2
      go_ret
      rw [← HS.out]
      exact ⟨_, rfl, hI.1.mono (by omega), hI.2.2.2.1⟩

end Go.Proofs.Ytpgpfkfibfmfaaa.RefS
