/-
  The contract of the reference's Rising, for whatever list: the same numbers, rising.
-/
import Derived.Test.YtjcdnkbandagoaaTopoP
import Derived.Test.YtjcdnkbandagoaaBase
import Derived.Test.YtjcdnkbandagoaaSeen
import Derived.BigQuiet
namespace Go.Proofs.Ytjcdnkbandagoaa.RefR
open Go.RowKit

set_option linter.unusedSimpArgs false
set_option linter.unusedVariables false

/-- what the outer loop keeps -/
def RisO (w : World) (s : Nat) (A : Option Addr) (n c : Nat) (zs : List Int) (us : List Bool) (o : List Int) (ov : Value) (W : World) : Prop :=
  Own W (s + 1) 3 ov o ∧ SeenAt W s n us ∧ Rd W s A n c zs ∧ Below s w W ∧ s + 1 ≤ W.heap.size

theorem RisO.drew {w : World} {s : Nat} {A : Option Addr} {n c : Nat} {zs : List Int} {us : List Bool} {o : List Int} {ov : Value} {W : World} (h : RisO w s A n c zs us o ov W) (d : Nat) : RisO w s A n c zs us o ov (W.drewN d) :=
  ⟨h.1, h.2.1, h.2.2.1, h.2.2.2.1.trans (Below.drewN' _ _ _), h.2.2.2.2⟩

set_option maxRecDepth 100000 in
set_option maxHeartbeats 4000000 in
theorem Rising_any (A : Option Addr) (n c : Nat) (zs : List Int) (w : World) (hr : Rd w w.heap.size A n c zs) (hn : n ≤ 1000) :
    Calls Try.prog 13 #[.slice A n c] w fun e w' => ∃ v r, e = .returned v ∧ Own w' w.heap.size 3 v r ∧ r.Pairwise (· ≤ ·) ∧ r.Perm zs ∧ Below w.heap.size w w' := by
  obtain ⟨i0, hi, hz0, hz1, hz2⟩ := info_parts boolInfo
  have hml : n ≤ maxLen := by simp only [maxLen]; omega
  obtain ⟨zc, hzc⟩ : ∃ zc, zc = madeCells (Value.bool false).cells (n * 1) := ⟨_, rfl⟩
  have hmk : ∀ w : World, (Instr.makeSlice 49 (.int .i64 (n : Int)) (.int .i64 (n : Int))).run Try.prog w = .ok (.slice (some ⟨w.heap.size, 0, none⟩) n n) (w.alloc (.cells zc 4)) := fun w => by
    have := run_make (P := Try.prog) w 49 4 i0 (.bool false) Try.underlying49 hi hz0 .i64 .i64 (n : Int) (n : Int) (by omega) (Int.le_refl _) (by rw [hz2]; omega) (by omega)
    simp only [Int.toNat_natCast, hz1, ← hzc] at this
    exact this
  obtain ⟨s, hs⟩ : ∃ s, s = w.heap.size := ⟨_, rfl⟩
  obtain ⟨x0, hx0⟩ : ∃ x0, x0 = w.alloc (.cells zc 4) := ⟨_, rfl⟩
  have HLN := Lib.hid hr.len
  have hS0 : SeenAt x0 s n (List.replicate zs.length false) := by
    rw [HLN.out, hx0, hs, hzc]
    exact SeenAt.made (World.ownsRow_lit w _ n (Nat.le_refl _) hml (size_madeCells _ _))
  have hb0 : Below s w x0 := by rw [hx0, hs]; exact (Below.refl _ _).alloc (Nat.le_refl _) _
  have HV0 : Hid (Ri.Inv zs (List.replicate zs.length false) [] ∧ ([] : List Int).length = 0) := ⟨Ri.Inv.start zs, rfl⟩
  have hI0 : RisO w s A n c zs (List.replicate zs.length false) [] (.slice none 0 0) x0 := ⟨Own.nil _ _ _, hS0, by rw [← hs] at hr; exact hr.below hb0, hb0, by rw [hx0, hs]; simp⟩
  have HX0 := Lib.hid hx0
  have HS := Lib.hid hs
  clear hzc hx0 hs hS0 hb0 hr
  go_enter Try.func13, Try.ntmps13
  go_wp2
  rw [← HX0.out, ← HS.out]
  go_loopw [3, 5] (fun ov kv wr => ∃ (k : Nat) (us : List Bool) (o : List Int), k ≤ n ∧ kv = .int .i64 (k : Int) ∧ Hid (Ri.Inv zs us o ∧ o.length = k) ∧ RisO w s A n c zs us o ov wr) (fun _ kv _ => n - (intOf kv).toNat)
  case atStart => exact ⟨0, _, _, Nat.zero_le _, rfl, HV0, hI0⟩
  case round =>
    obtain ⟨k, us, o, hkn, rfl, HV, hI⟩ := hrel
    clear hI0
    by_cases hlt : k < n
    · have hB0 : Hid (Ri.Best zs us 0 (-1)) := Ri.Best.start zs us
      go_wp2
      go_loopw [6, 7] (fun bv iv wi => ∃ (i : Nat) (b : Int), i ≤ n ∧ iv = .int .i64 (i : Int) ∧ bv = .int .i64 b ∧ Hid (Ri.Best zs us i b) ∧ RisO w s A n c zs us o u3 wi) (fun _ iv _ => n - (intOf iv).toNat)
      case atStart => exact ⟨0, -1, Nat.zero_le _, rfl, rfl, hB0, hI⟩
      case round =>
        clear hB0 hI
        obtain ⟨i, b, hin, rfl, rfl, HB, hI⟩ := hrel
        by_cases hli : i < n
        · have hi1 : (0 : Int) ≤ (i : Int) := by omega
          have hi2 : (i : Int) < (n : Int) := by omega
          obtain ⟨b1, o1, rfl, hb1, hc1⟩ := hI.2.2.1.at_ (by omega)
          have g1 : wr.cell? ⟨b1, o1 + i, none⟩ = some (.int .i64 (zs.getD i 0)) := hc1 i hli
          have g2 := hI.2.1.cell hli
          by_cases hu : us.getD i false = true
          · rw [hu] at g2
            have HN := Lib.hid (HB.out.skip hu)
            clear hc1 hu HB
            go_wp2
            go_quiet (fail)
            go_wp2
            go_roundw
            case rel => exact ⟨i + 1, b, by omega, by go_num, rfl, HN, hI.drew _⟩
            case measure => simp [intOf]; omega
          · have hu := Bool.eq_false_iff.2 hu
            rw [hu] at g2
            by_cases hbn : b = -1
            · subst hbn
              have HN := Lib.hid (HB.out.first hu)
              clear hc1 hu HB
              go_wp2
              go_quiet (fail)
              go_wp2
              go_roundw
              case rel => exact ⟨i + 1, _, by omega, by go_num, rfl, HN, hI.drew _⟩
              case measure => simp [intOf]; omega
            · obtain ⟨p, rfl, hpi⟩ : ∃ p : Nat, b = (p : Int) ∧ p < i := by
                rcases HB.out with ⟨e, _⟩ | ⟨p, e, hp, _⟩
                · exact absurd e hbn
                · exact ⟨p, e, hp⟩
              have hp1 : (0 : Int) ≤ (p : Int) := by omega
              have hp2 : (p : Int) < (n : Int) := by omega
              have g3 : wr.cell? ⟨b1, o1 + p, none⟩ = some (.int .i64 (zs.getD p 0)) := hc1 p (by omega)
              have d1 : decide ((p : Int) < 0) = false := by simp
              by_cases hl : zs.getD i 0 < zs.getD p 0
              · have d2 : decide (zs.getD i 0 < zs.getD p 0) = true := decide_eq_true hl
                have HN := Lib.hid (HB.out.less hu hl)
                clear hc1 hu HB hbn
                generalize zs.getD i 0 = x at g1 d2 hl
                generalize zs.getD p 0 = y at g3 d2 hl
                go_wp2
                go_quiet (fail)
                go_wp2
                go_roundw
                case rel => exact ⟨i + 1, _, by omega, by go_num, rfl, HN, hI.drew _⟩
                case measure => simp [intOf]; omega
              · have d2 : decide (zs.getD i 0 < zs.getD p 0) = false := decide_eq_false hl
                have HN := Lib.hid (HB.out.keep hl)
                clear hc1 hu HB hbn
                generalize zs.getD i 0 = x at g1 d2 hl
                generalize zs.getD p 0 = y at g3 d2 hl
                go_wp2
                go_quiet (fail)
                go_wp2
                go_roundw
                case rel => exact ⟨i + 1, _, by omega, by go_num, rfl, HN, hI.drew _⟩
                case measure => simp [intOf]; omega
        · obtain rfl : i = n := by omega
          have hBe := HB.out
          rw [← HLN.out] at hBe
          obtain ⟨p, rfl, hp, hup, hmin⟩ := hBe.end_ HV.out.1 (by rw [HV.out.2, HLN.out]; exact hlt)
          have hnext := HV.out.1.take hp hup hmin
          have hol : o.length = k := HV.out.2
          have HV2 : Hid (Ri.Inv zs (us.set p true) (o ++ [zs.getD p 0]) ∧ (o ++ [zs.getD p 0]).length = k + 1) := ⟨hnext, by rw [List.length_append, List.length_singleton, hol]⟩
          have HOL : Hid (o.length + 1 ≤ 17592186044416) := by show _ ≤ _; omega
          rw [HLN.out] at hp
          clear HB hBe hnext hmin hup hol
          obtain ⟨V, hV⟩ : ∃ V, V = wr := ⟨_, rfl⟩
          subst hV
          obtain ⟨a1, a2, a3, a4, a5⟩ := hI
          obtain ⟨b1, o1, rfl, hb1, hc1⟩ := a3.at_ (by omega)
          have g1 := hc1 p hp
          generalize zs.getD p 0 = z at g1 HV2
          have g2 := a2.cell hp
          have g3 := World.ownsRow.frozenAt a2 p
          have hp1 : (0 : Int) ≤ (p : Int) := by omega
          have hp2 : (p : Int) < (i : Int) := by omega
          clear hc1
          obtain ⟨V1, hV1⟩ : ∃ V1, V1 = V.setCell ⟨s, p, none⟩ (.bool true) := ⟨_, rfl⟩
          have hset := a2.set p true
          rw [← hV1] at hset
          have hne := own_ne (show (3 : Nat) ≠ 4 by decide) a1 a2
          have a1' := a1.grown hset.2 (fun k hk e => hne k hk (by rw [← e]; rfl))
          have g4 : V1.cell? ⟨b1, o1 + p, none⟩ = some (.int .i64 z) := by
            rw [hV1]
            exact (World.cell?_setCell_other _ _ _ _ (fun e => by have : s = b1 := (congrArg Addr.block e); omega)).trans g1
          have hbV : Below s V V1 := by rw [hV1]; exact (Below.refl _ _).setCell (p := ⟨s, p, none⟩) (by simp) _
          have hszV : V1.heap.size = V.heap.size := by rw [hV1]; simp
          have a3' := a3.below hbV
          rw [hV1] at g4
          have HV1 := Lib.hid hV1
          clear hV1 hne
          go_wp2_with (at_builtin; rw [← HV1.out]; refine wpList_app _ rfl (.tmp 47) (.tmp 52) 29 rfl (s + 1) 3 Try.underlying29 intInfo u3 _ rfl (a1'.below ((Below.refl _ _).alloc (Nat.le_refl _) _)) (some ⟨V.heap.size, 0, none⟩) 1 1 [z] rfl (by rw [← hszV]; exact Rd.one _ _ _) HOL.out (by simp; omega) ?_; intro v' w4 hown4 hgrow hat)
          go_roundw
          case rel =>
            have hba : Below s V (V1.alloc (.cells #[.int .i64 z] 3)) := hbV.alloc (by omega) _
            have hb4 : Below s V w4 := hba.grown hgrow (by simp; omega) (fun k hk => by have := a1'.at_base k hk; omega)
            refine ⟨k + 1, _, _, by omega, by go_num, HV2, ?_, ?_, a3.below hb4, a4.trans hb4, ?_⟩
            · exact hown4
            · exact World.ownsRow.kept (World.ownsRow.alloc hset.1 _) hgrow (.inr (fun e => by have := a1'.at_base s (by rw [← e]; rfl); omega))
            · have := hb4.size
              omega
          case measure => simp [intOf]; omega
    · obtain rfl : k = n := by omega
      go_wp2
      go_ret
      rw [← HS.out]
      obtain ⟨e1, e2⟩ := HV.out.1.done (by rw [HV.out.2, HLN.out])
      exact ⟨_, _, rfl, hI.1.mono (by omega), e1, e2, hI.2.2.2.1⟩

end Go.Proofs.Ytjcdnkbandagoaa.RefR
