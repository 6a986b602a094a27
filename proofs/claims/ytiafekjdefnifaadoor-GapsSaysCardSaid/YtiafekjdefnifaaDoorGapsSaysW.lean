/-
  The walk of the law GapsSays: for every two lists it returns true.
-/
import Derived.Test.YtiafekjdefnifaaDoorRefG
import Derived.Test.YtiafekjdefnifaaDoorGapsR
import Derived.Test.YtiafekjdefnifaaDoorTold
import Derived.Test.YtiafekjdefnifaaDoorPairEq
namespace Go.Proofs.YtiafekjdefnifaaDoor.gapsSays
open Go.RowKit tld

theorem runLen_on {l : List Int} {k : Nat} {a : Int} (hk : k < l.length) (h : l.getD k 0 = a + 1) : Ga.runLen a (l.drop k) = Ga.runLen (a + 1) (l.drop (k + 1)) + 1 := by
  rw [Ga.drop_at hk, Ga.runLen, if_pos h, h]
theorem runLen_off {l : List Int} {k : Nat} {a : Int} (hk : k < l.length) (h : l.getD k 0 ≠ a + 1) : Ga.runLen a (l.drop k) = 0 := by
  rw [Ga.drop_at hk, Ga.runLen, if_neg h]
theorem runLen_end {l : List Int} {k : Nat} {a : Int} (hk : l.length ≤ k) : Ga.runLen a (l.drop k) = 0 := by
  rw [List.drop_eq_nil_of_le hk, Ga.runLen]
theorem runs_on {l : List Int} {k : Nat} {a : Int} (hk : k < l.length) (h : l.getD k 0 = a + 1) : Ga.runs a (l.drop k) = Ga.runs (l.getD k 0) (l.drop (k + 1)) := by
  rw [Ga.drop_at hk, Ga.runs, if_pos h]
theorem runs_off {l : List Int} {k : Nat} {a : Int} (hk : k < l.length) (h : l.getD k 0 ≠ a + 1) : Ga.runs a (l.drop k) = (l.getD k 0, ((Ga.runLen (l.getD k 0) (l.drop (k + 1)) : Nat) : Int) + 1) :: Ga.runs (l.getD k 0) (l.drop (k + 1)) := by
  rw [Ga.drop_at hk, Ga.runs, if_neg h]
/-- what the law's inner loop keeps: t numbers go on so far -/
def Going (l : List Int) (k : Nat) (p : Int) (t : Nat) : Prop := Ga.runLen p (l.drop (k + 1)) + 1 = t + Ga.runLen (p + t - 1) (l.drop (k + t))
theorem Going.start (l : List Int) (k : Nat) (p : Int) : Going l k p 1 := by
  unfold Going
  rw [show p + ((1 : Nat) : Int) - 1 = p by omega]
  omega
theorem Going.on {l : List Int} {k : Nat} {p : Int} {t : Nat} (h : Going l k p t) (hk : k + t < l.length) (he : l.getD (k + t) 0 = p + t) : Going l k p (t + 1) := by
  unfold Going at h ⊢
  rw [runLen_on hk (by omega), show p + (t : Int) - 1 + 1 = p + ((t + 1 : Nat) : Int) - 1 by omega, show k + t + 1 = k + (t + 1) by omega] at h
  omega
theorem Going.off {l : List Int} {k : Nat} {p : Int} {t : Nat} (h : Going l k p t) (hk : k + t < l.length) (he : l.getD (k + t) 0 ≠ p + t) : Ga.runLen p (l.drop (k + 1)) + 1 = t := by
  unfold Going at h
  rw [runLen_off hk (by omega)] at h
  omega
theorem Going.stop {l : List Int} {k : Nat} {p : Int} {t : Nat} (h : Going l k p t) (hk : l.length ≤ k + t) : Ga.runLen p (l.drop (k + 1)) + 1 = t := by
  unfold Going at h
  rw [runLen_end hk] at h
  omega
/-- what the law's outer loop keeps: the runs so far -/
def Gone (l : List Int) (k : Nat) (rs : List (Int × Int)) : Prop := rs ++ Ga.runs (Ga.lastAt (-2) l k) (l.drop k) = Ga.runs (-2) l
theorem Gone.start (l : List Int) : Gone l 0 [] := rfl
theorem Gone.on {l : List Int} {k : Nat} {rs : List (Int × Int)} (h : Gone l k rs) (hk : k < l.length) (he : l.getD k 0 = Ga.lastAt (-2) l k + 1) : Gone l (k + 1) rs := by
  unfold Gone at h ⊢
  rw [runs_on hk he] at h
  rw [Ga.lastAt_succ]
  exact h
theorem Gone.off {l : List Int} {k : Nat} {rs : List (Int × Int)} (h : Gone l k rs) (hk : k < l.length) (he : l.getD k 0 ≠ Ga.lastAt (-2) l k + 1) {t : Nat} (ht : Ga.runLen (l.getD k 0) (l.drop (k + 1)) + 1 = t) : Gone l (k + 1) (rs ++ [(l.getD k 0, (t : Int))]) := by
  unfold Gone at h ⊢
  rw [runs_off hk he] at h
  rw [Ga.lastAt_succ, List.append_assoc, ← ht]
  exact h
theorem Gone.stop {l : List Int} {k : Nat} {rs : List (Int × Int)} (h : Gone l k rs) (hk : l.length ≤ k) : rs = Ga.runs (-2) l := by
  unfold Gone at h
  rw [List.drop_eq_nil_of_le hk, Ga.runs, List.append_nil] at h
  exact h

set_option maxRecDepth 100000 in
set_option maxHeartbeats 8000000 in
theorem walk (w : World) (hetw : tld.EtIs w) (a0 : Option Addr) (n0 c0 : Nat) (z0 : List Int) (w0 : Rd w w.heap.size a0 n0 c0 z0) (a1 : Option Addr) (n1 c1 : Nat) (z1 : List Int) (w1 : Rd w w.heap.size a1 n1 c1 z1) :
    Calls Tryd.prog 3 #[.slice a0 n0 c0, .slice a1 n1 c1] w fun e w' => e = .returned (.bool true) ∧ Below w.heap.size w w' := by
  have HX := Lib.hid w0.len
  have hbig0 := w0.big
  by_cases hc : Ga.code z0 = 0
  · have HC := Lib.hid hc
    have HE := Lib.hid (errOf_zero hc)
    obtain ⟨hn30, hup⟩ := Ga.code_zero hc
    rw [HX.out] at hn30
    clear hc
    go_enter Tryd.func3, Tryd.ntmps3
    go_wp2_with fail
    refine (R.Gaps_any _ _ _ z0 _ w0).mono ?_
    rintro e x1 ⟨rfl, hb1⟩
    rw [HC.out]
    have r0 := w0.past hb1
    have rb := w1.past hb1
    have het := hetw.below hb1
    have hwt := hb1
    clear hb1 w0 w1 hetw
    go_wp2_with fail
    refine (Check_any _ _ _ z0 _ r0).mono ?_
    rintro e x2 ⟨rfl, rfl⟩
    rw [HE.out]
    go_wp2_with fail
    refine (Error_nil _ _).mono ?_
    rintro e x2 ⟨rfl, rfl⟩
    rw [show ((0 : Int) == 0) = true from rfl]
    go_wp2_with fail
    refine (R.WriteGaps_any _ _ _ z0 _ r0 HC.out).mono ?_
    rintro e x3 ⟨v3, rfl, hown3, hb3⟩
    obtain ⟨A3, d3, rfl, rw3⟩ := hown3.rd
    replace r0 := r0.past hb3
    replace rb := rb.past hb3
    replace het := het.below hb3
    replace hwt := hwt.trans (hb3.mono hwt.size)
    clear hb3
    clear hown3
    have r03 := r0
    have rb3 := rb
    have het3 := het
    have hw3 := hwt
    clear r0 rb het hwt
    go_wp2_with fail
    go_loopw [8, 9] (fun v i wr => ∃ (k : Nat) (rs : List (Int × Int)), k ≤ n0 ∧ i = .int .i64 k ∧ OwnP wr x3.heap.size 30 v rs ∧ rs.length ≤ k ∧ Below x3.heap.size x3 wr ∧ Gone z0 k rs) (fun _ i _ => n0 - (intOf i).toNat)
    case atStart => exact ⟨0, [], Nat.zero_le _, rfl, OwnP.nil _ _ _, by simp, Below.refl _ _, Gone.start _⟩
    case round =>
      obtain ⟨k, rs, hk, rfl, hown, hrl, hbel, hG⟩ := hrel
      have hsz := hbel.size
      by_cases hlt : k < n0
      · obtain ⟨b1, o1, rfl, hb1, hcl⟩ := r03.at_ (by omega)
        have hkl : k < z0.length := by rw [HX.out]; exact hlt
        have g1 := (hbel.cell (p := ⟨b1, o1 + k, none⟩) hb1).trans (hcl k hlt)
        obtain ⟨p1, p2, p3⟩ := Ga.Up.at_ z0 _ hup k hkl
        have hGon := hG.on hkl
        have hGoff := fun he t ht => hG.off (t := t) hkl he ht
        have HCL := Lib.hid hcl
        clear hcl hG p3
        by_cases hk0 : k = 0
        · have hla : Ga.lastAt (-2) z0 k = -2 := by rw [hk0]; rfl
          rw [hla] at hGoff
          obtain ⟨p, hp⟩ : ∃ p, p = z0.getD k 0 := ⟨_, rfl⟩
          rw [← hp] at g1 p1 p2 hGoff
          have HN : Hid (∀ {t : Nat}, Ga.runLen p (z0.drop (k + 1)) + 1 = t → Gone z0 (k + 1) (rs ++ [(p, (t : Int))])) := fun {t} ht => hGoff (by omega) t ht
          have hkz : ((k : Int) == 0) = true := by simp; omega
          clear hla hp hGon hGoff hkl hk0
          go_wp2_with fail
          go_loopw [10] (fun x wi => ∃ t : Nat, 1 ≤ t ∧ k + t ≤ n0 ∧ x = .int .i64 t ∧ Below wr.heap.size wr wi ∧ Going z0 k p t) (fun x _ => n0 - (intOf x).toNat)
          case atStart => exact ⟨1, by omega, by omega, rfl, Below.refl _ _, Going.start _ _ _⟩
          case round =>
            obtain ⟨t, ht1, htn, rfl, hbelt, hT⟩ := hrel
            have hszt := hbelt.size
            have hx1 : IntKind.i64.wrap ((k : Int) + (t : Int)) = (k : Int) + (t : Int) := R.wrap_small (by omega) (by omega)
            have hx2 : IntKind.i64.wrap (p + (t : Int)) = p + (t : Int) := R.wrap_small (by omega) (by omega)
            have hx5 : ((k : Int) + (t : Int)).toNat = k + t := by omega
            have hx6 : 0 ≤ (k : Int) + (t : Int) := by omega
            have g1t := (hbelt.cell (p := ⟨b1, o1 + k, none⟩) (by show b1 < _; omega)).trans g1
            by_cases hkt : k + t < n0
            · have gy := ((hbelt.cell (p := ⟨b1, o1 + (k + t), none⟩) (by show b1 < _; omega)).trans (hbel.cell (p := ⟨b1, o1 + (k + t), none⟩) hb1)).trans (HCL.out (k + t) hkt)
              have hon := Lib.hid (hT.on (by rw [HX.out]; exact hkt))
              have hoff := Lib.hid (hT.off (by rw [HX.out]; exact hkt))
              obtain ⟨y, hy⟩ : ∃ y, y = z0.getD (k + t) 0 := ⟨_, rfl⟩
              rw [← hy] at gy hon hoff
              clear hy hT
              have hkt' : (k : Int) + (t : Int) < (n0 : Int) := by omega
              by_cases hyp : y = p + (t : Int)
              · have hyes : (y == p + (t : Int)) = true := by simpa using hyp
                have hTn := hon.out hyp
                clear hon hoff hyp
                go_wp2_with fail
                go_quiet (fail)
                go_wp2
                go_roundw
                case rel => exact ⟨t + 1, by omega, by omega, by go_num, hbelt.trans (Below.drewN' _ _ _), hTn⟩
                case measure => simp [intOf]; omega
              · have hno : (y == p + (t : Int)) = false := by simpa using hyp
                have hte := hoff.out hyp
                have hnext := HN.out (hte)
                clear hon hoff hyp hte
                go_wp2_with fail
                go_quiet (fail)
                replace hbelt := hbelt.trans (Below.drewN' _ wr nq)
                replace g1t : (wr.drewN nq).cell? _ = _ := g1t
                generalize wr.drewN nq = wr at *
                go_wp2_with fail
                go_quiet (fail)
                have hownt := hown.below (hbelt.trans (Below.drewN' _ wr nq))
                have hwq := (hbel.trans (hbelt.mono hsz)).trans (Below.drewN' _ wr nq)
                have hsq : x3.heap.size ≤ wr.heap.size := by have := hbelt.size; omega
                go_wp2_with (at_builtin; refine wpList_appP _ rfl (.tmp 72) (.tmp 79) _ rfl x3.heap.size 30 Tryd.underlying28 pairInfo _ _ rfl (hownt.below ((Below.refl _ _).alloc (Nat.le_refl _) _)) (some ⟨wr.heap.size, 0, none⟩) 1 1 [(p, (t : Int))] rfl (RdP.one _ _ _) (by omega) (by simp; omega) ?_; intro v1 w2 hown1 hg1 hat1)
                have hb2 := below_appP (hwq.alloc hsq _) (hownt.below ((Below.refl _ _).alloc (Nat.le_refl _) _)) hg1 (by simp; omega)
                go_roundw
                case rel => exact ⟨k + 1, rs ++ [(p, (t : Int))], by omega, by go_num, hown1, by simp; omega, hb2, hnext⟩
                case measure => simp [intOf]; omega
            · have hkf : decide (k + t < n0) = false := by simpa using hkt
              have hkf' : decide ((k : Int) + (t : Int) < (n0 : Int)) = false := by simp; omega
              have hte := hT.stop (by rw [HX.out]; omega)
              have hnext := HN.out (hte)
              clear hT hte hkt
              go_wp2_with fail
              go_quiet (fail)
              replace hbelt := hbelt.trans (Below.drewN' _ wr nq)
              replace g1t : (wr.drewN nq).cell? _ = _ := g1t
              generalize wr.drewN nq = wr at *
              go_wp2_with fail
              go_quiet (fail)
              have hownt := hown.below (hbelt.trans (Below.drewN' _ wr nq))
              have hwq := (hbel.trans (hbelt.mono hsz)).trans (Below.drewN' _ wr nq)
              have hsq : x3.heap.size ≤ wr.heap.size := by have := hbelt.size; omega
              go_wp2_with (at_builtin; refine wpList_appP _ rfl (.tmp 72) (.tmp 79) _ rfl x3.heap.size 30 Tryd.underlying28 pairInfo _ _ rfl (hownt.below ((Below.refl _ _).alloc (Nat.le_refl _) _)) (some ⟨wr.heap.size, 0, none⟩) 1 1 [(p, (t : Int))] rfl (RdP.one _ _ _) (by omega) (by simp; omega) ?_; intro v1 w2 hown1 hg1 hat1)
              have hb2 := below_appP (hwq.alloc hsq _) (hownt.below ((Below.refl _ _).alloc (Nat.le_refl _) _)) hg1 (by simp; omega)
              go_roundw
              case rel => exact ⟨k + 1, rs ++ [(p, (t : Int))], by omega, by go_num, hown1, by simp; omega, hb2, hnext⟩
              case measure => simp [intOf]; omega
        · have hkp : 0 < k := by omega
          have hkz : ((k : Int) == 0) = false := by simp; omega
          have g0 := (hbel.cell (p := ⟨b1, o1 + (k - 1), none⟩) hb1).trans (HCL.out (k - 1) (by omega))
          obtain ⟨q1, q2, _⟩ := Ga.Up.at_ z0 _ hup (k - 1) (by omega)
          have hy1 : IntKind.i64.wrap ((k : Int) - 1) = (k : Int) - 1 := R.wrap_small (by omega) (by omega)
          have hy3 : (1 : Int) ≤ (k : Int) := by omega
          have hy4 : (k : Int) - 1 < (n0 : Int) := by omega
          have hy5 : ((k : Int) - 1).toNat = k - 1 := by omega
          have hla : Ga.lastAt (-2) z0 k = z0.getD (k - 1) 0 := by unfold Ga.lastAt; rw [if_neg hk0]
          rw [hla] at hGon hGoff
          obtain ⟨p, hp⟩ : ∃ p, p = z0.getD k 0 := ⟨_, rfl⟩
          obtain ⟨q, hq⟩ : ∃ q, q = z0.getD (k - 1) 0 := ⟨_, rfl⟩
          rw [← hp] at g1 p1 p2 hGoff hGon
          rw [← hq] at g0 q1 q2 hGoff hGon
          have hy2 : IntKind.i64.wrap (q + 1) = q + 1 := R.wrap_small (by omega) (by omega)
          by_cases hpq : p = q + 1
          · have HN := Lib.hid (hGon hpq)
            have hd : (q + 1 != p) = false := by simp; omega
            clear hla hp hq hGon hGoff hkl hk0 hpq
            go_wp2_with fail
            go_loopw [10] (fun x wi => ∃ t : Nat, 1 ≤ t ∧ k + t ≤ n0 ∧ x = .int .i64 t ∧ Below wr.heap.size wr wi ∧ Going z0 k p t) (fun x _ => n0 - (intOf x).toNat)
            case atStart => exact ⟨1, by omega, by omega, rfl, Below.refl _ _, Going.start _ _ _⟩
            case round =>
              obtain ⟨t, ht1, htn, rfl, hbelt, hT⟩ := hrel
              have hszt := hbelt.size
              have hx1 : IntKind.i64.wrap ((k : Int) + (t : Int)) = (k : Int) + (t : Int) := R.wrap_small (by omega) (by omega)
              have hx2 : IntKind.i64.wrap (p + (t : Int)) = p + (t : Int) := R.wrap_small (by omega) (by omega)
              have hx5 : ((k : Int) + (t : Int)).toNat = k + t := by omega
              have hx6 : 0 ≤ (k : Int) + (t : Int) := by omega
              have g1t := (hbelt.cell (p := ⟨b1, o1 + k, none⟩) (by show b1 < _; omega)).trans g1
              have g0t := (hbelt.cell (p := ⟨b1, o1 + (k - 1), none⟩) (by show b1 < _; omega)).trans g0
              by_cases hkt : k + t < n0
              · have gy := ((hbelt.cell (p := ⟨b1, o1 + (k + t), none⟩) (by show b1 < _; omega)).trans (hbel.cell (p := ⟨b1, o1 + (k + t), none⟩) hb1)).trans (HCL.out (k + t) hkt)
                have hon := Lib.hid (hT.on (by rw [HX.out]; exact hkt))
                have hoff := Lib.hid (hT.off (by rw [HX.out]; exact hkt))
                obtain ⟨y, hy⟩ : ∃ y, y = z0.getD (k + t) 0 := ⟨_, rfl⟩
                rw [← hy] at gy hon hoff
                clear hy hT
                have hkt' : (k : Int) + (t : Int) < (n0 : Int) := by omega
                by_cases hyp : y = p + (t : Int)
                · have hyes : (y == p + (t : Int)) = true := by simpa using hyp
                  have hTn := hon.out hyp
                  clear hon hoff hyp
                  go_wp2_with fail
                  go_quiet (fail)
                  go_wp2
                  go_roundw
                  case rel => exact ⟨t + 1, by omega, by omega, by go_num, hbelt.trans (Below.drewN' _ _ _), hTn⟩
                  case measure => simp [intOf]; omega
                · have hno : (y == p + (t : Int)) = false := by simpa using hyp
                  have hte := hoff.out hyp
                  have hnext := HN.out
                  clear HN
                  clear hon hoff hyp hte
                  go_wp2_with fail
                  go_quiet (fail)
                  replace hbelt := hbelt.trans (Below.drewN' _ wr nq)
                  replace g1t : (wr.drewN nq).cell? _ = _ := g1t
                  replace g0t : (wr.drewN nq).cell? _ = _ := g0t
                  generalize wr.drewN nq = wr at *
                  go_wp2_with fail
                  go_quiet (fail)
                  go_wp2
                  go_roundw
                  case rel => exact ⟨k + 1, rs, by omega, by go_num, hown.below (hbelt.trans (Below.drewN' _ wr nq)), by omega, (hbel.trans (hbelt.mono hsz)).trans (Below.drewN' _ wr nq), hnext⟩
                  case measure => simp [intOf]; omega
              · have hkf : decide (k + t < n0) = false := by simpa using hkt
                have hkf' : decide ((k : Int) + (t : Int) < (n0 : Int)) = false := by simp; omega
                have hte := hT.stop (by rw [HX.out]; omega)
                have hnext := HN.out
                clear HN
                clear hT hte hkt
                go_wp2_with fail
                go_quiet (fail)
                replace hbelt := hbelt.trans (Below.drewN' _ wr nq)
                replace g1t : (wr.drewN nq).cell? _ = _ := g1t
                replace g0t : (wr.drewN nq).cell? _ = _ := g0t
                generalize wr.drewN nq = wr at *
                go_wp2_with fail
                go_quiet (fail)
                go_wp2
                go_roundw
                case rel => exact ⟨k + 1, rs, by omega, by go_num, hown.below (hbelt.trans (Below.drewN' _ wr nq)), by omega, (hbel.trans (hbelt.mono hsz)).trans (Below.drewN' _ wr nq), hnext⟩
                case measure => simp [intOf]; omega
          · have HN : Hid (∀ {t : Nat}, Ga.runLen p (z0.drop (k + 1)) + 1 = t → Gone z0 (k + 1) (rs ++ [(p, (t : Int))])) := fun {t} ht => hGoff hpq t ht
            have hd : (q + 1 != p) = true := by simp; omega
            clear hla hp hq hGon hGoff hkl hk0 hpq
            go_wp2_with fail
            go_loopw [10] (fun x wi => ∃ t : Nat, 1 ≤ t ∧ k + t ≤ n0 ∧ x = .int .i64 t ∧ Below wr.heap.size wr wi ∧ Going z0 k p t) (fun x _ => n0 - (intOf x).toNat)
            case atStart => exact ⟨1, by omega, by omega, rfl, Below.refl _ _, Going.start _ _ _⟩
            case round =>
              obtain ⟨t, ht1, htn, rfl, hbelt, hT⟩ := hrel
              have hszt := hbelt.size
              have hx1 : IntKind.i64.wrap ((k : Int) + (t : Int)) = (k : Int) + (t : Int) := R.wrap_small (by omega) (by omega)
              have hx2 : IntKind.i64.wrap (p + (t : Int)) = p + (t : Int) := R.wrap_small (by omega) (by omega)
              have hx5 : ((k : Int) + (t : Int)).toNat = k + t := by omega
              have hx6 : 0 ≤ (k : Int) + (t : Int) := by omega
              have g1t := (hbelt.cell (p := ⟨b1, o1 + k, none⟩) (by show b1 < _; omega)).trans g1
              have g0t := (hbelt.cell (p := ⟨b1, o1 + (k - 1), none⟩) (by show b1 < _; omega)).trans g0
              by_cases hkt : k + t < n0
              · have gy := ((hbelt.cell (p := ⟨b1, o1 + (k + t), none⟩) (by show b1 < _; omega)).trans (hbel.cell (p := ⟨b1, o1 + (k + t), none⟩) hb1)).trans (HCL.out (k + t) hkt)
                have hon := Lib.hid (hT.on (by rw [HX.out]; exact hkt))
                have hoff := Lib.hid (hT.off (by rw [HX.out]; exact hkt))
                obtain ⟨y, hy⟩ : ∃ y, y = z0.getD (k + t) 0 := ⟨_, rfl⟩
                rw [← hy] at gy hon hoff
                clear hy hT
                have hkt' : (k : Int) + (t : Int) < (n0 : Int) := by omega
                by_cases hyp : y = p + (t : Int)
                · have hyes : (y == p + (t : Int)) = true := by simpa using hyp
                  have hTn := hon.out hyp
                  clear hon hoff hyp
                  go_wp2_with fail
                  go_quiet (fail)
                  go_wp2
                  go_roundw
                  case rel => exact ⟨t + 1, by omega, by omega, by go_num, hbelt.trans (Below.drewN' _ _ _), hTn⟩
                  case measure => simp [intOf]; omega
                · have hno : (y == p + (t : Int)) = false := by simpa using hyp
                  have hte := hoff.out hyp
                  have hnext := HN.out (hte)
                  clear hon hoff hyp hte
                  go_wp2_with fail
                  go_quiet (fail)
                  replace hbelt := hbelt.trans (Below.drewN' _ wr nq)
                  replace g1t : (wr.drewN nq).cell? _ = _ := g1t
                  replace g0t : (wr.drewN nq).cell? _ = _ := g0t
                  generalize wr.drewN nq = wr at *
                  go_wp2_with fail
                  go_quiet (fail)
                  have hownt := hown.below (hbelt.trans (Below.drewN' _ wr nq))
                  have hwq := (hbel.trans (hbelt.mono hsz)).trans (Below.drewN' _ wr nq)
                  have hsq : x3.heap.size ≤ wr.heap.size := by have := hbelt.size; omega
                  go_wp2_with (at_builtin; refine wpList_appP _ rfl (.tmp 72) (.tmp 79) _ rfl x3.heap.size 30 Tryd.underlying28 pairInfo _ _ rfl (hownt.below ((Below.refl _ _).alloc (Nat.le_refl _) _)) (some ⟨wr.heap.size, 0, none⟩) 1 1 [(p, (t : Int))] rfl (RdP.one _ _ _) (by omega) (by simp; omega) ?_; intro v1 w2 hown1 hg1 hat1)
                  have hb2 := below_appP (hwq.alloc hsq _) (hownt.below ((Below.refl _ _).alloc (Nat.le_refl _) _)) hg1 (by simp; omega)
                  go_roundw
                  case rel => exact ⟨k + 1, rs ++ [(p, (t : Int))], by omega, by go_num, hown1, by simp; omega, hb2, hnext⟩
                  case measure => simp [intOf]; omega
              · have hkf : decide (k + t < n0) = false := by simpa using hkt
                have hkf' : decide ((k : Int) + (t : Int) < (n0 : Int)) = false := by simp; omega
                have hte := hT.stop (by rw [HX.out]; omega)
                have hnext := HN.out (hte)
                clear hT hte hkt
                go_wp2_with fail
                go_quiet (fail)
                replace hbelt := hbelt.trans (Below.drewN' _ wr nq)
                replace g1t : (wr.drewN nq).cell? _ = _ := g1t
                replace g0t : (wr.drewN nq).cell? _ = _ := g0t
                generalize wr.drewN nq = wr at *
                go_wp2_with fail
                go_quiet (fail)
                have hownt := hown.below (hbelt.trans (Below.drewN' _ wr nq))
                have hwq := (hbel.trans (hbelt.mono hsz)).trans (Below.drewN' _ wr nq)
                have hsq : x3.heap.size ≤ wr.heap.size := by have := hbelt.size; omega
                go_wp2_with (at_builtin; refine wpList_appP _ rfl (.tmp 72) (.tmp 79) _ rfl x3.heap.size 30 Tryd.underlying28 pairInfo _ _ rfl (hownt.below ((Below.refl _ _).alloc (Nat.le_refl _) _)) (some ⟨wr.heap.size, 0, none⟩) 1 1 [(p, (t : Int))] rfl (RdP.one _ _ _) (by omega) (by simp; omega) ?_; intro v1 w2 hown1 hg1 hat1)
                have hb2 := below_appP (hwq.alloc hsq _) (hownt.below ((Below.refl _ _).alloc (Nat.le_refl _) _)) hg1 (by simp; omega)
                go_roundw
                case rel => exact ⟨k + 1, rs ++ [(p, (t : Int))], by omega, by go_num, hown1, by simp; omega, hb2, hnext⟩
                case measure => simp [intOf]; omega
      · obtain rfl : k = n0 := by omega
        have hfin := Gone.stop hG (by rw [HX.out]; exact Nat.le_refl _)
        subst hfin
        obtain ⟨Ar, dr, rfl, rr⟩ := hown.rd
        obtain ⟨L, hL⟩ : ∃ L, L = (Ga.runs (-2) z0).length := ⟨_, rfl⟩
        have hlen2 := Lib.hid hL
        have hLb := rr.big
        rw [← hL] at rr hLb ⊢
        clear hL hrl hG hown
        have r0 := r03.past hbel
        have rb := rb3.past hbel
        have het := het3.below hbel
        have rwt := rw3.past hbel
        have hwt := hw3.trans (hbel.mono hw3.size)
        clear r03 rb3 het3 rw3 hw3 hbel hsz
        go_wp2_with fail
        refine (Write_any _ _ _ z0 _ r0).mono ?_
        rintro e x4 ⟨hb4, ⟨h0, rfl⟩ | ⟨v4, h0, rfl, hown4⟩⟩
        · exact absurd HC.out h0
        clear h0
        obtain ⟨A4, d4, rfl, r4⟩ := hown4.rd
        replace r0 := r0.past hb4
        replace rb := rb.past hb4
        replace rwt := rwt.past hb4
        replace rr := rr.past hb4
        replace het := het.below hb4
        replace hwt := hwt.trans (hb4.mono hwt.size)
        clear hb4
        clear hown4
        go_wp2_with fail
        refine (Error_nil _ _).mono ?_
        rintro e x5 ⟨rfl, rfl⟩
        rw [show ((0 : Int) == 0) = true from rfl]
        go_wp2_with fail
        refine (Ints_any _ _ _ _ _ _ (Ga.write z0) (Ga.write z0) _ r4 rwt).mono ?_
        rintro e x6 ⟨rfl, hb6⟩
        replace r0 := r0.past hb6
        replace rb := rb.past hb6
        replace rr := rr.past hb6
        replace het := het.below hb6
        replace hwt := hwt.trans (hb6.mono hwt.size)
        clear hb6
        clear r4 rwt
        rw [show decide (Ga.write z0 = Ga.write z0) = true by simp]
        go_wp2_with fail
        refine (Runs_any _ _ _ z0 _ r0).mono ?_
        rintro e x7 ⟨hb7, ⟨h0, rfl⟩ | ⟨v7, h0, rfl, hown7⟩⟩
        · exact absurd HC.out h0
        clear h0
        obtain ⟨A7, d7, rfl, r7⟩ := hown7.rd
        replace r0 := r0.past hb7
        replace rb := rb.past hb7
        replace rr := rr.past hb7
        replace het := het.below hb7
        replace hwt := hwt.trans (hb7.mono hwt.size)
        clear hb7
        clear hown7
        rw [← hlen2.out] at r7 ⊢
        obtain ⟨ps, hps⟩ : ∃ ps, ps = Ga.runs (-2) z0 := ⟨_, rfl⟩
        rw [← hps] at r7 rr
        clear hps hlen2
        go_wp2_with fail
        go_loopw [15, 16] (fun s i wr => ∃ k : Nat, k ≤ L ∧ s = .bool true ∧ i = .int .i64 k ∧ Below x7.heap.size x7 wr) (fun _ i _ => L - (intOf i).toNat)
        case atStart => exact ⟨0, Nat.zero_le _, by simp, rfl, Below.refl _ _⟩
        case round =>
          obtain ⟨k, hk, rfl, rfl, hbel⟩ := hrel
          by_cases hlt : k < L
          · obtain ⟨b1, o1, rfl, hb1, hc1⟩ := r7.at_ (by omega)
            obtain ⟨b2, o2, rfl, hb2, hc2⟩ := rr.at_ (by omega)
            have g1 := (hbel.cell (p := ⟨b1, o1 + k * 2, none⟩) hb1).trans (hc1 k hlt).1
            have g2 := (hbel.cell (p := ⟨b1, o1 + k * 2 + 1, none⟩) hb1).trans (hc1 k hlt).2
            have g3 := (hbel.cell (p := ⟨b2, o2 + k * 2, none⟩) hb2).trans (hc2 k hlt).1
            have g4 := (hbel.cell (p := ⟨b2, o2 + k * 2 + 1, none⟩) hb2).trans (hc2 k hlt).2
            clear hc1 hc2
            generalize (ps.getD k (0, 0)).1 = pa at g1 g3
            generalize (ps.getD k (0, 0)).2 = pb at g2 g4
            go_wp2_with fail
            go_quiet (fail)
            go_wp2
            go_roundw
            case rel => exact ⟨k + 1, by omega, by simp, by go_num, hbel.trans (Below.drewN' _ _ _)⟩
            case measure => simp [intOf]; omega
          · obtain rfl : k = L := by omega
            replace r0 := r0.past hbel
            replace rb := rb.past hbel
            replace het := het.below hbel
            replace hwt := hwt.trans (hbel.mono hwt.size)
            clear r7 rr hbel
            go_wp2_with fail
            refine (Error_nil _ _).mono ?_
            rintro e x8 ⟨rfl, rfl⟩
            rw [show ((0 : Int) == 0) = true from rfl]
            go_wp2_with fail
            refine (R.ReadGaps_any _ _ _ z1 _ rb).mono ?_
            rintro e y1 ⟨hb1, ⟨h0, rfl⟩ | ⟨v1, h0, rfl, hown1⟩⟩
            · replace r0 := r0.past hb1
              replace rb := rb.past hb1
              replace het := het.below hb1
              replace hwt := hwt.trans (hb1.mono hwt.size)
              clear hb1
              have H0 := Lib.hid h0
              clear h0
              go_wp2_with fail
              refine (Read_any _ _ _ z1 _ rb).mono ?_
              rintro e y2 ⟨hb2, ⟨h0', rfl⟩ | ⟨v2, h0', rfl, hown2⟩⟩
              · clear h0' H0
                replace r0 := r0.past hb2
                replace rb := rb.past hb2
                replace het := het.below hb2
                replace hwt := hwt.trans (hb2.mono hwt.size)
                clear hb2
                generalize gcode z1 = kc at *
                go_wp2_with fail
                refine (Error_err _ _ _ het).mono ?_
                rintro e y3 ⟨rfl, hb3⟩
                replace r0 := r0.past hb3
                replace rb := rb.past hb3
                replace het := het.below hb3
                replace hwt := hwt.trans (hb3.mono hwt.size)
                clear hb3
                rw [show (kc == kc) = true by simp]
                go_wp2_with fail
                refine (Ints_any _ _ _ _ _ _ [] [] _ (Rd.nil _ _) (Rd.nil _ _)).mono ?_
                rintro e y4 ⟨rfl, hb4⟩
                rw [show decide (([] : List Int) = []) = true from rfl]
                go_wp2
                go_ret
                exact ⟨rfl, hwt.trans (hb4.mono hwt.size)⟩
              · exact absurd h0' H0.out
            · obtain ⟨A1, d1, rfl, r1⟩ := hown1.rd
              replace r0 := r0.past hb1
              replace rb := rb.past hb1
              replace het := het.below hb1
              replace hwt := hwt.trans (hb1.mono hwt.size)
              clear hb1
              have H0 := Lib.hid h0
              clear h0 hown1
              go_wp2_with fail
              refine (Read_any _ _ _ z1 _ rb).mono ?_
              rintro e y2 ⟨hb2, ⟨h0', rfl⟩ | ⟨v2, h0', rfl, hown2⟩⟩
              · exact absurd H0.out h0'
              · clear h0' H0
                obtain ⟨A2, d2, rfl, r2⟩ := hown2.rd
                replace r0 := r0.past hb2
                replace rb := rb.past hb2
                replace r1 := r1.past hb2
                replace het := het.below hb2
                replace hwt := hwt.trans (hb2.mono hwt.size)
                clear hb2
                clear hown2
                go_wp2_with fail
                refine (Error_nil _ _).mono ?_
                rintro e y3 ⟨rfl, rfl⟩
                rw [show ((0 : Int) == 0) = true from rfl]
                go_wp2_with fail
                refine (Ints_any _ _ _ _ _ _ (glist z1) (glist z1) _ r2 r1).mono ?_
                rintro e y4 ⟨rfl, hb4⟩
                rw [show decide (glist z1 = glist z1) = true by simp]
                go_wp2
                go_ret
                exact ⟨rfl, hwt.trans (hb4.mono hwt.size)⟩
  · have HC := Lib.hid hc
    have HE := Lib.hid (errOf_pos hc)
    have hne : (Ga.code z0 == 0) = false := by simpa using hc
    clear hc
    go_enter Tryd.func3, Tryd.ntmps3
    go_wp2_with fail
    refine (R.Gaps_any _ _ _ z0 _ w0).mono ?_
    rintro e x1 ⟨rfl, hb1⟩
    have r0 := w0.past hb1
    have rb := w1.past hb1
    have het := hetw.below hb1
    have hwt := hb1
    clear hb1 w0 w1 hetw
    go_wp2_with fail
    refine (Check_any _ _ _ z0 _ r0).mono ?_
    rintro e x2 ⟨rfl, rfl⟩
    rw [HE.out]
    go_wp2_with fail
    refine (Error_err _ _ _ het).mono ?_
    rintro e x3 ⟨rfl, hb3⟩
    replace r0 := r0.past hb3
    replace rb := rb.past hb3
    replace het := het.below hb3
    replace hwt := hwt.trans (hb3.mono hwt.size)
    clear hb3
    rw [show (Ga.code z0 == Ga.code z0) = true by simp]
    go_wp2_with fail
    refine (Write_any _ _ _ z0 _ r0).mono ?_
    rintro e x4 ⟨hb4, ⟨h0, rfl⟩ | ⟨v4, h0, rfl, hown4⟩⟩
    rotate_left 1
    · exact absurd h0 HC.out
    clear h0
    replace r0 := r0.past hb4
    replace rb := rb.past hb4
    replace het := het.below hb4
    replace hwt := hwt.trans (hb4.mono hwt.size)
    clear hb4
    go_wp2_with fail
    refine (Error_err _ _ _ het).mono ?_
    rintro e x5 ⟨rfl, hb5⟩
    replace r0 := r0.past hb5
    replace rb := rb.past hb5
    replace het := het.below hb5
    replace hwt := hwt.trans (hb5.mono hwt.size)
    clear hb5
    rw [show (Ga.code z0 == Ga.code z0) = true by simp]
    go_wp2_with fail
    refine (Ints_any _ _ _ _ _ _ [] [] _ (Rd.nil _ _) (Rd.nil _ _)).mono ?_
    rintro e x6 ⟨rfl, hb6⟩
    replace r0 := r0.past hb6
    replace rb := rb.past hb6
    replace het := het.below hb6
    replace hwt := hwt.trans (hb6.mono hwt.size)
    clear hb6
    rw [show decide (([] : List Int) = []) = true from rfl]
    go_wp2_with fail
    refine (Runs_any _ _ _ z0 _ r0).mono ?_
    rintro e x7 ⟨hb7, ⟨h0, rfl⟩ | ⟨v7, h0, rfl, hown7⟩⟩
    rotate_left 1
    · exact absurd h0 HC.out
    clear h0
    replace r0 := r0.past hb7
    replace rb := rb.past hb7
    replace het := het.below hb7
    replace hwt := hwt.trans (hb7.mono hwt.size)
    clear hb7
    go_wp2_with fail
    go_loopw [15, 16] (fun s i wr => s = .bool true ∧ i = .int .i64 0 ∧ wr = x7) (fun _ _ _ => 0)
    case atStart => exact ⟨rfl, rfl, rfl⟩
    case round =>
      obtain ⟨rfl, rfl, rfl⟩ := hrel
      go_wp2_with fail
      refine (Error_err _ _ _ het).mono ?_
      rintro e x8 ⟨rfl, hb8⟩
      replace r0 := r0.past hb8
      replace rb := rb.past hb8
      replace het := het.below hb8
      replace hwt := hwt.trans (hb8.mono hwt.size)
      clear hb8
      rw [show (Ga.code z0 == Ga.code z0) = true by simp]
      go_wp2_with fail
      refine (R.ReadGaps_any _ _ _ z1 _ rb).mono ?_
      rintro e y1 ⟨hb1, ⟨h0, rfl⟩ | ⟨v1, h0, rfl, hown1⟩⟩
      · replace r0 := r0.past hb1
        replace rb := rb.past hb1
        replace het := het.below hb1
        replace hwt := hwt.trans (hb1.mono hwt.size)
        clear hb1
        have H0 := Lib.hid h0
        clear h0
        go_wp2_with fail
        refine (Read_any _ _ _ z1 _ rb).mono ?_
        rintro e y2 ⟨hb2, ⟨h0', rfl⟩ | ⟨v2, h0', rfl, hown2⟩⟩
        · clear h0' H0
          replace r0 := r0.past hb2
          replace rb := rb.past hb2
          replace het := het.below hb2
          replace hwt := hwt.trans (hb2.mono hwt.size)
          clear hb2
          generalize gcode z1 = kc at *
          go_wp2_with fail
          refine (Error_err _ _ _ het).mono ?_
          rintro e y3 ⟨rfl, hb3⟩
          replace r0 := r0.past hb3
          replace rb := rb.past hb3
          replace het := het.below hb3
          replace hwt := hwt.trans (hb3.mono hwt.size)
          clear hb3
          rw [show (kc == kc) = true by simp]
          go_wp2_with fail
          refine (Ints_any _ _ _ _ _ _ [] [] _ (Rd.nil _ _) (Rd.nil _ _)).mono ?_
          rintro e y4 ⟨rfl, hb4⟩
          rw [show decide (([] : List Int) = []) = true from rfl]
          go_wp2
          go_ret
          exact ⟨rfl, hwt.trans (hb4.mono hwt.size)⟩
        · exact absurd h0' H0.out
      · obtain ⟨A1, d1, rfl, r1⟩ := hown1.rd
        replace r0 := r0.past hb1
        replace rb := rb.past hb1
        replace het := het.below hb1
        replace hwt := hwt.trans (hb1.mono hwt.size)
        clear hb1
        have H0 := Lib.hid h0
        clear h0 hown1
        go_wp2_with fail
        refine (Read_any _ _ _ z1 _ rb).mono ?_
        rintro e y2 ⟨hb2, ⟨h0', rfl⟩ | ⟨v2, h0', rfl, hown2⟩⟩
        · exact absurd H0.out h0'
        · clear h0' H0
          obtain ⟨A2, d2, rfl, r2⟩ := hown2.rd
          replace r0 := r0.past hb2
          replace rb := rb.past hb2
          replace r1 := r1.past hb2
          replace het := het.below hb2
          replace hwt := hwt.trans (hb2.mono hwt.size)
          clear hb2
          clear hown2
          go_wp2_with fail
          refine (Error_nil _ _).mono ?_
          rintro e y3 ⟨rfl, rfl⟩
          rw [show ((0 : Int) == 0) = true from rfl]
          go_wp2_with fail
          refine (Ints_any _ _ _ _ _ _ (glist z1) (glist z1) _ r2 r1).mono ?_
          rintro e y4 ⟨rfl, hb4⟩
          rw [show decide (glist z1 = glist z1) = true by simp]
          go_wp2
          go_ret
          exact ⟨rfl, hwt.trans (hb4.mono hwt.size)⟩

end Go.Proofs.YtiafekjdefnifaaDoor.gapsSays
