/-
  The walk of the law TrailEuler: for every number of points and lines it returns true, where the library's variable errors.errorType holds what its initialiser lays.
-/
import Derived.Test.YtibphofiaodnmaaDoorTrailX
import Derived.BigQuiet
namespace Go.Proofs.YtibphofiaodnmaaDoor.trailEuler
open Go.RowKit
set_option linter.unusedSimpArgs false
set_option linter.unusedVariables false

set_option maxRecDepth 100000 in
set_option maxHeartbeats 1000000 in
/-- something is wrong with the lines -/
theorem bad (w : World) (het : tld.EtIs w) (a0 : Int) (a1 : Option Addr) (n1 c1 : Nat) (z1 : List Gr.Ln) (w1 : RdP w w.heap.size a1 n1 c1 z1) (hc : Gr.code a0 z1 ≠ 0) :
    Calls Tryd.prog 4 #[.int .i64 a0, .slice a1 n1 c1] w fun e w' => e = .returned (.bool true) ∧ Below w.heap.size w w' := by
  have HN := Lib.hid hc
  clear hc
  go_enter Tryd.func4, Tryd.ntmps4
  go_wp2_with fail
  refine (trailFact_any _ het).mono ?_
  rintro e x1 ⟨rfl, b1⟩
  go_wp2_with fail
  refine (Ends_err a0 a1 n1 c1 z1 _ (w1.past b1) HN.out).mono ?_
  rintro e x2 ⟨rfl, b2⟩
  have b02 := b1.trans (b2.mono b1.size)
  go_wp2_with fail
  refine (Find_err a0 a1 n1 c1 z1 _ (w1.past b02) HN.out).mono ?_
  rintro e x3 ⟨rfl, b3⟩
  go_wp2
  go_ret
  exact ⟨rfl, b02.trans (b3.mono b02.size)⟩

set_option maxRecDepth 100000 in
set_option maxHeartbeats 2000000 in
/-- nothing is wrong with the lines -/
theorem good (w : World) (het : tld.EtIs w) (m : Nat) (a1 : Option Addr) (n1 c1 : Nat) (z1 : List Gr.Ln) (w1 : RdP w w.heap.size a1 n1 c1 z1) (h0 : Gr.code (m : Int) z1 = 0) :
    Calls Tryd.prog 4 #[.int .i64 (m : Int), .slice a1 n1 c1] w fun e w' => e = .returned (.bool true) ∧ Below w.heap.size w w' := by
  have hm8 : m ≤ 8 := by have := (Gr.code_zero.1 h0).2.1; omega
  have hl24 : n1 ≤ 24 := by have := (Gr.code_zero.1 h0).2.2.1; have := w1.len; omega
  have H0 := Lib.hid h0
  have HG := Lib.hid (Gr.code_zero.1 h0).2.2.2
  have HL := Lib.hid w1.len
  have hcap := w1.le
  have hcap2 := w1.cap
  have HEV := Lib.hid (Tl.ends_even h0)
  clear h0
  go_enter Tryd.func4, Tryd.ntmps4
  go_wp2_with fail
  refine (trailFact_any _ het).mono ?_
  rintro e x1 ⟨rfl, b1⟩
  have hr1 := w1.past b1
  go_wp2_with fail
  refine (Ends_rd m a1 n1 c1 z1 _ hr1 H0.out).mono ?_
  rintro e x2 ⟨b2, B2, k2, d2, rfl, hk2, s2⟩
  have b02 := b1.trans (b2.mono b1.size)
  have hr2 := hr1.past b2
  have hk8 : k2 ≤ 8 := by have h1 := hk2.out; have h2 := Tl.endsTo_len z1 m; have h3 : (Tl.ends m z1).length ≤ m := h2; omega
  have ev1 : Hid (k2 % 2 = 0) := by show _ = _; rw [hk2.out]; exact HEV.out
  have ev2 : ((k2 : Int) % 2 == 0) = true := by simp; have := ev1.out; omega
  have ev3 : ((k2 : Int).tmod 2 == 0) = true := by rw [Int.tmod_eq_emod_of_nonneg (by omega)]; exact ev2
  clear hr1 w1 b1 b2 s2
  cases hcan : Tl.canB m z1 with
  | false =>
    have HC := Lib.hid hcan
    clear hcan
    go_wp2_with fail
    refine (Find_no m a1 n1 c1 z1 _ hr2 H0.out HC.out).mono ?_
    rintro e x3 ⟨rfl, b3⟩
    have b03 := b02.trans (b3.mono b02.size)
    have hr3 := hr2.past b3
    go_wp2_with fail
    refine (Parts_fine m a1 n1 c1 z1 _ hr3 H0.out).mono ?_
    rintro e x4 ⟨g, rfl, ho, b4⟩
    have b04 := b03.trans (b4.mono b03.size)
    have hr4 := hr3.past b4
    clear hr2 hr3 b3 b4 b02 b03
    have HLB : Hid (∀ v, v < m → x4.cell? ⟨g, v, none⟩ = some (.int .i64 (Wa.lab m (Wa.nrow m z1) m v))) := fun v hv => by
      have := ho.cell v hv
      rwa [Wa.labs_at _ _ hv] at this
    clear ho
    by_cases hn0 : n1 = 0
    · have hz : Hid (z1 = []) := List.eq_nil_of_length_eq_zero (by rw [HL.out]; exact hn0)
      subst hn0
      go_wp2
      go_loop [12, 13] (fun tv iv => tv = .bool false ∧ iv = .int .i64 0) (fun _ _ => 0)
      case atStart => exact ⟨rfl, rfl⟩
      case round =>
        obtain ⟨rfl, rfl⟩ := hrel
        go_wp2_with fail
        refine (Err_same5 _ (het.below b04)).mono ?_
        rintro e x5 ⟨rfl, b5⟩
        go_wp2
        go_ret
        exact ⟨rfl, b04.trans (b5.mono b04.size)⟩
    · have hpos : 0 < n1 := by omega
      have kp : (0 : Int) < (n1 : Int) := by omega
      have hne : Hid (z1 ≠ []) := fun e => hn0 (by rw [← HL.out, e]; rfl)
      have HT := Lib.hid (Tl.can_tog H0.out hne.out)
      obtain ⟨b, o, rfl, hbb, hcc⟩ := hr4.at_ hpos
      have HCC := Lib.hid hcc
      obtain ⟨f, f', hf, hfm, _, _⟩ := Tl.line_of H0.out (i := 0) (by rw [HL.out]; exact hpos)
      have g0 := (hcc 0 hpos).1
      rw [hf, Nat.zero_mul, Nat.add_zero] at g0
      simp only at g0
      have l0 := HLB.out f hfm
      have HF0 : Hid ((z1.getD 0 (0, 0)).1.toNat = f) := by show _ = _; rw [hf]; simp
      obtain ⟨y, hy⟩ : ∃ y, y = Wa.lab m (Wa.nrow m z1) m f := ⟨_, rfl⟩
      rw [← hy] at l0
      have HY := Lib.hid hy
      have kf1 : (0 : Int) ≤ (f : Int) := by omega
      have kf2 : (f : Int) < (m : Int) := by omega
      clear hcc hf hy hn0
      go_wp2
      go_loopw [12, 13] (fun tv iv wr => ∃ (j : Nat) (t : Bool), j ≤ n1 ∧ iv = .int .i64 (j : Int) ∧ tv = .bool t ∧ Hid (t = Tl.tog m z1 j) ∧ Below x4.heap.size x4 wr ∧ (∀ p : Addr, wr.cell? p = x4.cell? p)) (fun _ iv _ => n1 - (intOf iv).toNat)
      case atStart => exact ⟨0, true, Nat.zero_le _, rfl, rfl, rfl, Below.refl _ _, fun _ => rfl⟩
      case round =>
        obtain ⟨j, t, hj, rfl, rfl, HTJ, hbel, hsame⟩ := hrel
        have HSM := Lib.hid hsame
        clear hsame
        by_cases hlt : j < n1
        · obtain ⟨q, q', hq, hqm, _, _⟩ := Tl.line_of H0.out (i := j) (by rw [HL.out]; exact hlt)
          have gj := (HSM.out _).trans (HCC.out j hlt).1
          rw [hq] at gj
          simp only at gj
          have lq := (HSM.out _).trans (HLB.out q hqm)
          have l0' := (HSM.out _).trans l0
          have g0' := (HSM.out _).trans g0
          have HST := Lib.hid (Tl.tog_step m z1 j)
          have HQJ : Hid ((z1.getD j (0, 0)).1.toNat = q) := by show _ = _; rw [hq]; simp
          have k1 : (0 : Int) ≤ (j : Int) := by omega
          have k2 : (j : Int) < (n1 : Int) := by omega
          have k3 : (0 : Int) ≤ (q : Int) := by omega
          have k4 : (q : Int) < (m : Int) := by omega
          obtain ⟨x, hx⟩ : ∃ x, x = Wa.lab m (Wa.nrow m z1) m q := ⟨_, rfl⟩
          rw [← hx] at lq
          have HX := Lib.hid hx
          clear hx hq
          have hbel2 := hbel.trans (Below.drewN' x4.heap.size wr 1)
          cases t with
          | false =>
            have HN : Hid (false = Tl.tog m z1 (j + 1)) := by show _ = _; rw [HST.out, ← HTJ.out]; rfl
            go_wp2
            go_quiet (fail)
            go_wp2
            go_roundw
            case rel => exact ⟨j + 1, false, by omega, by go_num, rfl, HN, hbel.trans (Below.drewN' _ _ _), HSM.out⟩
            case measure => simp [intOf]; omega
          | true =>
            by_cases hxy : x = y
            · have d1 : (x == y) = true := by simpa using hxy
              have HN : Hid (true = Tl.tog m z1 (j + 1)) := by show _ = _; rw [HST.out, ← HTJ.out, HQJ.out, HF0.out, ← HX.out, ← HY.out, d1]; rfl
              have HXY := Lib.hid hxy
              clear hxy
              go_wp2
              go_quiet (fail)
              go_wp2
              go_roundw
              case rel => exact ⟨j + 1, true, by omega, by go_num, rfl, HN, hbel.trans (Below.drewN' _ _ _), HSM.out⟩
              case measure => simp [intOf]; omega
            · have d1 : (x == y) = false := by simpa using hxy
              have HN : Hid (false = Tl.tog m z1 (j + 1)) := by show _ = _; rw [HST.out, ← HTJ.out, HQJ.out, HF0.out, ← HX.out, ← HY.out, d1]; rfl
              have HXY := Lib.hid hxy
              clear hxy
              go_wp2
              go_quiet (fail)
              go_wp2
              go_roundw
              case rel => exact ⟨j + 1, false, by omega, by go_num, rfl, HN, hbel.trans (Below.drewN' _ _ _), HSM.out⟩
              case measure => simp [intOf]; omega
        · obtain rfl : j = n1 := by omega
          have hT : Hid (t = Tl.tog m z1 z1.length) := by show _ = _; rw [HL.out]; exact HTJ.out
          have hb5 := b04.trans (hbel.mono b04.size)
          cases t with
          | false =>
            go_wp2_with fail
            refine (Err_same5 _ (het.below hb5)).mono ?_
            rintro e x5 ⟨rfl, b5⟩
            go_wp2
            go_ret
            exact ⟨rfl, hb5.trans (b5.mono hb5.size)⟩
          | true =>
            have hk22 : ¬ k2 ≤ 2 := fun h => by
              have h1 := HT.out
              rw [HC.out, ← hT.out, ← hk2.out] at h1
              simp [h] at h1
            have e1 : ¬ (k2 : Int) ≤ 2 := by omega
            have e2 : decide ((k2 : Int) ≤ 2) = false := by simp; omega
            have e3 : decide (k2 ≤ 2) = false := by simp; omega
            go_wp2_with fail
            refine (Err_same5 _ (het.below hb5)).mono ?_
            rintro e x5 ⟨rfl, b5⟩
            go_wp2
            go_ret
            exact ⟨rfl, hb5.trans (b5.mono hb5.size)⟩
  | true =>
    have HC := Lib.hid hcan
    clear hcan
    go_wp2_with fail
    refine (Find_yes m a1 n1 c1 z1 _ hr2 H0.out HC.out).mono ?_
    rintro e x3 ⟨b3, B3, k3, d3, rfl, hk3, s3⟩
    clear s3 hk3
    have b03 := b02.trans (b3.mono b02.size)
    have hr3 := hr2.past b3
    go_wp2_with fail
    refine (Parts_fine m a1 n1 c1 z1 _ hr3 H0.out).mono ?_
    rintro e x4 ⟨g, rfl, ho, b4⟩
    have b04 := b03.trans (b4.mono b03.size)
    have hr4 := hr3.past b4
    clear hr2 hr3 b3 b4 b02 b03
    have HLB : Hid (∀ v, v < m → x4.cell? ⟨g, v, none⟩ = some (.int .i64 (Wa.lab m (Wa.nrow m z1) m v))) := fun v hv => by
      have := ho.cell v hv
      rwa [Wa.labs_at _ _ hv] at this
    clear ho
    by_cases hn0 : n1 = 0
    · have hz : Hid (z1 = []) := List.eq_nil_of_length_eq_zero (by rw [HL.out]; exact hn0)
      have := HC.out
      rw [hz.out, Tl.can_nil] at this
      cases this
    · have hpos : 0 < n1 := by omega
      have kp : (0 : Int) < (n1 : Int) := by omega
      have hne : Hid (z1 ≠ []) := fun e => hn0 (by rw [← HL.out, e]; rfl)
      have HT := Lib.hid (Tl.can_tog H0.out hne.out)
      obtain ⟨b, o, rfl, hbb, hcc⟩ := hr4.at_ hpos
      have HCC := Lib.hid hcc
      obtain ⟨f, f', hf, hfm, _, _⟩ := Tl.line_of H0.out (i := 0) (by rw [HL.out]; exact hpos)
      have g0 := (hcc 0 hpos).1
      rw [hf, Nat.zero_mul, Nat.add_zero] at g0
      simp only at g0
      have l0 := HLB.out f hfm
      have HF0 : Hid ((z1.getD 0 (0, 0)).1.toNat = f) := by show _ = _; rw [hf]; simp
      obtain ⟨y, hy⟩ : ∃ y, y = Wa.lab m (Wa.nrow m z1) m f := ⟨_, rfl⟩
      rw [← hy] at l0
      have HY := Lib.hid hy
      have kf1 : (0 : Int) ≤ (f : Int) := by omega
      have kf2 : (f : Int) < (m : Int) := by omega
      clear hcc hf hy hn0
      go_wp2
      go_loopw [12, 13] (fun tv iv wr => ∃ (j : Nat) (t : Bool), j ≤ n1 ∧ iv = .int .i64 (j : Int) ∧ tv = .bool t ∧ Hid (t = Tl.tog m z1 j) ∧ Below x4.heap.size x4 wr ∧ (∀ p : Addr, wr.cell? p = x4.cell? p)) (fun _ iv _ => n1 - (intOf iv).toNat)
      case atStart => exact ⟨0, true, Nat.zero_le _, rfl, rfl, rfl, Below.refl _ _, fun _ => rfl⟩
      case round =>
        obtain ⟨j, t, hj, rfl, rfl, HTJ, hbel, hsame⟩ := hrel
        have HSM := Lib.hid hsame
        clear hsame
        by_cases hlt : j < n1
        · obtain ⟨q, q', hq, hqm, _, _⟩ := Tl.line_of H0.out (i := j) (by rw [HL.out]; exact hlt)
          have gj := (HSM.out _).trans (HCC.out j hlt).1
          rw [hq] at gj
          simp only at gj
          have lq := (HSM.out _).trans (HLB.out q hqm)
          have l0' := (HSM.out _).trans l0
          have g0' := (HSM.out _).trans g0
          have HST := Lib.hid (Tl.tog_step m z1 j)
          have HQJ : Hid ((z1.getD j (0, 0)).1.toNat = q) := by show _ = _; rw [hq]; simp
          have k1 : (0 : Int) ≤ (j : Int) := by omega
          have k2 : (j : Int) < (n1 : Int) := by omega
          have k3 : (0 : Int) ≤ (q : Int) := by omega
          have k4 : (q : Int) < (m : Int) := by omega
          obtain ⟨x, hx⟩ : ∃ x, x = Wa.lab m (Wa.nrow m z1) m q := ⟨_, rfl⟩
          rw [← hx] at lq
          have HX := Lib.hid hx
          clear hx hq
          have hbel2 := hbel.trans (Below.drewN' x4.heap.size wr 1)
          cases t with
          | false =>
            have HN : Hid (false = Tl.tog m z1 (j + 1)) := by show _ = _; rw [HST.out, ← HTJ.out]; rfl
            go_wp2
            go_quiet (fail)
            go_wp2
            go_roundw
            case rel => exact ⟨j + 1, false, by omega, by go_num, rfl, HN, hbel.trans (Below.drewN' _ _ _), HSM.out⟩
            case measure => simp [intOf]; omega
          | true =>
            by_cases hxy : x = y
            · have d1 : (x == y) = true := by simpa using hxy
              have HN : Hid (true = Tl.tog m z1 (j + 1)) := by show _ = _; rw [HST.out, ← HTJ.out, HQJ.out, HF0.out, ← HX.out, ← HY.out, d1]; rfl
              have HXY := Lib.hid hxy
              clear hxy
              go_wp2
              go_quiet (fail)
              go_wp2
              go_roundw
              case rel => exact ⟨j + 1, true, by omega, by go_num, rfl, HN, hbel.trans (Below.drewN' _ _ _), HSM.out⟩
              case measure => simp [intOf]; omega
            · have d1 : (x == y) = false := by simpa using hxy
              have HN : Hid (false = Tl.tog m z1 (j + 1)) := by show _ = _; rw [HST.out, ← HTJ.out, HQJ.out, HF0.out, ← HX.out, ← HY.out, d1]; rfl
              have HXY := Lib.hid hxy
              clear hxy
              go_wp2
              go_quiet (fail)
              go_wp2
              go_roundw
              case rel => exact ⟨j + 1, false, by omega, by go_num, rfl, HN, hbel.trans (Below.drewN' _ _ _), HSM.out⟩
              case measure => simp [intOf]; omega
        · obtain rfl : j = n1 := by omega
          have hT : Hid (t = Tl.tog m z1 z1.length) := by show _ = _; rw [HL.out]; exact HTJ.out
          have hb5 := b04.trans (hbel.mono b04.size)
          obtain rfl : t = true := by
            have h1 := HT.out
            rw [HC.out, ← hT.out] at h1
            cases t with
            | true => rfl
            | false => simp at h1
          have hk22 : k2 ≤ 2 := by
            have h1 := HT.out
            rw [HC.out] at h1
            have h2 := (Bool.and_eq_true_iff.1 h1.symm).2
            have h3 := hk2.out
            have h4 : (Tl.ends m z1).length ≤ 2 := by simpa using h2
            omega
          have e1 : (k2 : Int) ≤ 2 := by omega
          go_wp2
          go_ret
          exact ⟨rfl, hb5⟩

theorem walk (w : World) (het : tld.EtIs w) (a0 : Int) (_w0 : (Lit.int .i64 a0).wf = true) (a1 : Option Addr) (n1 c1 : Nat) (z1 : List Gr.Ln) (w1 : RdP w w.heap.size a1 n1 c1 z1) :
    Calls Tryd.prog 4 #[.int .i64 a0, .slice a1 n1 c1] w fun e w' => e = .returned (.bool true) ∧ Below w.heap.size w w' := by
  by_cases hc : Gr.code a0 z1 = 0
  · obtain ⟨m, rfl⟩ : ∃ m : Nat, a0 = (m : Int) := ⟨a0.toNat, by have := (Gr.code_zero.1 hc).1; omega⟩
    exact good w het m a1 n1 c1 z1 w1 hc
  · exact bad w het a0 a1 n1 c1 z1 w1 hc

end Go.Proofs.YtibphofiaodnmaaDoor.trailEuler
