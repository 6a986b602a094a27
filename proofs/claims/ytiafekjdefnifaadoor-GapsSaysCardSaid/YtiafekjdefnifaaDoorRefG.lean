/-
  Contracts of the document's answers for package gaps (package brambleweirref1): Gaps, WriteGaps, ReadGaps.
-/
import Derived.Test.YtiafekjdefnifaaDoorRefC
import Derived.Test.YtiafekjdefnifaaDoorGapsB
import Derived.Deep.QuietTactic
import Derived.BigQuiet
import Derived.Laws.BitsLemmas
namespace Go.Proofs.YtiafekjdefnifaaDoor.R
open Go.RowKit

set_option maxHeartbeats 1000000 in
theorem Gaps_any (A : Option Addr) (n c : Nat) (l : List Int) (w : World) (hr : Rd w w.heap.size A n c l) :
    Calls Tryd.prog 4 #[.slice A n c] w fun e w' => e = .returned (.int .i64 (Ga.code l)) ∧ Below w.heap.size w w' := by
  have HX := Lib.hid hr.len
  have hbig := hr.big
  by_cases h30 : 30 < n
  · have hfin : Hid (Ga.code l = 4) := by show _ = _; unfold Ga.code; rw [if_pos (by rw [HX.out]; exact h30)]
    go_enter Tryd.func4, Tryd.ntmps4
    go_wp2
    go_ret
    exact ⟨by rw [hfin.out]; rfl, Below.refl _ _⟩
  · have hcode : Hid (Ga.code l = Ga.fault (-1) l) := by show _ = _; unfold Ga.code; rw [if_neg (by rw [HX.out]; exact h30)]
    go_enter Tryd.func4, Tryd.ntmps4
    go_wp2
    go_loopw [3] (fun i wr => ∃ k : Nat, k ≤ n ∧ i = .int .i64 k ∧ Below w.heap.size w wr ∧ Hid (Ga.code l = Ga.fault (Ga.lastAt (-1) l k) (l.drop k))) (fun i _ => n - (intOf i).toNat)
    case atStart => exact ⟨0, Nat.zero_le _, rfl, Below.refl _ _, hcode⟩
    case round =>
      obtain ⟨k, hk, rfl, hbel, H⟩ := hrel
      by_cases hlt : k < n
      · obtain ⟨b1, o1, rfl, hb1, hc1⟩ := hr.at_ (by omega)
        have g1 : wr.cell? ⟨b1, o1 + k, none⟩ = some (.int .i64 (l.getD k 0)) := (hbel.cell (by exact hb1)).trans (hc1 k hlt)
        have hkl : k < l.length := by rw [HX.out]; exact hlt
        obtain ⟨p, hp⟩ : ∃ p, p = l.getD k 0 := ⟨_, rfl⟩
        rw [← hp] at g1
        have HP := Lib.hid hp
        clear hp
        by_cases hin : p < 0 ∨ 999999 < p
        · have hfin : Hid (Ga.code l = 1) := by show _ = _; rw [H.out, Ga.fault_bad hkl (by rw [← HP.out]; omega)]
          clear hkl hc1
          go_wp2_with (go_at_call 13; refine (in_no _ _ _ _ hin).mono ?_; rintro e w' ⟨rfl, rfl⟩)
          go_ret
          exact ⟨by rw [hfin.out]; rfl, hbel⟩
        · have i1 : 0 ≤ p := by omega
          have i2 : p ≤ 999999 := by omega
          clear hin
          by_cases hk0 : k = 0
          · have hkz : decide (0 < k) = false := by simp; omega
            have hnext : Hid (Ga.code l = Ga.fault (Ga.lastAt (-1) l (k + 1)) (l.drop (k + 1))) := by
              show _ = _
              rw [H.out, Ga.fault_on hkl (by rw [← HP.out]; omega) (by rw [← HP.out]; omega) (by rw [← HP.out, hk0, Ga.lastAt_zero]; omega), Ga.lastAt_succ]
            clear hkl hc1 hk0
            go_wp2_with (go_at_call 13; refine (in_yes _ _ _ _ i1 i2).mono ?_; rintro e w' ⟨rfl, rfl⟩)
            go_quiet (fail)
            go_wp2
            go_roundw
            case rel => exact ⟨k + 1, by omega, by go_num, hbel.trans (Below.drewN' _ _ _), hnext⟩
            case measure => simp [intOf]; omega
          · have hkp : 0 < k := by omega
            have g0 : wr.cell? ⟨b1, o1 + (k - 1), none⟩ = some (.int .i64 (l.getD (k - 1) 0)) := (hbel.cell (by exact hb1)).trans (hc1 (k - 1) (by omega))
            have hla : Ga.lastAt (-1) l k = l.getD (k - 1) 0 := by unfold Ga.lastAt; rw [if_neg hk0]
            obtain ⟨q, hq⟩ : ∃ q, q = l.getD (k - 1) 0 := ⟨_, rfl⟩
            rw [← hq] at g0 hla
            have HL := Lib.hid hla
            clear hq hla hc1 hk0
            by_cases hpq : p ≤ q
            · have hfin : Hid (Ga.code l = 3) := by
                show _ = _
                rw [H.out, Ga.fault_low hkl (by rw [← HP.out]; omega) (by rw [← HP.out]; omega) (by rw [← HP.out, HL.out]; exact hpq)]
              clear hkl
              go_wp2_with (go_at_call 13; refine (in_yes _ _ _ _ i1 i2).mono ?_; rintro e w' ⟨rfl, rfl⟩)
              go_quiet (fail)
              go_wp2
              go_ret
              exact ⟨by rw [hfin.out]; rfl, hbel.trans (Below.drewN' _ _ _)⟩
            · have hd : decide (p ≤ q) = false := by simp; omega
              have hnext : Hid (Ga.code l = Ga.fault (Ga.lastAt (-1) l (k + 1)) (l.drop (k + 1))) := by
                show _ = _
                rw [H.out, Ga.fault_on hkl (by rw [← HP.out]; omega) (by rw [← HP.out]; omega) (by rw [← HP.out, HL.out]; omega), Ga.lastAt_succ]
              clear hkl hpq
              go_wp2_with (go_at_call 13; refine (in_yes _ _ _ _ i1 i2).mono ?_; rintro e w' ⟨rfl, rfl⟩)
              go_quiet (fail)
              go_wp2
              go_roundw
              case rel => exact ⟨k + 1, by omega, by go_num, hbel.trans (Below.drewN' _ _ _), hnext⟩
              case measure => simp [intOf]; omega
      · obtain rfl : k = n := by omega
        have hfin : Hid (Ga.code l = 0) := by show _ = _; rw [H.out, List.drop_eq_nil_of_le (by rw [HX.out]; exact Nat.le_refl _)]; rfl
        go_wp2
        go_ret
        exact ⟨by rw [hfin.out]; rfl, hbel⟩

theorem wrap_small {x : Int} (h0 : -9223372036854775808 ≤ x) (h1 : x ≤ 9223372036854775807) : IntKind.i64.wrap x = x := by
  rw [IntKind.wrap_i64]
  omega
theorem gaps_at : ∀ (l : List Int) (a : Int) (k : Nat), k < l.length → (Ga.gaps a l).getD k 0 = l.getD k 0 - Ga.lastAt a l k := by
  intro l
  induction l with
  | nil => intro a k h; simp at h
  | cons n l ih =>
    intro a k h
    cases k with
    | zero => simp [Ga.gaps, Ga.lastAt]
    | succ k =>
      have := ih n k (by simpa using h)
      have e : Ga.lastAt n l k = (n :: l).getD k 0 := by
        cases k with
        | zero => simp [Ga.lastAt]
        | succ k => rw [Ga.lastAt_succ]; simp
      rw [e] at this
      rw [Ga.lastAt_succ]
      simpa [Ga.gaps] using this
theorem write_take {l : List Int} {k : Nat} (h : k < l.length) : El.codes El.delta ((Ga.nums l).take (k + 1 + 1)) = El.codes El.delta ((Ga.nums l).take (k + 1)) ++ El.delta (l.getD k 0 - Ga.lastAt (-1) l k).toNat := by
  rw [Ga.codes_take (by rw [Ga.nums_len]; omega)]
  congr 3
  rw [← gaps_at l (-1) k h]
  simp [Ga.nums]
theorem Delta_int (x : Int) (w : World) (h1 : 1 ≤ x) (h2 : x ≤ 1000000) :
    Calls Tryd.prog 15 #[.int .i64 x] w fun e w' => ∃ v, e = .returned v ∧ Own w' w.heap.size 3 v (El.delta x.toNat) ∧ Below w.heap.size w w' := by
  obtain ⟨n, rfl⟩ : ∃ n : Nat, x = n := ⟨x.toNat, by omega⟩
  exact Delta_any n w (by omega) (by omega)

set_option maxRecDepth 100000 in
set_option maxHeartbeats 1000000 in
theorem WriteGaps_any (A : Option Addr) (n c : Nat) (l : List Int) (w : World) (hr : Rd w w.heap.size A n c l) (hc : Ga.code l = 0) :
    Calls Tryd.prog 7 #[.slice A n c] w fun e w' => ∃ v, e = .returned v ∧ Own w' w.heap.size 3 v (Ga.write l) ∧ Below w.heap.size w w' := by
  have HX := Lib.hid hr.len
  obtain ⟨hn30, hup⟩ := Ga.code_zero hc
  rw [HX.out] at hn30
  have hnums := Ga.nums_nums hc
  have hst : Hid (El.delta ((n : Int) + 1).toNat = El.codes El.delta ((Ga.nums l).take 1)) := by
    show _ = _
    rw [Ga.nums, HX.out, List.take_succ_cons, List.take_zero, El.codes_cons]
    simp [El.codes]
  clear hc
  go_enter Tryd.func7, Tryd.ntmps7
  go_wp2_with fail
  refine (Delta_int _ _ (by omega) (by omega)).mono ?_
  rintro e w1 ⟨v1, rfl, hown1, hb1⟩
  rw [hst.out] at hown1
  have hs1 := hb1.size
  go_wp2_with fail
  go_loopw [3, 4] (fun v i wr => ∃ k : Nat, k ≤ n ∧ i = .int .i64 k ∧ Own wr w.heap.size 3 v (El.codes El.delta ((Ga.nums l).take (k + 1))) ∧ Below w.heap.size w wr) (fun _ i _ => n - (intOf i).toNat)
  case atStart => exact ⟨0, Nat.zero_le _, rfl, hown1, hb1⟩
  case round =>
    obtain ⟨k, hk, rfl, hown, hbel⟩ := hrel
    have hsz := hbel.size
    by_cases hlt : k < n
    · obtain ⟨b1, o1, rfl, hb1', hc1⟩ := hr.at_ (by omega)
      have g1 : wr.cell? ⟨b1, o1 + k, none⟩ = some (.int .i64 (l.getD k 0)) := (hbel.cell (by exact hb1')).trans (hc1 k hlt)
      have hkl : k < l.length := by rw [HX.out]; exact hlt
      obtain ⟨p1, p2, p3⟩ := Ga.Up.at_ l _ hup k hkl
      have hlow := Ga.Up.low hup (by omega) k (by omega)
      have hnext := write_take hkl
      have hle := Ga.codes_le _ (Ga.Nums.take hnums (k + 1))
      have hlt' : ((Ga.nums l).take (k + 1)).length ≤ 31 := by rw [List.length_take, Ga.nums_len, HX.out]; omega
      have hdl := Ga.delta_le (n := (l.getD k 0 - Ga.lastAt (-1) l k).toNat) (by omega) (by omega)
      have hle' : (El.codes El.delta ((Ga.nums l).take (k + 1))).length ≤ 1860 := by omega
      clear hle hlt' hkl
      by_cases hk0 : k = 0
      · subst hk0
        rw [Ga.lastAt_zero] at hnext p3 hlow hdl
        obtain ⟨p, hp⟩ : ∃ p, p = l.getD 0 0 := ⟨_, rfl⟩
        rw [← hp, show p - -1 = p + 1 by omega] at hnext hdl
        rw [← hp, Nat.add_zero] at g1
        rw [← hp] at p1 p2 p3
        have HN := Lib.hid hnext
        clear hp hc1 hnext
        go_wp2_with fail
        refine (Delta_int _ _ (by omega) (by omega)).mono ?_
        rintro e w2 ⟨v2, rfl, hown2, hb2⟩
        obtain ⟨A2, c2, rfl, hr2⟩ := hown2.rd
        have hs2 := hb2.size
        have hownB := hown.below hb2
        go_wp2_with (at_builtin; refine wpList_app _ rfl (.tmp 17) (.tmp 22) _ rfl w.heap.size 3 Tryd.underlying22 intInfo _ _ rfl hownB _ _ _ _ rfl hr2 (by omega) (by omega) ?_; intro v3 w3 hown3 hg3 hat3)
        have hb3 := below_app (hbel.trans (hb2.mono hsz)) hownB hg3 (by omega)
        rw [← HN.out] at hown3
        go_roundw
        case rel => exact ⟨1, by omega, by go_num, hown3, hb3⟩
        case measure => simp [intOf]; omega
      · have hkp : 0 < k := by omega
        have hk0' : ((k : Int) == 0) = false := by simp; omega
        have g0 : wr.cell? ⟨b1, o1 + (k - 1), none⟩ = some (.int .i64 (l.getD (k - 1) 0)) := (hbel.cell (by exact hb1')).trans (hc1 (k - 1) (by omega))
        have hla : Ga.lastAt (-1) l k = l.getD (k - 1) 0 := by unfold Ga.lastAt; rw [if_neg hk0]
        rw [hla] at hnext p3 hlow hdl
        obtain ⟨p, hp⟩ : ∃ p, p = l.getD k 0 := ⟨_, rfl⟩
        obtain ⟨q, hq⟩ : ∃ q, q = l.getD (k - 1) 0 := ⟨_, rfl⟩
        rw [← hp] at g1 p1 p2 p3 hnext hdl
        rw [← hq] at g0 p3 hlow hnext hdl
        have HN := Lib.hid hnext
        clear hp hq hla hc1 hnext hk0
        go_wp2_with fail
        have d1 : 1 ≤ p - q := by omega
        have d2 : p - q ≤ 1000000 := by omega
        have hx1 : IntKind.i64.wrap ((k : Int) - 1) = (k : Int) - 1 := wrap_small (by omega) (by omega)
        have hx2 : IntKind.i64.wrap (p - q) = p - q := wrap_small (by omega) (by omega)
        have hx3 : (1 : Int) ≤ (k : Int) := by omega
        have hx4 : (k : Int) - 1 < (n : Int) := by omega
        have hx5 : ((k : Int) - 1).toNat = k - 1 := by omega
        have hroom : (El.codes El.delta ((Ga.nums l).take (k + 1))).length + (El.delta (p - q).toNat).length ≤ 17592186044416 := by omega
        go_region_law (first | (refine step_app _ rfl (.tmp 24) (.tmp 35) _ rfl w.heap.size 3 Tryd.underlying22 intInfo u3 (El.codes El.delta ((Ga.nums l).take (k + 1))) rfl hownB A2 (El.delta (p - q).toNat).length c2 (El.delta (p - q).toNat) rfl hr2 hroom hsz2 ?_; intro v3 w3 hown3 hg3 hat3) | (go_simp; go_at_call 15; refine (Delta_int _ _ d1 d2).mono ?_; rintro e w2 ⟨v2, rfl, hown2, hb2⟩; obtain ⟨A2, c2, rfl, hr2⟩ := hown2.rd; have hownB := Own.below (w := wr.drew) hown hb2; have hsz2 : w.heap.size ≤ w2.heap.size := Nat.le_trans hsz hb2.size))
        all_goals go_wp2
        all_goals rw [← HN.out] at hown3
        all_goals go_roundw
        all_goals first
          | exact ⟨k + 1, by omega, by go_num, hown3, below_app (hbel.drew.trans (hb2.mono hsz)) hownB hg3 hsz2⟩
          | (simp [intOf]; omega)
    · obtain rfl : k = n := by omega
      have hfin : Hid ((Ga.nums l).take (k + 1) = Ga.nums l) := List.take_of_length_le (by rw [Ga.nums_len, HX.out]; exact Nat.le_refl _)
      rw [hfin.out] at hown
      go_wp2
      go_ret
      exact ⟨_, rfl, hown, hbel⟩

/-- what ReadGaps hands back: the list, and the error's number -/
def GRead (w w' : World) (bs : List Int) (e : Ending) : Prop :=
  Below w.heap.size w w' ∧ ((gcode bs ≠ 0 ∧ e = .returned (.tuple #[.slice none 0 0, .int .i64 (gcode bs)])) ∨
    ∃ v, gcode bs = 0 ∧ e = .returned (.tuple #[v, .int .i64 0]) ∧ Own w' w.heap.size 3 v (glist bs))
theorem tail_at {ns : List Int} {j : Nat} (h : 1 ≤ j) : ns.tail.getD (j - 1) 0 = ns.getD j 0 := by
  obtain ⟨k, rfl⟩ : ∃ k, j = k + 1 := ⟨j - 1, by omega⟩
  cases ns with
  | nil => simp
  | cons x ns => simp

set_option maxRecDepth 100000 in
set_option maxHeartbeats 2000000 in
theorem ReadGaps_any (A : Option Addr) (n c : Nat) (bs : List Int) (w : World) (hr : Rd w w.heap.size A n c bs) :
    Calls Tryd.prog 11 #[.slice A n c] w fun e w' => GRead w w' bs e := by
  go_enter Tryd.func11, Tryd.ntmps11
  go_wp2_with fail
  refine (ReadDelta_any _ _ _ _ _ hr).mono ?_
  rintro e w1 ⟨hb1, ⟨h0, rfl⟩ | ⟨v, ns, h0, h1, rfl, hown⟩⟩
  · have HG := Lib.hid (gcode_first h0)
    have hne : (rcode (El.readD bs) bs != 0) = true := by simpa using h0
    have H0 := Lib.hid h0
    clear h0
    go_wp2
    go_ret2
    unfold GRead
    rw [HG.out]
    exact ⟨hb1, .inl ⟨H0.out, rfl⟩⟩
  · have HG := Lib.hid (gcode_then h0 h1)
    have HL := Lib.hid (glist_then h1)
    have hnums := (El.readD_some (rcode_zero h0).2.1 h1).2
    clear h0 h1
    obtain ⟨A1, c1, rfl, hr1⟩ := hown.rd
    have hs1 := hb1.size
    have hbig := hr1.big
    obtain ⟨m, hm⟩ : ∃ m, m = ns.length := ⟨_, rfl⟩
    rw [← hm] at hr1 hbig ⊢
    have HM := Lib.hid hm
    clear hm
    by_cases hz : m = 0
    · subst hz
      have hcode : Hid (gcode bs = 5) := by show _ = _; rw [HG.out, Ga.rcode_none HM.out.symm]
      go_wp2
      go_ret2
      unfold GRead
      rw [hcode.out]
      exact ⟨hb1, .inl ⟨by omega, rfl⟩⟩
    · have hmp : 0 < m := by omega
      have hz' : ((m : Int) == 0) = false := by simp; omega
      clear hz
      by_cases h31 : 31 < m
      · have hcode : Hid (gcode bs = 4) := by show _ = _; rw [HG.out, Ga.rcode_full (by rw [← HM.out]; exact h31)]
        go_wp2
        go_ret2
        unfold GRead
        rw [hcode.out]
        exact ⟨hb1, .inl ⟨by omega, rfl⟩⟩
      · obtain ⟨b, off, rfl, hbb, hcl⟩ := hr1.at_ hmp
        have g0 := hcl 0 hmp
        obtain ⟨p, hp⟩ : ∃ p, p = ns.getD 0 0 := ⟨_, rfl⟩
        rw [← hp, Nat.add_zero] at g0
        have HP := Lib.hid hp
        clear hp
        by_cases hpm : p = (m : Int)
        · subst hpm
          have hmm : ((m : Int) != (m : Int)) = false := by simp
          have hok : Hid (∀ l, Ga.list (-1) ns.tail = some l → gcode bs = 0 ∧ glist bs = l) := by
            intro l hl
            rw [HG.out, HL.out]
            exact ⟨Ga.rcode_ok (by rw [← HM.out]; omega) (by rw [← HM.out]; omega) (by rw [← HM.out, ← HP.out]) hl, Ga.rlist_ok hl⟩
          have hno : Hid (Ga.list (-1) ns.tail = none → gcode bs = 1) := by
            intro hl
            rw [HG.out]
            exact Ga.rcode_range (by rw [← HM.out]; omega) (by rw [← HM.out]; omega) (by rw [← HM.out, ← HP.out]) hl
          have htl : Hid (ns.tail.length = m - 1) := by show _ = _; rw [List.length_tail, ← HM.out]
          have HCL := Lib.hid hcl
          clear hcl
          go_wp2_with fail
          go_loopw [6, 7] (fun v i wr => ∃ (j : Nat) (out : List Int), 1 ≤ j ∧ j ≤ m ∧ i = .int .i64 j ∧ Own wr w1.heap.size 3 v out ∧ Below w1.heap.size w1 wr ∧ Ga.Listing ns.tail (j - 1) out) (fun _ i _ => m - (intOf i).toNat)
          case atStart => exact ⟨1, [], by omega, by omega, rfl, Own.nil _ _ _, Below.refl _ _, Ga.Listing.start _⟩
          case round =>
            obtain ⟨j, out, hj1, hjm, rfl, hownr, hbel, hL⟩ := hrel
            have hsz := hbel.size
            by_cases hlt : j < m
            · have g1 : wr.cell? ⟨b, off + j, none⟩ = some (.int .i64 (ns.getD j 0)) := (hbel.cell (by exact hbb)).trans (HCL.out j hlt)
              have hjl : j - 1 < ns.tail.length := by rw [htl.out]; omega
              obtain ⟨p1, p2⟩ := Ga.nums_at (fun x hx => hnums x (List.mem_of_mem_tail hx)) hjl
              have hbad := hL.bad hjl
              have hon := hL.on hjl p1
              obtain ⟨hlen, ha1, ha2, _⟩ := hL
              rw [tail_at hj1] at p1 p2 hbad hon
              obtain ⟨x, hx⟩ : ∃ x, x = ns.getD j 0 := ⟨_, rfl⟩
              rw [← hx] at g1 p1 p2 hbad hon
              obtain ⟨a, ha⟩ : ∃ a, a = Ga.lastAt (-1) out (j - 1) := ⟨_, rfl⟩
              rw [← ha] at ha1 ha2 hbad hon
              have HA := Lib.hid ha
              have HB := Lib.hid hbad
              have HO := Lib.hid hon
              have hl1 : out.length ≤ j - 1 := by omega
              have hl2 : j - 1 ≤ out.length := by omega
              clear hx ha hbad hon hjl hlen
              by_cases hj : j = 1
              · subst hj
                obtain rfl : a = -1 := HA.out
                have hnext := HO.out (by omega)
                go_wp2_with (at_builtin; refine wpList_app _ rfl (.tmp 54) (.tmp 56) _ rfl w1.heap.size 3 Tryd.underlying22 intInfo _ _ rfl (hownr.below ((Below.refl _ _).alloc (Nat.le_refl _) _)) (some ⟨wr.heap.size, 0, none⟩) 1 1 [x - 1] rfl (Rd.one _ _ _) (by omega) (by simp; omega) ?_; intro v1 w2 hown1 hg1 hat1)
                have hb2 := below_app (hbel.alloc hsz _) (hownr.below ((Below.refl _ _).alloc (Nat.le_refl _) _)) hg1 (by simp; omega)
                rw [show -1 + x = x - 1 by omega] at hnext
                go_roundw
                case rel => exact ⟨2, _, by omega, by omega, by go_num, hown1, hb2, hnext⟩
                case measure => simp [intOf]; omega
              · have hj2 : 2 ≤ j := by omega
                obtain ⟨A3, c3, rfl, hr3⟩ := hownr.rd
                obtain ⟨b3, o3, rfl, hb3, hc3⟩ := hr3.at_ (by omega)
                have g3 := hc3 (j - 2) (by omega)
                have hav : a = out.getD (j - 2) 0 := by rw [HA.out]; unfold Ga.lastAt; rw [if_neg (by omega), show j - 1 - 1 = j - 2 by omega]
                rw [← hav] at g3
                clear hav hc3 hj
                by_cases hgt : 1000000 ≤ a + x
                · have hnone := Lib.hid (hno.out (HB.out hgt))
                  go_wp2_with fail
                  go_quiet (fail)
                  go_wp2
                  go_ret2
                  unfold GRead
                  rw [hnone.out]
                  exact ⟨hb1.trans ((hbel.trans (Below.drewN' _ _ _)).mono hs1), .inl ⟨by omega, rfl⟩⟩
                · have hnext := HO.out (by omega)
                  go_wp2_with fail
                  go_quiet (fail)
                  have hownq := hownr.drewN nq
                  have hbelq := hbel.trans (Below.drewN' _ wr nq)
                  go_wp2_with (at_builtin; refine wpList_app _ rfl (.tmp 54) (.tmp 56) _ rfl w1.heap.size 3 Tryd.underlying22 intInfo _ _ rfl (hownq.below ((Below.refl _ _).alloc (Nat.le_refl _) _)) (some ⟨wr.heap.size, 0, none⟩) 1 1 [a + x] rfl (Rd.one _ _ _) (by omega) (by simp; omega) ?_; intro v1 w2 hown1 hg1 hat1)
                  have hb2 := below_app (hbelq.alloc hsz _) (hownq.below ((Below.refl _ _).alloc (Nat.le_refl _) _)) hg1 (by simp; omega)
                  rw [show j - 1 + 1 = j + 1 - 1 by omega] at hnext
                  go_roundw
                  case rel => exact ⟨j + 1, _, by omega, by omega, by go_num, hown1, hb2, hnext⟩
                  case measure => simp [intOf]; omega
            · obtain rfl : j = m := by omega
              have hfin := hL.stop (by rw [htl.out]; exact Nat.le_refl _)
              have hcode := Lib.hid (hok.out out hfin)
              clear hfin
              go_wp2
              go_ret2
              unfold GRead
              rw [hcode.out.1, hcode.out.2]
              exact ⟨hb1.trans (hbel.mono hs1), .inr ⟨_, rfl, rfl, hownr.mono hs1⟩⟩
        · have hne : (p != (m : Int)) = true := by simpa using hpm
          have hcode : Hid (gcode bs = 3) := by show _ = _; rw [HG.out, Ga.rcode_shape (by rw [← HM.out]; omega) (by rw [← HM.out]; omega) (by rw [← HM.out, ← HP.out]; exact hpm)]
          clear hpm hcl
          go_wp2
          go_ret2
          unfold GRead
          rw [hcode.out]
          exact ⟨hb1, .inl ⟨by omega, rfl⟩⟩

end Go.Proofs.YtiafekjdefnifaaDoor.R
