/-
  The contract of the reference's Havel: the lines that give each point as many as asked, or that there are none.
-/
import Derived.Test.YtjjjnhdongaclaaDoorRefD
import Derived.Test.YtjjjnhdongaclaaDoorLibS
import Derived.Deep.LoopGhost
namespace Go.Proofs.YtjjjnhdongaclaaDoor.RefD
open Go.RowKit

/-- a slice that is read keeps its numbers where another block has changed -/
theorem Rd_grown {w w' : World} {B b o n c : Nat} {zs : List Int} {row : Option Nat} (h : Rd w B (some ⟨b, o, none⟩) n c zs) (hg : w.grownBy w' row) (hne : ∀ q, row = some q → q ≠ b) : Rd w' B (some ⟨b, o, none⟩) n c zs := by
  obtain ⟨h1, h2, h3, h4, h5⟩ := h
  refine ⟨h1, h2, h3, h4, fun hn => ?_⟩
  obtain ⟨b', o', e, hb, hc⟩ := h5 hn
  simp only [Option.some.injEq, Addr.mk.injEq, and_true] at e
  obtain ⟨rfl, rfl⟩ := e
  exact ⟨b, o, rfl, hb, fun k hk => hg.cell (hc k hk) (fun e => hne b e.symm rfl)⟩

/-- what Havel hands back -/
def HavPost (r : Option (List Gr.Ln)) (w : World) (e : Ending) (w' : World) : Prop :=
  Below w.heap.size w w' ∧ ((r = none ∧ e = .returned (.tuple #[.slice none 0 0, .bool false])) ∨
    ∃ os v, r = some os ∧ e = .returned (.tuple #[v, .bool true]) ∧ OwnP w' w.heap.size 39 v os)

/-- at the head of the great loop, when at most f rounds are to come -/
def HavI (w : World) (n : Nat) (R : Option (List Gr.Ln)) (f : Nat) (vn vo : Value) (wr : World) : Prop :=
  ∃ (ns : List Nat) (os : List Gr.Ln) (bn on cn : Nat), vn = .slice (some ⟨bn, on, none⟩) n cn ∧ Rd wr wr.heap.size (some ⟨bn, on, none⟩) n cn (De.up ns) ∧ (∀ x ∈ ns, x ≤ 7) ∧
    OwnP wr w.heap.size 39 vo os ∧ (∀ q, vo.ownBlock = some q → q ≠ bn) ∧ Below w.heap.size w wr ∧ De.nz ns < f ∧ os.length + 8 * f ≤ 72 ∧ R = De.onto os (De.havel f ns)

/-- at the head of the loop that picks, when k are picked -/
def HavK (w : World) (n : Nat) (ns : List Nat) (os : List Gr.Ln) (at_ M B bn on cn : Nat) (vo vn vd i : Value) (wx : World) : Prop :=
  ∃ (k : Nat) (bs : List Nat) (gx cx : Nat), k ≤ M ∧ i = .int .i64 (k : Int) ∧ vn = .slice (some ⟨gx, 0, none⟩) n cx ∧ De.picks ns at_ k = some (at_ :: bs) ∧ bs.length = k ∧
    Rd wx B (some ⟨bn, on, none⟩) n cn (De.up ns) ∧ OwnP wx w.heap.size 39 vo (os ++ bs.map (De.lineOf at_)) ∧ (∀ q, vo.ownBlock = some q → q ≠ bn) ∧
    Own wx B 3 (.slice (some ⟨gx, 0, none⟩) n cx) (De.up (De.nextOf ns at_ bs)) ∧ Own wx B 3 vd (De.up (at_ :: bs)) ∧ (∀ q, vd.ownBlock = some q → q ≠ gx) ∧
    B ≤ wx.heap.size ∧ Below w.heap.size w wx

set_option maxRecDepth 100000 in
set_option maxHeartbeats 8000000 in
theorem Havel_any (A : Option Addr) (n c : Nat) (ns0 : List Nat) (w : World) (hr0 : Rd w w.heap.size A n c (De.up ns0)) (hn1 : 1 ≤ n) (hn8 : n ≤ 8) (h70 : ∀ x ∈ ns0, x ≤ 7) :
    Calls Tryd.prog 7 #[.slice A n c] w (HavPost (De.havel 9 ns0) w) := by
  obtain ⟨R, hR0⟩ : ∃ R, R = De.havel 9 ns0 := ⟨_, rfl⟩
  have h0 : HavI w n R 9 (.slice A n c) (.slice none 0 0) w := by
    obtain ⟨b, o, rfl, hb, _⟩ := hr0.at_ (by omega)
    refine ⟨ns0, [], b, o, c, rfl, hr0, h70, OwnP.nil _ _ _, fun q hq => (by cases hq), Below.refl _ _, ?_, by simp, by rw [De.onto_nil, hR0]⟩
    have h1 := De.nz_le ns0
    have h2 := hr0.len
    rw [De.up_len] at h2
    omega
  have HI := Lib.hid h0
  rw [← hR0]
  clear h0 hR0 h70 hr0
  go_enter Tryd.func7, Tryd.ntmps7
  go_wp2
  go_loopg [4, 5] 9 (fun f vn vo wr => HavI w n R f vn vo wr)
  case atStart => exact HI.out
  case round =>
    obtain ⟨ns, os, bn, on, cn, rfl, hr, h7, hout, hno, hbel, hnz, hlen, hR⟩ := hrel
    obtain ⟨W, hW⟩ : ∃ W, W = wr := ⟨_, rfl⟩
    subst hW
    have hnl : ns.length = n := by rw [← De.up_len]; exact hr.len
    have hne : ns ≠ [] := by intro e; rw [e] at hnl; simp at hnl; omega
    have HL := Lib.hid hnl
    have HE := Lib.hid hne
    have H7 := Lib.hid h7
    have HR := Lib.hid hR
    have HNO := Lib.hid hno
    have hcc := hr.cap
    have hcl := hr.le
    clear hnl hne h7 hR hno HI
    obtain ⟨bn', on', e, hbn, hcell⟩ := hr.at_ (by omega)
    simp only [Option.some.injEq, Addr.mk.injEq, and_true] at e
    obtain ⟨rfl, rfl⟩ := e
    have HCL := Lib.hid hcell
    clear hcell
    have hsW := hbel.size
    go_wp2
    go_loopw [6, 7] (fun a i wx => ∃ k at_ : Nat, k ≤ n ∧ i = .int .i64 k ∧ a = .int .i64 at_ ∧ at_ < n ∧ Below W.heap.size W wx ∧ Hid (at_ = De.firstTo ns k)) (fun _ i _ => n - (intOf i).toNat)
    case atStart => exact ⟨0, 0, Nat.zero_le _, rfl, rfl, by omega, Below.refl _ _, rfl⟩
    case round =>
      obtain ⟨k, at_, hk, rfl, rfl, hat, hbx, HA⟩ := hrel
      by_cases hlt : k < n
      · have g1 : wr.cell? ⟨bn, on + k, none⟩ = some (.int .i64 ((De.up ns).getD k 0)) := (hbx.cell (p := ⟨bn, on + k, none⟩) hbn).trans (HCL.out k hlt)
        have g2 : wr.cell? ⟨bn, on + at_, none⟩ = some (.int .i64 ((De.up ns).getD at_ 0)) := (hbx.cell (p := ⟨bn, on + at_, none⟩) hbn).trans (HCL.out at_ hat)
        rw [De.up_getD] at g1 g2
        have hfs := De.firstTo_succ ns k
        rw [← HA.out] at hfs
        obtain ⟨p, hp⟩ : ∃ p, p = ns.getD k 0 := ⟨_, rfl⟩
        obtain ⟨q, hq⟩ : ∃ q, q = ns.getD at_ 0 := ⟨_, rfl⟩
        rw [← hp] at g1 hfs
        rw [← hq] at g2 hfs
        clear hp hq
        have k1 : (0 : Int) ≤ (k : Int) := by omega
        have k2 : (k : Int) < (n : Int) := by omega
        have k3 : (0 : Int) ≤ (at_ : Int) := by omega
        have k4 : (at_ : Int) < (n : Int) := by omega
        by_cases hqp : q < p
        · rw [if_pos hqp] at hfs
          have HF := Lib.hid hfs
          clear hfs
          have hd : decide ((q : Int) < (p : Int)) = true := by rw [decide_eq_true_eq]; omega
          go_wp2
          go_quiet (fail)
          go_wp2
          go_roundw
          case rel => exact ⟨k + 1, k, by omega, by go_num, rfl, hlt, hbx.trans (Below.drewN' _ _ _), HF.out.symm⟩
          case measure => simp [intOf]; omega
        · rw [if_neg hqp] at hfs
          have HF := Lib.hid hfs
          clear hfs
          have hd : decide ((q : Int) < (p : Int)) = false := by rw [decide_eq_false_iff_not]; omega
          go_wp2
          go_quiet (fail)
          go_wp2
          go_roundw
          case rel => exact ⟨k + 1, at_, by omega, by go_num, rfl, hat, hbx.trans (Below.drewN' _ _ _), HF.out.symm⟩
          case measure => simp [intOf]; omega
      · obtain ⟨W1, hW1⟩ : ∃ W1, W1 = wr := ⟨_, rfl⟩
        subst hW1
        have hfst : at_ = De.first ns := by
          obtain rfl : k = n := by omega
          rw [HA.out, ← De.firstTo_all, HL.out]
        have HF := Lib.hid hfst
        clear hfst HA
        have hr1 := hr.past hbx
        have g1 : W1.cell? ⟨bn, on + at_, none⟩ = some (.int .i64 ((De.up ns).getD at_ 0)) := (hbx.cell (p := ⟨bn, on + at_, none⟩) hbn).trans (HCL.out at_ hat)
        rw [De.up_getD] at g1
        obtain ⟨M, hM⟩ : ∃ M, M = ns.getD at_ 0 := ⟨_, rfl⟩
        have hM7 : M ≤ 7 := by rw [hM]; exact De.le_getD H7.out at_
        rw [← hM] at g1
        have HM := Lib.hid hM
        clear hM
        have hbw1 := hbel.trans (hbx.mono hsW)
        have hout1 := hout.below hbx
        have hs1 := hbx.size
        by_cases hM0 : M = 0
        · have hfin : Hid (R = some os) := by
            show _ = _
            rw [HR.out, De.havel_end (by omega) (by rw [← HF.out, ← HM.out]; exact hM0)]
            simp [De.onto]
          have hd : ((M : Int) == 0) = true := by rw [hM0]; rfl
          clear hM0
          go_wp2
          go_ret2
          exact ⟨hbw1, .inr ⟨os, _, hfin.out, rfl, hout1⟩⟩
        · have hd : ((M : Int) == 0) = false := by simp only [beq_eq_false_iff_ne, ne_eq]; omega
          have hMp : 0 < M := by omega
          have HM0 : Hid (ns.getD (De.first ns) 0 ≠ 0) := by show _ ≠ _; rw [← HF.out, ← HM.out]; exact hM0
          clear hM0
          go_wp2_with fail
          refine (Set_any _ n cn (De.up ns) at_ 0 _ hr1 hat (by omega)).mono ?_
          rintro e W2 ⟨gx0, cx0, rfl, hnx0, hb2⟩
          have hs2 := hb2.size
          have HK0 : Hid (HavK w n ns os at_ M W1.heap.size bn on cn u5 (.slice (some ⟨gx0, 0, none⟩) n cx0) (.slice (some ⟨W2.heap.size, 0, none⟩) 1 1) (.int .i64 0) (W2.alloc (.cells #[.int .i64 (at_ : Int)] 3))) := by
            have hba : Below W2.heap.size W2 (W2.alloc (.cells #[.int .i64 (at_ : Int)] 3)) := (Below.refl _ _).alloc (Nat.le_refl _) _
            refine ⟨0, [], gx0, cx0, Nat.zero_le _, rfl, rfl, rfl, rfl, (hr1.below hb2).below (hba.mono hs2), ?_, HNO.out, ?_, ?_, ?_, by simp; omega, (hbw1.trans (hb2.mono (Nat.le_trans hsW hs1))).trans (hba.mono (Nat.le_trans (Nat.le_trans hsW hs1) hs2))⟩
            · simpa using (hout1.below hb2).below hba
            · have := hnx0.below hba
              rw [show (0 : Int) = ((0 : Nat) : Int) from rfl, De.up_set] at this
              exact this
            · exact Own.one W2 W1.heap.size 3 (at_ : Int) hs2
            · intro q hq
              have h1 := hnx0.lt gx0 rfl
              obtain rfl : W2.heap.size = q := by simpa [Value.ownBlock] using hq
              omega
          clear hnx0 hb2 hr1 hout1 hout hr hbx hbel HNO
          go_wp2
          go_loopw [5, 9, 10, 11] (fun vo vn vd i wx => HavK w n ns os at_ M W1.heap.size bn on cn vo vn vd i wx) (fun _ _ _ i _ => M - (intOf i).toNat)
          case atStart => exact HK0.out
          case round =>
            obtain ⟨k1, bs, gx, cx, hk1, rfl, rfl, hpk, hbl, hrn, hout, hno, hnx, hdn, hdis, hszB, hbw⟩ := hrel
            obtain ⟨W3, hW3⟩ : ∃ W3, W3 = wr := ⟨_, rfl⟩
            subst hW3
            have HP := Lib.hid hpk
            have HB := Lib.hid hbl
            have HNO := Lib.hid hno
            have HDI := Lib.hid hdis
            clear hpk hbl hno hdis HK0
            by_cases hkM : k1 < M
            · obtain ⟨gd, cd, hvd⟩ := row_of hdn (by rw [De.up_len]; simp)
              obtain ⟨D, hD⟩ : ∃ D, D = (De.up (at_ :: bs)).length := ⟨_, rfl⟩
              have hD9 : D ≤ 9 := by rw [hD, De.up_len, List.length_cons, HB.out]; omega
              have hD1 : 1 ≤ D := by rw [hD, De.up_len]; simp
              rw [← hD] at hvd
              clear hD
              subst hvd
              have hrd := hdn.rd'
              have hs3 := hbw.size
              go_wp2
              go_loopw [12, 13] (fun b i wx => ∃ (j : Nat) (ob : Option Nat), j ≤ n ∧ i = .int .i64 j ∧ b = .int .i64 (De.encB ob) ∧ Below W3.heap.size W3 wx ∧ Hid (De.bestTo ns (at_ :: bs) j = ob)) (fun _ i _ => n - (intOf i).toNat)
              case atStart => exact ⟨0, none, Nat.zero_le _, rfl, rfl, Below.refl _ _, rfl⟩
              case round =>
                obtain ⟨j, ob, hj, rfl, rfl, hbx, HO⟩ := hrel
                obtain ⟨W4, hW4⟩ : ∃ W4, W4 = wr := ⟨_, rfl⟩
                subst hW4
                have hrd4 := hrd.past hbx
                have hbx4 := hbx.size
                by_cases hjn : j < n
                · have hcj := (hrn.below (hbx.mono hszB)).at_ (by omega)
                  obtain ⟨bn', on', e, hbn4, hcell4⟩ := hcj
                  simp only [Option.some.injEq, Addr.mk.injEq, and_true] at e
                  obtain ⟨rfl, rfl⟩ := e
                  have k1' : (0 : Int) ≤ (j : Int) := by omega
                  have k2' : (j : Int) < (n : Int) := by omega
                  cases hct : (at_ :: bs).contains j with
                  | true =>
                    have HT : Hid ((De.up (at_ :: bs)).contains (j : Int) = true) := by show _ = _; rw [De.up_contains]; exact hct
                    have hnx2 : Hid (De.bestTo ns (at_ :: bs) (j + 1) = ob) := by show _ = _; rw [De.bestTo_in hct]; exact HO.out
                    clear hct hcell4
                    go_wp2
                    go_quiet (first | (go_at_call 21; exact Calls.quiet_of_same ((Has_any _ _ _ _ (j : Int) true _ (hrd4.drewN _) HT.out).mono fun _ _ h => ⟨h.1, h.2.symm⟩)))
                    go_wp2
                    go_roundw
                    case rel => exact ⟨j + 1, ob, by omega, by go_num, rfl, hbx.trans (Below.drewN' _ _ _), hnx2⟩
                    case measure => simp [intOf]; omega
                  | false =>
                    have HT : Hid ((De.up (at_ :: bs)).contains (j : Int) = false) := by show _ = _; rw [De.up_contains]; exact hct
                    cases ob with
                    | none =>
                      have hnx2 : Hid (De.bestTo ns (at_ :: bs) (j + 1) = some j) := De.bestTo_new hct HO.out
                      clear hct hcell4
                      simp only [De.encB]
                      go_wp2
                      go_quiet (first | (go_at_call 21; exact Calls.quiet_of_same ((Has_any _ _ _ _ (j : Int) false _ (hrd4.drewN _) HT.out).mono fun _ _ h => ⟨h.1, h.2.symm⟩)))
                      go_wp2
                      go_roundw
                      case rel => exact ⟨j + 1, some j, by omega, by go_num, rfl, hbx.trans (Below.drewN' _ _ _), hnx2⟩
                      case measure => simp [intOf]; omega
                    | some b =>
                      have hbj : b < j := (De.bestTo_some HO.out).1
                      have g3 := hcell4 j hjn
                      have g4 := hcell4 b (by omega)
                      rw [De.up_getD] at g3 g4
                      have k3' : (0 : Int) ≤ (b : Int) := by omega
                      have k4' : (b : Int) < (n : Int) := by omega
                      have hbneg : decide ((b : Int) < 0) = false := by rw [decide_eq_false_iff_not]; omega
                      by_cases hqp : ns.getD b 0 < ns.getD j 0
                      · have hnx2 : Hid (De.bestTo ns (at_ :: bs) (j + 1) = some j) := De.bestTo_more hct HO.out hqp
                        obtain ⟨p, hp⟩ : ∃ p, p = ns.getD j 0 := ⟨_, rfl⟩
                        obtain ⟨q, hq⟩ : ∃ q, q = ns.getD b 0 := ⟨_, rfl⟩
                        rw [← hp] at g3 hqp
                        rw [← hq] at g4 hqp
                        have hd1 : decide ((q : Int) < (p : Int)) = true := by rw [decide_eq_true_eq]; omega
                        clear hct hcell4 hp hq
                        simp only [De.encB]
                        go_wp2
                        go_quiet (first | (go_at_call 21; exact Calls.quiet_of_same ((Has_any _ _ _ _ (j : Int) false _ (hrd4.drewN _) HT.out).mono fun _ _ h => ⟨h.1, h.2.symm⟩)))
                        go_wp2
                        go_roundw
                        case rel => exact ⟨j + 1, some j, by omega, by go_num, rfl, hbx.trans (Below.drewN' _ _ _), hnx2⟩
                        case measure => simp [intOf]; omega
                      · have hnx2 : Hid (De.bestTo ns (at_ :: bs) (j + 1) = some b) := De.bestTo_less hct HO.out hqp
                        obtain ⟨p, hp⟩ : ∃ p, p = ns.getD j 0 := ⟨_, rfl⟩
                        obtain ⟨q, hq⟩ : ∃ q, q = ns.getD b 0 := ⟨_, rfl⟩
                        rw [← hp] at g3 hqp
                        rw [← hq] at g4 hqp
                        have hd1 : decide ((q : Int) < (p : Int)) = false := by rw [decide_eq_false_iff_not]; omega
                        clear hct hcell4 hp hq
                        simp only [De.encB]
                        go_wp2
                        go_quiet (first | (go_at_call 21; exact Calls.quiet_of_same ((Has_any _ _ _ _ (j : Int) false _ (hrd4.drewN _) HT.out).mono fun _ _ h => ⟨h.1, h.2.symm⟩)))
                        go_wp2
                        go_roundw
                        case rel => exact ⟨j + 1, some b, by omega, by go_num, rfl, hbx.trans (Below.drewN' _ _ _), hnx2⟩
                        case measure => simp [intOf]; omega
                · have hbest : De.bestTo ns (at_ :: bs) ns.length = ob := by
                    obtain rfl : j = n := by omega
                    rw [HL.out]
                    exact HO.out
                  have HBE := Lib.hid hbest
                  clear hbest HO
                  have hbw4 := hbw.trans (hbx.mono hs3)
                  have hfail : De.picks ns at_ (k1 + 1) = none → R = none := by
                    intro h
                    rw [HR.out, De.havel_fail HM0.out (by rw [← HF.out, ← HM.out]; exact De.picks_none_le h (by omega))]
                    rfl
                  have HFA := Lib.hid hfail
                  clear hfail
                  cases ob with
                  | none =>
                    have hfin : Hid (R = none) := HFA.out (De.picks_stop HP.out HBE.out)
                    simp only [De.encB]
                    go_wp2
                    go_ret2
                    exact ⟨hbw4, .inl ⟨hfin.out, rfl⟩⟩
                  | some b =>
                    obtain ⟨hbn1, hbnot, _⟩ := De.bestTo_some HBE.out
                    rw [HL.out] at hbn1
                    have hcj := (hrn.below (hbx.mono hszB)).at_ (by omega)
                    obtain ⟨bn', on', e, hbn4, hcell4⟩ := hcj
                    simp only [Option.some.injEq, Addr.mk.injEq, and_true] at e
                    obtain ⟨rfl, rfl⟩ := e
                    have g5 := hcell4 b hbn1
                    rw [De.up_getD] at g5
                    clear hcell4
                    have hnat : (De.nextOf ns at_ bs).getD b 0 = ns.getD b 0 := by
                      have h1 := HP.out
                      have h2 := hbnot
                      rw [HF.out] at h1 h2 ⊢
                      exact De.nextOf_at HE.out h1 h2
                    have hp7 := De.le_getD H7.out b
                    have hpz : ns.getD b 0 = 0 → De.picks ns at_ (k1 + 1) = none := De.picks_zero HP.out HBE.out
                    have hpn : ns.getD b 0 ≠ 0 → De.picks ns at_ (k1 + 1) = some (at_ :: (bs ++ [b])) := De.picks_on HP.out HBE.out
                    obtain ⟨p, hp⟩ : ∃ p, p = ns.getD b 0 := ⟨_, rfl⟩
                    rw [← hp] at g5 hnat hp7 hpz hpn
                    clear hp hbnot
                    have k3' : (0 : Int) ≤ (b : Int) := by omega
                    have k4' : (b : Int) < (n : Int) := by omega
                    have hbneg : decide ((b : Int) < 0) = false := by rw [decide_eq_false_iff_not]; omega
                    simp only [De.encB]
                    by_cases hp0 : p = 0
                    · have hfin : Hid (R = none) := HFA.out (hpz hp0)
                      have hd1 : ((p : Int) == 0) = true := by rw [hp0]; rfl
                      clear hp0 hpz hpn hnat
                      go_wp2
                      go_ret2
                      exact ⟨hbw4, .inl ⟨hfin.out, rfl⟩⟩
                    · have HPN := Lib.hid (hpn hp0)
                      have hd1 : ((p : Int) == 0) = false := by simp only [beq_eq_false_iff_ne, ne_eq]; omega
                      have hp1 : 1 ≤ p := by omega
                      have HNA := Lib.hid hnat
                      clear hp0 hpz hpn hnat HFA
                      have hal : Below W4.heap.size W4 (W4.alloc (.cells #[.int .i64 (b : Int)] 3)) := (Below.refl _ _).alloc (Nat.le_refl _) _
                      have hdn4 := (hdn.below hbx).below hal
                      have hnx4 := (hnx.below hbx).below hal
                      have hout4 := (hout.below hbx).below hal
                      have hroom5 : (De.up (at_ :: bs)).length + 1 ≤ 17592186044416 := by rw [De.up_len, List.length_cons, HB.out]; omega
                      have hs14 : W1.heap.size ≤ W4.heap.size := Nat.le_trans hszB hbx4
                      have hbase5 : W1.heap.size ≤ (W4.alloc (.cells #[.int .i64 (b : Int)] 3)).heap.size := Nat.le_trans hs14 hal.size
                      have hne5 : Hid (∀ q, (Value.slice (some ⟨gx, 0, none⟩) n cx).ownBlock = some q → (Value.slice (some ⟨gd, 0, none⟩) D cd).ownBlock ≠ some q) := by
                        intro q hq hq'
                        have h1 := HDI.out q hq'
                        simp [Value.ownBlock] at hq
                        omega
                      go_wp2_with (at_builtin; refine wpList_app _ rfl (.tmp 81) (.tmp 83) _ rfl W1.heap.size 3 Tryd.underlying22 intInfo _ (De.up (at_ :: bs)) rfl hdn4 (some ⟨W4.heap.size, 0, none⟩) 1 1 [(b : Int)] rfl (Rd.one W4 _ _) hroom5 hbase5 ?_; intro vd1 W5 hdn5 hg5 hat5; have hnx5 := hnx4.grown hg5 hne5.out; have g6 := hnx5.cell b hbn1; rw [De.up_getD, HNA.out] at g6)
                      have hs45 : W4.heap.size ≤ W5.heap.size := Nat.le_trans hal.size hg5.size
                      have hs15 : W1.heap.size ≤ W5.heap.size := Nat.le_trans hs14 hs45
                      have hB45 : Below W1.heap.size W4 W5 := below_app (hal.mono hs14) hdn4 hg5 hbase5
                      have hout5 := hout4.grown hg5 (fun q hq => own_ne (by decide) hout4 hdn4 q hq)
                      refine (Set_any _ n cx _ b ((p : Int) - 1) _ hnx5.rd' hbn1 (by omega)).mono ?_
                      rintro e W6 ⟨gx2, cx2, rfl, hnx6, hb6⟩
                      rw [show ((p : Int) - 1) = ((p - 1 : Nat) : Int) by omega, De.up_set, ← HNA.out, ← De.nextOf_snoc] at hnx6
                      have hs16 : W1.heap.size ≤ W6.heap.size := Nat.le_trans hs15 hb6.size
                      have hout6 := hout5.below hb6
                      have hdn6 := hdn5.below hb6
                      have hrn6 := ((hrn.below (hbx.mono hszB)).below hB45).below (hb6.mono hs15)
                      have hw1 : w.heap.size ≤ W1.heap.size := by omega
                      have hbw6 := (hbw4.trans (hB45.mono hw1)).trans (hb6.mono (Nat.le_trans hw1 hs15))
                      have hroom : (os ++ bs.map (De.lineOf at_)).length + 1 ≤ 8796093022208 := by rw [List.length_append, List.length_map, HB.out]; omega
                      clear hnx5 g6 hnx4 hout4 hout5 hdn4 hB45 hne5 hal hout hnx hdn hrn
                      by_cases hab : at_ < b
                      · have hdab : decide ((at_ : Int) < (b : Int)) = true := by rw [decide_eq_true_eq]; omega
                        have hrd7 : RdP (W6.alloc (.cells #[.int .i64 (at_ : Int), .int .i64 (b : Int)] 39)) (W6.heap.size + 1) (some ⟨W6.heap.size, 0, none⟩) 1 1 [((at_ : Int), (b : Int))] := RdP.one W6 _ _
                        have hal7 : Below W6.heap.size W6 (W6.alloc (.cells #[.int .i64 (at_ : Int), .int .i64 (b : Int)] 39)) := (Below.refl _ _).alloc (Nat.le_refl _) _
                        have hout7 := hout6.below hal7
                        have hbase7 : w.heap.size ≤ (W6.alloc (.cells #[.int .i64 (at_ : Int), .int .i64 (b : Int)] 39)).heap.size := Nat.le_trans hbw6.size hal7.size
                        go_wp2_with (at_builtin; refine wpList_appP _ rfl (.tmp 96) (.tmp 100) 24 rfl w.heap.size 39 Tryd.underlying24 lineInfo _ (os ++ bs.map (De.lineOf at_)) rfl hout7 (some ⟨W6.heap.size, 0, none⟩) 1 1 [((at_ : Int), (b : Int))] rfl hrd7 hroom hbase7 ?_; intro vo1 W7 hout8 hg7 hat7)
                        have hs7 := hg7.size
                        have hs67 : W6.heap.size ≤ W7.heap.size := Nat.le_trans hal7.size hs7
                        have hnx7 := (hnx6.below hal7).grown hg7 (fun q hq => own_ne (by decide) (hnx6.below hal7) hout7 q hq)
                        have hdn7 := (hdn6.below hal7).grown hg7 (fun q hq => own_ne (by decide) (hdn6.below hal7) hout7 q hq)
                        have hrn7 := Rd_grown (hrn6.below (hal7.mono hs16)) hg7 HNO.out
                        have hbw7 := below_appP (hbw6.trans (hal7.mono hbw6.size)) hout7 hg7 hbase7
                        have hfin7 : HavK w n ns os at_ M W1.heap.size bn on cn vo1 (.slice (some ⟨gx2, 0, none⟩) n cx2) vd1 (.int .i64 ((k1 + 1 : Nat) : Int)) W7 := by
                          refine ⟨k1 + 1, bs ++ [b], gx2, cx2, by omega, rfl, rfl, HPN.out, by rw [List.length_append, HB.out]; rfl, hrn7, ?_, ?_, hnx7.mono hs15, ?_, ?_, by omega, hbw7⟩
                          · rw [List.map_append, ← List.append_assoc, List.map_cons, List.map_nil, De.lineOf_lt hab]
                            exact hout8
                          · intro q hq
                            rcases hat7 with h | h
                            · exact HNO.out q (by rw [← hq, h]; rfl)
                            · rw [h] at hq
                              simp at hq
                              omega
                          · rw [← List.cons_append, De.up_app]
                            exact hdn7
                          · intro q hq
                            have h1 := hdn5.lt q hq
                            have h2 := hnx6.base_le
                            omega
                        have HK7 := Lib.hid hfin7
                        clear hfin7
                        go_roundw
                        case rel => exact HK7.out
                        case measure => simp [intOf]; omega
                      · have hdab : decide ((at_ : Int) < (b : Int)) = false := by rw [decide_eq_false_iff_not]; omega
                        have hrd7 : RdP (W6.alloc (.cells #[.int .i64 (b : Int), .int .i64 (at_ : Int)] 39)) (W6.heap.size + 1) (some ⟨W6.heap.size, 0, none⟩) 1 1 [((b : Int), (at_ : Int))] := RdP.one W6 _ _
                        have hal7 : Below W6.heap.size W6 (W6.alloc (.cells #[.int .i64 (b : Int), .int .i64 (at_ : Int)] 39)) := (Below.refl _ _).alloc (Nat.le_refl _) _
                        have hout7 := hout6.below hal7
                        have hbase7 : w.heap.size ≤ (W6.alloc (.cells #[.int .i64 (b : Int), .int .i64 (at_ : Int)] 39)).heap.size := Nat.le_trans hbw6.size hal7.size
                        go_wp2_with (at_builtin; refine wpList_appP _ rfl (.tmp 102) (.tmp 106) 24 rfl w.heap.size 39 Tryd.underlying24 lineInfo _ (os ++ bs.map (De.lineOf at_)) rfl hout7 (some ⟨W6.heap.size, 0, none⟩) 1 1 [((b : Int), (at_ : Int))] rfl hrd7 hroom hbase7 ?_; intro vo1 W7 hout8 hg7 hat7)
                        have hs7 := hg7.size
                        have hs67 : W6.heap.size ≤ W7.heap.size := Nat.le_trans hal7.size hs7
                        have hnx7 := (hnx6.below hal7).grown hg7 (fun q hq => own_ne (by decide) (hnx6.below hal7) hout7 q hq)
                        have hdn7 := (hdn6.below hal7).grown hg7 (fun q hq => own_ne (by decide) (hdn6.below hal7) hout7 q hq)
                        have hrn7 := Rd_grown (hrn6.below (hal7.mono hs16)) hg7 HNO.out
                        have hbw7 := below_appP (hbw6.trans (hal7.mono hbw6.size)) hout7 hg7 hbase7
                        have hfin7 : HavK w n ns os at_ M W1.heap.size bn on cn vo1 (.slice (some ⟨gx2, 0, none⟩) n cx2) vd1 (.int .i64 ((k1 + 1 : Nat) : Int)) W7 := by
                          refine ⟨k1 + 1, bs ++ [b], gx2, cx2, by omega, rfl, rfl, HPN.out, by rw [List.length_append, HB.out]; rfl, hrn7, ?_, ?_, hnx7.mono hs15, ?_, ?_, by omega, hbw7⟩
                          · rw [List.map_append, ← List.append_assoc, List.map_cons, List.map_nil, De.lineOf_ge hab]
                            exact hout8
                          · intro q hq
                            rcases hat7 with h | h
                            · exact HNO.out q (by rw [← hq, h]; rfl)
                            · rw [h] at hq
                              simp at hq
                              omega
                          · rw [← List.cons_append, De.up_app]
                            exact hdn7
                          · intro q hq
                            have h1 := hdn5.lt q hq
                            have h2 := hnx6.base_le
                            omega
                        have HK7 := Lib.hid hfin7
                        clear hfin7
                        go_roundw
                        case rel => exact HK7.out
                        case measure => simp [intOf]; omega
            · have hgo : De.picks ns (De.first ns) (ns.getD (De.first ns) 0) = some (De.first ns :: bs) := by
                have h1 := HP.out
                obtain rfl : k1 = M := by omega
                rw [← HF.out, ← HM.out]
                exact h1
              have hfin : HavI w n R (gk - 1) (.slice (some ⟨gx, 0, none⟩) n cx) u5 W3 := by
                obtain ⟨f, rfl⟩ : ∃ f, gk = f + 1 := ⟨gk - 1, by omega⟩
                have hz := De.nz_round HE.out HM0.out hgo
                have hR := HR.out
                rw [De.onto_go HM0.out hgo, ← HF.out] at hR
                rw [← HF.out] at hz
                refine ⟨De.nextOf ns at_ bs, os ++ bs.map (De.lineOf at_), gx, 0, cx, rfl, hnx.rd', De.nextOf_le H7.out at_ bs, hout, fun q hq e => ?_, hbw, by simp only [Nat.add_sub_cancel]; omega, ?_, by simp only [Nat.add_sub_cancel]; exact hR⟩
                · exact own_ne (by decide) hout hnx q hq (by rw [e]; rfl)
                · rw [List.length_append, List.length_map, HB.out]
                  simp only [Nat.add_sub_cancel]
                  omega
              have HK := Lib.hid hfin
              clear hfin hgo
              go_wp2
              go_roundg (gk - 1)
              case rel => exact HK.out
              case measure => omega

end Go.Proofs.YtjjjnhdongaclaaDoor.RefD
