/-
  The contract of package havel's Make: the lines that give each point as many as asked, or what is wrong.
-/
import Derived.Test.YtnekbgeablhgiaaHavelA
import Derived.Test.YtnekbgeablhgiaaDegreeC
import Derived.Test.YtnekbgeablhgiaaLibS
import Derived.Deep.LoopGhost
namespace Go.Proofs.Ytnekbgeablhgiaa
open Go.RowKit

/-- at the head of the great loop, when at most f rounds are to come -/
def MakI (w : World) (n gd cd : Nat) (R : Option (List Gr.Ln)) (f : Nat) (vl : Value) (wr : World) : Prop :=
  ∃ (ns : List Nat) (os : List Gr.Ln), Own wr w.heap.size 3 (.slice (some ⟨gd, 0, none⟩) n cd) (De.up ns) ∧ (∀ x ∈ ns, x ≤ 7) ∧
    OwnP wr w.heap.size 35 vl os ∧ Below w.heap.size w wr ∧ De.nz ns < f ∧ os.length + 8 * f ≤ 72 ∧ R = De.onto os (De.havel f ns)

/-- at the head of the loop over those that are joined, when k are -/
def MakK (w : World) (n gd cd g : Nat) (ns : List Nat) (os : List Gr.Ln) (v : Nat) (t : List Nat) (M B : Nat) (vl i : Value) (wx : World) : Prop :=
  ∃ k : Nat, k ≤ M ∧ i = .int .i64 (k : Int) ∧ Own wx w.heap.size 3 (.slice (some ⟨gd, 0, none⟩) n cd) (De.up (De.nextOf ns v (t.take k))) ∧ Own wx B 3 (.slice (some ⟨g, 0, none⟩) n n) (De.up (v :: t)) ∧
    OwnP wx w.heap.size 35 vl (os ++ (t.take k).map (De.lineOf v)) ∧ B ≤ wx.heap.size ∧ Below w.heap.size w wx

/-- what Make hands back, of numbers as they should be -/
def MakPost (r : Option (List Gr.Ln)) (w : World) (e : Ending) (w' : World) : Prop :=
  Below w.heap.size w w' ∧ ((r = none ∧ e = .returned (.tuple #[.slice none 0 0, errv 5])) ∨
    ∃ os v, r = some os ∧ e = .returned (.tuple #[v, .nilIface]) ∧ OwnP w' w.heap.size 35 v os)

theorem Make_err (A : Option Addr) (n c : Nat) (l : List Int) (w : World) (hr : Rd w w.heap.size A n c l) (h : De.code l ≠ 0) :
    Calls Try.prog 16 #[.slice A n c] w fun e w' => e = .returned (.tuple #[.slice none 0 0, errv (De.code l)]) ∧ Below w.heap.size w w' := by
  have H := Lib.hid h
  clear h
  go_enter Try.func16, Try.ntmps16
  go_wp2_with fail
  refine (DCheck_err A n c l _ hr H.out).mono ?_
  rintro e w1 ⟨rfl, rfl⟩
  go_wp2
  go_ret2
  exact ⟨rfl, Below.refl _ _⟩

set_option maxRecDepth 100000 in
set_option maxHeartbeats 4000000 in
theorem Make_ok (A : Option Addr) (n c : Nat) (l : List Int) (w : World) (hr : Rd w w.heap.size A n c l) (h : De.code l = 0) :
    Calls Try.prog 16 #[.slice A n c] w (MakPost (De.havel 9 (l.map Int.toNat)) w) := by
  obtain ⟨hl1, hl8, hok⟩ := De.code_zero.1 h
  have hn8 : n ≤ 8 := by rw [← hr.len]; exact hl8
  have hn1 : 1 ≤ n := by rw [← hr.len]; exact hl1
  obtain ⟨R, hR0⟩ : ∃ R, R = De.havel 9 (l.map Int.toNat) := ⟨_, rfl⟩
  obtain ⟨m, hm⟩ : ∃ m, n = m + 1 := ⟨n - 1, by omega⟩
  have hup : De.up (l.map Int.toNat) = l := De.up_toNat fun d hd => (hok d hd).1
  have h70 : ∀ x ∈ l.map Int.toNat, x ≤ 7 := by
    intro x hx
    obtain ⟨d, hd, rfl⟩ := List.mem_map.1 hx
    have := hok d hd
    omega
  have hnz0 : De.nz (l.map Int.toNat) < 9 := by
    have := De.nz_le (l.map Int.toNat)
    rw [List.length_map] at this
    omega
  have H := Lib.hid h
  have HM := Lib.hid hm
  have HUP := Lib.hid hup
  have H70 := Lib.hid h70
  have HR0 := Lib.hid hR0
  have HN0 := Lib.hid hnz0
  have HLN := Lib.hid hr.len
  rw [← hR0]
  clear h hm hup h70 hR0 hok hl1 hl8 hnz0
  obtain ⟨b0, o0, rfl, _, _⟩ := hr.at_ (by omega)
  go_enter Try.func16, Try.ntmps16
  go_wp2_with fail
  refine (DCheck_nil _ n c l _ hr H.out).mono ?_
  rintro e w1 ⟨rfl, rfl⟩
  go_wp2_with fail
  refine (Clone_any b0 o0 n c l _ hr (by omega)).mono ?_
  rintro e w2 ⟨v2, rfl, hown2, hb2⟩
  obtain ⟨gd, cd, hv2⟩ : ∃ gd cd, v2 = .slice (some ⟨gd, 0, none⟩) n cd := by
    rcases hown2.2 with ⟨_, h0⟩ | ⟨g, cap, cur, rfl, _⟩
    · rw [HLN.out] at h0; omega
    · exact ⟨g, cap, by rw [HLN.out]⟩
  subst hv2
  have HI : Hid (MakI w n gd cd R 9 (.slice none 0 0) w2) := by
    refine ⟨l.map Int.toNat, [], by rw [HUP.out]; exact hown2, H70.out, OwnP.nil _ _ _, hb2, HN0.out, by simp, ?_⟩
    rw [De.onto_nil]
    exact HR0.out
  clear hown2 hb2 hr
  go_wp2
  go_loopg [6] 9 (fun f vl wr => MakI w n gd cd R f vl wr)
  case atStart => exact HI.out
  case round =>
    obtain ⟨ns, os, hdem, h7, hout, hbel, hnz, hlen, hR⟩ := hrel
    obtain ⟨W, hW⟩ : ∃ W, W = wr := ⟨_, rfl⟩
    subst hW
    have hnl : ns.length = n := by rw [← De.up_len]; exact hdem.rd'.len
    have hne : ns ≠ [] := by intro e; rw [e] at hnl; simp at hnl; omega
    have hord : De.IsOrd ns (De.order ns m) := De.order_isOrd (by rw [hnl]; exact HM.out)
    obtain ⟨v, t, hvt⟩ : ∃ v t, De.order ns m = v :: t := by
      cases ho : De.order ns m with
      | nil => have := De.order_len ns m; rw [ho] at this; simp at this
      | cons v t => exact ⟨v, t, rfl⟩
    rw [hvt] at hord
    have hvn : v < n := by rw [← hnl]; exact hord.lt v (by simp)
    have htl : t.length + 1 = n := by rw [← hnl]; exact hord.len
    have hfst := hord.first
    have HVT := Lib.hid hvt
    have HO := Lib.hid hord
    have HL := Lib.hid hnl
    have HE := Lib.hid hne
    have H7 := Lib.hid h7
    have HR := Lib.hid hR
    have HF := Lib.hid hfst
    have HTL := Lib.hid htl
    have hsW := hbel.size
    have hgd1 := hdem.base_le
    have hgd2 := hdem.lt gd rfl
    clear hvt hord hnl hne h7 hR hfst htl HI
    go_wp2_with fail
    refine (falling_any gd 0 n m cd ns _ HM.out hdem.rd' H7.out hn8).mono ?_
    rintro e W1 ⟨g, rfl, hordr, hb1⟩
    rw [HVT.out] at hordr
    have hgW := hordr.base_le
    have hbw1 := hbel.trans (hb1.mono hsW)
    have hdem1 := hdem.below hb1
    have hout1 := hout.below hb1
    have hs1 := hb1.size
    have g1 := hordr.cell 0 (by omega)
    rw [show (De.up (v :: t)).getD 0 0 = (v : Int) from rfl] at g1
    have g2 := hdem1.cell v hvn
    rw [De.up_getD] at g2
    obtain ⟨M, hM⟩ : ∃ M, M = ns.getD v 0 := ⟨_, rfl⟩
    have hM7 : M ≤ 7 := by rw [hM]; exact De.le_getD H7.out v
    rw [← hM] at g2
    have HMM := Lib.hid hM
    clear hM
    have k1 : (0 : Int) < (n : Int) := by omega
    have k2 : (1 : Int) ≤ (n : Int) := by omega
    have k3 : (0 : Int) ≤ (v : Int) := by omega
    have k4 : (v : Int) < (n : Int) := by omega
    clear hdem hout hbel hb1
    have hend : Hid (M = 0 → R = some os) := by
      intro h0
      rw [HR.out, De.havel_end (by omega) (by rw [HF.out, ← HMM.out]; exact h0)]
      simp [De.onto]
    by_cases hone : n = 1
    · have ht0 : t = [] := List.eq_nil_of_length_eq_zero (by have := HTL.out; omega)
      subst hone
      by_cases hM0 : M = 0
      · have hfin : Hid (R = some os) := hend.out hM0
        have hd : ((M : Int) == 0) = true := by rw [hM0]; rfl
        clear hM0
        go_wp2
        go_quiet (fail)
        go_wp2
        go_ret2
        exact ⟨hbw1.trans (Below.drewN' _ _ _), .inr ⟨os, _, hfin.out, rfl, hout1⟩⟩
      · have hfin : Hid (R = none) := by
          show _ = _
          rw [HR.out, De.havel_fail (by rw [HF.out, ← HMM.out]; exact hM0) (by
            rw [HF.out, ← HMM.out]
            exact HO.out.picks_short (by rw [ht0]; simp; omega))]
          rfl
        have hd : ((M : Int) == 0) = false := by simp only [beq_eq_false_iff_ne, ne_eq]; omega
        have hMp : 0 < M := by omega
        have hd2 : decide (0 < M) = true := by rw [decide_eq_true_eq]; exact hMp
        clear hM0
        go_wp2
        go_quiet (fail)
        go_wp2
        go_ret2
        exact ⟨hbw1.trans (Below.drewN' _ _ _), .inl ⟨hfin.out, rfl⟩⟩
    · have hn2 : 2 ≤ n := by omega
      have hne1 : ¬ n = 1 := hone
      by_cases hM0 : M = 0
      · have hfin : Hid (R = some os) := hend.out hM0
        have hd : ((M : Int) == 0) = true := by rw [hM0]; rfl
        clear hM0
        go_wp2
        go_quiet (fail)
        go_wp2
        go_ret2
        exact ⟨hbw1.trans (Below.drewN' _ _ _), .inr ⟨os, _, hfin.out, rfl, hout1⟩⟩
      · have HM0 : Hid (ns.getD (De.first ns) 0 ≠ 0) := by show _ ≠ _; rw [HF.out, ← HMM.out]; exact hM0
        have hd : ((M : Int) == 0) = false := by simp only [beq_eq_false_iff_ne, ne_eq]; omega
        have hMp : 0 < M := by omega
        have hfail : Hid (De.picks ns v M = none → R = none) := by
          intro hp
          rw [HR.out, De.havel_fail HM0.out (by rw [HF.out, ← HMM.out]; exact hp)]
          rfl
        clear hM0 hend
        by_cases hgt : n - 1 < M
        · have hfin : Hid (R = none) := hfail.out (HO.out.picks_short (by have := HTL.out; omega))
          have hd2 : decide (n - 1 < M) = true := by rw [decide_eq_true_eq]; exact hgt
          clear hfail
          go_wp2
          go_quiet (fail)
          go_wp2
          go_ret2
          exact ⟨hbw1.trans (Below.drewN' _ _ _), .inl ⟨hfin.out, rfl⟩⟩
        · have hd2 : decide (n - 1 < M) = false := by rw [decide_eq_false_iff_not]; exact hgt
          obtain ⟨p, hp⟩ : ∃ p, M = p + 1 := ⟨M - 1, by omega⟩
          have hpt : ((M : Int) - 1).toNat = p := by omega
          have k5 : (0 : Int) ≤ (M : Int) - 1 := by omega
          have k6 : (M : Int) - 1 < ((n - 1 : Nat) : Int) := by omega
          obtain ⟨x, hx⟩ : ∃ x, x = t.getD p 0 := ⟨_, rfl⟩
          have hxn : x < n := by
            have hpl : p < t.length := by have := HTL.out; omega
            have e : t.getD p 0 = t[p] := by simp [List.getD, hpl]
            rw [hx, e, ← HL.out]
            exact HO.out.lt _ (List.mem_cons_of_mem _ (List.getElem_mem hpl))
          have g3 := hordr.cell (1 + p) (by omega)
          rw [De.up_getD, show (v :: t).getD (1 + p) 0 = t.getD p 0 by rw [Nat.add_comm]; rfl, ← hx] at g3
          have g4 := hdem1.cell x hxn
          rw [De.up_getD] at g4
          obtain ⟨z, hz⟩ : ∃ z, z = ns.getD x 0 := ⟨_, rfl⟩
          rw [← hz] at g4
          have k7 : (0 : Int) ≤ (x : Int) := by omega
          have k8 : (x : Int) < (n : Int) := by omega
          have HP := Lib.hid hp
          have HX := Lib.hid hx
          have HZ := Lib.hid hz
          clear hp hx hz
          by_cases hz0 : z = 0
          · have hfin : Hid (R = none) := hfail.out (HO.out.picks_no hMp (by have := HTL.out; omega) (by rw [show M - 1 = p by have := HP.out; omega, ← HX.out, ← HZ.out]; exact hz0))
            have hd3 : ((z : Int) == 0) = true := by rw [hz0]; rfl
            clear hfail hz0
            go_wp2
            go_quiet (fail)
            go_wp2
            go_ret2
            exact ⟨hbw1.trans (Below.drewN' _ _ _), .inl ⟨hfin.out, rfl⟩⟩
          · have hd3 : ((z : Int) == 0) = false := by simp only [beq_eq_false_iff_ne, ne_eq]; omega
            have hMt : M ≤ t.length := by have := HTL.out; omega
            obtain ⟨hpk, hall⟩ := HO.out.picks_yes hMp hMt (by rw [show M - 1 = p by have := HP.out; omega, ← HX.out, ← HZ.out]; exact hz0)
            have HPK := Lib.hid hpk
            have HALL := Lib.hid hall
            clear hz0 hfail hpk hall
            go_wp2
            go_quiet (fail)
            have hdem2 := hdem1.drewN nq
            have hordr2 := hordr.drewN nq
            have hout2 := hout1.drewN nq
            have hbw2 := hbw1.trans (Below.drewN' w.heap.size W1 nq)
            have hs2 : W.heap.size ≤ (W1.drewN nq).heap.size := hs1
            replace g2 : (W1.drewN nq).cell? ⟨gd, v, none⟩ = some (.int .i64 (M : Int)) := g2
            replace g3 : (W1.drewN nq).cell? ⟨g, 1 + p, none⟩ = some (.int .i64 (x : Int)) := g3
            replace g4 : (W1.drewN nq).cell? ⟨gd, x, none⟩ = some (.int .i64 (z : Int)) := g4
            clear hdem1 hordr hout1 hbw1 hs1 g1
            generalize W1.drewN nq = W2 at *
            have g5 := hdem2.frozen v
            have hst := hdem2.store v 0
            have hKK : MakK w n gd cd g ns os v t M W.heap.size u6 (.int .i64 0) (W2.setCell ⟨gd, v, none⟩ (.int .i64 0)) := by
              refine ⟨0, Nat.zero_le _, rfl, ?_, hordr2.grown hst.2 (fun k e => ?_), ?_, ?_, hbw2.setCell (p := ⟨gd, v, none⟩) hgd1 _⟩
              · have := hst.1
                rw [show (0 : Int) = ((0 : Nat) : Int) from rfl, De.up_set] at this
                exact this
              · intro e'
                simp [Value.ownBlock] at e e'
                omega
              · have := hout2.grown hst.2 (fun k e => own_ne (by decide) hout2 hdem2 k e)
                simpa using this
              · simpa using hs2
            have HKK := Lib.hid hKK
            clear hKK hst hdem2 hordr2 hout2
            go_wp2
            go_loopw [6, 12, 57] (fun vl _ i wx => MakK w n gd cd g ns os v t M W.heap.size vl i wx) (fun _ _ i _ => M - (intOf i).toNat)
            case atStart => exact HKK.out
            case round =>
              obtain ⟨k, hk, rfl, hdem, hordr, hout, hsz, hbel⟩ := hrel
              clear HKK
              by_cases hkM : k < M
              · obtain ⟨hna, hq1, hbn, hbv, htk⟩ := HO.out.next_at hkM hMt HALL.out
                have g6 := hordr.cell (1 + k) (by omega)
                rw [De.up_getD, show (v :: t).getD (1 + k) 0 = t.getD k 0 by rw [Nat.add_comm]; rfl] at g6
                obtain ⟨b, hb⟩ : ∃ b, b = t.getD k 0 := ⟨_, rfl⟩
                rw [← hb] at hna hq1 hbn hbv htk g6
                rw [HL.out] at hbn
                obtain ⟨q, hq⟩ : ∃ q, q = ns.getD b 0 := ⟨_, rfl⟩
                have hq7 : q ≤ 7 := by rw [hq]; exact De.le_getD H7.out b
                have g7 := hdem.cell b hbn
                rw [De.up_getD, hna, ← hq] at g7
                rw [← hq] at hna hq1
                have g8 := hdem.frozen b
                have hst := hdem.store b ((q : Int) - 1)
                have hdem5 := hst.1
                rw [show ((q : Int) - 1) = ((q - 1 : Nat) : Int) by omega, De.up_set, ← hna, ← De.nextOf_snoc, ← htk, hna] at hdem5
                rw [show ((q - 1 : Nat) : Int) = ((q : Int) - 1) by omega] at hdem5
                have hordr5 := hordr.grown hst.2 (fun k e => by
                  intro e'
                  simp [Value.ownBlock] at e e'
                  omega)
                have hout5 := hout.grown hst.2 (fun k e => own_ne (by decide) hout hdem k e)
                have hbel5 : Below w.heap.size w (wr.setCell ⟨gd, b, none⟩ (.int .i64 ((q : Int) - 1))) := hbel.setCell (p := ⟨gd, b, none⟩) hgd1 _
                have hsz5 : W.heap.size ≤ (wr.setCell ⟨gd, b, none⟩ (.int .i64 ((q : Int) - 1))).heap.size := by simpa using hsz
                have HTK := Lib.hid htk
                clear hna htk hb hq hst hdem hordr hout hbel hsz
                have hroom : (os ++ (t.take k).map (De.lineOf v)).length + 1 ≤ 8796093022208 := by
                  have := List.length_take_le k t
                  rw [List.length_append, List.length_map]
                  omega
                have k9 : (0 : Int) ≤ (b : Int) := by omega
                have k10 : (b : Int) < (n : Int) := by omega
                · have hrd7 : RdP ((wr.setCell ⟨gd, b, none⟩ (.int .i64 ((q : Int) - 1))).alloc (.cells #[.int .i64 (min (v : Int) (b : Int)), .int .i64 (max (v : Int) (b : Int))] 35)) (wr.heap.size + 1) (some ⟨wr.heap.size, 0, none⟩) 1 1 [(min (v : Int) (b : Int), max (v : Int) (b : Int))] := by
                    have h := RdP.one (wr.setCell ⟨gd, b, none⟩ (.int .i64 ((q : Int) - 1))) (min (v : Int) (b : Int), max (v : Int) (b : Int)) 35
                    rw [show (wr.setCell ⟨gd, b, none⟩ (.int .i64 ((q : Int) - 1))).heap.size = wr.heap.size by simp] at h
                    exact h
                  have hal7 : Below (wr.setCell ⟨gd, b, none⟩ (.int .i64 ((q : Int) - 1))).heap.size (wr.setCell ⟨gd, b, none⟩ (.int .i64 ((q : Int) - 1))) ((wr.setCell ⟨gd, b, none⟩ (.int .i64 ((q : Int) - 1))).alloc (.cells #[.int .i64 (min (v : Int) (b : Int)), .int .i64 (max (v : Int) (b : Int))] 35)) := (Below.refl _ _).alloc (Nat.le_refl _) _
                  have hout7 := hout5.below hal7
                  have hdem7 := hdem5.below hal7
                  have hordr7 := hordr5.below hal7
                  have hbase7 : w.heap.size ≤ ((wr.setCell ⟨gd, b, none⟩ (.int .i64 ((q : Int) - 1))).alloc (.cells #[.int .i64 (min (v : Int) (b : Int)), .int .i64 (max (v : Int) (b : Int))] 35)).heap.size := Nat.le_trans hbel5.size hal7.size
                  go_wp2_with (at_builtin; refine wpList_appP _ rfl (.tmp 67) (.tmp 75) 22 rfl w.heap.size 35 Try.underlying22 lineInfo _ (os ++ (t.take k).map (De.lineOf v)) rfl hout7 (some ⟨wr.heap.size, 0, none⟩) 1 1 [(min (v : Int) (b : Int), max (v : Int) (b : Int))] rfl hrd7 hroom hbase7 ?_; intro vo1 W7 hout8 hg7 hat7)
                  have hs7 := hg7.size
                  have hdem8 := hdem7.grown hg7 (fun q hq => own_ne (by decide) hdem7 hout7 q hq)
                  have hordr8 := hordr7.grown hg7 (fun q hq => own_ne (by decide) hordr7 hout7 q hq)
                  have hbw7 := below_appP (hbel5.trans (hal7.mono hbel5.size)) hout7 hg7 hbase7
                  have hfin7 : MakK w n gd cd g ns os v t M W.heap.size vo1 (.int .i64 ((k + 1 : Nat) : Int)) W7 := by
                    refine ⟨k + 1, by omega, rfl, hdem8, hordr8, ?_, Nat.le_trans (Nat.le_trans hsz5 hal7.size) hs7, hbw7⟩
                    rw [HTK.out, List.map_append, ← List.append_assoc, List.map_cons, List.map_nil, De.lineOf_min]
                    exact hout8
                  have HK7 := Lib.hid hfin7
                  clear hfin7
                  go_wp2
                  go_roundw
                  case rel => exact HK7.out
                  case measure => simp [intOf]; omega
              · have hkk : k = M := by omega
                have hgo : De.picks ns (De.first ns) (ns.getD (De.first ns) 0) = some (De.first ns :: t.take M) := by
                  rw [HF.out, ← HMM.out]
                  exact HPK.out
                have hfin : MakI w n gd cd R (gk - 1) u6 wr := by
                  obtain ⟨f, rfl⟩ : ∃ f, gk = f + 1 := ⟨gk - 1, by omega⟩
                  have hzz := De.nz_round HE.out HM0.out hgo
                  have hR := HR.out
                  rw [De.onto_go HM0.out hgo, HF.out] at hR
                  rw [HF.out] at hzz
                  rw [hkk] at hdem hout
                  refine ⟨De.nextOf ns v (t.take M), os ++ (t.take M).map (De.lineOf v), hdem, De.nextOf_le H7.out v _, hout, hbel, by simp only [Nat.add_sub_cancel]; omega, ?_, by simp only [Nat.add_sub_cancel]; exact hR⟩
                  have := List.length_take_le M t
                  rw [List.length_append, List.length_map]
                  simp only [Nat.add_sub_cancel]
                  omega
                have HK := Lib.hid hfin
                clear hfin hgo hkk
                go_wp2
                go_roundg (gk - 1)
                case rel => exact HK.out
                case measure => omega

end Go.Proofs.Ytnekbgeablhgiaa
