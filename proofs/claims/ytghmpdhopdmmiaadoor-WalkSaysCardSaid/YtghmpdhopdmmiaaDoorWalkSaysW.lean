/-
  The walk of the law WalkSays: for every number of points, lines and point it returns true, where the library's variable errors.errorType holds what its initialiser lays.
-/
import Derived.Test.YtghmpdhopdmmiaaDoorWalkD
import Derived.Test.YtghmpdhopdmmiaaDoorTold
import Derived.Test.YtghmpdhopdmmiaaDoorRefX
import Derived.Test.YtghmpdhopdmmiaaDoorRefW
namespace Go.Proofs.YtghmpdhopdmmiaaDoor.walkSays
open Go.RowKit
set_option linter.unusedSimpArgs false
set_option linter.unusedVariables false

theorem Err_same (k : Int) (w : World) (het : tld.EtIs w) : Calls Tryd.prog 8 #[errv k, .int .i64 k] w fun e w' => e = .returned (.bool true) ∧ Below w.heap.size w w' :=
  (Error_err k k w het).mono fun _ _ h => ⟨h.1.trans (by simp), h.2⟩
theorem Err_ok (w : World) : Calls Tryd.prog 8 #[.nilIface, .int .i64 0] w fun e w' => e = .returned (.bool true) ∧ w = w' :=
  (Error_nil 0 w).mono fun _ _ h => ⟨h.1.trans (by simp), h.2⟩

theorem nrow_irr {m : Nat} {ls : List Gr.Ln} (h : Gr.code (m : Int) ls = 0) : ∀ a, a < m → a ∉ Wa.nrow m ls a := by
  intro a ha hh
  have h1 := (Wa.mem_nrow.1 hh).2
  rw [Gr.adj_iff] at h1
  have hg := (Gr.code_zero.1 h).2.2.2
  rcases h1 with h1 | h1
  · exact (hg _ h1).2.2.2.2 rfl
  · exact (hg _ h1).2.2.2.2 rfl
theorem labs_take_succ {m : Nat} {R : Nat → List Nat} {i : Nat} (hi : i < m) : (Wa.labs m R m).take i ++ [Wa.lab m R m i] = (Wa.labs m R m).take (i + 1) := by
  rw [List.take_succ_eq_append_getElem (by rw [Wa.labs_len]; exact hi)]
  congr 2
  have := Wa.labs_at R m hi
  rw [← this]
  simp [List.getD, Wa.labs_len, hi]
/-- the least point that hangs together with one is the first that it reaches -/
theorem lab_first {m : Nat} {ls : List Gr.Ln} {i : Nat} (hi : i < m) : ∃ u : Nat, Wa.lab m (Wa.nrow m ls) m i = (u : Int) ∧ u < m ∧ 0 ≤ Wa.dist m (Wa.nrow m ls) i u ∧ ∀ k, k < u → Wa.dist m (Wa.nrow m ls) i k < 0 := by
  obtain ⟨u, h1, h2, h3, h4⟩ := Wa.lab_spec (Wa.nrow_ok m ls) hi
  refine ⟨u, h1, by omega, ?_, fun k hk => ?_⟩
  · rw [Wa.dist_sym (Wa.nrow_ok m ls) (Wa.nrow_sym m ls) hi (by omega)]
    unfold Wa.rch at h3
    simpa using h3
  · have := h4 k hk
    rw [Wa.dist_sym (Wa.nrow_ok m ls) (Wa.nrow_sym m ls) hi (by omega)]
    unfold Wa.rch at this
    simpa using this

set_option maxRecDepth 100000 in
set_option maxHeartbeats 4000000 in
/-- something is wrong with the lines -/
theorem bad (w : World) (het : tld.EtIs w) (a0 : Int) (a1 : Option Addr) (n1 c1 : Nat) (z1 : List Gr.Ln) (w1 : RdP w w.heap.size a1 n1 c1 z1) (a2 : Int) (k : Int) (hk : Gr.code a0 z1 = k) (hc : k ≠ 0) :
    Calls Tryd.prog 3 #[.int .i64 a0, .slice a1 n1 c1, .int .i64 a2] w fun e w' => e = .returned (.bool true) ∧ Below w.heap.size w w' := by
  have HK := Lib.hid hk
  have HN : Hid (Gr.code a0 z1 ≠ 0) := by show _; rw [hk]; exact hc
  have hF : Wa.fcode a0 z1 a2 = k := by unfold Wa.fcode; rw [if_neg HN.out, hk]
  have HF := Lib.hid hF
  have d1 : (k == 0) = false := by simpa using hc
  clear hk hF hc
  go_enter Tryd.func3, Tryd.ntmps3
  go_wp2_with fail
  refine (RefL.Lines_any a0 a1 n1 c1 z1 _ w1).mono ?_
  rw [HK.out]
  rintro e x1 ⟨rfl, b1⟩
  go_wp2_with fail
  refine (Parts_bad a0 a1 n1 c1 z1 _ (w1.past b1) HN.out).mono ?_
  rw [HK.out]
  rintro e x2 ⟨rfl, b2⟩
  have b02 := b1.trans (b2.mono b1.size)
  go_wp2_with fail
  refine (Err_same k _ (het.below b02)).mono ?_
  rintro e x3 ⟨rfl, b3⟩
  have b03 := b02.trans (b3.mono b02.size)
  go_wp2_with fail
  refine (Ints_t none none 0 0 0 0 [] [] true _ (Rd.nil _ _) (Rd.nil _ _) rfl).mono ?_
  rintro e x4 ⟨rfl, b4⟩
  have b04 := b03.trans (b4.mono b03.size)
  clear b1 b2 b02 b3 b03 b4
  go_wp2_with fail
  refine (Ring_bad a0 a1 n1 c1 z1 _ (w1.past b04) HN.out).mono ?_
  rw [HK.out]
  rintro e x5 ⟨rfl, b5⟩
  have b05 := b04.trans (b5.mono b04.size)
  go_wp2_with fail
  refine (Err_same k _ (het.below b05)).mono ?_
  rintro e x6 ⟨rfl, b6⟩
  have b06 := b05.trans (b6.mono b05.size)
  clear b04 b5 b05 b6
  go_wp2_with fail
  refine (From_bad a0 a1 n1 c1 z1 a2 _ (w1.past b06) (by rw [HF.out]; exact fun h => HN.out (HK.out.trans h))).mono ?_
  rw [HF.out]
  rintro e x7 ⟨rfl, b7⟩
  have b07 := b06.trans (b7.mono b06.size)
  go_wp2_with fail
  refine (Err_same k _ (het.below b07)).mono ?_
  rintro e x8 ⟨rfl, b8⟩
  have b08 := b07.trans (b8.mono b07.size)
  go_wp2_with fail
  refine (Ints_t none none 0 0 0 0 [] [] true _ (Rd.nil _ _) (Rd.nil _ _) rfl).mono ?_
  rintro e x9 ⟨rfl, b9⟩
  have b09 := b08.trans (b9.mono b08.size)
  clear b06 b7 b07 b8 b08 b9
  go_wp2
  go_ret
  exact ⟨rfl, b09⟩

set_option maxRecDepth 100000 in
set_option maxHeartbeats 4000000 in
/-- nothing is wrong with the lines -/
theorem good (w : World) (het : tld.EtIs w) (m : Nat) (a1 : Option Addr) (n1 c1 : Nat) (z1 : List Gr.Ln) (w1 : RdP w w.heap.size a1 n1 c1 z1) (a2 : Int) (h0 : Gr.code (m : Int) z1 = 0) :
    Calls Tryd.prog 3 #[.int .i64 (m : Int), .slice a1 n1 c1, .int .i64 a2] w fun e w' => e = .returned (.bool true) ∧ Below w.heap.size w w' := by
  have hm8 : m ≤ 8 := by have := (Gr.code_zero.1 h0).2.1; omega
  have hm1 : 1 ≤ m := by have := (Gr.code_zero.1 h0).1; omega
  have H0 := Lib.hid h0
  clear h0
  go_enter Tryd.func3, Tryd.ntmps3
  go_wp2_with fail
  refine (RefL.Lines_any (m : Int) a1 n1 c1 z1 _ w1).mono ?_
  rw [H0.out]
  rintro e x1 ⟨rfl, b1⟩
  go_wp2_with fail
  refine (RefF.Far_either m a1 n1 c1 z1 _ (w1.past b1) hm1 hm8).mono ?_
  rintro e x2 ⟨gb, cb, rfl, hd, b2⟩
  have b02 := b1.trans (b2.mono b1.size)
  clear b1 b2
  have hgb := RefF.RdR_block hd (by omega)
  have hcb1 : m ≤ cb := hd.2.1
  have hcb2 : cb ≤ 9223372036854775807 := hd.2.2.1
  have HD : Hid (∀ wr : World, Below x2.heap.size x2 wr → ∀ i, i < m → ∃ A' c', wr.cell? ⟨gb, i, none⟩ = some (.slice A' m c') ∧ Rd wr wr.heap.size A' m c' (Wa.dists m (Wa.nrow m z1) i)) := by
    intro wr hbel i hi
    exact RefF.RdR_row (hd.past hbel) hi
  have HLS : Hid (∀ i, i < m → (Wa.labs m (Wa.nrow m z1) m).take i ++ [Wa.lab m (Wa.nrow m z1) m i] = (Wa.labs m (Wa.nrow m z1) m).take (i + 1)) := fun i hi => labs_take_succ hi
  clear hd
  go_wp2
  go_loopw [8, 12] (fun pv iv wr => ∃ i : Nat, i ≤ m ∧ iv = .int .i64 (i : Int) ∧ Own wr x2.heap.size 3 pv ((Wa.labs m (Wa.nrow m z1) m).take i) ∧ Below x2.heap.size x2 wr) (fun _ iv _ => m - (intOf iv).toNat)
  case atStart => exact ⟨0, Nat.zero_le _, rfl, by rw [List.take_zero]; exact Own.nil _ _ _, Below.refl _ _⟩
  case round =>
    obtain ⟨i, him, rfl, ho, hbel⟩ := hrel
    have hsz := hbel.size
    by_cases hlt : i < m
    · have hi1 : (0 : Int) ≤ (i : Int) := by omega
      have hi2 : (i : Int) < (m : Int) := by omega
      obtain ⟨A', c', q1, q2⟩ := HD.out wr hbel i hlt
      obtain ⟨b3, o3, rfl, hb3, hc3⟩ := q2.at_ (by omega)
      have hle3 := q2.le
      have hcap3 := q2.cap
      have HC : Hid (∀ k, k < m → wr.cell? ⟨b3, o3 + k, none⟩ = some (.int .i64 (Wa.dist m (Wa.nrow m z1) i k))) := by
        intro k hk
        have := hc3 k hk
        rwa [Wa.dists_at _ _ hk] at this
      clear hc3 q2
      obtain ⟨u, hu1, hu2, hu3, hu4⟩ := lab_first (ls := z1) hlt
      have HU := Lib.hid hu1
      have HU4 := Lib.hid hu4
      clear hu1 hu4
      go_wp2
      go_loop [13] (fun kv => ∃ k : Nat, k ≤ u ∧ kv = .int .i64 (k : Int)) (fun kv => u - (intOf kv).toNat)
      case atStart => exact ⟨0, Nat.zero_le _, rfl⟩
      case round =>
        obtain ⟨k, hku, rfl⟩ := hrel
        have hk1 : (0 : Int) ≤ (k : Int) := by omega
        have hk2 : (k : Int) < (m : Int) := by omega
        have g1 := HC.out k (by omega)
        by_cases hlk : k < u
        · have hneg := HU4.out k hlk
          generalize Wa.dist m (Wa.nrow m z1) i k = s at g1 hneg
          have e1 : decide (s < 0) = true := by simpa using hneg
          go_wp2
          go_round
          case rel => exact ⟨k + 1, by omega, by go_num⟩
          case measure => simp [intOf]; omega
        · obtain rfl : k = u := by omega
          generalize Wa.dist m (Wa.nrow m z1) i k = s at g1 hu3
          have e1 : decide (s < 0) = false := by simpa using hu3
          have hba := (Below.refl wr.heap.size wr).alloc (Nat.le_refl _) (.cells #[.int .i64 (k : Int)] 3)
          have ho2 := ho.below hba
          have hs3 : x2.heap.size ≤ (wr.alloc (.cells #[.int .i64 (k : Int)] 3)).heap.size := Nat.le_trans hsz hba.size
          have hroom : ((Wa.labs m (Wa.nrow m z1) m).take i).length + 1 ≤ 17592186044416 := by rw [List.length_take, Wa.labs_len]; omega
          clear HC HU4 hu3
          go_wp2_with (at_builtin; refine wpList_app _ rfl (.tmp 43) (.tmp 45) 24 rfl x2.heap.size 3 Tryd.underlying24 intInfo _ _ rfl ho2 (some ⟨wr.heap.size, 0, none⟩) 1 1 [(k : Int)] rfl (Rd.one wr _ _) hroom hs3 ?_; intro v5 w5 ho5 hg5 _; have hb5 := below_app (hbel.trans (hba.mono hsz)) ho2 hg5 hs3; clear hg5)
          go_roundw
          case rel => exact ⟨i + 1, by omega, by go_num, by rw [← HLS.out i hlt, HU.out]; exact ho5, hb5⟩
          case measure => simp [intOf]; omega
    · have hmi : m = i := by omega
      subst hmi
      have hall : (Wa.labs m (Wa.nrow m z1) m).take m = Wa.labs m (Wa.nrow m z1) m := List.take_of_length_le (by rw [Wa.labs_len]; omega)
      rw [hall] at ho
      obtain ⟨x3, hx3⟩ : ∃ x3, x3 = wr := ⟨_, rfl⟩
      subst hx3
      have b03 := b02.trans (hbel.mono b02.size)
      obtain ⟨Ap, cp, rfl, hrp⟩ := ho.rd
      rw [Wa.labs_len] at hrp
      rw [Wa.labs_len]
      have HG1 : Hid (∀ q, 3 ≤ q → (∀ t, 3 ≤ t → t < q → Wf.ringOf m (Wa.nrow m z1) t = false) → Wf.ringOf m (Wa.nrow m z1) q = true → Wa.girth m (Wa.nrow m z1) = (q : Int)) := fun q hq hn h => Wf.girth_first (Wa.nrow_ok m z1) (Wa.nrow_sym m z1) (nrow_irr H0.out) hq hn h
      have HG2 : Hid ((∀ t, 3 ≤ t → t ≤ m → Wf.ringOf m (Wa.nrow m z1) t = false) → Wa.girth m (Wa.nrow m z1) = 0) := fun hn => Wf.girth_none (Wa.nrow_ok m z1) (Wa.nrow_sym m z1) (nrow_irr H0.out) hn
      clear HD HLS hall ho hlt him hbel hsz b02 hgb
      go_wp2
      go_loopw [10, 14] (fun rv qv wr => ∃ q r : Nat, 3 ≤ q ∧ q ≤ 9 ∧ qv = .int .i64 (q : Int) ∧ rv = .int .i64 (r : Int) ∧ Below x3.heap.size x3 wr ∧ Hid ((r = 0 ∧ ∀ t, 3 ≤ t → t < q → Wf.ringOf m (Wa.nrow m z1) t = false) ∨ (r ≠ 0 ∧ Wa.girth m (Wa.nrow m z1) = (r : Int)))) (fun _ qv _ => m + 1 - (intOf qv).toNat)
      case atStart => exact ⟨3, 0, by omega, by omega, rfl, rfl, Below.refl _ _, .inl ⟨rfl, fun t h1 h2 => by omega⟩⟩
      case round =>
        obtain ⟨q, r, hq3, hq9, rfl, rfl, hbel, HR⟩ := hrel
        by_cases hgo : q ≤ m ∧ r = 0
        · obtain ⟨hqm, hr0⟩ := hgo
          subst hr0
          have e1 : decide ((q : Int) ≤ (m : Int)) = true := by simpa using hqm
          have e2 : ((q : Int)) ≤ (m : Int) := by omega
          have HN : Hid (∀ t, 3 ≤ t → t < q → Wf.ringOf m (Wa.nrow m z1) t = false) := by
            rcases HR.out with ⟨_, h⟩ | ⟨h, _⟩
            · exact h
            · exact absurd rfl h
          clear HR
          have b04 := b03.trans (hbel.mono b03.size)
          go_wp2_with fail
          refine (RefW.Ring_any m q hm8 (by omega) (by omega) a1 n1 c1 z1 _ (w1.past b04)).mono ?_
          rintro e x5 ⟨rfl, b5⟩
          have b35 := hbel.trans (b5.mono hbel.size)
          clear b04 b5
          cases hrg : Wf.ringOf m (Wa.nrow m z1) q with
          | true =>
            have HF := Lib.hid (HG1.out q hq3 HN.out hrg)
            clear hrg
            go_wp2
            go_roundw
            case rel => exact ⟨q + 1, q, by omega, by omega, by go_num, rfl, b35, .inr ⟨by omega, HF.out⟩⟩
            case measure => simp [intOf]; omega
          | false =>
            have HF := Lib.hid hrg
            clear hrg
            go_wp2
            go_roundw
            case rel => exact ⟨q + 1, 0, by omega, by omega, by go_num, rfl, b35, .inl ⟨rfl, fun t h1 h2 => by
              by_cases h : t = q
              · rw [h]; exact HF.out
              · exact HN.out t h1 (by omega)⟩⟩
            case measure => simp [intOf]; omega
        · have HE : Hid (Wa.girth m (Wa.nrow m z1) = (r : Int)) := by
            rcases HR.out with ⟨h1, h2⟩ | ⟨_, h⟩
            · subst h1
              exact HG2.out (fun t h3 h4 => h2 t h3 (by omega))
            · exact h
          have b04 := b03.trans (hbel.mono b03.size)
          have hrp4 := hrp.past hbel
          obtain ⟨x4, hx4⟩ : ∃ x4, x4 = wr := ⟨_, rfl⟩
          subst hx4
          clear HR HG1 HG2 b03 hbel hrp
          have e5 : ((r : Int) == (r : Int)) = true := by simp
          have hwr : IntKind.i64.wrap ((m : Int) - 1) = (m : Int) - 1 := by rw [IntKind.wrap_i64]; omega
          by_cases hqm : q ≤ m
          · have hr0 : ¬ r = 0 := fun h => hgo ⟨hqm, h⟩
            have e1 : ((r : Int) == 0) = false := by simpa using hr0
            have e2 : decide ((q : Int) ≤ (m : Int)) = true := by simpa using hqm
            have e3 : (q : Int) ≤ (m : Int) := by omega
            clear hgo hqm hr0
            go_wp2_with fail
            refine (Parts_good m a1 n1 c1 z1 _ (w1.past b04) H0.out).mono ?_
            rintro e x5 ⟨gp, rfl, hop, b5⟩
            have b05 := b04.trans (b5.mono b04.size)
            go_wp2_with fail
            refine (Err_ok _).mono ?_
            rintro e x6 ⟨rfl, rfl⟩
            go_wp2_with fail
            refine (Ints_t (some ⟨gp, 0, none⟩) Ap m m m cp _ _ true _ hop.rd' (hrp4.past b5) (by simp)).mono ?_
            rintro e x7 ⟨rfl, b7⟩
            have b07 := b05.trans (b7.mono b05.size)
            clear b5 b05 b7 hop hrp4 b04
            go_wp2_with fail
            refine (Ring_good m a1 n1 c1 z1 _ (w1.past b07) H0.out).mono ?_
            rw [HE.out]
            rintro e x8 ⟨rfl, b8⟩
            have b08 := b07.trans (b8.mono b07.size)
            clear b07 b8
            go_wp2_with fail
            refine (Err_ok _).mono ?_
            rintro e x9 ⟨rfl, rfl⟩
            by_cases hin : 0 ≤ a2 ∧ a2 < m
            · obtain ⟨f, hf⟩ : ∃ f : Nat, a2 = (f : Int) := ⟨a2.toNat, by omega⟩
              subst hf
              have hf : f < m := by omega
              have hf1 : (0 : Int) ≤ (f : Int) := by omega
              have hf2 : (f : Int) < (m : Int) := by omega
              clear hin
              go_wp2_with fail
              refine (in_yes _ _ _ _ (by omega) (by omega)).mono ?_
              rintro e y1 ⟨rfl, rfl⟩
              go_wp2_with fail
              refine (RefF.Far_either m a1 n1 c1 z1 _ (w1.past b08) hm1 hm8).mono ?_
              rintro e y2 ⟨gd, cd, rfl, hd2, k2⟩
              have b10 := b08.trans (k2.mono b08.size)
              have hcd1 : m ≤ cd := hd2.2.1
              have hcd2 : cd ≤ 9223372036854775807 := hd2.2.2.1
              obtain ⟨A', c', q1, q2⟩ := RefF.RdR_row hd2 hf
              rw [RefF.rowF_dists] at q2
              clear hd2 k2 b08
              go_wp2_with fail
              refine (From_good m f a1 n1 c1 z1 _ (w1.past b10) H0.out hf).mono ?_
              rintro e y3 ⟨gf, rfl, hof, k3⟩
              have b11 := b10.trans (k3.mono b10.size)
              go_wp2_with fail
              refine (Err_ok _).mono ?_
              rintro e y4 ⟨rfl, rfl⟩
              go_wp2_with fail
              refine (Ints_t (some ⟨gf, 0, none⟩) A' m m m c' _ _ true _ hof.rd' (q2.past k3) (by simp)).mono ?_
              rintro e y5 ⟨rfl, k5⟩
              have b12 := b11.trans (k5.mono b11.size)
              clear q1 q2 hof k3 b10 b11 k5
              go_wp2
              go_ret
              exact ⟨rfl, b12⟩
            · have ho : a2 < 0 ∨ (m : Int) - 1 < a2 := by omega
              have HO := Lib.hid ho
              have HF : Hid (Wa.fcode (m : Int) z1 a2 = 1) := by show _ = _; unfold Wa.fcode; rw [if_pos H0.out, if_pos (by omega)]
              clear hin ho
              go_wp2_with fail
              refine (in_no _ _ _ _ HO.out).mono ?_
              rintro e y1 ⟨rfl, rfl⟩
              go_wp2_with fail
              refine (From_bad (m : Int) a1 n1 c1 z1 a2 _ (w1.past b08) (by rw [HF.out]; decide)).mono ?_
              rw [HF.out]
              rintro e y2 ⟨rfl, k2⟩
              have b10 := b08.trans (k2.mono b08.size)
              go_wp2_with fail
              refine (Err_same 1 _ (het.below b10)).mono ?_
              rintro e y3 ⟨rfl, k3⟩
              have b11 := b10.trans (k3.mono b10.size)
              go_wp2_with fail
              refine (Ints_t none none 0 0 0 0 [] [] true _ (Rd.nil _ _) (Rd.nil _ _) rfl).mono ?_
              rintro e y4 ⟨rfl, k4⟩
              have b12 := b11.trans (k4.mono b11.size)
              clear b08 k2 b10 k3 b11 k4
              go_wp2
              go_ret
              exact ⟨rfl, b12⟩
          · have e2 : decide ((q : Int) ≤ (m : Int)) = false := by simp; omega
            clear hgo
            go_wp2_with fail
            refine (Parts_good m a1 n1 c1 z1 _ (w1.past b04) H0.out).mono ?_
            rintro e x5 ⟨gp, rfl, hop, b5⟩
            have b05 := b04.trans (b5.mono b04.size)
            go_wp2_with fail
            refine (Err_ok _).mono ?_
            rintro e x6 ⟨rfl, rfl⟩
            go_wp2_with fail
            refine (Ints_t (some ⟨gp, 0, none⟩) Ap m m m cp _ _ true _ hop.rd' (hrp4.past b5) (by simp)).mono ?_
            rintro e x7 ⟨rfl, b7⟩
            have b07 := b05.trans (b7.mono b05.size)
            clear b5 b05 b7 hop hrp4 b04
            go_wp2_with fail
            refine (Ring_good m a1 n1 c1 z1 _ (w1.past b07) H0.out).mono ?_
            rw [HE.out]
            rintro e x8 ⟨rfl, b8⟩
            have b08 := b07.trans (b8.mono b07.size)
            clear b07 b8
            go_wp2_with fail
            refine (Err_ok _).mono ?_
            rintro e x9 ⟨rfl, rfl⟩
            by_cases hin : 0 ≤ a2 ∧ a2 < m
            · obtain ⟨f, hf⟩ : ∃ f : Nat, a2 = (f : Int) := ⟨a2.toNat, by omega⟩
              subst hf
              have hf : f < m := by omega
              have hf1 : (0 : Int) ≤ (f : Int) := by omega
              have hf2 : (f : Int) < (m : Int) := by omega
              clear hin
              go_wp2_with fail
              refine (in_yes _ _ _ _ (by omega) (by omega)).mono ?_
              rintro e y1 ⟨rfl, rfl⟩
              go_wp2_with fail
              refine (RefF.Far_either m a1 n1 c1 z1 _ (w1.past b08) hm1 hm8).mono ?_
              rintro e y2 ⟨gd, cd, rfl, hd2, k2⟩
              have b10 := b08.trans (k2.mono b08.size)
              have hcd1 : m ≤ cd := hd2.2.1
              have hcd2 : cd ≤ 9223372036854775807 := hd2.2.2.1
              obtain ⟨A', c', q1, q2⟩ := RefF.RdR_row hd2 hf
              rw [RefF.rowF_dists] at q2
              clear hd2 k2 b08
              go_wp2_with fail
              refine (From_good m f a1 n1 c1 z1 _ (w1.past b10) H0.out hf).mono ?_
              rintro e y3 ⟨gf, rfl, hof, k3⟩
              have b11 := b10.trans (k3.mono b10.size)
              go_wp2_with fail
              refine (Err_ok _).mono ?_
              rintro e y4 ⟨rfl, rfl⟩
              go_wp2_with fail
              refine (Ints_t (some ⟨gf, 0, none⟩) A' m m m c' _ _ true _ hof.rd' (q2.past k3) (by simp)).mono ?_
              rintro e y5 ⟨rfl, k5⟩
              have b12 := b11.trans (k5.mono b11.size)
              clear q1 q2 hof k3 b10 b11 k5
              go_wp2
              go_ret
              exact ⟨rfl, b12⟩
            · have ho : a2 < 0 ∨ (m : Int) - 1 < a2 := by omega
              have HO := Lib.hid ho
              have HF : Hid (Wa.fcode (m : Int) z1 a2 = 1) := by show _ = _; unfold Wa.fcode; rw [if_pos H0.out, if_pos (by omega)]
              clear hin ho
              go_wp2_with fail
              refine (in_no _ _ _ _ HO.out).mono ?_
              rintro e y1 ⟨rfl, rfl⟩
              go_wp2_with fail
              refine (From_bad (m : Int) a1 n1 c1 z1 a2 _ (w1.past b08) (by rw [HF.out]; decide)).mono ?_
              rw [HF.out]
              rintro e y2 ⟨rfl, k2⟩
              have b10 := b08.trans (k2.mono b08.size)
              go_wp2_with fail
              refine (Err_same 1 _ (het.below b10)).mono ?_
              rintro e y3 ⟨rfl, k3⟩
              have b11 := b10.trans (k3.mono b10.size)
              go_wp2_with fail
              refine (Ints_t none none 0 0 0 0 [] [] true _ (Rd.nil _ _) (Rd.nil _ _) rfl).mono ?_
              rintro e y4 ⟨rfl, k4⟩
              have b12 := b11.trans (k4.mono b11.size)
              clear b08 k2 b10 k3 b11 k4
              go_wp2
              go_ret
              exact ⟨rfl, b12⟩

theorem walk (w : World) (het : tld.EtIs w) (a0 : Int) (_w0 : (Lit.int .i64 a0).wf = true) (a1 : Option Addr) (n1 c1 : Nat) (z1 : List Gr.Ln) (w1 : RdP w w.heap.size a1 n1 c1 z1) (a2 : Int) (_w2 : (Lit.int .i64 a2).wf = true) :
    Calls Tryd.prog 3 #[.int .i64 a0, .slice a1 n1 c1, .int .i64 a2] w fun e w' => e = .returned (.bool true) ∧ Below w.heap.size w w' := by
  by_cases hc : Gr.code a0 z1 = 0
  · obtain ⟨m, rfl⟩ : ∃ m : Nat, a0 = (m : Int) := ⟨a0.toNat, by have := (Gr.code_zero.1 hc).1; omega⟩
    exact good w het m a1 n1 c1 z1 w1 a2 hc
  · exact bad w het a0 a1 n1 c1 z1 w1 a2 _ rfl hc

end Go.Proofs.YtghmpdhopdmmiaaDoor.walkSays
