/-
  The contract of the reference's Part: which of two parts each point is in, by how far it is from the first point that it reaches.
-/
import Derived.Test.YtklanopgmlmjlaaDoorHalvesC
import Derived.Test.YtklanopgmlmjlaaDoorRefX
import Derived.BigQuiet
namespace Go.Proofs.YtklanopgmlmjlaaDoor.RefP
open Go.RowKit
set_option linter.unusedSimpArgs false
set_option linter.unusedVariables false

theorem parts_take_succ {m : Nat} {R : Nat → List Nat} {i : Nat} (hi : i < m) : (Ha.parts m R).take i ++ [Ha.pt m R i] = (Ha.parts m R).take (i + 1) := by
  rw [List.take_succ_eq_append_getElem (by rw [Ha.parts_len]; exact hi)]
  congr 2
  have := Ha.parts_at R hi
  rw [← this]
  simp [List.getD, Ha.parts_len, hi]
/-- the first point that one reaches is the least that hangs together with it -/
theorem pt_first {m : Nat} {ls : List Gr.Ln} {i : Nat} (hi : i < m) : ∃ u : Nat, u < m ∧ 0 ≤ Wa.dist m (Wa.nrow m ls) i u ∧ (∀ k, k < u → Wa.dist m (Wa.nrow m ls) i k < 0) ∧ Ha.pt m (Wa.nrow m ls) i = Wa.dist m (Wa.nrow m ls) i u % 2 := by
  obtain ⟨u, h1, h2, h3, h4⟩ := Wa.lab_spec (Wa.nrow_ok m ls) hi
  have hs : ∀ k, k < m → Wa.dist m (Wa.nrow m ls) i k = Wa.dist m (Wa.nrow m ls) k i := fun k hk => Wa.dist_sym (Wa.nrow_ok m ls) (Wa.nrow_sym m ls) hi hk
  refine ⟨u, by omega, ?_, fun k hk => ?_, ?_⟩
  · rw [hs u (by omega)]
    unfold Wa.rch at h3
    simpa using h3
  · have := h4 k hk
    rw [hs k (by omega)]
    unfold Wa.rch at this
    simpa using this
  · unfold Ha.pt
    rw [h1, Int.toNat_natCast, hs u (by omega)]

/-- what it hands back -/
def RpPost (m : Nat) (ls : List Gr.Ln) (w : World) (e : Ending) (w' : World) : Prop :=
  Below w.heap.size w w' ∧ ((Ha.okB m ls = false ∧ e = .returned (.tuple #[.slice none 0 0, .bool false])) ∨
    (Ha.okB m ls = true ∧ ∃ A c, e = .returned (.tuple #[.slice A m c, .bool true]) ∧ Rd w' w'.heap.size A m c (Ha.parts m (Wa.nrow m ls))))

set_option maxRecDepth 100000 in
set_option maxHeartbeats 2000000 in
theorem Part_any (m : Nat) (a1 : Option Addr) (n1 c1 : Nat) (z1 : List Gr.Ln) (w : World) (w1 : RdP w w.heap.size a1 n1 c1 z1) (h0 : Gr.code (m : Int) z1 = 0) :
    Calls Tryd.prog 7 #[.int .i64 (m : Int), .slice a1 n1 c1] w (RpPost m z1 w) := by
  unfold RpPost
  have hm8 : m ≤ 8 := by have := (Gr.code_zero.1 h0).2.1; omega
  have hm1 : 1 ≤ m := by have := (Gr.code_zero.1 h0).1; omega
  have hl24 : n1 ≤ 24 := by have := (Gr.code_zero.1 h0).2.2.1; have := w1.len; omega
  have HX := Lib.hid w1.len
  have H0 := Lib.hid h0
  have HA := Lib.hid (Ha.okB_any h0)
  clear h0
  go_enter Tryd.func7, Tryd.ntmps7
  go_wp2_with fail
  refine (RefF.Far_either m a1 n1 c1 z1 _ w1 hm1 hm8).mono ?_
  rintro e x2 ⟨gb, cb, rfl, hd, b02⟩
  have hgb := RefF.RdR_block hd (by omega)
  have hcb1 : m ≤ cb := hd.2.1
  have hcb2 : cb ≤ 9223372036854775807 := hd.2.2.1
  have HD : Hid (∀ wr : World, Below x2.heap.size x2 wr → ∀ i, i < m → ∃ A' c', wr.cell? ⟨gb, i, none⟩ = some (.slice A' m c') ∧ Rd wr wr.heap.size A' m c' (Wa.dists m (Wa.nrow m z1) i)) := by
    intro wr hbel i hi
    exact RefF.RdR_row (hd.past hbel) hi
  have HLS : Hid (∀ i, i < m → (Ha.parts m (Wa.nrow m z1)).take i ++ [Ha.pt m (Wa.nrow m z1) i] = (Ha.parts m (Wa.nrow m z1)).take (i + 1)) := fun i hi => parts_take_succ hi
  clear hd
  go_wp2
  go_loopw [7, 8] (fun pv iv wr => ∃ i : Nat, i ≤ m ∧ iv = .int .i64 (i : Int) ∧ Own wr x2.heap.size 3 pv ((Ha.parts m (Wa.nrow m z1)).take i) ∧ Below x2.heap.size x2 wr) (fun _ iv _ => m - (intOf iv).toNat)
  case atStart => exact ⟨0, Nat.zero_le _, rfl, by rw [List.take_zero]; exact Own.nil _ _ _, Below.refl _ _⟩
  case round =>
    obtain ⟨i, him, rfl, ho, hbel⟩ := hrel
    have hsz := hbel.size
    by_cases hlt : i < m
    · have hi1 : (0 : Int) ≤ (i : Int) := by omega
      have hi2 : (i : Int) < (m : Int) := by omega
      obtain ⟨A', c', q1, q2⟩ := HD.out wr hbel i hlt
      obtain ⟨b3, o3, rfl, hb3, hc3⟩ := q2.at_ (by omega)
      have hle3 := q2.le
      have hcap3 := q2.cap
      have HC : Hid (∀ k, k < m → wr.cell? ⟨b3, o3 + k, none⟩ = some (.int .i64 (Wa.dist m (Wa.nrow m z1) i k))) := by
        intro k hk
        have := hc3 k hk
        rwa [Wa.dists_at _ _ hk] at this
      clear hc3 q2
      obtain ⟨u, hu2, hu3, hu4, hu1⟩ := pt_first (ls := z1) hlt
      have HU := Lib.hid hu1
      have HU4 := Lib.hid hu4
      clear hu1 hu4
      go_wp2
      go_loop [9] (fun kv => ∃ k : Nat, k ≤ u ∧ kv = .int .i64 (k : Int)) (fun kv => u - (intOf kv).toNat)
      case atStart => exact ⟨0, Nat.zero_le _, rfl⟩
      case round =>
        obtain ⟨k, hku, rfl⟩ := hrel
        have hk1 : (0 : Int) ≤ (k : Int) := by omega
        have hk2 : (k : Int) < (m : Int) := by omega
        have g1 := HC.out k (by omega)
        by_cases hlk : k < u
        · have hneg := HU4.out k hlk
          generalize Wa.dist m (Wa.nrow m z1) i k = s at g1 hneg
          have e1 : decide (s < 0) = true := by simpa using hneg
          go_wp2
          go_round
          case rel => exact ⟨k + 1, by omega, by go_num⟩
          case measure => simp [intOf]; omega
        · obtain rfl : k = u := by omega
          generalize Wa.dist m (Wa.nrow m z1) i k = s at g1 hu3 HU
          have e1 : decide (s < 0) = false := by simpa using hu3
          have hba := (Below.refl wr.heap.size wr).alloc (Nat.le_refl _) (.cells #[.int .i64 (s % 2)] 3)
          have ho2 := ho.below hba
          have hs3 : x2.heap.size ≤ (wr.alloc (.cells #[.int .i64 (s % 2)] 3)).heap.size := Nat.le_trans hsz hba.size
          have hroom : ((Ha.parts m (Wa.nrow m z1)).take i).length + 1 ≤ 17592186044416 := by rw [List.length_take, Ha.parts_len]; omega
          clear HC HU4
          go_wp2_with (at_builtin; refine wpList_app _ rfl (.tmp 29) (.tmp 38) 24 rfl x2.heap.size 3 Tryd.underlying24 intInfo _ _ rfl ho2 (some ⟨wr.heap.size, 0, none⟩) 1 1 [s % 2] rfl (Rd.one wr _ _) hroom hs3 ?_; intro v5 w5 ho5 hg5 _; have hb5 := below_app (hbel.trans (hba.mono hsz)) ho2 hg5 hs3; clear hg5)
          go_roundw
          case rel => exact ⟨i + 1, by omega, by go_num, by rw [← HLS.out i hlt, HU.out]; exact ho5, hb5⟩
          case measure => simp [intOf]; omega
    · have hmi : m = i := by omega
      subst hmi
      have hall : (Ha.parts m (Wa.nrow m z1)).take m = Ha.parts m (Wa.nrow m z1) := List.take_of_length_le (by rw [Ha.parts_len]; omega)
      rw [hall] at ho
      obtain ⟨x3, hx3⟩ : ∃ x3, x3 = wr := ⟨_, rfl⟩
      subst hx3
      have b03 := b02.trans (hbel.mono b02.size)
      obtain ⟨Ap, cp, rfl, hrp⟩ := ho.rd
      rw [Ha.parts_len] at hrp
      rw [Ha.parts_len]
      have hlw := w1.past b03
      clear HD HLS hall ho hlt him hbel hsz b02 hgb w1
      obtain ⟨bp, op, rfl, hbp, hcp⟩ := hrp.at_ (by omega)
      have hple := hrp.le
      have hpcap := hrp.cap
      have HCP := Lib.hid hcp
      clear hcp
      go_wp2
      go_loopw [10] (fun jv wr => ∃ j : Nat, j ≤ n1 ∧ jv = .int .i64 (j : Int) ∧ Below x3.heap.size x3 wr ∧ Hid (∀ k, k < j → decide ((Ha.parts m (Wa.nrow m z1)).getD (z1.getD k (0, 0)).1.toNat 0 = (Ha.parts m (Wa.nrow m z1)).getD (z1.getD k (0, 0)).2.toNat 0) = false)) (fun jv _ => n1 - (intOf jv).toNat)
      case atStart => exact ⟨0, Nat.zero_le _, rfl, Below.refl _ _, fun k h => by omega⟩
      case round =>
        obtain ⟨j, hjn, rfl, hbel, HF⟩ := hrel
        by_cases hlt : j < n1
        · have hjl : j < z1.length := by rw [HX.out]; exact hlt
          obtain ⟨bl, ol, rfl, hbb, hcc⟩ := (hlw.below hbel).at_ (by omega)
          obtain ⟨g1, g2⟩ := hcc j hlt
          clear hcc
          obtain ⟨p, q, hpq, hp, hq, hmem⟩ := Ha.line_at H0.out hjl
          have g3 := (hbel.cell (p := ⟨bp, op + p, none⟩) hbp).trans (HCP.out p hp)
          have g4 := (hbel.cell (p := ⟨bp, op + q, none⟩) hbp).trans (HCP.out q hq)
          have hstep : Hid (decide ((Ha.parts m (Wa.nrow m z1)).getD p 0 = (Ha.parts m (Wa.nrow m z1)).getD q 0) = false → ∀ k, k < j + 1 → decide ((Ha.parts m (Wa.nrow m z1)).getD (z1.getD k (0, 0)).1.toNat 0 = (Ha.parts m (Wa.nrow m z1)).getD (z1.getD k (0, 0)).2.toNat 0) = false) := fun h k hk => by
            rcases Nat.lt_or_ge k j with h1 | h1
            · exact HF.out k h1
            · have : k = j := by omega
              rw [this, hpq]
              simpa only [Int.toNat_natCast] using h
          have hfin : Hid (decide ((Ha.parts m (Wa.nrow m z1)).getD p 0 = (Ha.parts m (Wa.nrow m z1)).getD q 0) = true → Ha.okB m z1 = false) := fun h => by
            show _ = _
            rw [HA.out, List.any_eq_true.2 ⟨_, hmem, by rw [hpq]; simpa only [Int.toNat_natCast] using h⟩]
            rfl
          rw [hpq] at g1 g2
          simp only at g1 g2
          generalize (Ha.parts m (Wa.nrow m z1)).getD p 0 = dp at g3 hstep hfin
          generalize (Ha.parts m (Wa.nrow m z1)).getD q 0 = dq at g4 hstep hfin
          have k1 : (0 : Int) ≤ (j : Int) := by omega
          have k2 : (j : Int) < (n1 : Int) := by omega
          have k3 : (0 : Int) ≤ (p : Int) := by omega
          have k4 : (p : Int) < (m : Int) := by omega
          have k5 : (0 : Int) ≤ (q : Int) := by omega
          have k6 : (q : Int) < (m : Int) := by omega
          clear hpq hmem hjl
          by_cases heq : dp = dq
          · have e1 : (dp == dq) = true := by simpa using heq
            have HN := Lib.hid (hfin.out (by simpa using heq))
            clear heq hstep hfin
            go_wp2
            go_quiet (fail)
            go_wp2
            go_ret2
            exact ⟨b03.trans ((hbel.trans (Below.drewN' _ _ _)).mono b03.size), .inl ⟨HN.out, rfl⟩⟩
          · have e1 : (dp == dq) = false := by simpa using heq
            have HN := Lib.hid (hstep.out (by simpa using heq))
            clear heq hstep hfin
            go_wp2
            go_quiet (fail)
            go_wp2
            go_roundw
            case rel => exact ⟨j + 1, by omega, by go_num, hbel.trans (Below.drewN' _ _ _), HN⟩
            case measure => simp [intOf]; omega
        · obtain rfl : j = n1 := by omega
          have HY : Hid (Ha.okB m z1 = true) := by
            show _ = _
            rw [HA.out]
            have : (z1.any fun p => decide ((Ha.parts m (Wa.nrow m z1)).getD p.1.toNat 0 = (Ha.parts m (Wa.nrow m z1)).getD p.2.toNat 0)) = false := by
              refine List.any_eq_false.2 fun p hp => ?_
              obtain ⟨i, hi, rfl⟩ := List.getElem_of_mem hp
              have h3 := HF.out i (by rw [← HX.out]; exact hi)
              rw [show z1.getD i (0, 0) = z1[i] by simp [List.getD, hi]] at h3
              show ¬ decide (_ = _) = true
              rw [h3]
              decide
            rw [this]
            rfl
          have hb04 := b03.trans (hbel.mono b03.size)
          have hrp4 := hrp.past hbel
          clear HF HCP
          go_wp2
          go_ret2
          exact ⟨hb04, .inr ⟨HY.out, _, _, rfl, hrp4⟩⟩

end Go.Proofs.YtklanopgmlmjlaaDoor.RefP
