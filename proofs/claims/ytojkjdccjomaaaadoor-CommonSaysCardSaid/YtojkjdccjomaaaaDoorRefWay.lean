/-
  The contract of the reference's Way: the points of the way between two. No statement of the program is proved here; there is no condition.
-/
import Derived.Test.YtojkjdccjomaaaaDoorRefTr
import Derived.Test.YtojkjdccjomaaaaDoorCommonQ
import Derived.Test.YtojkjdccjomaaaaDoorBesQ
import Derived.BigQuiet
namespace Go.Proofs.YtojkjdccjomaaaaDoor.RefTr
open Go.RowKit
open RefF (RdR_row RdR_block far_cell Far_either rowF_dists)
set_option linter.unusedSimpArgs false
set_option linter.unusedVariables false

theorem dist_far {m : Nat} {ls : List Gr.Ln} (h : Tr.Tree m ls) {a b : Nat} (ha : a < m) (hb : b < m) : Wa.dist m (Wa.nrow m ls) a b = ((Tr.far m ls a b : Nat) : Int) := by
  have := h.con a b ha hb
  unfold Tr.far
  omega

set_option maxRecDepth 100000 in
set_option maxHeartbeats 1000000 in
theorem Way_any (m a b : Nat) (A : Option Addr) (k c : Nat) (ls : List Gr.Ln) (w : World) (hr : RdP w w.heap.size A k c ls) (hm8 : m ≤ 8) (hm1 : 1 ≤ m) (hT : Tr.Tree m ls) (ham : a < m) (hbm : b < m) :
    Calls Tryd.prog 6 #[.int .i64 (m : Int), .slice A k c, .int .i64 (a : Int), .int .i64 (b : Int)] w fun e w' => ∃ A1 c1, e = .returned (.slice A1 (Tr.far m ls a b + 1) c1) ∧ Rd w' w'.heap.size A1 (Tr.far m ls a b + 1) c1 (Co.wayI m ls a b) ∧ Below w.heap.size w w' := by
  obtain ⟨D, hD⟩ : ∃ D, D = Tr.far m ls a b := ⟨_, rfl⟩
  have hDm : D < m := by rw [hD]; exact Co.far_lt hT ham hbm
  have HT := Lib.hid hT
  have HD := Lib.hid hD
  have HL : Hid ((Co.wayI m ls a b).length = D + 1) := by show _ = _; rw [hD]; exact Co.wayI_len hT ham hbm
  have HX0 : Hid (a = (Co.way m ls a b).getD 0 0) := (Co.wy_zero hT.met ham hbm).symm
  have HT1 : Hid ((Co.wayI m ls a b).take 1 = [(a : Int)]) := by
    have h1 := Co.wayI_take hT ham hbm (k := 0) (Nat.zero_le _)
    rw [Co.pos_zero hT ham hbm] at h1
    exact h1
  rw [← hD]
  clear hT hD
  go_enter Tryd.func6, Tryd.ntmps6
  go_wp2_with fail
  refine (Far_either m A k c ls _ hr hm1 hm8).mono ?_
  rintro e x2 ⟨gb, cb, rfl, hrows, hb2⟩
  have hcb := hrows.big
  have hgb := RdR_block hrows (by omega)
  obtain ⟨s, hs⟩ : ∃ s, s = x2.heap.size := ⟨_, rfl⟩
  have hr2 := hr.past hb2
  have HC : Hid (∀ i j, i < m → j < m → ∃ g o c, x2.cell? ⟨gb, i, none⟩ = some (.slice (some ⟨g, o, none⟩) m c) ∧ x2.cell? ⟨g, o + j, none⟩ = some (.int .i64 ((Tr.far m ls i j : Nat) : Int)) ∧ g < s ∧ m ≤ c ∧ c ≤ maxLen) := by
    show ∀ i j, _
    intro i j hi hj
    obtain ⟨A', c', h1, h2⟩ := RdR_row hrows hi
    have hle := h2.le
    have hcap := h2.cap
    obtain ⟨g, o, rfl, hg, hc⟩ := h2.at_ (by omega)
    have := hc j hj
    rw [rowF_at _ i hj, dist_far HT.out hi hj] at this
    exact ⟨g, o, c', h1, this, by rw [hs]; exact hg, hle, hcap⟩
  have hown0 : Own (x2.alloc (.cells #[.int .i64 (a : Int)] 3)) s 3 (.slice (some ⟨x2.heap.size, 0, none⟩) 1 1) ((Co.wayI m ls a b).take (0 + 1)) := by
    rw [HT1.out]
    exact Own.one x2 s 3 (a : Int) (by rw [hs]; exact Nat.le_refl _)
  obtain ⟨x3, hx3⟩ : ∃ x3, x3 = x2.alloc (.cells #[.int .i64 (a : Int)] 3) := ⟨_, rfl⟩
  have hb3 : Below s x2 x3 := by rw [hx3, hs]; exact (Below.refl _ _).alloc (Nat.le_refl _) _
  rw [← hx3] at hown0
  have hsw : w.heap.size ≤ s := by rw [hs]; exact hb2.size
  rw [← hs] at hgb hown0
  have HS := Lib.hid hs
  have HX3 := Lib.hid hx3
  clear hrows hs hx3
  go_wp2
  rw [← HX3.out, ← HS.out]
  go_loopw [2, 10, 11, 12] (fun av v _ _ wr => ∃ t x : Nat, t ≤ D ∧ av = .int .i64 (x : Int) ∧ Hid (x = (Co.way m ls a b).getD t 0) ∧ Own wr s 3 v ((Co.wayI m ls a b).take (t + 1)) ∧ Below s x2 wr) (fun av _ _ _ _ => Co.mu m ls b (intOf av))
  case atStart => exact ⟨0, a, Nat.zero_le _, rfl, HX0, hown0, hb3⟩
  case round =>
    clear hown0 hb3 HX0
    obtain ⟨t, x, ht, rfl, HX, hown, hbw⟩ := hrel
    have hsz2 := hbw.size
    have hsz : s ≤ wr.heap.size := by rw [HS.out]; exact hsz2
    have htD : t ≤ Tr.far m ls a b := by rw [← HD.out]; exact ht
    obtain ⟨v, e1, hvm, e3, e4, e5⟩ := Co.pos_in HT.out ham hbm htD
    obtain rfl : v = x := by rw [HX.out, e3]
    by_cases hvb : v = b
    · have hte : t = D := by
        rcases Nat.lt_or_ge t D with h1 | h1
        · exact absurd (show (Co.way m ls a b).getD t 0 = b by rw [← e3]; exact hvb) (Co.wy_ne HT.out.met ham hbm (t := t) (by rw [← HD.out]; exact h1))
        · omega
      have hall : Hid ((Co.wayI m ls a b).take (t + 1) = Co.wayI m ls a b) := List.take_of_length_le (by rw [HL.out]; omega)
      rw [hall.out] at hown
      obtain ⟨A1, c1, rfl, hrd⟩ := hown.rd
      rw [HL.out] at hrd ⊢
      have hvv : ((b : Int) != (b : Int)) = false := by simp
      clear e1 e3 e4 e5 htD HX hown
      subst hvb
      go_wp2
      go_ret
      exact ⟨A1, c1, rfl, hrd, hb2.trans (hbw.mono hsw)⟩
    · have hltD : t < D := by
        rcases Nat.lt_or_ge t D with h1 | h1
        · exact h1
        · exfalso
          have : t = Tr.far m ls a b := by rw [← HD.out]; omega
          exact hvb (by rw [e3, this]; exact Co.wy_last HT.out.met ham hbm)
      have hne : ((v : Int) != (b : Int)) = true := by simp; omega
      obtain ⟨u, hu⟩ : ∃ u, u = Co.nx m (Tr.ad ls) (Tr.far m ls) b v := ⟨_, rfl⟩
      have hum : u < m := by rw [hu]; exact (Co.nx_spec HT.out.met hvm hbm hvb).1
      have HU : Hid (u = (Co.way m ls a b).getD (t + 1) 0) := by
        show _ = _
        have := Co.wy_next HT.out.met ham hbm (t := t) (by rw [← HD.out]; exact hltD)
        unfold Co.way
        rw [this, hu]
        unfold Co.way at e3
        rw [← e3]
      have HIFF : Hid (∀ k, k < m → ((Tr.ad ls v k = true ∧ Tr.far m ls k b < Tr.far m ls v b) ↔ k = u)) := by
        show ∀ k, _
        intro k hk
        rw [hu]
        exact Co.nx_iff HT.out.met hvm hbm hvb hk
      have hmu := Co.mu_lt HT.out ham hbm htD
      have hpu : Co.pos m ls a b (t + 1) = (u : Int) := by
        unfold Co.pos
        rw [if_pos (by rw [← HD.out]; omega), ← HU.out]
      rw [e1, hpu] at hmu
      have HMU := Lib.hid hmu
      have HSTEP : Hid ((Co.wayI m ls a b).take (t + 1 + 1) = (Co.wayI m ls a b).take (t + 1) ++ [(u : Int)]) := by
        show _ = _
        rw [Co.wayI_take HT.out ham hbm (by rw [← HD.out]; omega), hpu]
      have hroom : Hid (((Co.wayI m ls a b).take (t + 1)).length + 1 ≤ 17592186044416) := by show _ ≤ _; rw [List.length_take]; omega
      have hrw : RdP wr wr.heap.size A k c ls := (hr2.below (w' := wr) (by rw [← HS.out]; exact hbw)).more hsz2
      have v0 : (0 : Int) ≤ (v : Int) := by omega
      have v1 : (v : Int) < (m : Int) := by omega
      have b0 : (0 : Int) ≤ (b : Int) := by omega
      have b1 : (b : Int) < (m : Int) := by omega
      have HX1 : Hid (v = if u < 0 then u else v) := by show _ = _; rw [if_neg (by omega)]
      obtain ⟨wo, hwo⟩ : ∃ wo, wo = wr := ⟨_, rfl⟩
      rw [← hwo] at hown hbw hrw hsz hsz2 ⊢
      clear e1 e3 e4 e5 htD HX hu hmu hpu hwo
      go_wp2
      go_loopw [11, 12] (fun nv kv wi => ∃ i x : Nat, i ≤ m ∧ kv = .int .i64 (i : Int) ∧ nv = .int .i64 (x : Int) ∧ Hid (x = if u < i then u else v) ∧ Below wo.heap.size wo wi) (fun _ kv _ => m - (intOf kv).toNat)
      case atStart => exact ⟨0, v, Nat.zero_le _, rfl, rfl, HX1, Below.refl _ _⟩
      case round =>
        clear HX1
        obtain ⟨i, x, hi, rfl, rfl, HX, hbi⟩ := hrel
        by_cases hlt : i < m
        · have hbwi := hbw.trans (hbi.mono hsz)
          have hrk := hrw.past hbi
          obtain ⟨g3, o3, c3, f1, f2, f3, f4, f5⟩ := HC.out i b hlt hbm
          obtain ⟨g4, o4, c4, f6, f7, f8, f9, f10⟩ := HC.out v b hvm hbm
          have hgb' : gb < s := hgb
          have p1 := (hbwi.cell (p := ⟨gb, i, none⟩) hgb').trans f1
          have p2 := (hbwi.cell (p := ⟨g3, o3 + b, none⟩) f3).trans f2
          have p3 := (hbwi.cell (p := ⟨gb, v, none⟩) hgb').trans f6
          have p4 := (hbwi.cell (p := ⟨g4, o4 + b, none⟩) f8).trans f7
          have hiff := HIFF.out i hlt
          obtain ⟨y, hy⟩ : ∃ y, y = Tr.far m ls i b := ⟨_, rfl⟩
          obtain ⟨z, hz⟩ : ∃ z, z = Tr.far m ls v b := ⟨_, rfl⟩
          rw [← hy] at p2 hiff
          rw [← hz] at p4 hiff
          have k0 : (0 : Int) ≤ (i : Int) := by omega
          have k1 : (i : Int) < (m : Int) := by omega
          by_cases hku : i = u
          · obtain ⟨ha, hd⟩ := hiff.2 hku
            have HA : Hid (Gr.adj ls (v : Int) (i : Int) = true) := ha
            have q1 : decide ((y : Int) < (z : Int)) = true := by simp; omega
            have q2 : decide (y < z) = true := by simp; omega
            have HN : Hid (i = if u < i + 1 then u else v) := by show _ = _; rw [if_pos (by omega), hku]
            clear hiff ha hd hku hy hz f1 f2 f6 f7 HX
            go_wp2
            go_quiet (first | (go_at_call 15; with_reducible exact RefL.bes_q A k c ls (v : Int) (i : Int) true _ _ hrk HA.out))
            go_wp2
            go_roundw
            case rel => exact ⟨i + 1, i, by omega, by go_num, rfl, HN, hbi.trans (Below.drewN' _ _ _)⟩
            case measure => simp [intOf]; omega
          · have HN : Hid (x = if u < i + 1 then u else v) := by
              show _ = _
              rw [HX.out]
              by_cases h1 : u < i
              · rw [if_pos h1, if_pos (by omega)]
              · rw [if_neg h1, if_neg (by omega)]
            by_cases ha : Tr.ad ls v i = true
            · have hnd : ¬ y < z := fun h => hku (hiff.1 ⟨ha, h⟩)
              have HA : Hid (Gr.adj ls (v : Int) (i : Int) = true) := ha
              have q1 : decide ((y : Int) < (z : Int)) = false := by simp; omega
              have q2 : decide (y < z) = false := by simp; omega
              clear hiff ha hy hz f1 f2 f6 f7 HX
              go_wp2
              go_quiet (first | (go_at_call 15; with_reducible exact RefL.bes_q A k c ls (v : Int) (i : Int) true _ _ hrk HA.out))
              go_wp2
              go_roundw
              case rel => exact ⟨i + 1, x, by omega, by go_num, rfl, HN, hbi.trans (Below.drewN' _ _ _)⟩
              case measure => simp [intOf]; omega
            · have HA : Hid (Gr.adj ls (v : Int) (i : Int) = false) := by show Tr.ad ls v i = false; simpa using ha
              clear hiff ha hy hz f1 f2 f6 f7 HX
              go_wp2
              go_quiet (first | (go_at_call 15; with_reducible exact RefL.bes_q A k c ls (v : Int) (i : Int) false _ _ hrk HA.out))
              go_wp2
              go_roundw
              case rel => exact ⟨i + 1, x, by omega, by go_num, rfl, HN, hbi.trans (Below.drewN' _ _ _)⟩
              case measure => simp [intOf]; omega
        · obtain rfl : i = m := by omega
          have hxu : x = u := by rw [HX.out, if_pos hum]
          subst hxu
          have hbwi := hbw.trans (hbi.mono hsz)
          have hszi : s ≤ wr.heap.size := Nat.le_trans hsz hbi.size
          have howni := hown.below hbi
          clear HX hown hbi hbw
          go_wp2_with (at_builtin; refine wpList_app _ rfl (.tmp 50) (.tmp 52) 25 rfl s 3 Tryd.underlying25 intInfo _ _ rfl (howni.below ((Below.refl _ _).alloc (Nat.le_refl _) _)) (some ⟨wr.heap.size, 0, none⟩) 1 1 [(x : Int)] rfl (Rd.one _ _ _) hroom.out (by simp; omega) ?_; intro v1 w1 hown1 hg1 hat1)
          have hb1 := below_app (hbwi.alloc hszi _) (howni.below ((Below.refl _ _).alloc (Nat.le_refl _) _)) hg1 (by simp; omega)
          go_wp2
          go_roundw
          case rel => exact ⟨t + 1, x, by omega, rfl, HU, by rw [HSTEP.out]; exact hown1, hb1⟩
          case measure => simpa [intOf] using HMU.out

end Go.Proofs.YtojkjdccjomaaaaDoor.RefTr
