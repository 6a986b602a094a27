/-
  The contract of the reference's Trail: the first way that uses every line once, or that there is none.
-/
import Derived.Test.YtibphofiaodnmaaDoorRefE
import Derived.Test.YtibphofiaodnmaaDoorTrailE
namespace Go.Proofs.YtibphofiaodnmaaDoor
open Go.RowKit

set_option linter.unusedSimpArgs false
set_option linter.unusedVariables false

/-! ### its steps -/
namespace Tl
theorem best_none {m : Nat} {ls : List Gr.Ln} {v k : Nat} (h : oth (ls.getD k (0, 0)) v = none) : best m ls v (k + 1) = best m ls v k := by
  have : okAt m ls v k = none := by unfold okAt; rw [h]
  show (match okAt m ls v k with | some j => if j < (best m ls v k).2 then (some k, j) else best m ls v k | none => best m ls v k) = _
  rw [this]
theorem best_far {m : Nat} {ls : List Gr.Ln} {v k j : Nat} (h : oth (ls.getD k (0, 0)) v = some j) (hj : ¬ j < (best m ls v k).2) : best m ls v (k + 1) = best m ls v k := by
  show (match okAt m ls v k with | some j => if j < (best m ls v k).2 then (some k, j) else best m ls v k | none => best m ls v k) = _
  unfold okAt
  rw [h]
  by_cases hl : linedB m (ls.eraseIdx k) j = true
  · simp [hl, hj]
  · simp [hl]
theorem best_off {m : Nat} {ls : List Gr.Ln} {v k j : Nat} (h : oth (ls.getD k (0, 0)) v = some j) (hl : linedB m (ls.eraseIdx k) j = false) : best m ls v (k + 1) = best m ls v k := by
  show (match okAt m ls v k with | some j => if j < (best m ls v k).2 then (some k, j) else best m ls v k | none => best m ls v k) = _
  unfold okAt
  rw [h]
  simp [hl]
theorem best_take {m : Nat} {ls : List Gr.Ln} {v k j : Nat} (h : oth (ls.getD k (0, 0)) v = some j) (hj : j < (best m ls v k).2) (hl : linedB m (ls.eraseIdx k) j = true) : best m ls v (k + 1) = (some k, j) := by
  show (match okAt m ls v k with | some j => if j < (best m ls v k).2 then (some k, j) else best m ls v k | none => best m ls v k) = _
  unfold okAt
  rw [h]
  simp [hl, hj]
theorem best_le (m : Nat) (ls : List Gr.Ln) (v k : Nat) : (best m ls v k).2 ≤ m := by
  rcases best_spec m ls v k with ⟨h, _⟩ | ⟨i, j, _, h, _, hj, _⟩
  · rw [h]; exact Nat.le_refl _
  · rw [h]; exact Nat.le_of_lt hj
theorem oth_snd {x y v : Nat} (h : y = v) : oth ((x : Int), (y : Int)) v = some x := by
  unfold oth; simp [h]
theorem oth_fst {x y v : Nat} (h : x = v) (h' : y ≠ v) : oth ((x : Int), (y : Int)) v = some y := by
  unfold oth
  rw [if_neg (by simp only; omega), if_pos (by simp only; omega)]
  simp
theorem oth_not {x y v : Nat} (h : x ≠ v) (h' : y ≠ v) : oth ((x : Int), (y : Int)) v = none := by
  unfold oth
  rw [if_neg (by simp only; omega), if_neg (by simp only; omega)]
/-- the number of a line as the reference writes it: -1 is none -/
def encO : Option Nat → Int
  | none => -1
  | some k => (k : Int)
theorem goes_step {m : Nat} {lj : List Gr.Ln} {v i j : Nat} (hi : i < lj.length) (h : best m lj v lj.length = (some i, j)) : goes m lj.length lj v = v :: goes m (lj.eraseIdx i).length (lj.eraseIdx i) j := by
  obtain ⟨n, hn⟩ : ∃ n, lj.length = n + 1 := ⟨lj.length - 1, by omega⟩
  have hl : (lj.eraseIdx i).length = n := by rw [List.length_eraseIdx, if_pos hi]; omega
  rw [hl]
  rw [hn] at h
  conv => lhs; rw [hn]; unfold goes
  rw [hn, h]
  rfl
/-- where the reference is: the lines that are left, the point, what has been gone ahead of it -/
def TrI (m : Nat) (ls lj : List Gr.Ln) (v : Nat) (pre : List Nat) : Prop := Gr.code (m : Int) lj = 0 ∧ v < m ∧ Lined (nm lj) v ∧ (∃ t, Par (nm lj) v t) ∧ pre ++ goes m lj.length lj v = way m ls ∧ pre.length + lj.length = ls.length
theorem TrI.next {m : Nat} {ls lj : List Gr.Ln} {v : Nat} {pre : List Nat} (h : TrI m ls lj v pre) (h0 : 0 < lj.length) : ∃ k j, best m lj v lj.length = (some k, j) ∧ k < lj.length ∧ j < m ∧ TrI m ls (lj.eraseIdx k) j (pre ++ [v]) := by
  obtain ⟨h1, h2, h3, ⟨t, h4⟩, h5, h6⟩ := h
  obtain ⟨k, j, e, hk, hj, ho, hL, hP⟩ := (goes_first lj.length rfl h1 h2 h3 h4).2 h0
  refine ⟨k, j, e, hk, hj, code_erase h1 k, hj, hL, ⟨t, hP⟩, ?_, ?_⟩
  · rw [goes_step hk e] at h5
    rw [← h5]
    simp
  · rw [List.length_eraseIdx, if_pos hk]
    simp
    omega
theorem TrI.start {m : Nat} {ls : List Gr.Ln} (h : Gr.code (m : Int) ls = 0) (hc : canB m ls = true) : TrI m ls ls (Tl.start m ls) [] := by
  have hne : ls ≠ [] := fun e => by subst e; simp [canB] at hc
  unfold canB at hc
  simp only [Bool.and_eq_true, decide_eq_true_eq] at hc
  have hs := (start_touch h hne).1
  exact ⟨h, hs, (linedB_iff h hs).1 hc.2.2, ⟨_, par_start h hc.2.1⟩, rfl, by simp⟩
theorem least_start {m : Nat} {ls : List Gr.Ln} (h : Gr.code (m : Int) ls = 0) (hne : ls ≠ []) (he : ends m ls = []) : leastTo ls (m : Int) = ((Tl.start m ls : Nat) : Int) := by
  have e : Tl.start m ls = (leastTo ls (m : Int)).toNat := by unfold Tl.start; rw [he]
  rw [e]
  obtain ⟨h1, h2, h3⟩ := leastTo_le ls (m : Int)
  have h0 : 0 ≤ leastTo ls (m : Int) := by
    rcases h3 with h3 | ⟨p, hp, h3⟩
    · rw [h3]; exact Int.natCast_nonneg _
    · obtain ⟨g1, g2, g3, g4, g5⟩ := (Gr.code_zero.1 h).2.2.2 p hp
      rcases h3 with h3 | h3 <;> rw [h3] <;> assumption
  rw [Int.toNat_of_nonneg h0]
end Tl

/-- how long a slice is -/
def slen : Value → Nat
  | .slice _ n _ => n
  | _ => 0

namespace RefT
/-- what Trail hands back -/
def TrPost (m : Nat) (ls : List Gr.Ln) (w : World) (e : Ending) (w' : World) : Prop :=
  Below w.heap.size w w' ∧ ((Tl.canB m ls = false ∧ e = .returned (.tuple #[.slice none 0 0, .bool false])) ∨
    (Tl.canB m ls = true ∧ ∃ v, e = .returned (.tuple #[v, .bool true]) ∧ Own w' w.heap.size 3 v (upL (Tl.way m ls))))

set_option maxRecDepth 100000 in
set_option maxHeartbeats 4000000 in
theorem Trail_any (m : Nat) (A : Option Addr) (n c : Nat) (ls : List Gr.Ln) (w : World) (hr : RdP w w.heap.size A n c ls) (h : Gr.code (m : Int) ls = 0) :
    Calls Tryd.prog 12 #[.int .i64 (m : Int), .slice A n c] w (TrPost m ls w) := by
  unfold TrPost
  have hm8 : m ≤ 8 := by have := (Gr.code_zero.1 h).2.1; omega
  have hn24 : n ≤ 24 := by have := (Gr.code_zero.1 h).2.2.1; have := hr.len; omega
  have H := Lib.hid h
  have HX := Lib.hid hr.len
  clear h
  go_enter Tryd.func12, Tryd.ntmps12
  go_wp2_with fail
  refine (RefT.Ends_any m A n c ls _ hr hm8 hn24).mono ?_
  rintro e w1 ⟨v1, rfl, ho1, hb1⟩
  obtain ⟨E, ce, rfl, he⟩ := ho1.rd
  obtain ⟨ne, hne'⟩ : ∃ ne, ne = (upL (Tl.ends m ls)).length := ⟨_, rfl⟩
  rw [← hne'] at he ⊢
  have HNE : Hid (ne = (Tl.ends m ls).length) := by show _ = _; rw [hne', upL_len]
  have hne8 : ne ≤ 8 := by have h1 := HNE.out; have h2 : (Tl.ends m ls).length ≤ m := Tl.endsTo_len ls m; omega
  have hr1 := hr.past hb1
  clear hne' ho1
  by_cases h0 : n = 0
  · have hc : Hid (Tl.canB m ls = false) := Tl.way_none H.out fun hne => absurd (List.eq_nil_of_length_eq_zero (by rw [HX.out]; exact h0)) hne
    have d0 : ((n : Int) == 0) = true := by simp; exact h0
    have d1 : (n == 0) = true := by simp; exact h0
    have d2 : decide (n = 0) = true := by simp; exact h0
    have HH0 := Lib.hid h0
    clear h0
    go_wp2
    go_ret2
    exact ⟨hb1, .inl ⟨hc.out, rfl⟩⟩
  · have d0 : ((n : Int) == 0) = false := by simp; omega
    have d1 : (n == 0) = false := by simp; omega
    have d2 : decide (n = 0) = false := by simp; omega
    have hpos : 0 < n := by omega
    have hne : Hid (ls ≠ []) := fun e => h0 (by rw [← HX.out, e]; rfl)
    clear h0
    by_cases h2 : 2 < ne
    · have hc : Hid (Tl.canB m ls = false) := by
        show _ = _
        have : decide ((Tl.ends m ls).length ≤ 2) = false := by rw [← HNE.out]; simp; omega
        unfold Tl.canB
        rw [this]
        simp
      have e1 : (2 : Int) < (ne : Int) := by omega
      go_wp2
      go_ret2
      exact ⟨hb1, .inl ⟨hc.out, rfl⟩⟩
    · have e1 : ¬ (2 : Int) < (ne : Int) := by omega
      have e2 : decide ((2 : Int) < (ne : Int)) = false := by simp; omega
      have e3 : decide (2 < ne) = false := by simp; omega
      have hcan : Hid (Tl.canB m ls = Tl.linedB m ls (Tl.start m ls)) := by
        show _ = _
        have h1 : decide ((Tl.ends m ls).length ≤ 2) = true := by rw [← HNE.out]; simp; omega
        have h2 : ls.isEmpty = false := by
          cases hls : ls with
          | nil => exact absurd hls hne.out
          | cons a l => rfl
        unfold Tl.canB
        rw [h1, h2]
        simp
      have hsm : Hid (Tl.start m ls < m) := (Tl.start_touch H.out hne.out).1
      have HTS : Hid (Tl.canB m ls = true → Tl.TrI m ls ls (Tl.start m ls) []) := fun hc => Tl.TrI.start H.out hc
      have HZ : Hid (ne = 0 → Tl.leastTo ls (m : Int) = ((Tl.start m ls : Nat) : Int)) := fun h0 => Tl.least_start H.out hne.out (List.eq_nil_of_length_eq_zero (by rw [← HNE.out]; exact h0))
      have HP : Hid (0 < ne → (upL (Tl.ends m ls)).getD 0 0 = ((Tl.start m ls : Nat) : Int)) := fun h0 => by
        have hl := HNE.out
        unfold Tl.start
        match hm : Tl.ends m ls with
        | [] => rw [hm] at hl; simp at hl; omega
        | a :: r => simp [upL]
      obtain ⟨v0, hv0⟩ : ∃ v0, v0 = Tl.start m ls := ⟨_, rfl⟩
      rw [← hv0] at hcan hsm HTS HZ HP
      clear hv0 h2
      go_wp2
      go_loop [7, 8] (fun xv iv => ∃ (j : Nat) (x : Int), j ≤ n ∧ iv = .int .i64 (j : Int) ∧ xv = .int .i64 x ∧ Hid (x = Tl.leastTo (ls.take j) (m : Int))) (fun _ iv => n - (intOf iv).toNat)
      case atStart => exact ⟨0, _, Nat.zero_le _, rfl, rfl, rfl⟩
      case round =>
        obtain ⟨j, x, hjn, rfl, rfl, HXJ⟩ := hrel
        by_cases hlt : j < n
        · obtain ⟨b2, o2, rfl, hb2, hcc⟩ := hr1.at_ (by omega)
          obtain ⟨q1, q2⟩ := hcc j hlt
          clear hcc
          have hnx := leastTo_step ls (m : Int) (show j < ls.length by rw [HX.out]; exact hlt)
          obtain ⟨⟨p, q⟩, hp⟩ : ∃ p, p = ls.getD j (0, 0) := ⟨_, rfl⟩
          rw [← hp] at q1 q2 hnx
          rw [← HXJ.out] at hnx
          simp only at q1 q2 hnx
          have HN := Lib.hid hnx.symm
          clear hp hnx
          have k1 : (0 : Int) ≤ (j : Int) := by omega
          have k2 : (j : Int) < (n : Int) := by omega
          by_cases h1 : p < x
          · by_cases h2 : q < p
            · have HN2 : Hid (q = Tl.leastTo (ls.take (j + 1)) (m : Int)) := by show _ = _; rw [← HN.out]; omega
              go_wp2
              go_round
              case rel => exact ⟨j + 1, _, by omega, by go_num, rfl, HN2⟩
              case measure => simp [intOf]; omega
            · have HN2 : Hid (p = Tl.leastTo (ls.take (j + 1)) (m : Int)) := by show _ = _; rw [← HN.out]; omega
              have u1 : decide (q < p) = false := by simp; omega
              go_wp2
              go_round
              case rel => exact ⟨j + 1, _, by omega, by go_num, rfl, HN2⟩
              case measure => simp [intOf]; omega
          · have u0 : decide (p < x) = false := by simp; omega
            by_cases h2 : q < x
            · have HN2 : Hid (q = Tl.leastTo (ls.take (j + 1)) (m : Int)) := by show _ = _; rw [← HN.out]; omega
              go_wp2
              go_round
              case rel => exact ⟨j + 1, _, by omega, by go_num, rfl, HN2⟩
              case measure => simp [intOf]; omega
            · have HN2 : Hid (x = Tl.leastTo (ls.take (j + 1)) (m : Int)) := by show _ = _; rw [← HN.out]; omega
              have u1 : decide (q < x) = false := by simp; omega
              go_wp2
              go_round
              case rel => exact ⟨j + 1, _, by omega, by go_num, rfl, HN2⟩
              case measure => simp [intOf]; omega
        · have hjn2 : n ≤ j := by omega
          have HXE : Hid (x = Tl.leastTo ls (m : Int)) := by show _ = _; rw [HXJ.out, List.take_of_length_le (by rw [HX.out]; exact hjn2)]
          have dj1 : decide ((j : Int) < (n : Int)) = false := by simp; omega
          have dj2 : decide (j < n) = false := by simp; omega
          clear hlt hjn hjn2
          by_cases hne0 : 0 < ne
          · obtain ⟨b1, o1, rfl, hbb, hcc⟩ := he.at_ hne0
            have g1 := hcc 0 hne0
            rw [HP.out hne0, Nat.add_zero] at g1
            have k1 : (0 : Int) < (ne : Int) := by omega
            clear hcc
            go_wp2_with fail
            refine (RefT.lined_ref m v0 A n c ls _ hr1 H.out hsm.out).mono ?_
            rintro e w2 ⟨t, rfl, ht, hb2⟩
            have hb02 := hb1.trans (hb2.mono hb1.size)
            cases t with
            | false =>
              have hc : Hid (Tl.canB m ls = false) := by show _ = _; rw [hcan.out, ← ht.out]
              go_wp2
              go_ret2
              exact ⟨hb02, .inl ⟨hc.out, rfl⟩⟩
            | true =>
              have hc : Hid (Tl.canB m ls = true) := by show _ = _; rw [hcan.out, ← ht.out]
              have HT0 := Lib.hid (HTS.out hc.out)
              have hown2 := Own.one w2 w.heap.size 3 (v0 : Int) hb02.size
              have hb03 := hb02.alloc hb02.size (.cells #[.int .i64 (v0 : Int)] 3)
              have hr03 := hr.below hb03
              clear hr1 he hb1 hb2 ht hb02
              go_wp2
              go_loopw [1, 7, 9] (fun lv av ov wr => ∃ (lj : List Gr.Ln) (v : Nat) (pre : List Nat), av = .int .i64 (v : Int) ∧ Lf w.heap.size wr lv lj ∧ Own wr w.heap.size 3 ov (upL (pre ++ [v])) ∧ Hid (Tl.TrI m ls lj v pre) ∧ Below w.heap.size w wr) (fun lv _ _ _ => slen lv)
              case atStart => exact ⟨ls, v0, [], rfl, .inl ⟨A, n, c, rfl, hr03⟩, hown2, HT0, hb03⟩
              case round =>
                clear hown2 hb03 hr03 HT0
                obtain ⟨lj, v, pre, rfl, hLf, hown, HT, hbel⟩ := hrel
                have hsz := hbel.size
                obtain ⟨A1, n1, c1, rfl, hr3⟩ := hLf.rd hsz
                have HN1 := Lib.hid hr3.len
                have hn1 : n1 ≤ 24 := by have h1 := (Gr.code_zero.1 HT.out.1).2.2.1; have h2 := HN1.out; omega
                have HRM : Hid ((upL (pre ++ [v])).length ≤ 25) := by show _ ≤ _; rw [upL_len, List.length_append]; have h1 := HT.out.2.2.2.2.2; have h2 := HX.out; simp; omega
                clear hLf
                by_cases hp1 : 0 < n1
                · obtain ⟨kk, jj, hbest, hkk, hjj, hT'⟩ := HT.out.next (by rw [HN1.out]; exact hp1)
                  rw [HN1.out] at hbest hkk
                  have HBE := Lib.hid hbest
                  have HKK := Lib.hid hkk
                  have HJJ := Lib.hid hjj
                  have HT2 := Lib.hid hT'
                  have kp : (0 : Int) < (n1 : Int) := by omega
                  have kv : Hid (v < m) := HT.out.2.1
                  obtain ⟨W, hW⟩ : ∃ W, W = wr := ⟨_, rfl⟩
                  subst hW
                  obtain ⟨b1, o1, rfl, hbb, hcc⟩ := hr3.at_ hp1
                  have HCC := Lib.hid hcc
                  clear hcc hbest hkk hjj hT'
                  go_wp2
                  go_loopw [10, 11, 12] (fun bv tv iv wx => ∃ i : Nat, i ≤ n1 ∧ iv = .int .i64 (i : Int) ∧ bv = .int .i64 (Tl.encO (Tl.best m lj v i).1) ∧ tv = .int .i64 (((Tl.best m lj v i).2 : Nat) : Int) ∧ Below W.heap.size W wx) (fun _ _ iv _ => n1 - (intOf iv).toNat)
                  case atStart => exact ⟨0, Nat.zero_le _, rfl, rfl, rfl, Below.refl _ _⟩
                  case round =>
                    obtain ⟨i, hin, rfl, hbv, htv, hbi⟩ := hrel
                    by_cases hli : i < n1
                    · obtain ⟨p, q, hpq, hpm, hqm, hpqn⟩ := Tl.line_of HT.out.1 (i := i) (by rw [HN1.out]; exact hli)
                      obtain ⟨x1, x2⟩ := HCC.out i hli
                      have g1 := (hbi.cell (p := ⟨b1, o1 + i * 2, none⟩) hbb).trans x1
                      have g2 := (hbi.cell (p := ⟨b1, o1 + i * 2 + 1, none⟩) hbb).trans x2
                      rw [hpq] at g1 g2
                      simp only at g1 g2
                      have HPQ := Lib.hid hpq
                      have HPM := Lib.hid hpm
                      have HQM := Lib.hid hqm
                      obtain ⟨T, hTT⟩ : ∃ T, T = (Tl.best m lj v i).2 := ⟨_, rfl⟩
                      obtain ⟨Bo, hBO⟩ : ∃ Bo, Bo = Tl.encO (Tl.best m lj v i).1 := ⟨_, rfl⟩
                      have hTm : T ≤ m := by rw [hTT]; exact Tl.best_le m lj v i
                      rw [← hTT] at htv
                      rw [← hBO] at hbv
                      subst hbv htv
                      have HTT := Lib.hid hTT
                      have HBO := Lib.hid hBO
                      have k1 : (0 : Int) ≤ (i : Int) := by omega
                      have k2 : (i : Int) < (n1 : Int) := by omega
                      clear hTT hBO hpq x1 x2 hpm hqm
                      have key : q = v ∨ (q ≠ v ∧ p = v) ∨ (q ≠ v ∧ p ≠ v) := by omega
                      rcases key with hqv | ⟨hqv, hpv⟩ | ⟨hqv, hpv⟩
                      · have HOT : Hid (Tl.oth (lj.getD i (0, 0)) v = some p) := by show _ = _; rw [HPQ.out]; exact Tl.oth_snd hqv
                        have pc1 : ((p : Int) == (v : Int)) = false := by simp; omega
                        have pc2 : (p == v) = false := by simp; omega
                        have pc3 : decide (p = v) = false := by simp; omega
                        have qd1 : ((q : Int) == (v : Int)) = true := by simp; omega
                        have qd2 : (q == v) = true := by simp; omega
                        have qd3 : decide (q = v) = true := by simp; omega
                        clear hqv hpqn
                        by_cases hjT : p < T
                        · have t1 : (0 : Int) ≤ (p : Int) := by omega
                          have t2 : (p : Int) < (T : Int) := by omega
                          go_wp2_with fail
                          refine (But_any _ n1 c1 i lj _ (hr3.past hbi) (by omega)).mono ?_
                          rintro e y1 ⟨v5, rfl, ho5, hb5⟩
                          obtain ⟨A5, c5, rfl, hr5⟩ := ho5.rd
                          obtain ⟨n5, hn5⟩ : ∃ n5, n5 = (lj.eraseIdx i).length := ⟨_, rfl⟩
                          rw [← hn5] at hr5 ⊢
                          clear hn5 ho5
                          go_wp2_with fail
                          refine (RefT.lined_ref m p A5 n5 c5 (lj.eraseIdx i) _ hr5 (Tl.code_erase HT.out.1 i) HPM.out).mono ?_
                          rintro e y2 ⟨t5, rfl, ht5, hb6⟩
                          have hbi2 := hbi.trans ((hb5.trans (hb6.mono hb5.size)).mono hbi.size)
                          cases t5 with
                          | true =>
                            have HBN := Lib.hid (Tl.best_take (m := m) HOT.out (by rw [← HTT.out]; exact hjT) ht5.out.symm)
                            go_wp2
                            go_roundw
                            case rel => exact ⟨i + 1, by omega, by go_num, by rw [HBN.out]; rfl, by rw [HBN.out], hbi2⟩
                            case measure => simp [intOf]; omega
                          | false =>
                            have HBN := Lib.hid (Tl.best_off (m := m) HOT.out ht5.out.symm)
                            go_wp2
                            go_roundw
                            case rel => exact ⟨i + 1, by omega, by go_num, by rw [HBN.out, HBO.out], by rw [HBN.out, HTT.out], hbi2⟩
                            case measure => simp [intOf]; omega
                        · have t1 : (0 : Int) ≤ (p : Int) := by omega
                          have t2 : decide ((p : Int) < (T : Int)) = false := by simp; omega
                          have t3 : decide (p < T) = false := by simp; omega
                          have HBN := Lib.hid (Tl.best_far (m := m) HOT.out (by rw [← HTT.out]; exact hjT))
                          go_wp2
                          go_roundw
                          case rel => exact ⟨i + 1, by omega, by go_num, by rw [HBN.out, HBO.out], by rw [HBN.out, HTT.out], hbi⟩
                          case measure => simp [intOf]; omega
                      · have HOT : Hid (Tl.oth (lj.getD i (0, 0)) v = some q) := by show _ = _; rw [HPQ.out]; exact Tl.oth_fst hpv hqv
                        have pc1 : ((p : Int) == (v : Int)) = true := by simp; omega
                        have pc2 : (p == v) = true := by simp; omega
                        have pc3 : decide (p = v) = true := by simp; omega
                        have qd1 : ((q : Int) == (v : Int)) = false := by simp; omega
                        have qd2 : (q == v) = false := by simp; omega
                        have qd3 : decide (q = v) = false := by simp; omega
                        clear hqv hpv hpqn
                        by_cases hjT : q < T
                        · have t1 : (0 : Int) ≤ (q : Int) := by omega
                          have t2 : (q : Int) < (T : Int) := by omega
                          go_wp2_with fail
                          refine (But_any _ n1 c1 i lj _ (hr3.past hbi) (by omega)).mono ?_
                          rintro e y1 ⟨v5, rfl, ho5, hb5⟩
                          obtain ⟨A5, c5, rfl, hr5⟩ := ho5.rd
                          obtain ⟨n5, hn5⟩ : ∃ n5, n5 = (lj.eraseIdx i).length := ⟨_, rfl⟩
                          rw [← hn5] at hr5 ⊢
                          clear hn5 ho5
                          go_wp2_with fail
                          refine (RefT.lined_ref m q A5 n5 c5 (lj.eraseIdx i) _ hr5 (Tl.code_erase HT.out.1 i) HQM.out).mono ?_
                          rintro e y2 ⟨t5, rfl, ht5, hb6⟩
                          have hbi2 := hbi.trans ((hb5.trans (hb6.mono hb5.size)).mono hbi.size)
                          cases t5 with
                          | true =>
                            have HBN := Lib.hid (Tl.best_take (m := m) HOT.out (by rw [← HTT.out]; exact hjT) ht5.out.symm)
                            go_wp2
                            go_roundw
                            case rel => exact ⟨i + 1, by omega, by go_num, by rw [HBN.out]; rfl, by rw [HBN.out], hbi2⟩
                            case measure => simp [intOf]; omega
                          | false =>
                            have HBN := Lib.hid (Tl.best_off (m := m) HOT.out ht5.out.symm)
                            go_wp2
                            go_roundw
                            case rel => exact ⟨i + 1, by omega, by go_num, by rw [HBN.out, HBO.out], by rw [HBN.out, HTT.out], hbi2⟩
                            case measure => simp [intOf]; omega
                        · have t1 : (0 : Int) ≤ (q : Int) := by omega
                          have t2 : decide ((q : Int) < (T : Int)) = false := by simp; omega
                          have t3 : decide (q < T) = false := by simp; omega
                          have HBN := Lib.hid (Tl.best_far (m := m) HOT.out (by rw [← HTT.out]; exact hjT))
                          go_wp2
                          go_roundw
                          case rel => exact ⟨i + 1, by omega, by go_num, by rw [HBN.out, HBO.out], by rw [HBN.out, HTT.out], hbi⟩
                          case measure => simp [intOf]; omega
                      · have HOT : Hid (Tl.oth (lj.getD i (0, 0)) v = none) := by show _ = _; rw [HPQ.out]; exact Tl.oth_not hpv hqv
                        have pc1 : ((p : Int) == (v : Int)) = false := by simp; omega
                        have pc2 : (p == v) = false := by simp; omega
                        have pc3 : decide (p = v) = false := by simp; omega
                        have qd1 : ((q : Int) == (v : Int)) = false := by simp; omega
                        have qd2 : (q == v) = false := by simp; omega
                        have qd3 : decide (q = v) = false := by simp; omega
                        have HBN := Lib.hid (Tl.best_none (m := m) HOT.out)
                        clear hqv hpv hpqn
                        go_wp2
                        go_roundw
                        case rel => exact ⟨i + 1, by omega, by go_num, by rw [HBN.out, HBO.out], by rw [HBN.out, HTT.out], hbi⟩
                        case measure => simp [intOf]; omega
                    · have hie : i = n1 := by omega
                      rw [hie, HBE.out] at hbv htv
                      have hbv2 : u10 = .int .i64 (kk : Int) := hbv
                      have htv2 : u11 = .int .i64 (jj : Int) := htv
                      clear hbv htv
                      subst hbv2 htv2
                      have HIE := Lib.hid hie
                      have di1 : decide ((i : Int) < (n1 : Int)) = false := by simp; omega
                      have di2 : decide (i < n1) = false := by simp; omega
                      clear hie hli hin
                      go_wp2_with fail
                      refine (But_any _ n1 c1 kk lj _ (hr3.past hbi) (by omega)).mono ?_
                      rintro e y1 ⟨v5, rfl, ho5, hb5⟩
                      have hbi2 := hbi.trans (hb5.mono hbi.size)
                      have hown5 := hown.below hbi2
                      have hbel5 := hbel.trans (hbi2.mono hsz)
                      have hs5 := hbel5.size
                      have ho5' := ho5.mono (Nat.le_trans hsz hbi.size)
                      obtain ⟨A5, c5, rfl, hr5⟩ := ho5.rd
                      obtain ⟨n5, hn5⟩ : ∃ n5, n5 = (lj.eraseIdx kk).length := ⟨_, rfl⟩
                      have hn5l : n5 < n1 := by rw [hn5, List.length_eraseIdx, HN1.out, if_pos HKK.out]; exact Nat.sub_lt hp1 Nat.one_pos
                      rw [← hn5] at hr5 ho5' ⊢
                      have hal := (Below.refl y1.heap.size y1).alloc (Nat.le_refl _) (.cells #[.int .i64 (jj : Int)] 3)
                      have hown6 := hown5.below hal
                      have ho6 := ho5'.below hal
                      have hb6 := hbel5.alloc hs5 (.cells #[.int .i64 (jj : Int)] 3)
                      have hroom := HRM.out
                      clear hn5 ho5 ho5' hr5 hown5 hal hbi hbi2 hb5 hr3
                      go_wp2_with (at_builtin; refine wpList_app _ rfl (.tmp 124) (.tmp 126) _ rfl w.heap.size 3 Tryd.underlying24 intInfo _ _ rfl hown6 _ 1 1 [(jj : Int)] rfl (Rd.one _ _ _) (by omega) (by simp; omega) ?_; intro v7 w7 hown7 hg7 hat7)
                      have hb7 := below_app hb6 hown6 hg7 (by simp; omega)
                      have ho7 : OwnP w7 w.heap.size 37 (.slice A5 n5 c5) (lj.eraseIdx kk) := ho6.grown hg7 (fun k hk e => own_ne (by decide) ho6 hown6 k hk e)
                      go_wp2
                      go_roundw
                      case rel => exact ⟨lj.eraseIdx kk, jj, pre ++ [v], rfl, .inr ho7, by rw [upL_snoc]; exact hown7, HT2, hb7⟩
                      case measure => exact hn5l
                · obtain rfl : n1 = 0 := by omega
                  have hfin : Hid (pre ++ [v] = Tl.way m ls) := by
                    show _ = _
                    have h1 := HT.out.2.2.2.2.1
                    rw [HN1.out] at h1
                    exact h1
                  have HO := Lib.hid hown
                  clear hown
                  go_wp2
                  go_ret2
                  exact ⟨hbel, .inr ⟨hc.out, _, rfl, by rw [← hfin.out]; exact HO.out⟩⟩
          · obtain rfl : ne = 0 := by omega
            obtain rfl : x = (v0 : Int) := by rw [HXE.out]; exact HZ.out rfl
            go_wp2_with fail
            refine (RefT.lined_ref m v0 A n c ls _ hr1 H.out hsm.out).mono ?_
            rintro e w2 ⟨t, rfl, ht, hb2⟩
            have hb02 := hb1.trans (hb2.mono hb1.size)
            cases t with
            | false =>
              have hc : Hid (Tl.canB m ls = false) := by show _ = _; rw [hcan.out, ← ht.out]
              go_wp2
              go_ret2
              exact ⟨hb02, .inl ⟨hc.out, rfl⟩⟩
            | true =>
              have hc : Hid (Tl.canB m ls = true) := by show _ = _; rw [hcan.out, ← ht.out]
              have HT0 := Lib.hid (HTS.out hc.out)
              have hown2 := Own.one w2 w.heap.size 3 (v0 : Int) hb02.size
              have hb03 := hb02.alloc hb02.size (.cells #[.int .i64 (v0 : Int)] 3)
              have hr03 := hr.below hb03
              clear hr1 he hb1 hb2 ht hb02
              go_wp2
              go_loopw [1, 7, 9] (fun lv av ov wr => ∃ (lj : List Gr.Ln) (v : Nat) (pre : List Nat), av = .int .i64 (v : Int) ∧ Lf w.heap.size wr lv lj ∧ Own wr w.heap.size 3 ov (upL (pre ++ [v])) ∧ Hid (Tl.TrI m ls lj v pre) ∧ Below w.heap.size w wr) (fun lv _ _ _ => slen lv)
              case atStart => exact ⟨ls, v0, [], rfl, .inl ⟨A, n, c, rfl, hr03⟩, hown2, HT0, hb03⟩
              case round =>
                clear hown2 hb03 hr03 HT0
                obtain ⟨lj, v, pre, rfl, hLf, hown, HT, hbel⟩ := hrel
                have hsz := hbel.size
                obtain ⟨A1, n1, c1, rfl, hr3⟩ := hLf.rd hsz
                have HN1 := Lib.hid hr3.len
                have hn1 : n1 ≤ 24 := by have h1 := (Gr.code_zero.1 HT.out.1).2.2.1; have h2 := HN1.out; omega
                have HRM : Hid ((upL (pre ++ [v])).length ≤ 25) := by show _ ≤ _; rw [upL_len, List.length_append]; have h1 := HT.out.2.2.2.2.2; have h2 := HX.out; simp; omega
                clear hLf
                by_cases hp1 : 0 < n1
                · obtain ⟨kk, jj, hbest, hkk, hjj, hT'⟩ := HT.out.next (by rw [HN1.out]; exact hp1)
                  rw [HN1.out] at hbest hkk
                  have HBE := Lib.hid hbest
                  have HKK := Lib.hid hkk
                  have HJJ := Lib.hid hjj
                  have HT2 := Lib.hid hT'
                  have kp : (0 : Int) < (n1 : Int) := by omega
                  have kv : Hid (v < m) := HT.out.2.1
                  obtain ⟨W, hW⟩ : ∃ W, W = wr := ⟨_, rfl⟩
                  subst hW
                  obtain ⟨b1, o1, rfl, hbb, hcc⟩ := hr3.at_ hp1
                  have HCC := Lib.hid hcc
                  clear hcc hbest hkk hjj hT'
                  go_wp2
                  go_loopw [10, 11, 12] (fun bv tv iv wx => ∃ i : Nat, i ≤ n1 ∧ iv = .int .i64 (i : Int) ∧ bv = .int .i64 (Tl.encO (Tl.best m lj v i).1) ∧ tv = .int .i64 (((Tl.best m lj v i).2 : Nat) : Int) ∧ Below W.heap.size W wx) (fun _ _ iv _ => n1 - (intOf iv).toNat)
                  case atStart => exact ⟨0, Nat.zero_le _, rfl, rfl, rfl, Below.refl _ _⟩
                  case round =>
                    obtain ⟨i, hin, rfl, hbv, htv, hbi⟩ := hrel
                    by_cases hli : i < n1
                    · obtain ⟨p, q, hpq, hpm, hqm, hpqn⟩ := Tl.line_of HT.out.1 (i := i) (by rw [HN1.out]; exact hli)
                      obtain ⟨x1, x2⟩ := HCC.out i hli
                      have g1 := (hbi.cell (p := ⟨b1, o1 + i * 2, none⟩) hbb).trans x1
                      have g2 := (hbi.cell (p := ⟨b1, o1 + i * 2 + 1, none⟩) hbb).trans x2
                      rw [hpq] at g1 g2
                      simp only at g1 g2
                      have HPQ := Lib.hid hpq
                      have HPM := Lib.hid hpm
                      have HQM := Lib.hid hqm
                      obtain ⟨T, hTT⟩ : ∃ T, T = (Tl.best m lj v i).2 := ⟨_, rfl⟩
                      obtain ⟨Bo, hBO⟩ : ∃ Bo, Bo = Tl.encO (Tl.best m lj v i).1 := ⟨_, rfl⟩
                      have hTm : T ≤ m := by rw [hTT]; exact Tl.best_le m lj v i
                      rw [← hTT] at htv
                      rw [← hBO] at hbv
                      subst hbv htv
                      have HTT := Lib.hid hTT
                      have HBO := Lib.hid hBO
                      have k1 : (0 : Int) ≤ (i : Int) := by omega
                      have k2 : (i : Int) < (n1 : Int) := by omega
                      clear hTT hBO hpq x1 x2 hpm hqm
                      have key : q = v ∨ (q ≠ v ∧ p = v) ∨ (q ≠ v ∧ p ≠ v) := by omega
                      rcases key with hqv | ⟨hqv, hpv⟩ | ⟨hqv, hpv⟩
                      · have HOT : Hid (Tl.oth (lj.getD i (0, 0)) v = some p) := by show _ = _; rw [HPQ.out]; exact Tl.oth_snd hqv
                        have pc1 : ((p : Int) == (v : Int)) = false := by simp; omega
                        have pc2 : (p == v) = false := by simp; omega
                        have pc3 : decide (p = v) = false := by simp; omega
                        have qd1 : ((q : Int) == (v : Int)) = true := by simp; omega
                        have qd2 : (q == v) = true := by simp; omega
                        have qd3 : decide (q = v) = true := by simp; omega
                        clear hqv hpqn
                        by_cases hjT : p < T
                        · have t1 : (0 : Int) ≤ (p : Int) := by omega
                          have t2 : (p : Int) < (T : Int) := by omega
                          go_wp2_with fail
                          refine (But_any _ n1 c1 i lj _ (hr3.past hbi) (by omega)).mono ?_
                          rintro e y1 ⟨v5, rfl, ho5, hb5⟩
                          obtain ⟨A5, c5, rfl, hr5⟩ := ho5.rd
                          obtain ⟨n5, hn5⟩ : ∃ n5, n5 = (lj.eraseIdx i).length := ⟨_, rfl⟩
                          rw [← hn5] at hr5 ⊢
                          clear hn5 ho5
                          go_wp2_with fail
                          refine (RefT.lined_ref m p A5 n5 c5 (lj.eraseIdx i) _ hr5 (Tl.code_erase HT.out.1 i) HPM.out).mono ?_
                          rintro e y2 ⟨t5, rfl, ht5, hb6⟩
                          have hbi2 := hbi.trans ((hb5.trans (hb6.mono hb5.size)).mono hbi.size)
                          cases t5 with
                          | true =>
                            have HBN := Lib.hid (Tl.best_take (m := m) HOT.out (by rw [← HTT.out]; exact hjT) ht5.out.symm)
                            go_wp2
                            go_roundw
                            case rel => exact ⟨i + 1, by omega, by go_num, by rw [HBN.out]; rfl, by rw [HBN.out], hbi2⟩
                            case measure => simp [intOf]; omega
                          | false =>
                            have HBN := Lib.hid (Tl.best_off (m := m) HOT.out ht5.out.symm)
                            go_wp2
                            go_roundw
                            case rel => exact ⟨i + 1, by omega, by go_num, by rw [HBN.out, HBO.out], by rw [HBN.out, HTT.out], hbi2⟩
                            case measure => simp [intOf]; omega
                        · have t1 : (0 : Int) ≤ (p : Int) := by omega
                          have t2 : decide ((p : Int) < (T : Int)) = false := by simp; omega
                          have t3 : decide (p < T) = false := by simp; omega
                          have HBN := Lib.hid (Tl.best_far (m := m) HOT.out (by rw [← HTT.out]; exact hjT))
                          go_wp2
                          go_roundw
                          case rel => exact ⟨i + 1, by omega, by go_num, by rw [HBN.out, HBO.out], by rw [HBN.out, HTT.out], hbi⟩
                          case measure => simp [intOf]; omega
                      · have HOT : Hid (Tl.oth (lj.getD i (0, 0)) v = some q) := by show _ = _; rw [HPQ.out]; exact Tl.oth_fst hpv hqv
                        have pc1 : ((p : Int) == (v : Int)) = true := by simp; omega
                        have pc2 : (p == v) = true := by simp; omega
                        have pc3 : decide (p = v) = true := by simp; omega
                        have qd1 : ((q : Int) == (v : Int)) = false := by simp; omega
                        have qd2 : (q == v) = false := by simp; omega
                        have qd3 : decide (q = v) = false := by simp; omega
                        clear hqv hpv hpqn
                        by_cases hjT : q < T
                        · have t1 : (0 : Int) ≤ (q : Int) := by omega
                          have t2 : (q : Int) < (T : Int) := by omega
                          go_wp2_with fail
                          refine (But_any _ n1 c1 i lj _ (hr3.past hbi) (by omega)).mono ?_
                          rintro e y1 ⟨v5, rfl, ho5, hb5⟩
                          obtain ⟨A5, c5, rfl, hr5⟩ := ho5.rd
                          obtain ⟨n5, hn5⟩ : ∃ n5, n5 = (lj.eraseIdx i).length := ⟨_, rfl⟩
                          rw [← hn5] at hr5 ⊢
                          clear hn5 ho5
                          go_wp2_with fail
                          refine (RefT.lined_ref m q A5 n5 c5 (lj.eraseIdx i) _ hr5 (Tl.code_erase HT.out.1 i) HQM.out).mono ?_
                          rintro e y2 ⟨t5, rfl, ht5, hb6⟩
                          have hbi2 := hbi.trans ((hb5.trans (hb6.mono hb5.size)).mono hbi.size)
                          cases t5 with
                          | true =>
                            have HBN := Lib.hid (Tl.best_take (m := m) HOT.out (by rw [← HTT.out]; exact hjT) ht5.out.symm)
                            go_wp2
                            go_roundw
                            case rel => exact ⟨i + 1, by omega, by go_num, by rw [HBN.out]; rfl, by rw [HBN.out], hbi2⟩
                            case measure => simp [intOf]; omega
                          | false =>
                            have HBN := Lib.hid (Tl.best_off (m := m) HOT.out ht5.out.symm)
                            go_wp2
                            go_roundw
                            case rel => exact ⟨i + 1, by omega, by go_num, by rw [HBN.out, HBO.out], by rw [HBN.out, HTT.out], hbi2⟩
                            case measure => simp [intOf]; omega
                        · have t1 : (0 : Int) ≤ (q : Int) := by omega
                          have t2 : decide ((q : Int) < (T : Int)) = false := by simp; omega
                          have t3 : decide (q < T) = false := by simp; omega
                          have HBN := Lib.hid (Tl.best_far (m := m) HOT.out (by rw [← HTT.out]; exact hjT))
                          go_wp2
                          go_roundw
                          case rel => exact ⟨i + 1, by omega, by go_num, by rw [HBN.out, HBO.out], by rw [HBN.out, HTT.out], hbi⟩
                          case measure => simp [intOf]; omega
                      · have HOT : Hid (Tl.oth (lj.getD i (0, 0)) v = none) := by show _ = _; rw [HPQ.out]; exact Tl.oth_not hpv hqv
                        have pc1 : ((p : Int) == (v : Int)) = false := by simp; omega
                        have pc2 : (p == v) = false := by simp; omega
                        have pc3 : decide (p = v) = false := by simp; omega
                        have qd1 : ((q : Int) == (v : Int)) = false := by simp; omega
                        have qd2 : (q == v) = false := by simp; omega
                        have qd3 : decide (q = v) = false := by simp; omega
                        have HBN := Lib.hid (Tl.best_none (m := m) HOT.out)
                        clear hqv hpv hpqn
                        go_wp2
                        go_roundw
                        case rel => exact ⟨i + 1, by omega, by go_num, by rw [HBN.out, HBO.out], by rw [HBN.out, HTT.out], hbi⟩
                        case measure => simp [intOf]; omega
                    · have hie : i = n1 := by omega
                      rw [hie, HBE.out] at hbv htv
                      have hbv2 : u10 = .int .i64 (kk : Int) := hbv
                      have htv2 : u11 = .int .i64 (jj : Int) := htv
                      clear hbv htv
                      subst hbv2 htv2
                      have HIE := Lib.hid hie
                      have di1 : decide ((i : Int) < (n1 : Int)) = false := by simp; omega
                      have di2 : decide (i < n1) = false := by simp; omega
                      clear hie hli hin
                      go_wp2_with fail
                      refine (But_any _ n1 c1 kk lj _ (hr3.past hbi) (by omega)).mono ?_
                      rintro e y1 ⟨v5, rfl, ho5, hb5⟩
                      have hbi2 := hbi.trans (hb5.mono hbi.size)
                      have hown5 := hown.below hbi2
                      have hbel5 := hbel.trans (hbi2.mono hsz)
                      have hs5 := hbel5.size
                      have ho5' := ho5.mono (Nat.le_trans hsz hbi.size)
                      obtain ⟨A5, c5, rfl, hr5⟩ := ho5.rd
                      obtain ⟨n5, hn5⟩ : ∃ n5, n5 = (lj.eraseIdx kk).length := ⟨_, rfl⟩
                      have hn5l : n5 < n1 := by rw [hn5, List.length_eraseIdx, HN1.out, if_pos HKK.out]; exact Nat.sub_lt hp1 Nat.one_pos
                      rw [← hn5] at hr5 ho5' ⊢
                      have hal := (Below.refl y1.heap.size y1).alloc (Nat.le_refl _) (.cells #[.int .i64 (jj : Int)] 3)
                      have hown6 := hown5.below hal
                      have ho6 := ho5'.below hal
                      have hb6 := hbel5.alloc hs5 (.cells #[.int .i64 (jj : Int)] 3)
                      have hroom := HRM.out
                      clear hn5 ho5 ho5' hr5 hown5 hal hbi hbi2 hb5 hr3
                      go_wp2_with (at_builtin; refine wpList_app _ rfl (.tmp 124) (.tmp 126) _ rfl w.heap.size 3 Tryd.underlying24 intInfo _ _ rfl hown6 _ 1 1 [(jj : Int)] rfl (Rd.one _ _ _) (by omega) (by simp; omega) ?_; intro v7 w7 hown7 hg7 hat7)
                      have hb7 := below_app hb6 hown6 hg7 (by simp; omega)
                      have ho7 : OwnP w7 w.heap.size 37 (.slice A5 n5 c5) (lj.eraseIdx kk) := ho6.grown hg7 (fun k hk e => own_ne (by decide) ho6 hown6 k hk e)
                      go_wp2
                      go_roundw
                      case rel => exact ⟨lj.eraseIdx kk, jj, pre ++ [v], rfl, .inr ho7, by rw [upL_snoc]; exact hown7, HT2, hb7⟩
                      case measure => exact hn5l
                · obtain rfl : n1 = 0 := by omega
                  have hfin : Hid (pre ++ [v] = Tl.way m ls) := by
                    show _ = _
                    have h1 := HT.out.2.2.2.2.1
                    rw [HN1.out] at h1
                    exact h1
                  have HO := Lib.hid hown
                  clear hown
                  go_wp2
                  go_ret2
                  exact ⟨hbel, .inr ⟨hc.out, _, rfl, by rw [← hfin.out]; exact HO.out⟩⟩
end RefT

end Go.Proofs.YtibphofiaodnmaaDoor
