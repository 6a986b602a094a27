/-
  The contract of Last of package dom: for each point the last one ahead of it over whom all ways go, or what is wrong. No statement of the program is proved here; there is no condition.
-/
import Derived.Test.YtjcdnkbandagoaaDomC
import Derived.Test.YtjcdnkbandagoaaRepeat
namespace Go.Proofs.Ytjcdnkbandagoaa
open Go.RowKit Go.Shelf

set_option linter.unusedSimpArgs false
set_option linter.unusedVariables false

theorem Last_bad (n : Int) (A : Option Addr) (k c : Nat) (ls : List Gr.Ln) (a : Int) (w : World) (hr : RdP w w.heap.size A k c ls) (h : Do.fcode n ls a ≠ 0) :
    Calls Try.prog 11 #[.int .i64 n, .slice A k c, .int .i64 a] w fun e w' => e = .returned (.tuple #[.slice none 0 0, errv (Do.fcode n ls a)]) ∧ Below w.heap.size w w' := by
  have H := Lib.hid h
  clear h
  go_enter Try.func11, Try.ntmps11
  go_wp2_with fail
  refine (Of_bad n A k c ls a _ hr H.out).mono ?_
  rintro e w1 ⟨rfl, hb⟩
  go_wp2
  go_ret2
  exact ⟨rfl, hb⟩

/-- the list while it is filled: those below i are done, b stands at i -/
def lfT (m : Nat) (f : Nat → Int) (i : Nat) (b : Int) : List Int := (List.range m).map fun k => if k < i then f k else if k = i then b else -1
theorem lfT_len (m : Nat) (f : Nat → Int) (i : Nat) (b : Int) : (lfT m f i b).length = m := by simp [lfT]
theorem lfT_start (m : Nat) (f : Nat → Int) : lfT m f 0 (-1) = List.replicate m (-1) := by
  unfold lfT
  apply List.ext_getElem
  · simp
  · intro k h1 h2
    simp
theorem lfT_set {m : Nat} {f : Nat → Int} {i : Nat} {b b' : Int} (hi : i < m) : (lfT m f i b).set i b' = lfT m f i b' := by
  unfold lfT
  apply List.ext_getElem
  · simp
  · intro k h1 h2
    have hk : k < m := by simpa using h2
    rw [List.getElem_set]
    by_cases e : i = k
    · subst e; simp
    · have : ¬ k = i := fun h => e h.symm
      simp [e, this]
theorem lfT_next {m : Nat} {f : Nat → Int} {i : Nat} : lfT m f i (f i) = lfT m f (i + 1) (-1) := by
  unfold lfT
  refine List.map_congr_left fun k hk => ?_
  by_cases h1 : k < i
  · rw [if_pos h1, if_pos (by omega)]
  · by_cases h2 : k = i
    · subst h2; rw [if_neg h1, if_pos rfl, if_pos (by omega)]
    · rw [if_neg h1, if_neg h2, if_neg (by omega)]
      simp
theorem lfT_all (m : Nat) (f : Nat → Int) (b : Int) : lfT m f m b = (List.range m).map f := by
  unfold lfT
  refine List.map_congr_left fun k hk => ?_
  rw [if_pos (List.mem_range.1 hk)]

set_option maxRecDepth 100000 in
set_option maxHeartbeats 4000000 in
theorem Last_yes (m st : Nat) (A : Option Addr) (k c : Nat) (ls : List Gr.Ln) (w : World) (hr : RdP w w.heap.size A k c ls) (h : Gr.code (m : Int) ls = 0) (hst : st < m) :
    Calls Try.prog 11 #[.int .i64 (m : Int), .slice A k c, .int .i64 (st : Int)] w fun e w' => ∃ A1 c1, e = .returned (.tuple #[.slice A1 m c1, .nilIface]) ∧ Rd w' w'.heap.size A1 m c1 (Do.lsts m ls st) ∧ Below w.heap.size w w' := by
  have hm8 : m ≤ 8 := by have := (Gr.code_zero.1 h).2.1; omega
  have hm1 : 1 ≤ m := by omega
  have H := Lib.hid h
  clear h
  go_enter Try.func11, Try.ntmps11
  go_wp2_with fail
  refine (Of_yes m st A k c ls _ hr H.out hst).mono ?_
  rintro e w1 ⟨A1, c1, rfl, hrr, hb⟩
  have hbig := hrr.big
  obtain ⟨b0, o0, rfl, hbb, hcc⟩ := hrr.at_ (by omega)
  have HC : Hid (∀ i, i < m → ∃ A' c', w1.cell? ⟨b0, o0 + i, none⟩ = some (.slice A' (Do.dl m ls st i).length c') ∧ Rd w1 w1.heap.size A' (Do.dl m ls st i).length c' (Do.dl m ls st i)) := by
    show ∀ i, _
    intro i hi
    have := hcc i hi
    rw [Do.dls_at hi] at this
    exact this
  clear hrr hcc
  obtain ⟨x1, hx1⟩ : ∃ x1, x1 = w1.alloc (.cells #[.int .i64 (-1)] 3) := ⟨_, rfl⟩
  have hcx : x1.cell? ⟨w1.heap.size, 0, none⟩ = some (.int .i64 (-1)) := by rw [hx1]; simp
  have hbx : Below w1.heap.size w1 x1 := by rw [hx1]; exact (Below.refl _ _).alloc (Nat.le_refl _) _
  obtain ⟨g, hg⟩ : ∃ g, g = x1.heap.size := ⟨_, rfl⟩
  have hgw : w1.heap.size ≤ g := by rw [hg]; exact hbx.size
  have HX1 := Lib.hid hx1
  have HGE := Lib.hid hg
  clear hx1 hg
  go_wp2_with fail
  rw [← HX1.out]
  refine (Repeat_one (-1) w1.heap.size m hm1 hm8 _ hcx).mono ?_
  rintro e w2 ⟨rfl, hown, hb2⟩
  rw [← HGE.out] at hown hb2 ⊢
  have hb12 : Below w1.heap.size w1 w2 := hbx.trans (hb2.mono hgw)
  rw [← lfT_start m (Do.lst m ls st)] at hown
  clear hbx hb2 hcx
  go_wp2
  go_loopw [11, 12, 13, 15, 31] (fun _ _ _ _ iv wr => ∃ i : Nat, i ≤ m ∧ iv = .int .i64 (i : Int) ∧ Own wr g 3 (.slice (some ⟨g, 0, none⟩) m m) (lfT m (Do.lst m ls st) i (-1)) ∧ Below w1.heap.size w1 wr) (fun _ _ _ _ iv _ => m - (intOf iv).toNat)
  case atStart => exact ⟨0, Nat.zero_le _, rfl, hown, hb12⟩
  case round =>
    clear hown hb12
    obtain ⟨i, hi, rfl, hown, hbw⟩ := hrel
    by_cases hlt : i < m
    · obtain ⟨A2, c2, y1, r1⟩ := HC.out i hlt
      have z1 := (hbw.cell (p := ⟨b0, o0 + i, none⟩) hbb).trans y1
      have i1 : (0 : Int) ≤ (i : Int) := by omega
      have i2 : (i : Int) < (m : Int) := by omega
      obtain ⟨L, hL⟩ : ∃ L, L = (Do.dl m ls st i).length := ⟨_, rfl⟩
      rw [← hL] at z1 r1
      have HL := Lib.hid hL
      have hLb := r1.big
      clear hL y1
      have hown0 : Own wr g 3 (.slice (some ⟨g, 0, none⟩) m m) (lfT m (Do.lst m ls st) i (Do.pk (Do.ruled m ls st) i ((Do.dlN m ls st i m).take 0))) := hown
      have HM0 : Hid ((0 : Int) = ((Do.mo (Do.ruled m ls st) (Do.pk (Do.ruled m ls st) i ((Do.dlN m ls st i m).take 0)) : Nat) : Int)) := rfl
      clear hown
      go_wp2
      go_loopw [13, 15, 38] (fun mv _ jv wr => ∃ j M : Nat, j ≤ L ∧ jv = .int .i64 (j : Int) ∧ mv = .int .i64 (M : Int) ∧ Hid (M = Do.mo (Do.ruled m ls st) (Do.pk (Do.ruled m ls st) i ((Do.dlN m ls st i m).take j))) ∧ Own wr g 3 (.slice (some ⟨g, 0, none⟩) m m) (lfT m (Do.lst m ls st) i (Do.pk (Do.ruled m ls st) i ((Do.dlN m ls st i m).take j))) ∧ Below w1.heap.size w1 wr) (fun _ _ jv _ => L - (intOf jv).toNat)
      case atStart => exact ⟨0, 0, Nat.zero_le _, rfl, rfl, rfl, hown0, hbw⟩
      case round =>
        clear hown0 hbw HM0 z1
        obtain ⟨j, M, hj, rfl, rfl, HM, hown, hbw⟩ := hrel
        by_cases hlj : j < L
        · obtain ⟨b2, o2, rfl, hb2, hc2⟩ := r1.at_ (by omega)
          have hjl : j < (Do.dlN m ls st i m).length := by rw [Do.dlN_len, ← HL.out]; exact hlj
          have hjd : j < (Do.dl m ls st i).length := by rw [← HL.out]; exact hlj
          have y2 := hc2 j hlj
          obtain ⟨q, hq, hqm, hqd⟩ := Do.dl_at hst hjd
          have hqn : (Do.dlN m ls st i m).getD j 0 = q := by have := Do.dlN_at hjl; rw [hq] at this; omega
          rw [hq] at y2
          have y3 := (hbw.cell (p := ⟨b2, o2 + j, none⟩) hb2).trans y2
          have hpos : 0 < Do.ruled m ls st q := Do.ruled_pos hst (Do.dom_way hst hqd).1
          obtain ⟨A3, c3, y4, r3⟩ := HC.out q hqm
          have hRl := Do.dl_len (n := m) (ls := ls) (s := st) q
          rw [hRl] at y4 r3
          have y5 := (hbw.cell (p := ⟨b0, o0 + q, none⟩) hbb).trans y4
          have HPK := Lib.hid (Do.pk_take (rk := Do.ruled m ls st) (i := i) hjl)
          rw [hqn, Do.pkS_mo hpos, ← HM.out] at HPK
          obtain ⟨b, hb⟩ : ∃ b, b = Do.pk (Do.ruled m ls st) i ((Do.dlN m ls st i m).take j) := ⟨_, rfl⟩
          rw [← hb] at hown HM HPK
          obtain ⟨R, hR⟩ : ∃ R, R = Do.ruled m ls st q := ⟨_, rfl⟩
          rw [← hR] at y5 HPK
          have hRb := r3.big
          rw [← hR] at hRb
          have q1 : (0 : Int) ≤ (q : Int) := by omega
          have q2 : (q : Int) < (m : Int) := by omega
          have HR := Lib.hid hR
          have g1 := hown.cell i hlt
          have g2 := hown.frozen i
          clear hc2 hjl hjd y2 hq hqn hqd hpos y4 r3 hRl hb hR
          by_cases e : q = i
          · have HF : Hid (Do.pk (Do.ruled m ls st) i ((Do.dlN m ls st i m).take (j + 1)) = b) := by
              show _ = _
              rw [HPK.out, if_neg (fun h => h.1 e)]
            have d1 : ((q : Int) != (i : Int)) = false := by simp [e]
            clear e y5
            go_wp2
            go_roundw
            case rel => exact ⟨j + 1, M, by omega, by go_num, rfl, by rw [HF.out]; exact HM, by rw [HF.out]; exact hown, hbw⟩
            case measure => simp [intOf]; omega
          · have d1 : ((q : Int) != (i : Int)) = true := by simp; omega
            by_cases hlr : M < R
            · have HF : Hid (Do.pk (Do.ruled m ls st) i ((Do.dlN m ls st i m).take (j + 1)) = (q : Int)) := by
                show _ = _
                rw [HPK.out, if_pos ⟨e, hlr⟩]
              have HM2 : Hid (R = Do.mo (Do.ruled m ls st) (q : Int)) := by
                show _ = _
                rw [HR.out]
                unfold Do.mo
                rw [if_neg (by omega), Int.toNat_natCast]
              have hlrI : (M : Int) < (R : Int) := by omega
              have hst1 := (hown.store i (q : Int)).1
              rw [lfT_set hlt] at hst1
              have hbn := hbw.setCell (p := ⟨g, i, none⟩) (show w1.heap.size ≤ g from hgw) (.int .i64 (q : Int))
              clear e
              go_wp2
              go_roundw
              case rel => exact ⟨j + 1, R, by omega, by go_num, rfl, by rw [HF.out]; exact HM2, by rw [HF.out]; exact hst1, hbn⟩
              case measure => simp [intOf]; omega
            · have HF : Hid (Do.pk (Do.ruled m ls st) i ((Do.dlN m ls st i m).take (j + 1)) = b) := by
                show _ = _
                rw [HPK.out, if_neg (fun h => hlr h.2)]
              have d2 : decide ((M : Int) < (R : Int)) = false := by simp; omega
              have d3 : decide (M < R) = false := by simp; omega
              clear e
              go_wp2
              go_roundw
              case rel => exact ⟨j + 1, M, by omega, by go_num, rfl, by rw [HF.out]; exact HM, by rw [HF.out]; exact hown, hbw⟩
              case measure => simp [intOf]; omega
        · obtain rfl : j = L := by omega
          have hF : Own wr g 3 (.slice (some ⟨g, 0, none⟩) m m) (lfT m (Do.lst m ls st) (i + 1) (-1)) := by
            rw [← lfT_next, Do.lst_all, Do.dlN_len, ← HL.out]
            exact hown
          clear hown
          go_wp2
          go_roundw
          case rel => exact ⟨i + 1, by omega, by go_num, hF, hbw⟩
          case measure => simp [intOf]; omega
    · obtain rfl : i = m := by omega
      rw [lfT_all] at hown
      go_wp2
      go_ret2
      exact ⟨_, _, rfl, hown.rd', hb.trans (hbw.mono hb.size)⟩

end Go.Proofs.Ytjcdnkbandagoaa
