/-
  The contract of Find of package trail: the first way that uses every line once, or that there is none, or what is wrong.
-/
import Derived.Test.YtibphofiaodnmaaDoorTrailD
namespace Go.Proofs.YtibphofiaodnmaaDoor
open Go.RowKit

set_option linter.unusedSimpArgs false
set_option linter.unusedVariables false

/-- the lines that are left: those that came in, or in memory of the call's own -/
def Lf (B : Nat) (W : World) (r : Value) (ls : List Gr.Ln) : Prop := (∃ A k c, r = .slice A k c ∧ RdP W B A k c ls) ∨ OwnP W B 37 r ls
theorem Lf.rd {B : Nat} {W : World} {r : Value} {ls : List Gr.Ln} (h : Lf B W r ls) (hB : B ≤ W.heap.size) : ∃ A k c, r = .slice A k c ∧ RdP W W.heap.size A k c ls := by
  rcases h with ⟨A, k, c, h1, h2⟩ | h
  · exact ⟨A, k, c, h1, h2.more hB⟩
  · obtain ⟨A, c, h1, h2⟩ := h.rd
    exact ⟨A, _, c, h1, h2⟩

/-- a box is no row of two elements or more -/
theorem box_row {W : World} {B : Nat} {t e base n : Nat} {u v : Value} {xs : List Value} (h : Boxed W B t u) (hr : W.ownsRow base e 1 v n xs) (hn : 2 ≤ n) : some B ≠ v.ownBlock := by
  intro e
  rcases hr.2 with ⟨rfl, _⟩ | ⟨g, cap, cur, rfl, _, hg, hnc, _, hcs, _⟩
  · cases e
  · have : B = g := by simpa [Value.ownBlock] using e
    subst this
    have h1 : some (Obj.cells #[u] t (0, 0)) = some _ := (show W.heap[B]? = _ from h).symm.trans hg
    simp only [Option.some.injEq, Obj.cells.injEq] at h1
    rw [← h1.1] at hcs
    simp at hcs
    omega

/-- where Find is behind j steps -/
def FdI (m n v0 : Nat) (ls : List Gr.Ln) (j v : Nat) (ws : List Nat) (lj : List Gr.Ln) : Prop := Gr.code (m : Int) lj = 0 ∧ lj.length + j = n ∧ ws.length = j + 1 ∧ Tl.Thus v0 (Tl.nm ls) ws v (Tl.nm lj)

theorem Find_err (n : Int) (A : Option Addr) (k c : Nat) (ls : List Gr.Ln) (w : World) (hr : RdP w w.heap.size A k c ls) (h : Gr.code n ls ≠ 0) :
    Calls Tryd.prog 13 #[.int .i64 n, .slice A k c] w fun e w' => e = .returned (.tuple #[.slice none 0 0, errv (Gr.code n ls)]) ∧ Below w.heap.size w w' := by
  have H := Lib.hid h
  clear h
  go_enter Tryd.func13, Tryd.ntmps13
  go_wp2_with fail
  refine (Ends_err n A k c ls _ hr H.out).mono ?_
  rintro e w1 ⟨rfl, hb⟩
  go_wp2
  go_ret2
  exact ⟨rfl, hb⟩

/-- what Find hands back where nothing is wrong with the lines -/
def FdPost (m : Nat) (ls : List Gr.Ln) (w : World) (e : Ending) (w' : World) : Prop :=
  Below w.heap.size w w' ∧ ((Tl.canB m ls = false ∧ e = .returned (.tuple #[.slice none 0 0, errv 5])) ∨
    (Tl.canB m ls = true ∧ ∃ v, e = .returned (.tuple #[v, .nilIface]) ∧ Own w' w.heap.size 3 v (upL (Tl.way m ls))))

set_option maxRecDepth 100000 in
set_option maxHeartbeats 2000000 in
theorem Find_any (m : Nat) (A : Option Addr) (n c : Nat) (ls : List Gr.Ln) (w : World) (hr : RdP w w.heap.size A n c ls) (h : Gr.code (m : Int) ls = 0) :
    Calls Tryd.prog 13 #[.int .i64 (m : Int), .slice A n c] w (FdPost m ls w) := by
  unfold FdPost
  have hm8 : m ≤ 8 := by have := (Gr.code_zero.1 h).2.1; omega
  have hn24 : n ≤ 24 := by have := (Gr.code_zero.1 h).2.2.1; have := hr.len; omega
  have H := Lib.hid h
  have HX := Lib.hid hr.len
  clear h
  by_cases h0 : n = 0
  · have hc : Hid (Tl.canB m ls = false) := Tl.way_none H.out fun hne => absurd (List.eq_nil_of_length_eq_zero (by rw [HX.out]; exact h0)) hne
    have d0 : ((n : Int) == 0) = true := by simp; exact h0
    have d1 : (n == 0) = true := by simp; exact h0
    have d2 : decide (n = 0) = true := by simp; exact h0
    have H0 := Lib.hid h0
    clear h0
    go_enter Tryd.func13, Tryd.ntmps13
    go_wp2_with fail
    refine (Ends_good m A n c ls _ hr H.out).mono ?_
    rintro e w1 ⟨v1, rfl, ho1, hb1⟩
    go_wp2
    go_ret2
    exact ⟨hb1, .inl ⟨hc.out, rfl⟩⟩
  · have hpos : 0 < n := by omega
    have d0 : ((n : Int) == 0) = false := by simp; omega
    have d1 : (n == 0) = false := by simp; omega
    have d2 : decide (n = 0) = false := by simp; omega
    have hne : Hid (ls ≠ []) := fun e => by
      have := HX.out
      rw [e] at this
      simp at this
      omega
    clear h0
    go_enter Tryd.func13, Tryd.ntmps13
    go_wp2_with fail
    refine (Ends_good m A n c ls _ hr H.out).mono ?_
    rintro e w1 ⟨v1, rfl, ho1, hb1⟩
    obtain ⟨E, ce, rfl, he⟩ := ho1.rd
    obtain ⟨ne, hne'⟩ : ∃ ne, ne = (upL (Tl.ends m ls)).length := ⟨_, rfl⟩
    rw [← hne'] at he ⊢
    clear hne' ho1
    go_wp2_with fail
    refine (start_any m E A ne ce n c ls _ he (hr.past hb1) H.out hpos).mono ?_
    rintro e w2 ⟨rfl, hb2⟩
    obtain ⟨v0, hv0⟩ : ∃ v0, v0 = Tl.start m ls := ⟨_, rfl⟩
    rw [← hv0]
    have HV0 := Lib.hid hv0
    have hb02 := hb1.trans (hb2.mono hb1.size)
    have hown2 := Own.one w2 w.heap.size 3 (v0 : Int) hb02.size
    obtain ⟨s, hs⟩ : ∃ s, s = w2.heap.size := ⟨_, rfl⟩
    obtain ⟨W, hW⟩ : ∃ W, W = w2.alloc (.cells #[.int .i64 (v0 : Int)] 3) := ⟨_, rfl⟩
    have hb03 : Below w.heap.size w W := by rw [hW]; exact hb02.alloc hb02.size _
    rw [← hW, ← hs] at hown2
    have HS := Lib.hid hs
    have HW := Lib.hid hW
    clear hv0 hs hW he hb1 hb2 hb02
    go_wp2_with fail
    rw [← HW.out, ← HS.out]
    refine (stepper_any m A n c W).mono ?_
    rintro e w4 ⟨bn, bl, rfl, hbn, hbl, gn, gl, hnl, hb4⟩
    have hown4 := hown2.below hb4
    have hb04 := hb03.trans (hb4.mono hb03.size)
    have hgl : w.heap.size ≤ bl := Nat.le_trans hb03.size gl
    have hsn : some bn ≠ (Value.slice (some ⟨s, 0, none⟩) 1 1).ownBlock := fun e => by
      have : bn = s := by simpa [Value.ownBlock] using e
      have := hown2.lt s rfl
      omega
    clear hown2 hb03 hb4 gn gl
    go_wp2
    go_loopw [8, 9, 36] (fun av vv iv wr => ∃ (j v : Nat) (ws : List Nat) (lj : List Gr.Ln), j ≤ n ∧ iv = .int .i64 (j : Int) ∧ av = .int .i64 (v : Int) ∧ Own wr w.heap.size 3 vv (upL ws) ∧ Boxed wr bn 3 (.int .i64 (m : Int)) ∧ some bn ≠ vv.ownBlock ∧ (∃ r, Boxed wr bl 22 r ∧ Lf w.heap.size wr r lj) ∧ Hid (FdI m n v0 ls j v ws lj) ∧ Below w.heap.size w wr) (fun _ _ iv _ => n - (intOf iv).toNat)
    case atStart => exact ⟨0, v0, [v0], ls, Nat.zero_le _, rfl, rfl, hown4, hbn, hsn, ⟨_, hbl, .inl ⟨A, n, c, rfl, hr.below hb04⟩⟩, ⟨H.out, by rw [HX.out]; rfl, rfl, Tl.Thus.start _ _⟩, hb04⟩
    case round =>
      clear hown4 hbn hbl hb04
      obtain ⟨j, v, ws, lj, hjn, rfl, rfl, hown, hbn, hsn1, ⟨r, hbl, hLf⟩, HF, hbel⟩ := hrel
      have hsz := hbel.size
      by_cases hlt : j < n
      · have k1 : (0 : Int) ≤ (j : Int) := by omega
        have k2 : (j : Int) < (n : Int) := by omega
        obtain ⟨A1, n1, c1, rfl, hr1⟩ := hLf.rd hsz
        have hroom : Hid ((upL ws).length ≤ 25) := by show _ ≤ _; rw [upL_len, HF.out.2.2.1]; omega
        go_wp2_with fail
        refine (step_any m v bn bl A1 n1 c1 lj wr hbn hbl hr1 HF.out.1).mono ?_
        rintro e w5 ⟨hg5, (⟨rfl, hno⟩ | ⟨u, i, r', hum, rfl, hil, hp, hL, hno, hbl5, ho5⟩)⟩
        · have hc : Hid (Tl.canB m ls = false) := by
            refine Tl.way_none H.out fun _ => ?_
            have := Tl.Thus.halt HF.out.2.2.2 (Tl.nm_good HF.out.1) (fun e => by
              have h1 := Tl.nm_len lj
              rw [e] at h1
              have h2 := HF.out.2.1
              simp at h1
              omega) hno
            rw [HV0.out] at this
            exact this
          have hb5 : Below w.heap.size w w5 := hbel.grown hg5 hsz (fun k e => by cases e; exact hgl)
          clear hno
          go_wp2
          go_ret2
          exact ⟨hb5, .inl ⟨hc.out, rfl⟩⟩
        · have hb5 : Below w.heap.size w w5 := hbel.grown hg5 hsz (fun k e => by cases e; exact hgl)
          have hown5 : Own w5 w.heap.size 3 u9 (upL ws) := hown.grown hg5 (fun k hk e => hbl.not_row (by decide) hown (by rw [hk]; exact e))
          have hbn5 := hbn.kept hg5 (fun e => hnl (by cases e; rfl))
          have ho5' := ho5.mono hsz
          have HN : Hid (FdI m n v0 ls (j + 1) u (ws ++ [u]) (lj.eraseIdx i)) := by
            obtain ⟨f1, f2, f3, f4⟩ := HF.out
            refine ⟨Tl.code_erase f1 i, ?_, by simp [f3], f4.step (Tl.nm_good f1) hp hL hno⟩
            rw [List.length_eraseIdx, if_pos hil]
            omega
          have hsz5 := hb5.size
          have hal := (Below.refl w5.heap.size w5).alloc (Nat.le_refl _) (.cells #[.int .i64 (u : Int)] 3)
          have hown6 := hown5.below hal
          have hbn6 := hbn5.alloc (.cells #[.int .i64 (u : Int)] 3)
          have hbl6 := hbl5.alloc (.cells #[.int .i64 (u : Int)] 3)
          have ho6 := ho5'.below hal
          have hb6 := hb5.alloc hsz5 (.cells #[.int .i64 (u : Int)] 3)
          have hroom2 := hroom.out
          have HWS : Hid ((upL ws).length = j + 1) := by show _ = _; rw [upL_len]; exact HF.out.2.2.1
          clear hown hbn hbl hLf hr1 hg5 hb5 hown5 hbn5 hbl5 ho5 ho5' hp hL hno hil hal
          go_wp2_with (at_builtin; refine wpList_app _ rfl (.tmp 47) (.tmp 49) _ rfl w.heap.size 3 Tryd.underlying24 intInfo _ _ rfl hown6 _ 1 1 [(u : Int)] rfl (Rd.one _ _ _) (by omega) (by simp; omega) ?_; intro v7 w7 hown7 hg7 hat7)
          have hb7 := below_app hb6 hown6 hg7 (by simp; omega)
          have hbn7 : Boxed w7 bn 3 (.int .i64 (m : Int)) := hbn6.kept hg7 hsn1
          have hsn7 : some bn ≠ v7.ownBlock := box_row hbn7 hown7 (by simp only [List.length_append, List.length_cons, List.length_nil]; rw [HWS.out]; omega)
          have hbl7 := hbl6.kept hg7 (hbl6.not_row (by decide) hown6)
          have ho7 : OwnP w7 w.heap.size 37 r' (lj.eraseIdx i) := ho6.grown hg7 (fun k hk e => own_ne (by decide) ho6 hown6 k hk e)
          go_wp2
          go_roundw
          case rel => exact ⟨j + 1, u, ws ++ [u], lj.eraseIdx i, by omega, by go_num, rfl, by rw [upL_snoc]; exact hown7, hbn7, hsn7, ⟨r', hbl7, .inr ho7⟩, HN, hb7⟩
          case measure => simp [intOf]; omega
      · obtain rfl : j = n := by omega
        have hfin : Hid (Tl.canB m ls = true ∧ ws = Tl.way m ls) := by
          obtain ⟨f1, f2, f3, f4⟩ := HF.out
          obtain rfl : lj = [] := List.eq_nil_of_length_eq_zero (by omega)
          have := f4.done
          rw [HV0.out] at this
          exact Tl.way_of H.out hne.out this
        have HO := Lib.hid hown
        clear hown
        go_wp2
        go_ret2
        exact ⟨hbel, .inr ⟨hfin.out.1, _, rfl, by rw [← hfin.out.2]; exact HO.out⟩⟩

end Go.Proofs.YtibphofiaodnmaaDoor
