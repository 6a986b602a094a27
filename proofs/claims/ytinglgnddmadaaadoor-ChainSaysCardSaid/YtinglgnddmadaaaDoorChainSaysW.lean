/-
  The walk of the law ChainSays: for every number of points and lines it returns true, where the library's variable errors.errorType holds what its initialiser lays.
-/
import Derived.Test.YtinglgnddmadaaaDoorChainA
import Derived.Test.YtinglgnddmadaaaDoorRefCha
import Derived.Test.YtinglgnddmadaaaDoorRefClo
import Derived.Test.YtinglgnddmadaaaDoorRefOrd
import Derived.Test.YtinglgnddmadaaaDoorErrS
import Derived.Test.YtinglgnddmadaaaDoorRefL
import Derived.BigQuiet
namespace Go.Proofs.YtinglgnddmadaaaDoor.chainSays
open Go.RowKit
set_option linter.unusedSimpArgs false
set_option linter.unusedVariables false

section
variable {m : Nat} {ls : List Gr.Ln} {o : List Int}
theorem upL_pts (h : Cn.Fine m ls o) : upL (Cn.pts o) = o := by
  have hr := h.step.row h.len
  have : ∀ x ∈ o, ((x.toNat : Nat) : Int) = x := fun x hx => by have := hr.rng x hx; omega
  unfold upL Cn.pts
  rw [List.map_map]
  exact (List.map_congr_left (g := id) fun x hx => this x hx).trans (List.map_id o)
theorem rows_is (h : Cn.Fine m ls o) {r : Int} (hr : r + (Ma.nu (To.comes m ls) m m : Nat) = (m : Int)) : ((Cn.rowsF (Ma.gl (Cl.clos m ls)) (Cn.pts o) [] : Nat) : Int) = r := by
  have hp := Cn.pts_perm h.step h.len
  have hlt : ∀ x ∈ Cn.pts o, x < m := fun x hx => List.mem_range.1 (hp.mem_iff.1 hx)
  have h1 := Cn.rows_nu (G := Ma.gl (Cl.clos m ls)) (n := m) hp (List.Pairwise.imp_of_mem (fun {x y} hx hy hxy => (Cl.has_lst (hlt y hy) (hlt x hx)).trans hxy) (Cn.pts_no h.good h.step h.len)) fun x hx => (Cl.has_lst hx hx).trans (h.str.ir x hx)
  rw [Cn.clos_nu] at h1
  omega
theorem wide_is (h : Cn.Fine m ls o) {r : Int} (hr : r + (Ma.nu (To.comes m ls) m m : Nat) = (m : Int)) : ((Cn.wideF (RefCh.ab (Cl.clos m ls)) m 0 [] : Nat) : Int) = r := by
  have h1 := Cn.wide_nu h.str (A := RefCh.ab (Cl.clos m ls)) fun a b ha hb => by
    show Gr.adj (Cl.clos m ls) (a : Int) (b : Int) = _
    unfold Gr.adj
    rw [show Gr.has (Cl.clos m ls) (a : Int) (b : Int) = To.comes m ls a b from Cl.has_lst ha hb, show Gr.has (Cl.clos m ls) (b : Int) (a : Int) = To.comes m ls b a from Cl.has_lst hb ha]
  omega
end

set_option maxRecDepth 100000 in
set_option maxHeartbeats 4000000 in
/-- something is wrong with the lines -/
theorem bad (w : World) (het : tld.EtIs w) (a0 : Int) (a1 : Option Addr) (n1 c1 : Nat) (z1 : List Gr.Ln) (w1 : RdP w w.heap.size a1 n1 c1 z1) (hc : Gr.code a0 z1 ≠ 0) :
    Calls Tryd.prog 3 #[.int .i64 a0, .slice a1 n1 c1] w fun e w' => e = .returned (.bool true) ∧ Below w.heap.size w w' := by
  obtain ⟨k, hke⟩ : ∃ k, k = Gr.code a0 z1 := ⟨_, rfl⟩
  have hk : Cn.Wrong a0 z1 k := .inl ⟨hc, hke⟩
  have d1 : (k == 0) = false := by simpa [hke] using hc
  have HK := Lib.hid hke
  clear hc hke
  go_enter Tryd.func3, Tryd.ntmps3
  go_wp2_with fail
  refine (RefL.Lines_any a0 a1 n1 c1 z1 _ w1).mono ?_
  rintro e x0 ⟨rfl, b0⟩
  rw [← HK.out]
  go_wp2
  go_loopw [6, 10] (fun lv iv wr => lv = .int .i64 0 ∧ iv = .int .i64 0 ∧ x0 = wr) (fun _ _ _ => 0)
  case atStart => exact ⟨rfl, rfl, rfl⟩
  case round =>
    obtain ⟨rfl, rfl, rfl⟩ := hrel
    by_cases hpos : (0 : Int) < a0
    all_goals
      go_wp2_with fail
      refine (Longest_wrong a0 a1 n1 c1 z1 k _ (w1.past b0) hk).mono ?_
      rintro e x2 ⟨rfl, b2⟩
      have b02 := b0.trans (b2.mono b0.size)
      go_wp2_with fail
      refine (Err_same k _ (het.below b02)).mono ?_
      rintro e x3 ⟨rfl, b3⟩
      have b03 := b02.trans (b3.mono b02.size)
      clear b2 b02 b3
      go_wp2_with fail
      refine (Rows_wrong a0 a1 n1 c1 z1 k _ (w1.past b03) hk).mono ?_
      rintro e x4 ⟨rfl, b4⟩
      have b04 := b03.trans (b4.mono b03.size)
      go_wp2_with fail
      refine (Err_same k _ (het.below b04)).mono ?_
      rintro e x5 ⟨rfl, b5⟩
      have b05 := b04.trans (b5.mono b04.size)
      clear b4 b04 b5 b03
      go_wp2_with fail
      refine (Widest_wrong a0 a1 n1 c1 z1 k _ (w1.past b05) hk).mono ?_
      rintro e x6 ⟨rfl, b6⟩
      have b06 := b05.trans (b6.mono b05.size)
      go_wp2_with fail
      refine (Err_same k _ (het.below b06)).mono ?_
      rintro e x7 ⟨rfl, b7⟩
      go_wp2
      go_ret
      exact ⟨rfl, b06.trans (b7.mono b06.size)⟩

set_option maxRecDepth 100000 in
set_option maxHeartbeats 4000000 in
/-- there is no order -/
theorem none_ (w : World) (het : tld.EtIs w) (m : Nat) (o : List Int) (a1 : Option Addr) (n1 c1 : Nat) (z1 : List Gr.Ln) (w1 : RdP w w.heap.size a1 n1 c1 z1) (h0 : Gr.code (m : Int) z1 = 0) (hs : To.Step m z1 o) (hst : To.Stuck m z1 o) (hl : o.length < m) :
    Calls Tryd.prog 3 #[.int .i64 (m : Int), .slice a1 n1 c1] w fun e w' => e = .returned (.bool true) ∧ Below w.heap.size w w' := by
  have hm8 : m ≤ 8 := by have := (Gr.code_zero.1 h0).2.1; omega
  obtain ⟨k, hke⟩ : ∃ k : Int, k = 5 := ⟨_, rfl⟩
  have hk : Cn.Wrong (m : Int) z1 k := .inr ⟨hke, m, o, rfl, h0, hs, hst, hl⟩
  have d1 : (k == 0) = false := by rw [hke]; rfl
  have H0 := Lib.hid h0
  have HL := Lib.hid hl
  have HK := Lib.hid hke
  clear h0 hl hke
  go_enter Tryd.func3, Tryd.ntmps3
  go_wp2_with fail
  refine (RefL.Lines_any (m : Int) a1 n1 c1 z1 _ w1).mono ?_
  rintro e x0 ⟨rfl, b0⟩
  rw [H0.out]
  go_wp2_with fail
  refine (RefO.MOrder_bad m a1 n1 c1 z1 o _ (w1.past b0) hm8 hs hst HL.out).mono ?_
  rintro e x1 ⟨rfl, b1'⟩
  have b1 := b0.trans (b1'.mono b0.size)
  clear b0 b1'
  obtain rfl := HK.out
  go_wp2
  go_loopw [6, 10] (fun lv iv wr => lv = .int .i64 0 ∧ iv = .int .i64 0 ∧ x1 = wr) (fun _ _ _ => 0)
  case atStart => exact ⟨rfl, rfl, rfl⟩
  case round =>
    obtain ⟨rfl, rfl, rfl⟩ := hrel
    by_cases hpos : (0 : Int) < (m : Int)
    all_goals
      go_wp2_with fail
      refine (Longest_wrong (m : Int) a1 n1 c1 z1 5 _ (w1.past b1) hk).mono ?_
      rintro e x2 ⟨rfl, b2⟩
      have b02 := b1.trans (b2.mono b1.size)
      go_wp2_with fail
      refine (Err_same 5 _ (het.below b02)).mono ?_
      rintro e x3 ⟨rfl, b3⟩
      have b03 := b02.trans (b3.mono b02.size)
      clear b2 b02 b3
      go_wp2_with fail
      refine (Rows_wrong (m : Int) a1 n1 c1 z1 5 _ (w1.past b03) hk).mono ?_
      rintro e x4 ⟨rfl, b4⟩
      have b04 := b03.trans (b4.mono b03.size)
      go_wp2_with fail
      refine (Err_same 5 _ (het.below b04)).mono ?_
      rintro e x5 ⟨rfl, b5⟩
      have b05 := b04.trans (b5.mono b04.size)
      clear b4 b04 b5 b03
      go_wp2_with fail
      refine (Widest_wrong (m : Int) a1 n1 c1 z1 5 _ (w1.past b05) hk).mono ?_
      rintro e x6 ⟨rfl, b6⟩
      have b06 := b05.trans (b6.mono b05.size)
      go_wp2_with fail
      refine (Err_same 5 _ (het.below b06)).mono ?_
      rintro e x7 ⟨rfl, b7⟩
      go_wp2
      go_ret
      exact ⟨rfl, b06.trans (b7.mono b06.size)⟩

set_option maxRecDepth 100000 in
set_option maxHeartbeats 4000000 in
/-- there are too many points for rows -/
theorem many_ (w : World) (het : tld.EtIs w) (m d : Nat) (x : Int) (o : List Int) (a1 : Option Addr) (n1 c1 : Nat) (z1 : List Gr.Ln) (w1 : RdP w w.heap.size a1 n1 c1 z1) (h : Cn.Fine m z1 o) (hd : To.Top m z1 d) (hx : x = (d : Int) + 1) (h6 : 6 < m) :
    Calls Tryd.prog 3 #[.int .i64 (m : Int), .slice a1 n1 c1] w fun e w' => e = .returned (.bool true) ∧ Below w.heap.size w w' := by
  have k6 : (6 : Int) < (m : Int) := by omega
  have hm8 := h.le8
  have hm1 := h.pos
  have HG := Lib.hid h.good
  have H0 := Lib.hid h.code
  have H := Lib.hid h
  have HD := Lib.hid hd
  have HX := Lib.hid hx
  have HLG : Hid (((Cn.lgTo z1 m m : Nat) : Int) = x) := by show _ = _; rw [h.lg hd, hx]; push_cast; rfl
  have HSH : Hid (∀ i, i < m → ∀ k a, a < m → Wa.wk m (To.frow m z1) k a i = true → k < m) := fun i hi k a ha hw => h.step.short h.len ha hw
  have HSM : Hid (∀ i : Nat, i < m → To.dpF z1 m (i : Int) < m) := fun i hi => To.dep_small h.good h.step h.len hi
  clear h hd hx
  go_enter Tryd.func3, Tryd.ntmps3
  go_wp2_with fail
  refine (RefL.Lines_any (m : Int) a1 n1 c1 z1 _ w1).mono ?_
  rintro e x0 ⟨rfl, b0⟩
  rw [H0.out]
  go_wp2_with fail
  refine (RefO.MOrder_good m a1 n1 c1 z1 o _ (w1.past b0) hm8 H.out.step H.out.len).mono ?_
  rintro e x1 ⟨A5, c5, rfl, r5, b1'⟩
  have b1 := b0.trans (b1'.mono b0.size)
  have r1 := w1.past b1
  clear b0 b1'
  go_wp2
  go_loopw [6, 10] (fun lv iv wr => ∃ i g : Nat, i ≤ m ∧ iv = .int .i64 (i : Int) ∧ lv = .int .i64 (g : Int) ∧ Hid (Cn.lgTo z1 m i = g) ∧ x1 = wr) (fun _ iv _ => m - (intOf iv).toNat)
  case atStart => exact ⟨0, 0, Nat.zero_le _, rfl, rfl, rfl, rfl⟩
  case round =>
    obtain ⟨i, g, hi, rfl, rfl, HLT, rfl⟩ := hrel
    by_cases hlt : i < m
    · have k2 : (i : Int) < (m : Int) := by omega
      have hC : Hid (Calls Tryd.prog 6 #[.slice a1 n1 c1, .int .i64 (i : Int)] x1 fun e w' => e = .returned (.int .i64 (To.dpF z1 m (i : Int) : Int)) ∧ x1 = w') := RefO.Deep_any m n1 c1 x1.heap.size a1 z1 HG.out m i x1 (by omega) hlt (HSH.out i hlt) r1
      have hsm := HSM.out i hlt
      obtain ⟨D, hD⟩ : ∃ D, D = To.dpF z1 m (i : Int) := ⟨_, rfl⟩
      have HN : Hid (Cn.lgTo z1 m (i + 1) = if g < D + 1 then D + 1 else g) := by show _ = _; rw [hD, ← HLT.out]; rfl
      rw [← hD] at hC hsm
      obtain ⟨d1, hd1⟩ : ∃ d1 : Int, d1 = ((D + 1 : Nat) : Int) := ⟨_, rfl⟩
      have hwr : IntKind.i64.wrap ((D : Int) + 1) = d1 := by rw [IntKind.wrap_i64]; omega
      clear hD HLT
      by_cases hgd : g < D + 1
      · have HN2 : Hid (Cn.lgTo z1 m (i + 1) = D + 1) := by have := HN.out; rw [if_pos hgd] at this; exact this
        have d2 : (g : Int) < d1 := by omega
        have HD1 := Lib.hid hd1
        clear HN hgd hd1 hsm
        go_wp2_with fail
        refine hC.out.mono ?_
        rintro e y1 ⟨rfl, rfl⟩
        go_wp2_with fail
        refine hC.out.mono ?_
        rintro e y1 ⟨rfl, rfl⟩
        go_wp2
        go_roundw
        case rel => exact ⟨i + 1, D + 1, by omega, by go_num, by rw [HD1.out], HN2, trivial⟩
        case measure => simp [intOf]; omega
      · have HN2 : Hid (Cn.lgTo z1 m (i + 1) = g) := by have := HN.out; rw [if_neg hgd] at this; exact this
        have d2 : d1 ≤ (g : Int) := by omega
        clear HN hgd hd1 hsm
        go_wp2_with fail
        refine hC.out.mono ?_
        rintro e y1 ⟨rfl, rfl⟩
        go_wp2
        go_roundw
        case rel => exact ⟨i + 1, g, by omega, by go_num, rfl, HN2, trivial⟩
        case measure => simp [intOf]; omega
    · obtain rfl : i = m := by omega
      have hgx : (g : Int) = x := by have := HLG.out; rw [HLT.out] at this; exact this
      rw [hgx]
      clear hgx HLT HLG HSH HSM
      go_wp2_with fail
      refine (Longest_yes i d x a1 n1 c1 z1 o _ r1 H.out HD.out HX.out).mono ?_
      rintro e x2 ⟨rfl, b2'⟩
      have b2 := b1.trans (b2'.mono b1.size)
      have r2 := w1.past b2
      have r5 := r5.past b2'
      clear b1 b2' r1
      go_wp2_with fail
      refine (Err_none _).mono ?_
      rintro e x3 ⟨rfl, rfl⟩
      go_wp2_with fail
      refine (Rows_full i a1 n1 c1 z1 o _ r2 H.out h6).mono ?_
      rintro e x4 ⟨rfl, b4'⟩
      have b4 := b2.trans (b4'.mono b2.size)
      clear b2 b4' r2 r5
      go_wp2_with fail
      refine (Err_same 4 _ (het.below b4)).mono ?_
      rintro e x5 ⟨rfl, b5'⟩
      have b5 := b4.trans (b5'.mono b4.size)
      clear b4 b5'
      go_wp2_with fail
      refine (Widest_full i a1 n1 c1 z1 o _ (w1.past b5) H.out h6).mono ?_
      rintro e x6 ⟨rfl, b6'⟩
      have b6 := b5.trans (b6'.mono b5.size)
      clear b5 b6'
      go_wp2_with fail
      refine (Err_same 4 _ (het.below b6)).mono ?_
      rintro e x7 ⟨rfl, b7⟩
      go_wp2
      go_ret
      exact ⟨rfl, b6.trans (b7.mono b6.size)⟩

set_option maxRecDepth 100000 in
set_option maxHeartbeats 4000000 in
/-- there are few enough -/
theorem good (w : World) (het : tld.EtIs w) (m d : Nat) (x : Int) (o : List Int) (a1 : Option Addr) (n1 c1 : Nat) (z1 : List Gr.Ln) (w1 : RdP w w.heap.size a1 n1 c1 z1) (h : Cn.Fine m z1 o) (hd : To.Top m z1 d) (hx : x = (d : Int) + 1) (h6 : m ≤ 6) (r : Int) (hr : r + (Ma.nu (To.comes m z1) m m : Nat) = (m : Int)) :
    Calls Tryd.prog 3 #[.int .i64 (m : Int), .slice a1 n1 c1] w fun e w' => e = .returned (.bool true) ∧ Below w.heap.size w w' := by
  have k6 : (m : Int) ≤ 6 := by omega
  have HR := Lib.hid hr
  have HRF := Lib.hid (rows_is h hr)
  have HWF := Lib.hid (wide_is h hr)
  have HPT := Lib.hid (upL_pts h)
  clear hr
  have hm8 := h.le8
  have hm1 := h.pos
  have HG := Lib.hid h.good
  have H0 := Lib.hid h.code
  have H := Lib.hid h
  have HD := Lib.hid hd
  have HX := Lib.hid hx
  have HLG : Hid (((Cn.lgTo z1 m m : Nat) : Int) = x) := by show _ = _; rw [h.lg hd, hx]; push_cast; rfl
  have HSH : Hid (∀ i, i < m → ∀ k a, a < m → Wa.wk m (To.frow m z1) k a i = true → k < m) := fun i hi k a ha hw => h.step.short h.len ha hw
  have HSM : Hid (∀ i : Nat, i < m → To.dpF z1 m (i : Int) < m) := fun i hi => To.dep_small h.good h.step h.len hi
  clear h hd hx
  go_enter Tryd.func3, Tryd.ntmps3
  go_wp2_with fail
  refine (RefL.Lines_any (m : Int) a1 n1 c1 z1 _ w1).mono ?_
  rintro e x0 ⟨rfl, b0⟩
  rw [H0.out]
  go_wp2_with fail
  refine (RefO.MOrder_good m a1 n1 c1 z1 o _ (w1.past b0) hm8 H.out.step H.out.len).mono ?_
  rintro e x1 ⟨A5, c5, rfl, r5, b1'⟩
  have b1 := b0.trans (b1'.mono b0.size)
  have r1 := w1.past b1
  clear b0 b1'
  go_wp2
  go_loopw [6, 10] (fun lv iv wr => ∃ i g : Nat, i ≤ m ∧ iv = .int .i64 (i : Int) ∧ lv = .int .i64 (g : Int) ∧ Hid (Cn.lgTo z1 m i = g) ∧ x1 = wr) (fun _ iv _ => m - (intOf iv).toNat)
  case atStart => exact ⟨0, 0, Nat.zero_le _, rfl, rfl, rfl, rfl⟩
  case round =>
    obtain ⟨i, g, hi, rfl, rfl, HLT, rfl⟩ := hrel
    by_cases hlt : i < m
    · have k2 : (i : Int) < (m : Int) := by omega
      have hC : Hid (Calls Tryd.prog 6 #[.slice a1 n1 c1, .int .i64 (i : Int)] x1 fun e w' => e = .returned (.int .i64 (To.dpF z1 m (i : Int) : Int)) ∧ x1 = w') := RefO.Deep_any m n1 c1 x1.heap.size a1 z1 HG.out m i x1 (by omega) hlt (HSH.out i hlt) r1
      have hsm := HSM.out i hlt
      obtain ⟨D, hD⟩ : ∃ D, D = To.dpF z1 m (i : Int) := ⟨_, rfl⟩
      have HN : Hid (Cn.lgTo z1 m (i + 1) = if g < D + 1 then D + 1 else g) := by show _ = _; rw [hD, ← HLT.out]; rfl
      rw [← hD] at hC hsm
      obtain ⟨d1, hd1⟩ : ∃ d1 : Int, d1 = ((D + 1 : Nat) : Int) := ⟨_, rfl⟩
      have hwr : IntKind.i64.wrap ((D : Int) + 1) = d1 := by rw [IntKind.wrap_i64]; omega
      clear hD HLT
      by_cases hgd : g < D + 1
      · have HN2 : Hid (Cn.lgTo z1 m (i + 1) = D + 1) := by have := HN.out; rw [if_pos hgd] at this; exact this
        have d2 : (g : Int) < d1 := by omega
        have HD1 := Lib.hid hd1
        clear HN hgd hd1 hsm
        go_wp2_with fail
        refine hC.out.mono ?_
        rintro e y1 ⟨rfl, rfl⟩
        go_wp2_with fail
        refine hC.out.mono ?_
        rintro e y1 ⟨rfl, rfl⟩
        go_wp2
        go_roundw
        case rel => exact ⟨i + 1, D + 1, by omega, by go_num, by rw [HD1.out], HN2, trivial⟩
        case measure => simp [intOf]; omega
      · have HN2 : Hid (Cn.lgTo z1 m (i + 1) = g) := by have := HN.out; rw [if_neg hgd] at this; exact this
        have d2 : d1 ≤ (g : Int) := by omega
        clear HN hgd hd1 hsm
        go_wp2_with fail
        refine hC.out.mono ?_
        rintro e y1 ⟨rfl, rfl⟩
        go_wp2
        go_roundw
        case rel => exact ⟨i + 1, g, by omega, by go_num, rfl, HN2, trivial⟩
        case measure => simp [intOf]; omega
    · obtain rfl : i = m := by omega
      have hgx : (g : Int) = x := by have := HLG.out; rw [HLT.out] at this; exact this
      rw [hgx]
      clear hgx HLT HLG HSH HSM
      go_wp2_with fail
      refine (Longest_yes i d x a1 n1 c1 z1 o _ r1 H.out HD.out HX.out).mono ?_
      rintro e x2 ⟨rfl, b2'⟩
      have b2 := b1.trans (b2'.mono b1.size)
      have r2 := w1.past b2
      have r5 := r5.past b2'
      clear b1 b2' r1
      go_wp2_with fail
      refine (Err_none _).mono ?_
      rintro e x3 ⟨rfl, rfl⟩
      go_wp2_with fail
      refine (RefC.Closed_any i a1 n1 c1 z1 _ r2 hm1 hm8).mono ?_
      rintro e x4 ⟨A6, c6, N, rfl, r6, b4'⟩
      have b4 := b2.trans (b4'.mono b2.size)
      have r5 := r5.past b4'
      rw [← HPT.out] at r5
      clear b2 b4' r2
      go_wp2_with fail
      refine (RefCh.Rows_any A6 N c6 x4.heap.size (Cl.clos i z1) (Cn.pts o) [] A5 i c5 none 0 0 x4 (by omega) r6 (Nat.le_refl _) r5 (Rd.nil _ _)).mono ?_
      rintro e x5 ⟨rfl, b5'⟩
      have b5 := b4.trans (b5'.mono b4.size)
      have r6 := r6.past b5'
      rw [HRF.out]
      clear b4 b5' r5
      go_wp2_with fail
      refine (RefCh.Widest_any i hm8 A6 N c6 x5.heap.size (Cl.clos i z1) i 0 [] none 0 0 x5 (by omega) (Nat.le_refl _) r6 (Nat.le_refl _) (Rd.nil _ _)).mono ?_
      rintro e x6 ⟨rfl, b6'⟩
      have b6 := b5.trans (b6'.mono b5.size)
      rw [HWF.out]
      clear b5 b6' r6
      go_wp2_with fail
      refine (Rows_yes i r a1 n1 c1 z1 o _ (w1.past b6) H.out h6 HR.out).mono ?_
      rintro e x7 ⟨rfl, b7'⟩
      have b7 := b6.trans (b7'.mono b6.size)
      clear b6 b7'
      go_wp2_with fail
      refine (Err_none _).mono ?_
      rintro e x8 ⟨rfl, rfl⟩
      go_wp2_with fail
      refine (Widest_yes i r a1 n1 c1 z1 o _ (w1.past b7) H.out h6 HR.out).mono ?_
      rintro e x8 ⟨rfl, b8⟩
      go_wp2_with fail
      refine (Err_none _).mono ?_
      rintro e x9 ⟨rfl, rfl⟩
      go_wp2
      go_ret
      exact ⟨rfl, b7.trans (b8.mono b7.size)⟩

theorem walk (w : World) (het : tld.EtIs w) (a0 : Int) (w0 : (Lit.int .i64 a0).wf = true) (a1 : Option Addr) (n1 c1 : Nat) (z1 : List Gr.Ln) (w1 : RdP w w.heap.size a1 n1 c1 z1) :
    Calls Tryd.prog 3 #[.int .i64 a0, .slice a1 n1 c1] w fun e w' => e = .returned (.bool true) ∧ Below w.heap.size w w' := by
  rcases Cn.wrong_or_fine a0 z1 with ⟨k, (⟨hc, _⟩ | ⟨_, m, o, rfl, h0, hs, hst, hl⟩)⟩ | ⟨m, o, rfl, h⟩
  · exact bad w het a0 a1 n1 c1 z1 w1 hc
  · exact none_ w het m o a1 n1 c1 z1 w1 h0 hs hst hl
  · obtain ⟨d, _, hd, _⟩ := h.top
    rcases Nat.lt_or_ge 6 m with h6 | h6
    · exact many_ w het m d _ o a1 n1 c1 z1 w1 h hd rfl h6
    · exact good w het m d _ o a1 n1 c1 z1 w1 h hd rfl h6 ((m : Int) - (Ma.nu (To.comes m z1) m m : Nat)) (by omega)

end Go.Proofs.YtinglgnddmadaaaDoor.chainSays
