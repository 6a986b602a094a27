/-
  The walk of the law DeepSays: for every number of points and lines it returns true, where the library's variable errors.errorType holds what its initialiser lays.
-/
import Derived.Test.YtpgpfkfibfmfaaaDoorDeepD
import Derived.Test.YtpgpfkfibfmfaaaDoorTold
import Derived.Test.YtpgpfkfibfmfaaaDoorRefT
import Derived.Test.YtpgpfkfibfmfaaaDoorRefO
namespace Go.Proofs.YtpgpfkfibfmfaaaDoor.deepSays
open Go.RowKit RefV
set_option linter.unusedSimpArgs false
set_option linter.unusedVariables false

theorem Err_same (k : Int) (w : World) (het : tld.EtIs w) : Calls Tryd.prog 8 #[errv k, .int .i64 k] w fun e w' => e = .returned (.bool true) ∧ Below w.heap.size w w' :=
  (Error_err k k w het).mono fun _ _ h => ⟨h.1.trans (by simp), h.2⟩
theorem Err_ok (w : World) : Calls Tryd.prog 8 #[.nilIface, .int .i64 0] w fun e w' => e = .returned (.bool true) ∧ w = w' :=
  (Error_nil 0 w).mono fun _ _ h => ⟨h.1.trans (by simp), h.2⟩

theorem lows_take {m : Nat} {R : Nat → List Nat} {F : Dp.Fo} {i : Nat} (hi : i < m) : (Dp.lows m R F).take i ++ [(Dp.lows m R F).getD i 0] = (Dp.lows m R F).take (i + 1) := by
  rw [List.take_succ_eq_append_getElem (by rw [Dp.lows_len]; exact hi)]
  congr 2
  simp [List.getD, Dp.lows_len, hi]

set_option maxRecDepth 100000 in
set_option maxHeartbeats 1000000 in
/-- something is wrong with the lines -/
theorem bad (w : World) (het : tld.EtIs w) (a0 : Int) (a1 : Option Addr) (n1 c1 : Nat) (z1 : List Gr.Ln) (w1 : RdP w w.heap.size a1 n1 c1 z1) (k : Int) (hk : Gr.code a0 z1 = k) (hc : k ≠ 0) :
    Calls Tryd.prog 3 #[.int .i64 a0, .slice a1 n1 c1] w fun e w' => e = .returned (.bool true) ∧ Below w.heap.size w w' := by
  have HK := Lib.hid hk
  have HN : Hid (Gr.code a0 z1 ≠ 0) := by show _; rw [hk]; exact hc
  have d1 : (k == 0) = false := by simpa using hc
  clear hk hc
  go_enter Tryd.func3, Tryd.ntmps3
  go_wp2_with fail
  refine (RefL.Lines_any a0 a1 n1 c1 z1 _ w1).mono ?_
  rw [HK.out]
  rintro e x1 ⟨rfl, b1⟩
  obtain ⟨X, hX⟩ : ∃ X, X = x1.alloc (.cells #[.slice none 0 0, .slice none 0 0, .slice none 0 0, .int .i64 0] 26) := ⟨_, rfl⟩
  have hZ : X.heap[x1.heap.size]? = some (.cells #[.slice none 0 0, .slice none 0 0, .slice none 0 0, .int .i64 0] 26 (0, 0)) := by rw [hX]; exact World.alloc_heap_new x1 _
  have hsX : X.heap.size = x1.heap.size + 1 := by rw [hX]; simp
  have bX : Below w.heap.size w X := b1.trans (by rw [hX]; exact (Below.refl _ _).alloc b1.size _)
  have HX := Lib.hid hX
  clear hX
  go_wp2_with fail
  rw [← HX.out]
  refine (DWalk_err a0 a1 n1 c1 z1 _ (w1.past bX) HN.out).mono ?_
  rw [HK.out]
  rintro e x2 ⟨rfl, b2⟩
  have b02 := bX.trans (b2.mono bX.size)
  have hZ2 := (b2.block x1.heap.size (by omega)).trans hZ
  go_wp2_with fail
  refine (Err_same k _ (het.below b02)).mono ?_
  rintro e x3 ⟨rfl, b3⟩
  have b03 := b02.trans (b3.mono b02.size)
  have hs2 := b2.size
  have hZ3 := (b3.block x1.heap.size (by omega)).trans hZ2
  have q0 := cell_of hZ3 (i := 0) rfl
  go_wp2_with fail
  refine (Ints_t none none 0 0 0 0 [] [] true _ (Rd.nil _ _) (Rd.nil _ _) rfl).mono ?_
  rintro e x4 ⟨rfl, b4⟩
  have b04 := b03.trans (b4.mono b03.size)
  have hs3 := b3.size
  have hZ4 := (b4.block x1.heap.size (by omega)).trans hZ3
  have q1 := cell_of hZ4 (i := 1) rfl
  go_wp2_with fail
  refine (Ints_t none none 0 0 0 0 [] [] true _ (Rd.nil _ _) (Rd.nil _ _) rfl).mono ?_
  rintro e x5 ⟨rfl, b5⟩
  have b05 := b04.trans (b5.mono b04.size)
  have hs4 := b4.size
  have hZ5 := (b5.block x1.heap.size (by omega)).trans hZ4
  have q2 := cell_of hZ5 (i := 2) rfl
  go_wp2_with fail
  refine (Ints_t none none 0 0 0 0 [] [] true _ (Rd.nil _ _) (Rd.nil _ _) rfl).mono ?_
  rintro e x6 ⟨rfl, b6⟩
  have b06 := b05.trans (b6.mono b05.size)
  clear b1 b2 b02 b3 b03 b4 b04 b5 b05 b6 hZ hZ2 hZ3 hZ4 hZ5 q0 q1 q2 bX
  go_wp2_with fail
  refine (DLow_err a0 a1 n1 c1 z1 _ (w1.past b06) HN.out).mono ?_
  rw [HK.out]
  rintro e x7 ⟨rfl, b7⟩
  have b07 := b06.trans (b7.mono b06.size)
  go_wp2_with fail
  refine (Err_same k _ (het.below b07)).mono ?_
  rintro e x8 ⟨rfl, b8⟩
  have b08 := b07.trans (b8.mono b07.size)
  go_wp2_with fail
  refine (Ints_t none none 0 0 0 0 [] [] true _ (Rd.nil _ _) (Rd.nil _ _) rfl).mono ?_
  rintro e x9 ⟨rfl, b9⟩
  have b09 := b08.trans (b9.mono b08.size)
  go_wp2
  go_ret
  exact ⟨rfl, b09⟩

set_option maxRecDepth 100000 in
set_option maxHeartbeats 1000000 in
/-- nothing is wrong with the lines -/
theorem good (w : World) (het : tld.EtIs w) (m : Nat) (a1 : Option Addr) (n1 c1 : Nat) (z1 : List Gr.Ln) (w1 : RdP w w.heap.size a1 n1 c1 z1) (h0 : Gr.code (m : Int) z1 = 0) :
    Calls Tryd.prog 3 #[.int .i64 (m : Int), .slice a1 n1 c1] w fun e w' => e = .returned (.bool true) ∧ Below w.heap.size w w' := by
  have hm8 : m ≤ 8 := by have := (Gr.code_zero.1 h0).2.1; omega
  have hm1 : 1 ≤ m := by have := (Gr.code_zero.1 h0).1; omega
  obtain ⟨F, hF⟩ := Dp.whole_exist (Wa.nrow_ok m z1)
  have H0 := Lib.hid h0
  have HF := Lib.hid hF
  have HLow : Hid (Dp.LowEq m (Wa.nrow m z1) (fun i => (Dp.lows m (Wa.nrow m z1) F).getD i 0) (Dp.mets m F) (Dp.pars m F)) := hF.low (Wa.nrow_ok m z1)
  have HUp : Hid (∀ i j, i < m → j < m → (Dp.pars m F).getD j 0 = (i : Int) → (Dp.mets m F).getD i 0 < (Dp.mets m F).getD j 0) := by
    intro i j hi hj he
    rw [Dp.pars_at F hj] at he
    rw [Dp.mets_at F hi, Dp.mets_at F hj]
    rcases hF.par (Wa.nrow_ok m z1) hj with h | ⟨q, hq, h, _, h3, _⟩
    · omega
    · have : q = i := by omega
      subst this
      omega
  have HTop : Hid (∀ i, i < m → (Dp.mets m F).getD i 0 < 2 * (m : Int)) := by
    intro i hi
    rw [Dp.mets_at F hi]
    have := hF.times (Wa.nrow_ok m z1) hi
    omega
  have HNn : Hid (∀ i, i < m → 0 ≤ (Dp.mets m F).getD i 0) := by
    intro i hi
    rw [Dp.mets_at F hi]
    omega
  have HTk : Hid (∀ i, i < m → (Dp.lows m (Wa.nrow m z1) F).take i ++ [(Dp.lows m (Wa.nrow m z1) F).getD i 0] = (Dp.lows m (Wa.nrow m z1) F).take (i + 1)) := fun i hi => lows_take hi
  clear h0 hF
  go_enter Tryd.func3, Tryd.ntmps3
  go_wp2_with fail
  refine (RefL.Lines_any (m : Int) a1 n1 c1 z1 _ w1).mono ?_
  rw [H0.out]
  rintro e x1 ⟨rfl, b1⟩
  obtain ⟨X, hX⟩ : ∃ X, X = x1.alloc (.cells #[.slice none 0 0, .slice none 0 0, .slice none 0 0, .int .i64 0] 26) := ⟨_, rfl⟩
  have hZ : X.heap[x1.heap.size]? = some (.cells #[.slice none 0 0, .slice none 0 0, .slice none 0 0, .int .i64 0] 26 (0, 0)) := by rw [hX]; exact World.alloc_heap_new x1 _
  have hsX : X.heap.size = x1.heap.size + 1 := by rw [hX]; simp
  have bX : Below w.heap.size w X := b1.trans (by rw [hX]; exact (Below.refl _ _).alloc b1.size _)
  have HX := Lib.hid hX
  have hs1 := b1.size
  clear hX
  obtain ⟨b, hb⟩ : ∃ b, b = x1.heap.size := ⟨_, rfl⟩
  rw [← hb] at hZ hsX hs1
  have HB := Lib.hid hb
  clear hb b1
  go_wp2_with fail
  rw [← HX.out, ← HB.out]
  refine (Walk_any m hm8 hm1 a1 n1 c1 z1 F HF.out _ (w1.past bX)).mono ?_
  rintro e x2 ⟨A1, e1, A2, e2, A3, e3, rfl, r1, r2, r3, b2⟩
  have hs2 := b2.size
  have hZ2 := (b2.block b (by omega)).trans hZ
  have p0 := cell_of hZ2 (i := 0) rfl
  have p1 := cell_of hZ2 (i := 1) rfl
  have p2 := cell_of hZ2 (i := 2) rfl
  have p3 := cell_of hZ2 (i := 3) rfl
  have f0 := frozen_of hZ2 0
  have f1 := frozen_of hZ2 1
  have f2 := frozen_of hZ2 2
  have f3 := frozen_of hZ2 3
  obtain ⟨kk, hkk⟩ : ∃ kk, kk = 2 * m := ⟨_, rfl⟩
  rw [← hkk]
  obtain ⟨x3, hx3⟩ : ∃ x3, x3 = put4 x2 b (.slice A1 m e1) (.slice A2 m e2) (.slice A3 m e3) (.int .i64 (kk : Int)) := ⟨_, rfl⟩
  have hB3 : x3.heap[b]? = some (.cells #[.slice A1 m e1, .slice A2 m e2, .slice A3 m e3, .int .i64 (kk : Int)] 26 (0, 0)) := by rw [hx3]; exact put4_same hZ2 _ _ _ _
  have hs3 : x3.heap.size = x2.heap.size := by rw [hx3]; exact put4_size _ _ _ _ _ _
  have b03 : Below w.heap.size w x3 := by rw [hx3]; exact put4_below _ _ _ _ (bX.trans (b2.mono bX.size)) (by omega)
  rw [hsX] at r1 r2 r3
  have q1 : Rd x3 x3.heap.size A1 m e1 (Dp.mets m F) := by rw [hx3]; exact (r1.put4 b _ _ _ _ (by omega)).rd
  have q2 : Rd x3 x3.heap.size A2 m e2 (Dp.lefts m F) := by rw [hx3]; exact (r2.put4 b _ _ _ _ (by omega)).rd
  have q3 : Rd x3 x3.heap.size A3 m e3 (Dp.pars m F) := by rw [hx3]; exact (r3.put4 b _ _ _ _ (by omega)).rd
  have ql := w1.past b03
  have HX3 : Hid (x3 = (((x2.setCell ⟨b, 0, none⟩ (.slice A1 m e1)).setCell ⟨b, 1, none⟩ (.slice A2 m e2)).setCell ⟨b, 2, none⟩ (.slice A3 m e3)).setCell ⟨b, 3, none⟩ (.int .i64 (kk : Int))) := hx3
  clear hx3 r1 r2 r3 b2 hZ hZ2 bX hkk
  go_wp2
  rw [← HX3.out]
  go_loopw [7, 8] (fun ov iv wr => ∃ i : Nat, i ≤ m ∧ iv = .int .i64 (i : Int) ∧ Own wr x3.heap.size 3 ov ((Dp.lows m (Wa.nrow m z1) F).take i) ∧ Below x3.heap.size x3 wr) (fun _ iv _ => m - (intOf iv).toNat)
  case atStart => exact ⟨0, Nat.zero_le _, rfl, by rw [List.take_zero]; exact Own.nil _ _ _, Below.refl _ _⟩
  case round =>
    obtain ⟨i, him, rfl, ho, hbel⟩ := hrel
    have hsz := hbel.size
    have hBw := (hbel.block b (by omega)).trans hB3
    by_cases hlt : i < m
    · have u0 := cell_of hBw (i := 0) rfl
      have u1 := cell_of hBw (i := 1) rfl
      have u2 := cell_of hBw (i := 2) rfl
      have u3 := cell_of hBw (i := 3) rfl
      obtain ⟨V, hV⟩ : ∃ V, V = wr := ⟨_, rfl⟩
      subst hV
      have hnn := HNn.out i hlt
      have HC := Lib.hid (Low_any m hm8 a1 n1 c1 z1 _ _ _ HLow.out HUp.out HTop.out (2 * m) i hlt (by omega) A1 A2 A3 e1 e2 e3 (kk : Int) V (q1.past hbel) (q3.past hbel) (ql.past hbel))
      have HT := Lib.hid (HTk.out i hlt)
      have HLn : Hid (((Dp.lows m (Wa.nrow m z1) F).take i).length ≤ m) := by show _ ≤ _; rw [List.length_take, Dp.lows_len]; omega
      generalize (Dp.lows m (Wa.nrow m z1) F).getD i 0 = y at HC HT
      clear hnn
      go_wp2_with fail
      refine HC.out.mono ?_
      rintro e w4 ⟨rfl, b4⟩
      have ho4 := ho.below b4
      have hs4 := b4.size
      go_wp2_with (at_builtin; refine wpList_app _ rfl (.tmp 28) (.tmp 34) 24 rfl x3.heap.size 3 Tryd.underlying24 intInfo u7 _ rfl (ho4.below ((Below.refl _ _).alloc (Nat.le_refl _) _)) (some ⟨w4.heap.size, 0, none⟩) 1 1 [y] rfl (Rd.one _ _ _) (by have := HLn.out; omega) (by simp; omega) ?_; intro v' w5 ho5 hg5 ha5)
      go_roundw
      case rel =>
        refine ⟨i + 1, by omega, by go_num, by rw [← HT.out]; exact ho5, ?_⟩
        have h1 : Below x3.heap.size x3 w4 := hbel.trans (b4.mono hsz)
        exact (h1.alloc (by omega) _).grown hg5 (by simp; omega) (fun k hk => ho4.at_base k hk)
      case measure => simp [intOf]; omega
    · obtain rfl : i = m := by omega
      obtain ⟨V, hV⟩ : ∃ V, V = wr := ⟨_, rfl⟩
      subst hV
      have hall : (Dp.lows i (Wa.nrow i z1) F).take i = Dp.lows i (Wa.nrow i z1) F := by
        have := List.take_length (l := Dp.lows i (Wa.nrow i z1) F)
        rw [Dp.lows_len] at this
        exact this
      rw [hall] at ho
      obtain ⟨A7, c7, rfl, h7⟩ := ho.rd
      rw [Dp.lows_len] at h7 ⊢
      have s1 := q1.past hbel
      have s2 := q2.past hbel
      have s3 := q3.past hbel
      have bw := b03.trans (hbel.mono b03.size)
      clear ho hall hbel q1 q2 q3 HLow HUp HTop HNn HTk hB3
      go_wp2_with fail
      refine (DWalk_good i a1 n1 c1 z1 F HF.out _ (w1.past bw) H0.out).mono ?_
      rintro e y1 ⟨d1, ga, gb, gc, rfl, oa, ob, oc⟩
      have bw1 := bw.trans (d1.mono bw.size)
      have hB1 := (d1.block b (by omega)).trans hBw
      have hsy := d1.size
      have t1 := s1.past d1
      have t2 := s2.past d1
      have t3 := s3.past d1
      have t7 := h7.past d1
      have ra := oa.rd'
      have rb := ob.rd'
      have rc := oc.rd'
      have u0 := cell_of hB1 (i := 0) rfl
      clear s1 s2 s3 h7 oa ob oc d1 hBw bw
      go_wp2_with fail
      refine (Err_ok _).mono ?_
      rintro e y2 ⟨rfl, rfl⟩
      go_wp2_with fail
      refine (Ints_t _ _ i i _ _ _ _ true _ ra t1 (by simp)).mono ?_
      rintro e y3 ⟨rfl, d3⟩
      have bw3 := bw1.trans (d3.mono bw1.size)
      have hB3' := (d3.block b (by omega)).trans hB1
      have hs3' := d3.size
      have u1 := cell_of hB3' (i := 1) rfl
      have rb3 := rb.past d3
      have t23 := t2.past d3
      have rc3 := rc.past d3
      have t33 := t3.past d3
      have t73 := t7.past d3
      clear d3 hB1 rb rc t1 t2 t3 t7 ra
      go_wp2_with fail
      refine (Ints_t _ _ i i _ _ _ _ true _ rb3 t23 (by simp)).mono ?_
      rintro e y4 ⟨rfl, d4⟩
      have bw4 := bw3.trans (d4.mono bw3.size)
      have hB4 := (d4.block b (by omega)).trans hB3'
      have u2 := cell_of hB4 (i := 2) rfl
      have rc4 := rc3.past d4
      have t34 := t33.past d4
      have t74 := t73.past d4
      clear d4 hB3' rb3 t23 rc3 t33 t73
      go_wp2_with fail
      refine (Ints_t _ _ i i _ _ _ _ true _ rc4 t34 (by simp)).mono ?_
      rintro e y5 ⟨rfl, d5⟩
      have bw5 := bw4.trans (d5.mono bw4.size)
      have t75 := t74.past d5
      clear d5 hB4 rc4 t34 t74 bw1 bw3 bw4
      go_wp2_with fail
      refine (DLow_good i a1 n1 c1 z1 F HF.out _ (w1.past bw5) H0.out).mono ?_
      rintro e y6 ⟨d6, gl, rfl, ol⟩
      have bw6 := bw5.trans (d6.mono bw5.size)
      have t76 := t75.past d6
      have rl := ol.rd'
      clear d6 ol t75 bw5
      go_wp2_with fail
      refine (Err_ok _).mono ?_
      rintro e y7 ⟨rfl, rfl⟩
      go_wp2_with fail
      refine (Ints_t _ _ i i _ _ _ _ true _ rl t76 (by simp)).mono ?_
      rintro e y8 ⟨rfl, d8⟩
      go_wp2
      go_ret
      exact ⟨rfl, bw6.trans (d8.mono bw6.size)⟩

theorem walk (w : World) (het : tld.EtIs w) (a0 : Int) (_w0 : (Lit.int .i64 a0).wf = true) (a1 : Option Addr) (n1 c1 : Nat) (z1 : List Gr.Ln) (w1 : RdP w w.heap.size a1 n1 c1 z1) :
    Calls Tryd.prog 3 #[.int .i64 a0, .slice a1 n1 c1] w fun e w' => e = .returned (.bool true) ∧ Below w.heap.size w w' := by
  by_cases hc : Gr.code a0 z1 = 0
  · obtain ⟨m, rfl⟩ : ∃ m : Nat, a0 = (m : Int) := ⟨a0.toNat, by have := (Gr.code_zero.1 hc).1; omega⟩
    exact good w het m a1 n1 c1 z1 w1 hc
  · exact bad w het a0 a1 n1 c1 z1 w1 _ rfl hc

end Go.Proofs.YtpgpfkfibfmfaaaDoor.deepSays
