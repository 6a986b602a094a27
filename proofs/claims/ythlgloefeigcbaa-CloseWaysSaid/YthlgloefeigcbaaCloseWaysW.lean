/-
  The walk of the law CloseWays: for every number of points and lines it returns true.
-/
import Derived.Test.YthlgloefeigcbaaCloseF
import Derived.Test.YthlgloefeigcbaaRefL
import Derived.Test.YthlgloefeigcbaaIn2
import Derived.BigQuiet
namespace Go.Proofs.Ythlgloefeigcbaa.closeWays
open Go.RowKit
set_option linter.unusedSimpArgs false
set_option linter.unusedVariables false

set_option maxRecDepth 100000 in
set_option maxHeartbeats 1000000 in
/-- something is wrong with the lines -/
theorem bad (w : World) (a0 : Int) (a1 : Option Addr) (n1 c1 : Nat) (z1 : List Gr.Ln) (w1 : RdP w w.heap.size a1 n1 c1 z1) (hc : Gr.code a0 z1 ≠ 0) :
    Calls Try.prog 3 #[.int .i64 a0, .slice a1 n1 c1] w fun e w' => e = .returned (.bool true) ∧ Below w.heap.size w w' := by
  have HN := Lib.hid hc
  clear hc
  go_enter Try.func3, Try.ntmps3
  go_wp2_with fail
  refine (closeFact_any _).mono ?_
  rintro e x1 ⟨rfl, b1⟩
  go_wp2_with fail
  refine (All_code a0 a1 n1 c1 z1 _ (w1.past b1) HN.out).mono ?_
  rintro e x2 ⟨rfl, b2⟩
  go_wp2
  go_ret
  exact ⟨rfl, b1.trans (b2.mono b1.size)⟩

/-- the rows of All, in a world -/
def Wy (w : World) (A : Option Addr) (m c : Nat) (ls : List Gr.Ln) (W : World) : Prop := RdR W W.heap.size A m c (Cl.crows m ls) ∧ Below w.heap.size w W
theorem Wy.past {w W W' : World} {A : Option Addr} {m c : Nat} {ls : List Gr.Ln} (h : Wy w A m c ls W) (hb : Below W.heap.size W W') : Wy w A m c ls W' := ⟨h.1.past hb, h.2.trans (hb.mono h.2.size)⟩
theorem Wy.row {w W : World} {b o : Nat} {m c : Nat} {ls : List Gr.Ln} (h : Wy w (some ⟨b, o, none⟩) m c ls W) {a : Nat} (ha : a < m) : ∃ A' c', W.cell? ⟨b, o + a, none⟩ = some (.slice A' (Cl.crow m ls a).length c') ∧ Rd W W.heap.size A' (Cl.crow m ls a).length c' (Cl.crow m ls a) := by
  obtain ⟨b', o', e, _, hc⟩ := h.1.at_ (show 0 < m by omega)
  cases e
  obtain ⟨A', c', h1, h2⟩ := hc a ha
  rw [Cl.crows_at ls ha] at h1 h2
  exact ⟨A', c', h1, h2⟩
theorem crow_get {n : Nat} {ls : List Gr.Ln} {a k : Nat} (hk : k < (Cl.crow n ls a).length) : ∃ b : Nat, (Cl.crow n ls a).getD k 0 = (b : Int) ∧ b < n ∧ To.comes n ls a b = true := by
  have : (Cl.crow n ls a).getD k 0 ∈ Cl.crow n ls a := by simp [List.getD, hk]
  exact Cl.mem_crow this

set_option maxRecDepth 100000 in
set_option maxHeartbeats 4000000 in
theorem good (w : World) (m : Nat) (a1 : Option Addr) (n1 c1 : Nat) (z1 : List Gr.Ln) (w1 : RdP w w.heap.size a1 n1 c1 z1) (h0 : Gr.code (m : Int) z1 = 0) :
    Calls Try.prog 3 #[.int .i64 (m : Int), .slice a1 n1 c1] w fun e w' => e = .returned (.bool true) ∧ Below w.heap.size w w' := by
  have hm8 : m ≤ 8 := by have := (Gr.code_zero.1 h0).2.1; omega
  have hm1 : 1 ≤ m := by have := (Gr.code_zero.1 h0).1; omega
  have HG := Lib.hid (Gr.code_zero.1 h0).2.2.2
  have HX := Lib.hid w1.len
  have h24 : n1 ≤ 24 := by have := (Gr.code_zero.1 h0).2.2.1; rw [HX.out] at this; exact this
  have hbig := w1.big
  have H0 := Lib.hid h0
  clear h0
  obtain ⟨q, hq⟩ : ∃ q : Int, q = (m : Int) - 1 := ⟨_, rfl⟩
  have hwr : IntKind.i64.wrap ((m : Int) - 1) = q := by rw [IntKind.wrap_i64] <;> omega
  have HQ := Lib.hid hq
  clear hq
  go_enter Try.func3, Try.ntmps3
  go_wp2_with fail
  refine (closeFact_any _).mono ?_
  rintro e x1 ⟨rfl, b1⟩
  go_wp2_with fail
  refine (All_yes m a1 n1 c1 z1 _ (w1.past b1) H0.out).mono ?_
  rintro e x2 ⟨A2, c2, rfl, hrd, b2⟩
  have b12 := b1.trans (b2.mono b1.size)
  obtain ⟨bR, oR, rfl, _, _⟩ := hrd.at_ (by omega)
  have HW : Wy w (some ⟨bR, oR, none⟩) m c2 z1 x2 := ⟨hrd, b12⟩
  clear hrd b1 b2
  go_wp2_with fail
  refine (RefL.Lines_any (m : Int) a1 n1 c1 z1 _ (w1.past b12)).mono ?_
  rintro e x3 ⟨rfl, b3⟩
  have HW3 := HW.past b3
  rw [H0.out]
  clear HW b3 b12
  go_wp2
  go_loopw [8] (fun iv wr => ∃ i : Nat, i ≤ n1 ∧ iv = .int .i64 (i : Int) ∧ Wy w (some ⟨bR, oR, none⟩) m c2 z1 wr) (fun iv _ => n1 - (intOf iv).toNat)
  case atStart => exact ⟨0, Nat.zero_le _, rfl, HW3⟩
  case round =>
    clear HW3
    obtain ⟨i, hi, rfl, HW⟩ := hrel
    by_cases hlt : i < n1
    · obtain ⟨b1, o1, rfl, hbb, hcc⟩ := (w1.past HW.2).at_ (by omega)
      obtain ⟨g1, g2⟩ := hcc i hlt
      clear hcc
      have hmem : z1.getD i (0, 0) ∈ z1 := by
        have : i < z1.length := by rw [HX.out]; exact hlt
        simp [List.getD, this]
      obtain ⟨⟨p, r⟩, hp⟩ : ∃ p, p = z1.getD i (0, 0) := ⟨_, rfl⟩
      rw [← hp] at g1 g2 hmem
      simp only at g1 g2
      have hgp := HG.out _ hmem
      unfold Gr.Good at hgp
      simp only at hgp
      obtain ⟨a, rfl⟩ : ∃ a : Nat, p = (a : Int) := ⟨p.toNat, by omega⟩
      obtain ⟨b, rfl⟩ : ∃ b : Nat, r = (b : Int) := ⟨r.toNat, by omega⟩
      have ham : a < m := by omega
      have hbm : b < m := by omega
      obtain ⟨A', c', g3, hrow⟩ := HW.row ham
      have HT : Hid ((Cl.crow m z1 a).contains (b : Int) = true) := by
        show _ = _
        rw [Cl.crow_has hbm]
        exact Cl.way_line HG.out (Gr.has_iff.2 hmem)
      obtain ⟨N, hN⟩ : ∃ N, N = (Cl.crow m z1 a).length := ⟨_, rfl⟩
      rw [← hN] at g3 hrow
      have a1' : (0 : Int) ≤ (a : Int) := by omega
      have a2' : (a : Int) < (m : Int) := by omega
      have i1 : (0 : Int) ≤ (i : Int) := by omega
      have i2 : (i : Int) < (n1 : Int) := by omega
      clear hp hmem hgp hN
      go_wp2
      go_quiet (first | (go_at_call 8; exact Calls.quiet_of_same ((Has_any _ _ _ _ (b : Int) true _ (hrow.drewN _) HT.out).mono fun _ _ h => ⟨h.1, h.2.symm⟩)))
      go_wp2
      go_roundw
      case rel => exact ⟨i + 1, by omega, by go_num, HW.past (Below.drewN' _ _ _)⟩
      case measure => simp [intOf]; omega
    · obtain rfl : n1 = i := by omega
      go_wp2
      go_loopw [9, 10, 11, 12, 13, 14, 15] (fun iv _ _ _ _ _ _ wr => ∃ a : Nat, a ≤ m ∧ iv = .int .i64 (a : Int) ∧ Wy w (some ⟨bR, oR, none⟩) m c2 z1 wr) (fun iv _ _ _ _ _ _ _ => m - (intOf iv).toNat)
      case atStart => exact ⟨0, Nat.zero_le _, rfl, HW⟩
      case round =>
        clear HW
        obtain ⟨a, ha, rfl, HW⟩ := hrel
        by_cases hlt : a < m
        · have a1' : (0 : Int) ≤ (a : Int) := by omega
          have a2' : (a : Int) < (m : Int) := by omega
          obtain ⟨N, hN⟩ : ∃ N, N = (Cl.crow m z1 a).length := ⟨_, rfl⟩
          have HN := Lib.hid hN
          have hN8 : N ≤ 8 := by have := Cl.crow_len m z1 a; omega
          clear hN
          go_wp2
          go_loopw [10, 11, 12, 13, 14, 15] (fun iv _ _ _ _ _ wr => ∃ k : Nat, k ≤ N ∧ iv = .int .i64 (k : Int) ∧ Wy w (some ⟨bR, oR, none⟩) m c2 z1 wr) (fun iv _ _ _ _ _ _ => N - (intOf iv).toNat)
          case atStart => exact ⟨0, Nat.zero_le _, rfl, HW⟩
          case round =>
            clear HW
            obtain ⟨k, hk, rfl, HW⟩ := hrel
            obtain ⟨A', c', g3, hrow⟩ := HW.row hlt
            rw [← HN.out] at g3 hrow
            by_cases hlk : k < N
            · obtain ⟨b, hb1, hbm, hway⟩ := crow_get (n := m) (ls := z1) (a := a) (k := k) (by rw [← HN.out]; exact hlk)
              obtain ⟨b4, o4, rfl, hb4, hc4⟩ := hrow.at_ (by omega)
              have g4 := hc4 k hlk
              rw [hb1] at g4
              have HB := Lib.hid hway
              have k1 : (0 : Int) ≤ (k : Int) := by omega
              have k2 : (k : Int) < (N : Int) := by omega
              have b1' : (0 : Int) ≤ (b : Int) := by omega
              have b2' : (b : Int) < (m : Int) := by omega
              have b3' : (b : Int) ≤ q := by have := HQ.out; omega
              clear hc4 hb1 hway
              obtain ⟨N2, hN2⟩ : ∃ N2, N2 = (Cl.crow m z1 b).length := ⟨_, rfl⟩
              have HN2 := Lib.hid hN2
              have hN28 : N2 ≤ 8 := by have := Cl.crow_len m z1 b; omega
              clear hN2
              go_wp2_with fail
              refine (in2_yes _ _ _ _ b1' b3').mono ?_
              rintro e y ⟨rfl, rfl⟩
              clear g3 g4 hrow
              go_wp2
              go_loopw [12] (fun iv wi => ∃ j : Nat, j ≤ N2 ∧ iv = .int .i64 (j : Int) ∧ Wy w (some ⟨bR, oR, none⟩) m c2 z1 wi) (fun iv _ => N2 - (intOf iv).toNat)
              case atStart => exact ⟨0, Nat.zero_le _, rfl, HW⟩
              case round =>
                clear HW
                obtain ⟨j, hj, rfl, HW⟩ := hrel
                obtain ⟨A5, c5, g5, hrow5⟩ := HW.row hbm
                rw [← HN2.out] at g5 hrow5
                by_cases hlj : j < N2
                · obtain ⟨A6, c6, g6, hrow6⟩ := HW.row hlt
                  obtain ⟨d, hd1, hdm, hway⟩ := crow_get (n := m) (ls := z1) (a := b) (k := j) (by rw [← HN2.out]; exact hlj)
                  obtain ⟨b7, o7, rfl, hb7, hc7⟩ := hrow5.at_ (by omega)
                  have g7 := hc7 j hlj
                  rw [hd1] at g7
                  have HT : Hid ((Cl.crow m z1 a).contains (d : Int) = true) := by
                    show _ = _
                    rw [Cl.crow_has hdm]
                    exact Cl.way_trans HG.out hlt HB.out hway
                  rw [← HN.out] at g6 hrow6
                  have j1 : (0 : Int) ≤ (j : Int) := by omega
                  have j2 : (j : Int) < (N2 : Int) := by omega
                  clear hc7 hd1 hway
                  go_wp2
                  go_quiet (first | (go_at_call 8; exact Calls.quiet_of_same ((Has_any _ _ _ _ (d : Int) true _ (hrow6.drewN _) HT.out).mono fun _ _ h => ⟨h.1, h.2.symm⟩)))
                  go_wp2
                  go_roundw
                  case rel => exact ⟨j + 1, by omega, by go_num, HW.past (Below.drewN' _ _ _)⟩
                  case measure => simp [intOf]; omega
                · by_cases hmore : n1 < 24 ∧ a ≠ b
                  · obtain ⟨hs, hab⟩ := hmore
                    obtain ⟨hgood2, hsame⟩ := Cl.way_more HG.out hlt hbm hab HB.out
                    have HC2 : Hid (Gr.code (m : Int) (z1 ++ [((a : Int), (b : Int))]) = 0) := by
                      show _ = _
                      refine Gr.code_zero.2 ⟨by omega, by omega, ?_, hgood2⟩
                      rw [List.length_append, HX.out]
                      simp
                      omega
                    have HE : Hid (Cl.crows m (z1 ++ [((a : Int), (b : Int))]) = Cl.crows m z1) := Cl.crows_same fun x y hx _ => hsame x y hx
                    have d1 : ((a : Int) != (b : Int)) = true := by simp; omega
                    have hwl := (w1.past HW.2)
                    clear hgood2 hsame
                    go_wp2_with (first
                      | (refine wpList_appP _ rfl (.tmp 117) (.tmp 118) 22 rfl wr.heap.size 33 Try.underlying22 lineInfo _ _ rfl (OwnP.nil _ _ _) a1 n1 c1 z1 rfl hwl (by simp; omega) (Nat.le_refl _) ?_; intro v1 y1 hown1 hg1 _; have hbe1 : Below wr.heap.size wr y1 := below_appP (Below.refl _ _) (OwnP.nil wr wr.heap.size 33) hg1 (Nat.le_refl _); have hbe1s := hbe1.size; have hown1' : OwnP y1 wr.heap.size 33 v1 z1 := hown1; clear hown1)
                      | (refine wpList_appP _ rfl (.tmp 122) (.tmp 126) 22 rfl wr.heap.size 33 Try.underlying22 lineInfo _ _ rfl (hown1'.below ((Below.refl _ _).alloc (Nat.le_refl _) _)) _ 1 1 _ rfl (RdP.one y1 ((a : Int), (b : Int)) _) (by rw [HX.out]; omega) (by simp; omega) ?_; intro v2 y2 hown2 hg2 _; have hbe2 : Below wr.heap.size wr y2 := below_appP (hbe1.alloc hbe1s _) (hown1'.below ((Below.refl _ _).alloc (Nat.le_refl _) (.cells #[.int .i64 (a : Int), .int .i64 (b : Int)] 33))) hg2 (by simp; omega); obtain ⟨A9, c9, rfl, hr9⟩ := hown2.rd; generalize (z1 ++ [((a : Int), (b : Int))]).length = L9 at hr9 hown2 ⊢))
                    refine (All_yes m A9 L9 c9 _ _ hr9 HC2.out).mono ?_
                    rintro e y3 ⟨A10, c10, rfl, hrd10, b10⟩
                    rw [HE.out] at hrd10
                    have HW3 := HW.past (hbe2.trans (b10.mono hbe2.size))
                    clear hown2 hr9 hown1' hg1 hg2 hbe1 hbe1s hbe2 b10 hwl g5 hrow5
                    go_wp2_with fail
                    refine (Rows_any _ _ m m _ _ _ _ true _ hrd10 HW3.1 (by simp)).mono ?_
                    rintro e y4 ⟨rfl, b11⟩
                    have HW4 := HW3.past b11
                    clear HW3 hrd10 b11 HW
                    go_wp2
                    go_roundw
                    case rel => exact ⟨k + 1, by omega, by go_num, HW4⟩
                    case measure => simp [intOf]; omega
                  · by_cases h24' : n1 < 24
                    · have d1 : ((a : Int) != (b : Int)) = false := by
                        have : a = b := Classical.byContradiction fun h => hmore ⟨h24', h⟩
                        simp [this]
                      clear hmore
                      go_wp2
                      go_roundw
                      case rel => exact ⟨k + 1, by omega, by go_num, HW⟩
                      case measure => simp [intOf]; omega
                    · clear hmore
                      go_wp2
                      go_roundw
                      case rel => exact ⟨k + 1, by omega, by go_num, HW⟩
                      case measure => simp [intOf]; omega
            · go_wp2
              go_roundw
              case rel => exact ⟨a + 1, by omega, by go_num, HW⟩
              case measure => simp [intOf]; omega
        · obtain rfl : a = m := by omega
          go_wp2
          go_ret
          exact ⟨rfl, HW.2⟩

theorem walk (w : World) (a0 : Int) (w0 : (Lit.int .i64 a0).wf = true) (a1 : Option Addr) (n1 c1 : Nat) (z1 : List Gr.Ln) (w1 : RdP w w.heap.size a1 n1 c1 z1) :
    Calls Try.prog 3 #[.int .i64 a0, .slice a1 n1 c1] w fun e w' => e = .returned (.bool true) ∧ Below w.heap.size w w' := by
  by_cases h : Gr.code a0 z1 = 0
  · obtain ⟨m, rfl⟩ : ∃ m : Nat, a0 = (m : Int) := ⟨a0.toNat, by have := (Gr.code_zero.1 h).1; omega⟩
    exact good w m a1 n1 c1 z1 w1 h
  · exact bad w a0 a1 n1 c1 z1 w1 h

end Go.Proofs.Ythlgloefeigcbaa.closeWays
