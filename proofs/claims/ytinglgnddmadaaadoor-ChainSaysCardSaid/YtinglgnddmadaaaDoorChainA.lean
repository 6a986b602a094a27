/-
  The contracts of package chain: the most points in a row, the fewest rows that hold all, or what is wrong.
-/
import Derived.Test.YtinglgnddmadaaaDoorTopoD
import Derived.Test.YtinglgnddmadaaaDoorTopoO
import Derived.Test.YtinglgnddmadaaaDoorCloseC
import Derived.Test.YtinglgnddmadaaaDoorMatchL
import Derived.Test.YtinglgnddmadaaaDoorChainQ
namespace Go.Proofs.YtinglgnddmadaaaDoor
open Go.RowKit Go.Shelf
set_option linter.unusedSimpArgs false
set_option linter.unusedVariables false

theorem Deep_wrong (n : Int) (A : Option Addr) (k c : Nat) (ls : List Gr.Ln) (x : Int) (w : World) (hr : RdP w w.heap.size A k c ls) (h : Cn.Wrong n ls x) :
    Calls Tryd.prog 16 #[.int .i64 n, .slice A k c] w fun e w' => e = .returned (.tuple #[.slice none 0 0, errv x]) ∧ Below w.heap.size w w' := by
  rcases h with ⟨h, rfl⟩ | ⟨rfl, m, o, rfl, h, hs, hk, hl⟩
  · exact Deep_code n A k c ls w hr h
  · exact Deep_no m A k c ls o w hr h hs hk hl
theorem Order_wrong (n : Int) (A : Option Addr) (k c : Nat) (ls : List Gr.Ln) (x : Int) (w : World) (hr : RdP w w.heap.size A k c ls) (h : Cn.Wrong n ls x) :
    Calls Tryd.prog 24 #[.int .i64 n, .slice A k c] w fun e w' => e = .returned (.tuple #[.slice none 0 0, errv x]) ∧ Below w.heap.size w w' := by
  rcases h with ⟨h, rfl⟩ | ⟨rfl, m, o, rfl, h, hs, hk, hl⟩
  · exact Order_code n A k c ls w hr h
  · exact Order_bad m A k c ls o w hr h hs hk hl

/-! ### the greatest of some numbers -/
set_option maxHeartbeats 400000 in
theorem Max_any (A : Option Addr) (n c : Nat) (zs : List Int) (w : World) (hr : Rd w w.heap.size A n c zs) (hn : 1 ≤ n) :
    Calls Tryd.prog 17 #[.slice A n c] w fun e w' => ∃ d : Int, e = .returned (.int .i64 d) ∧ (∃ i, i < n ∧ zs.getD i 0 = d) ∧ (∀ i, i < n → zs.getD i 0 ≤ d) ∧ w = w' := by
  have hbig := hr.big
  obtain ⟨b, o, rfl, hb, hc⟩ := hr.at_ (by omega)
  have g0 := hc 0 (by omega)
  rw [Nat.add_zero] at g0
  obtain ⟨z0, hz0⟩ : ∃ z0, z0 = zs.getD 0 0 := ⟨_, rfl⟩
  rw [← hz0] at g0
  have H0 : Hid ((∃ i, i < n ∧ zs.getD i 0 = z0) ∧ ∀ i, i < 1 → zs.getD i 0 ≤ z0) := ⟨⟨0, by omega, hz0.symm⟩, fun i hi => by
    obtain rfl : i = 0 := by omega
    omega⟩
  have HC := Lib.hid hc
  clear hc hz0
  go_enter Tryd.func17, Tryd.ntmps17
  go_wp2
  go_loopw [3, 4] (fun dv iv wr => ∃ (i : Nat) (d : Int), 1 ≤ i ∧ i ≤ n ∧ iv = .int .i64 (i : Int) ∧ dv = .int .i64 d ∧ Hid ((∃ j, j < n ∧ zs.getD j 0 = d) ∧ ∀ j, j < i → zs.getD j 0 ≤ d) ∧ w = wr) (fun _ iv _ => n - (intOf iv).toNat)
  case atStart => exact ⟨1, z0, Nat.le_refl _, hn, rfl, rfl, H0, rfl⟩
  case round =>
    clear H0 g0
    obtain ⟨i, d, hi1, hin, rfl, rfl, H, rfl⟩ := hrel
    by_cases hlt : i < n
    · have g := HC.out i hlt
      obtain ⟨x, hx⟩ : ∃ x, x = zs.getD i 0 := ⟨_, rfl⟩
      rw [← hx] at g
      obtain ⟨z, hz⟩ : ∃ z, z = max d x := ⟨_, rfl⟩
      have hmx : ∀ ats ty W, (Builtin.max_ ats ty #[.int .i64 d, .int .i64 x]).run Tryd.prog W = .ok (.int .i64 z) W := fun ats ty W => by rw [hz]; exact run_max2 d x ats ty W
      have HN : Hid ((∃ j, j < n ∧ zs.getD j 0 = z) ∧ ∀ j, j < i + 1 → zs.getD j 0 ≤ z) := by
        obtain ⟨⟨j, hj, e⟩, h2⟩ := H.out
        refine ⟨?_, fun k hk => ?_⟩
        · rcases Int.le_total d x with hl | hl
          · exact ⟨i, hlt, by omega⟩
          · exact ⟨j, hj, by omega⟩
        · rcases Nat.lt_or_ge k i with hl | hl
          · have := h2 k hl; omega
          · obtain rfl : k = i := by omega
            omega
      have i1 : (0 : Int) ≤ (i : Int) := by omega
      have i2 : (i : Int) < (n : Int) := by omega
      clear hx hz H
      go_wp2
      go_roundw
      case rel => exact ⟨i + 1, z, by omega, by omega, by go_num, rfl, HN, trivial⟩
      case measure => simp [intOf]; omega
    · obtain rfl : i = n := by omega
      go_wp2
      go_ret
      exact ⟨d, rfl, H.out.1, H.out.2, rfl⟩

/-! ### the longest row -/
set_option maxHeartbeats 400000 in
theorem Longest_wrong (n : Int) (A : Option Addr) (k c : Nat) (ls : List Gr.Ln) (x : Int) (w : World) (hr : RdP w w.heap.size A k c ls) (h : Cn.Wrong n ls x) :
    Calls Tryd.prog 7 #[.int .i64 n, .slice A k c] w fun e w' => e = .returned (.tuple #[.int .i64 0, errv x]) ∧ Below w.heap.size w w' := by
  have HD := Lib.hid (Deep_wrong n A k c ls x w hr h)
  clear h
  go_enter Tryd.func7, Tryd.ntmps7
  go_wp2_with fail
  refine HD.out.mono ?_
  rintro e w1 ⟨rfl, hb⟩
  go_wp2
  go_ret2
  exact ⟨rfl, hb⟩
set_option maxHeartbeats 400000 in
theorem Longest_yes (m d : Nat) (x : Int) (A : Option Addr) (k c : Nat) (ls : List Gr.Ln) (o : List Int) (w : World) (hr : RdP w w.heap.size A k c ls) (h : Cn.Fine m ls o) (hd : To.Top m ls d) (hx : x = (d : Int) + 1) :
    Calls Tryd.prog 7 #[.int .i64 (m : Int), .slice A k c] w fun e w' => e = .returned (.tuple #[.int .i64 x, .nilIface]) ∧ Below w.heap.size w w' := by
  have hm8 := h.le8
  have hm1 := h.pos
  have hdm := (h.only hd).1
  have hw : IntKind.i64.wrap ((d : Int) + 1) = x := by rw [IntKind.wrap_i64]; omega
  have HM : Hid (∀ z : Int, (∃ i, i < m ∧ (To.deps m ls).getD i 0 = z) → (∀ i, i < m → (To.deps m ls).getD i 0 ≤ z) → z = (d : Int)) := fun z h1 h2 => h.max hd h1 h2
  have HD := Lib.hid (Deep_yes m A k c ls o w hr h.code h.step h.len)
  clear h hd hx
  go_enter Tryd.func7, Tryd.ntmps7
  go_wp2_with fail
  refine HD.out.mono ?_
  rintro e w1 ⟨A1, c1, rfl, hrd, hb⟩
  go_wp2_with fail
  refine (Max_any A1 m c1 _ _ hrd hm1).mono ?_
  rintro e w2 ⟨z, rfl, h1, h2, rfl⟩
  obtain rfl := HM.out z h1 h2
  clear h1 h2
  go_wp2
  go_ret2
  exact ⟨rfl, hb⟩

/-! ### who is ahead of whom, as lines -/
set_option maxRecDepth 100000 in
set_option maxHeartbeats 1000000 in
theorem comparisons_any (m : Nat) (A : Option Addr) (k c : Nat) (ls : List Gr.Ln) (w : World) (hr : RdP w w.heap.size A k c ls) (h : Gr.code (m : Int) ls = 0) :
    Calls Tryd.prog 25 #[.int .i64 (m : Int), .slice A k c] w fun e w' => ∃ A1 c1 N, e = .returned (.tuple #[.slice A1 N c1, .nilIface]) ∧ RdP w' w'.heap.size A1 N c1 (Cl.clos m ls) ∧ Below w.heap.size w w' := by
  have hm8 : m ≤ 8 := by have := (Gr.code_zero.1 h).2.1; omega
  have hm1 : 1 ≤ m := by have := (Gr.code_zero.1 h).1; omega
  have HA := Lib.hid (All_yes m A k c ls w hr h)
  clear h
  go_enter Tryd.func25, Tryd.ntmps25
  go_wp2_with fail
  refine HA.out.mono ?_
  rintro e w1 ⟨A2, c2, rfl, hrd, hb1⟩
  obtain ⟨bR, oR, rfl, hbR, hcR⟩ := hrd.at_ (by omega)
  obtain ⟨B, hB⟩ : ∃ B, B = w1.heap.size := ⟨_, rfl⟩
  have HB := Lib.hid hB
  have H0 : Below B w1 w1 := Below.refl _ _
  have hb1s := hb1.size
  have hO0 : OwnP w1 B 39 (.slice none 0 0) (Cn.cpt m ls 0 0) := by rw [Cn.cpt_zero]; exact OwnP.nil _ _ _
  have HR : Hid (∀ a, a < m → ∃ A' c', w1.cell? ⟨bR, oR + a, none⟩ = some (.slice A' (Cl.crow m ls a).length c') ∧ Rd w1 w1.heap.size A' (Cl.crow m ls a).length c' (Cl.crow m ls a)) := fun a ha => by
    have := hcR a ha
    rw [Cl.crows_at ls ha] at this
    exact this
  rw [← hB] at hb1s hbR
  clear hB hcR hrd hr
  go_wp2
  go_loopw [8, 9, 10, 12, 24] (fun v _ _ _ av wr => ∃ a : Nat, a ≤ m ∧ av = .int .i64 (a : Int) ∧ OwnP wr B 39 v (Cn.cpt m ls a 0) ∧ Below B w1 wr) (fun _ _ _ _ av _ => m - (intOf av).toNat)
  case atStart => exact ⟨0, Nat.zero_le _, rfl, hO0, H0⟩
  case round =>
    clear hO0 H0
    obtain ⟨a, ha, rfl, hown, hbel⟩ := hrel
    by_cases hlt : a < m
    · obtain ⟨A', c', g, hrow⟩ := HR.out a hlt
      obtain ⟨N, hN⟩ : ∃ N, N = (Cl.crow m ls a).length := ⟨_, rfl⟩
      have hN8 : N ≤ 8 := by have := Cl.crow_len m ls a; omega
      rw [← hN] at g hrow
      rw [← HB.out] at hrow
      have HN := Lib.hid hN
      have g2 := (hbel.cell (p := ⟨bR, oR + a, none⟩) (show bR < B from hbR)).trans g
      have a1' : (0 : Int) ≤ (a : Int) := by omega
      have a2' : (a : Int) < (m : Int) := by omega
      clear hN g
      go_wp2
      go_loopw [8, 12, 31] (fun v _ iv wr => ∃ i : Nat, i ≤ N ∧ iv = .int .i64 (i : Int) ∧ OwnP wr B 39 v (Cn.cpt m ls a i) ∧ Below B w1 wr) (fun _ _ iv _ => N - (intOf iv).toNat)
      case atStart => exact ⟨0, Nat.zero_le _, rfl, hown, hbel⟩
      case round =>
        clear hown hbel g2
        obtain ⟨i, hi, rfl, hown, hbel⟩ := hrel
        have hsz : B ≤ wr.heap.size := by have := hbel.size; rw [← HB.out] at this; exact this
        by_cases hli : i < N
        · obtain ⟨b4, o4, rfl, hb4, hc4⟩ := hrow.at_ (by omega)
          have g4 := (hbel.cell (p := ⟨b4, o4 + i, none⟩) (show b4 < B from hb4)).trans (hc4 i hli)
          obtain ⟨x, hx⟩ : ∃ x, x = (Cl.crow m ls a).getD i 0 := ⟨_, rfl⟩
          rw [← hx] at g4
          have HX : Hid (Cn.cpt m ls a (i + 1) = Cn.cpt m ls a i ++ [((a : Int), x)]) := Cn.cpt_step (by rw [← HN.out]; exact hli) hx.symm
          have HL : Hid ((Cn.cpt m ls a i).length ≤ 64) := by
            show _ ≤ _
            have h1 := Cn.cpt_len (n := m) ls (a := a) (k := i)
            have h2 : a * m ≤ 7 * 8 := Nat.mul_le_mul (by omega) hm8
            omega
          have HO := Lib.hid hown
          have i1 : (0 : Int) ≤ (i : Int) := by omega
          have i2 : (i : Int) < (N : Int) := by omega
          clear hown hx hc4
          go_wp2_with (first
            | (refine wpList_appP _ rfl (.tmp 35) (.tmp 39) 22 rfl B 39 Tryd.underlying22 lineInfo _ _ rfl (HO.out.below ((Below.refl _ _).alloc (Nat.le_refl _) _)) _ 1 1 _ rfl (RdP.one wr ((a : Int), x) _) (by have := HL.out; omega) (by simp; omega) ?_; intro v2 y2 hown2 hg2 _; have hbe2 : Below B w1 y2 := below_appP (hbel.alloc hsz _) (HO.out.below ((Below.refl _ _).alloc (Nat.le_refl _) (.cells #[.int .i64 (a : Int), .int .i64 x] 39))) hg2 (by simp; omega)))
          rw [← HX.out] at hown2
          go_roundw
          case rel => exact ⟨i + 1, by omega, by go_num, hown2, hbe2⟩
          case measure => simp [intOf]; omega
        · obtain rfl : i = N := by omega
          have hown2 := hown
          rw [HN.out, Cn.cpt_row] at hown2
          clear hown
          go_wp2
          go_roundw
          case rel => exact ⟨a + 1, by omega, by go_num, hown2, hbel⟩
          case measure => simp [intOf]; omega
    · obtain rfl : a = m := by omega
      rw [Cn.cpt_end] at hown
      obtain ⟨A1, c1, rfl, hrd⟩ := hown.rd
      generalize (Cl.clos a ls).length = N at hrd hown ⊢
      go_wp2
      go_ret2
      exact ⟨_, _, _, rfl, hrd, hb1.trans (hbel.mono hb1s)⟩

/-! ### rows -/
set_option maxHeartbeats 400000 in
theorem Rows_wrong (n : Int) (A : Option Addr) (k c : Nat) (ls : List Gr.Ln) (x : Int) (w : World) (hr : RdP w w.heap.size A k c ls) (h : Cn.Wrong n ls x) :
    Calls Tryd.prog 12 #[.int .i64 n, .slice A k c] w fun e w' => e = .returned (.tuple #[.int .i64 0, errv x]) ∧ Below w.heap.size w w' := by
  have HD := Lib.hid (Order_wrong n A k c ls x w hr h)
  clear h
  go_enter Tryd.func12, Tryd.ntmps12
  go_wp2_with fail
  refine HD.out.mono ?_
  rintro e w1 ⟨rfl, hb⟩
  go_wp2
  go_ret2
  exact ⟨rfl, hb⟩
set_option maxHeartbeats 400000 in
theorem Rows_full (m : Nat) (A : Option Addr) (k c : Nat) (ls : List Gr.Ln) (o : List Int) (w : World) (hr : RdP w w.heap.size A k c ls) (h : Cn.Fine m ls o) (h6 : 6 < m) :
    Calls Tryd.prog 12 #[.int .i64 (m : Int), .slice A k c] w fun e w' => e = .returned (.tuple #[.int .i64 0, errv 4]) ∧ Below w.heap.size w w' := by
  have HD := Lib.hid (Order_yes m A k c ls o w hr h.code h.step h.len)
  have k1 : (6 : Int) < (m : Int) := by omega
  clear h
  go_enter Tryd.func12, Tryd.ntmps12
  go_wp2_with fail
  refine HD.out.mono ?_
  rintro e w1 ⟨A1, c1, rfl, _, hb⟩
  go_wp2
  go_ret2
  exact ⟨rfl, hb⟩
set_option maxHeartbeats 400000 in
theorem Rows_yes (m : Nat) (x : Int) (A : Option Addr) (k c : Nat) (ls : List Gr.Ln) (o : List Int) (w : World) (hr : RdP w w.heap.size A k c ls) (h : Cn.Fine m ls o) (h6 : m ≤ 6) (hx : x + (Ma.nu (To.comes m ls) m m : Nat) = (m : Int)) :
    Calls Tryd.prog 12 #[.int .i64 (m : Int), .slice A k c] w fun e w' => e = .returned (.tuple #[.int .i64 x, .nilIface]) ∧ Below w.heap.size w w' := by
  have HD := Lib.hid (Order_yes m A k c ls o w hr h.code h.step h.len)
  have k1 : (m : Int) ≤ 6 := by omega
  have H0 := Lib.hid h.code
  have HC := Lib.hid (Cn.clos_code h6 h.good h.step h.len)
  have HE := Lib.hid (Cn.clos_nu m ls)
  have hlt := h.nu_lt
  obtain ⟨q, hq⟩ : ∃ q, q = Ma.nu (To.comes m ls) m m := ⟨_, rfl⟩
  rw [← hq] at hlt hx
  have hw : IntKind.i64.wrap ((m : Int) - (q : Int)) = x := by rw [IntKind.wrap_i64]; omega
  have HQ := Lib.hid hq
  clear h hq hx
  go_enter Tryd.func12, Tryd.ntmps12
  go_wp2_with fail
  refine HD.out.mono ?_
  rintro e w1 ⟨A1, c1, rfl, _, hb1⟩
  go_wp2_with fail
  refine (comparisons_any m A k c ls _ (hr.past hb1) H0.out).mono ?_
  rintro e w2 ⟨A2, c2, N, rfl, hrd, hb2⟩
  have hb12 := hb1.trans (hb2.mono hb1.size)
  go_wp2_with fail
  refine (Most_ok m m A2 N c2 _ _ hrd HC.out).mono ?_
  rintro e w3 ⟨rfl, hb3⟩
  rw [HE.out, ← HQ.out]
  go_wp2
  go_ret2
  exact ⟨rfl, hb12.trans (hb3.mono hb12.size)⟩

set_option maxHeartbeats 400000 in
theorem Widest_of (n : Int) (A : Option Addr) (k c : Nat) (v : Value) (u : Value) (w : World) (h : Calls Tryd.prog 12 #[.int .i64 n, .slice A k c] w fun e w' => e = .returned (.tuple #[v, u]) ∧ Below w.heap.size w w') :
    Calls Tryd.prog 13 #[.int .i64 n, .slice A k c] w fun e w' => e = .returned (.tuple #[v, u]) ∧ Below w.heap.size w w' := by
  have H := Lib.hid h
  clear h
  go_enter Tryd.func13, Tryd.ntmps13
  go_wp2_with fail
  refine H.out.mono ?_
  rintro e w1 ⟨rfl, hb⟩
  go_wp2
  go_ret2
  exact ⟨rfl, hb⟩
theorem Widest_wrong (n : Int) (A : Option Addr) (k c : Nat) (ls : List Gr.Ln) (x : Int) (w : World) (hr : RdP w w.heap.size A k c ls) (h : Cn.Wrong n ls x) :
    Calls Tryd.prog 13 #[.int .i64 n, .slice A k c] w fun e w' => e = .returned (.tuple #[.int .i64 0, errv x]) ∧ Below w.heap.size w w' := Widest_of _ _ _ _ _ _ _ (Rows_wrong n A k c ls x w hr h)
theorem Widest_full (m : Nat) (A : Option Addr) (k c : Nat) (ls : List Gr.Ln) (o : List Int) (w : World) (hr : RdP w w.heap.size A k c ls) (h : Cn.Fine m ls o) (h6 : 6 < m) :
    Calls Tryd.prog 13 #[.int .i64 (m : Int), .slice A k c] w fun e w' => e = .returned (.tuple #[.int .i64 0, errv 4]) ∧ Below w.heap.size w w' := Widest_of _ _ _ _ _ _ _ (Rows_full m A k c ls o w hr h h6)
theorem Widest_yes (m : Nat) (x : Int) (A : Option Addr) (k c : Nat) (ls : List Gr.Ln) (o : List Int) (w : World) (hr : RdP w w.heap.size A k c ls) (h : Cn.Fine m ls o) (h6 : m ≤ 6) (hx : x + (Ma.nu (To.comes m ls) m m : Nat) = (m : Int)) :
    Calls Tryd.prog 13 #[.int .i64 (m : Int), .slice A k c] w fun e w' => e = .returned (.tuple #[.int .i64 x, .nilIface]) ∧ Below w.heap.size w w' := Widest_of _ _ _ _ _ _ _ (Rows_yes m x A k c ls o w hr h h6 hx)

end Go.Proofs.YtinglgnddmadaaaDoor
