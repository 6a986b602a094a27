/-
  The walk of the law GraphSays: for every number of points, lines and point it returns true, where the library's variable errors.errorType holds what its initialiser lays.
-/
import Derived.Test.YtghdallaohpelaaDoorGraphB
import Derived.Test.YtghdallaohpelaaDoorGraphW
import Derived.Test.YtghdallaohpelaaDoorGraphE
import Derived.Test.YtghdallaohpelaaDoorRefL
import Derived.Test.YtghdallaohpelaaDoorLibS
import Derived.Test.YtghdallaohpelaaDoorTold
namespace Go.Proofs.YtghdallaohpelaaDoor.graphSays
open Go.RowKit

theorem Error_same (k : Int) (w : World) (het : tld.EtIs w) : Calls Tryd.prog 6 #[errv k, .int .i64 k] w fun e w' => e = .returned (.bool true) ∧ Below w.heap.size w w' :=
  (Error_err k k w het).mono fun _ _ h => ⟨h.1.trans (by simp), h.2⟩
theorem Error_ok (w : World) : Calls Tryd.prog 6 #[.nilIface, .int .i64 0] w fun e w' => e = .returned (.bool true) ∧ w = w' :=
  (Error_nil 0 w).mono fun _ _ h => ⟨h.1.trans (by simp), h.2⟩

/-- the other lines, as far as the pair (a, b) -/
def oth (m : Nat) (ls : List Gr.Ln) (a b : Nat) : List Gr.Ln := (Gr.upTo m (fun a b => decide (a < b) && !Gr.adj ls (a : Int) (b : Int)) a b).map fun p => ((p.1 : Int), (p.2 : Int))
theorem oth_start (m : Nat) (ls : List Gr.Ln) : oth m ls 0 0 = [] := by simp [oth, Gr.upTo]
theorem oth_low {m : Nat} {ls : List Gr.Ln} {a : Nat} : ∀ b, b ≤ a + 1 → oth m ls a b = oth m ls a 0 := by
  intro b
  induction b with
  | zero => intro _; rfl
  | succ b ih =>
    intro h
    rw [← ih (by omega)]
    unfold oth
    rw [Gr.upTo_miss (by simp; omega)]
theorem oth_hit {m : Nat} {ls : List Gr.Ln} {a b : Nat} (h : a < b) (hn : Gr.adj ls (a : Int) (b : Int) = false) : oth m ls a (b + 1) = oth m ls a b ++ [((a : Int), (b : Int))] := by
  unfold oth
  rw [Gr.upTo_hit (by simp [h, hn])]
  simp
theorem oth_miss {m : Nat} {ls : List Gr.Ln} {a b : Nat} (hn : Gr.adj ls (a : Int) (b : Int) = true) : oth m ls a (b + 1) = oth m ls a b := by
  unfold oth
  rw [Gr.upTo_miss (by simp [hn])]
theorem oth_row {m : Nat} {ls : List Gr.Ln} {a : Nat} : oth m ls a m = oth m ls (a + 1) 0 := by unfold oth; rw [Gr.upTo_row]
theorem oth_done {m : Nat} {ls : List Gr.Ln} : oth m ls m 0 = Gr.other m ls := by unfold oth Gr.other; rw [Gr.upTo_done]
theorem oth_len {m : Nat} {ls : List Gr.Ln} {a b : Nat} (hm : m ≤ 8) (ha : a ≤ m) (hb : b ≤ m) : (oth m ls a b).length ≤ 72 := by
  have h1 := Gr.upTo_len (m := m) (r := fun a b => decide (a < b) && !Gr.adj ls (a : Int) (b : Int)) a b
  have h2 : a * m ≤ 8 * 8 := Nat.mul_le_mul (by omega) hm
  unfold oth
  rw [List.length_map]
  omega
theorem rows_step {m : Nat} {ls : List Gr.Ln} {a : Nat} : (List.range (a + 1)).map (Gr.row m ls) = (List.range a).map (Gr.row m ls) ++ [Gr.row m ls a] := by simp [List.range_succ]

set_option maxRecDepth 100000 in
set_option maxHeartbeats 8000000 in
/-- where something is wrong with the points or the lines -/
theorem walk_err (w : World) (het : tld.EtIs w) (a0 : Int) (a1 : Option Addr) (n1 c1 : Nat) (z1 : List Gr.Ln) (w1 : RdP w w.heap.size a1 n1 c1 z1) (a2 : Int) (hne : Gr.code a0 z1 ≠ 0) :
    Calls Tryd.prog 3 #[.int .i64 a0, .slice a1 n1 c1, .int .i64 a2] w fun e w' => e = .returned (.bool true) ∧ Below w.heap.size w w' := by
  have hbig := w1.big
  have hwc : Gr.wcode a0 z1 a2 = Gr.code a0 z1 := by unfold Gr.wcode; rw [if_pos hne]
  obtain ⟨k, hk⟩ : ∃ k, k = Gr.code a0 z1 := ⟨_, rfl⟩
  rw [← hk] at hne hwc
  have HK := Lib.hid hk.symm
  have HW := Lib.hid hwc
  have HN := Lib.hid hne
  have hd : (k == 0) = false := by simpa using hne
  clear hk hwc hne
  have hb0 : 0 < a0 ∨ decide (0 < a0) = false := by simp; omega
  have hb1 : 0 < n1 ∨ (decide (0 < n1) = false ∧ decide ((0 : Int) < (n1 : Int)) = false) := by simp; omega
  rcases hb0 with h0 | h0 <;> rcases hb1 with h1 | ⟨h1, h1'⟩
  all_goals
    go_enter Tryd.func3, Tryd.ntmps3
    go_wp2_with fail
    refine (RefL.Lines_any a0 a1 n1 c1 z1 _ w1).mono ?_
    rintro e x1 ⟨rfl, hb1⟩
    rw [HK.out]
    have r1 := w1.past hb1
    go_wp2_with fail
    refine (GCheck_err a0 a1 n1 c1 z1 _ r1 (by rw [HK.out]; exact HN.out)).mono ?_
    rintro e x2 ⟨rfl, hb2⟩
    rw [HK.out]
    have r2 := r1.past hb2
    have hb02 := hb1.trans (hb2.mono hb1.size)
    clear r1 hb1 hb2
    have het2 : tld.EtIs x2 := het.below hb02
    go_wp2_with fail
    refine (Error_same k _ het2).mono ?_
    rintro e x3 ⟨rfl, hb3⟩
    have r3 := r2.past hb3
    have hb03 := hb02.trans (hb3.mono hb02.size)
    clear r2 hb3 hb02 het2
    go_wp2
    go_loop [9, 11, 12] (fun v9 v11 i => v9 = .slice none 0 0 ∧ v11 = .slice none 0 0 ∧ i = .int .i64 0) (fun _ _ _ => 0)
    case atStart => exact ⟨rfl, rfl, rfl⟩
    case round =>
      obtain ⟨rfl, rfl, rfl⟩ := hrel
      go_wp2_with fail
      refine (Go.Proofs.YtghdallaohpelaaDoor.Beside_any a0 a1 n1 c1 z1 _ r3).mono ?_
      rintro e x4 ⟨hb4, (⟨_, rfl⟩ | ⟨hx, _⟩)⟩
      rotate_left
      · exact absurd (HK.out.symm.trans hx) HN.out
      rw [HK.out]
      have r4 := r3.past hb4
      have hb04 := hb03.trans (hb4.mono hb03.size)
      clear r3 hb4 hb03
      have het4 : tld.EtIs x4 := het.below hb04
      go_wp2_with fail
      refine (Error_same k _ het4).mono ?_
      rintro e x5 ⟨rfl, hb5⟩
      have r5 := r4.past hb5
      have hb05 := hb04.trans (hb5.mono hb04.size)
      clear r4 hb5 hb04 het4
      go_wp2_with fail
      refine (Rows_any none none 0 0 0 0 [] [] true _ (RdR.nil _ _) (RdR.nil _ _) rfl).mono ?_
      rintro e x6 ⟨rfl, hb6⟩
      have r6 := r5.past hb6
      have hb06 := hb05.trans (hb6.mono hb05.size)
      clear r5 hb6 hb05
      go_wp2_with fail
      refine (Other_any a0 a1 n1 c1 z1 _ r6).mono ?_
      rintro e x7 ⟨hb7, (⟨_, rfl⟩ | ⟨hx, _⟩ | ⟨hx, _⟩)⟩
      rotate_left
      · exact absurd (HK.out.symm.trans hx) HN.out
      · exact absurd (HK.out.symm.trans hx) HN.out
      rw [HK.out]
      have r7 := r6.past hb7
      have hb07 := hb06.trans (hb7.mono hb06.size)
      clear r6 hb7 hb06
      have het7 : tld.EtIs x7 := het.below hb07
      go_wp2_with fail
      refine (Error_same k _ het7).mono ?_
      rintro e x8 ⟨rfl, hb8⟩
      have r8 := r7.past hb8
      have hb08 := hb07.trans (hb8.mono hb07.size)
      clear r7 hb8 hb07 het7
      go_wp2_with fail
      refine (Lines_any none none 0 0 0 0 [] [] true _ (RdP.nil _ _) (RdP.nil _ _) rfl).mono ?_
      rintro e x9 ⟨rfl, hb9⟩
      have r9 := r8.past hb9
      have hb09 := hb08.trans (hb9.mono hb08.size)
      clear r8 hb9 hb08
      go_wp2
      go_loop [10, 20, 21] (fun v10 i _ => v10 = .slice none 0 0 ∧ i = .int .i64 0) (fun _ _ _ => 0)
      case atStart => exact ⟨rfl, rfl⟩
      case round =>
        obtain ⟨rfl, rfl⟩ := hrel
        go_wp2_with fail
        refine (Without_any a0 a1 n1 c1 z1 a2 _ r9).mono ?_
        rintro e y1 ⟨hc1, (⟨_, rfl⟩ | ⟨hx, _⟩)⟩
        rotate_left
        · exact absurd (HW.out.symm.trans hx) HN.out
        rw [HW.out]
        have hc01 := hb09.trans (hc1.mono hb09.size)
        have hety : tld.EtIs y1 := het.below hc01
        go_wp2_with fail
        refine (Error_same k _ hety).mono ?_
        rintro e y2 ⟨rfl, hc2⟩
        have hc02 := hc01.trans (hc2.mono hc01.size)
        go_wp2_with fail
        refine (Lines_any none none 0 0 0 0 [] [] true _ (RdP.nil _ _) (RdP.nil _ _) rfl).mono ?_
        rintro e y3 ⟨rfl, hc3⟩
        go_wp2
        go_ret
        exact ⟨rfl, hc02.trans (hc3.mono hc02.size)⟩

set_option maxRecDepth 100000 in
set_option maxHeartbeats 16000000 in
/-- where nothing is wrong with the points and the lines -/
theorem walk_ok (w : World) (het : tld.EtIs w) (m : Nat) (a1 : Option Addr) (n1 c1 : Nat) (z1 : List Gr.Ln) (w1 : RdP w w.heap.size a1 n1 c1 z1) (a2 : Int) (h0 : Gr.code (m : Int) z1 = 0) :
    Calls Tryd.prog 3 #[.int .i64 (m : Int), .slice a1 n1 c1, .int .i64 a2] w fun e w' => e = .returned (.bool true) ∧ Below w.heap.size w w' := by
  have hbig := w1.big
  have HX := Lib.hid w1.len
  obtain ⟨z1', z8, z24, hgood⟩ := Gr.code_zero.1 h0
  have hm1 : 1 ≤ m := by omega
  have hm8 : m ≤ 8 := by omega
  rw [HX.out] at z24
  have hgood' : ∀ j, j < n1 → 0 ≤ (z1.getD j (0, 0)).1 ∧ (z1.getD j (0, 0)).1 < 8 ∧ 0 ≤ (z1.getD j (0, 0)).2 ∧ (z1.getD j (0, 0)).2 < 8 := by
    intro j hj
    have hjl : j < z1.length := by rw [HX.out]; exact hj
    have := hgood (z1.getD j (0, 0)) (by simp only [List.getD, hjl, List.getElem?_eq_getElem, Option.getD_some]; exact List.getElem_mem hjl)
    unfold Gr.Good at this
    omega
  have HG := Lib.hid hgood'
  have HC := Lib.hid h0
  clear hgood hgood' h0 z1' z8
  go_enter Tryd.func3, Tryd.ntmps3
  go_wp2_with fail
  refine (RefL.Lines_any (m : Int) a1 n1 c1 z1 _ w1).mono ?_
  rintro e x1 ⟨rfl, hb1⟩
  rw [HC.out]
  have r1 := w1.past hb1
  go_wp2_with fail
  refine (GCheck_nil (m : Int) a1 n1 c1 z1 _ r1 HC.out).mono ?_
  rintro e x2 ⟨rfl, hb2⟩
  have r2 := r1.past hb2
  have hb02 := hb1.trans (hb2.mono hb1.size)
  clear r1 hb1 hb2
  go_wp2_with fail
  refine (Error_ok _).mono ?_
  rintro e x3 ⟨rfl, rfl⟩
  go_wp2
  go_loopw [9, 11, 12] (fun v9 v11 i wr => ∃ a : Nat, a ≤ m ∧ i = .int .i64 a ∧ OwnR wr x2.heap.size 29 3 v9 ((List.range a).map (Gr.row m z1)) ∧ OwnP wr x2.heap.size 33 v11 (oth m z1 a 0) ∧ Below x2.heap.size x2 wr) (fun _ _ i _ => m - (intOf i).toNat)
  case atStart => exact ⟨0, Nat.zero_le _, rfl, OwnR.nil _ _ _ _, by rw [oth_start]; exact OwnP.nil _ _ _, Below.refl _ _⟩
  case round =>
    obtain ⟨a, ha, rfl, hR, hP, hbel⟩ := hrel
    have hsz := hbel.size
    by_cases hlt : a < m
    · have hrr := (r2.below hbel).more hsz
      go_wp2_with fail
      refine (RefL.Near_any m a1 n1 c1 z1 a _ hrr hm8).mono ?_
      rintro e y ⟨u, rfl, hu, hby⟩
      have hR1 := hR.below hby
      have hP1 := hP.below hby
      have hbel1 : Below x2.heap.size x2 y := hbel.trans (hby.mono hsz)
      have hu1 : Own y x2.heap.size 3 u (Gr.row m z1 a) := hu.mono hsz
      obtain ⟨Au, cu, rfl, hru⟩ := hu.rd
      have hsy := hbel1.size
      obtain ⟨L, hL⟩ : ∃ L, L = (Gr.row m z1 a).length := ⟨_, rfl⟩
      rw [← hL] at hu1 ⊢
      clear hL hu hru hR hP hbel hby hrr hsz
      have hba := (Below.refl y.heap.size y).alloc (Nat.le_refl _) (.cells #[.slice Au L cu] 29)
      have hR2 := hR1.below hba
      have hP2 := hP1.below hba
      have hu2 := hu1.below hba
      have hbel2 : Below x2.heap.size x2 (y.alloc (.cells #[.slice Au L cu] 29)) := hbel1.trans (hba.mono hsy)
      have hcu : (y.alloc (.cells #[.slice Au L cu] 29)).cell? ⟨y.heap.size, 0, none⟩ = some (.slice Au L cu) := by simp
      have hsy2 : x2.heap.size ≤ (y.alloc (.cells #[.slice Au L cu] 29)).heap.size := by simp; omega
      have hroom : ((List.range a).map (Gr.row m z1)).length + 1 ≤ 1000000 := by simp; omega
      clear hR1 hP1 hu1 hbel1
      go_wp2_with (at_builtin; refine wpList_appR _ rfl (.tmp 39) (.tmp 44) 28 rfl x2.heap.size 29 3 (by decide) Tryd.underlying28 rowInfo _ _ rfl hR2 y.heap.size _ (Gr.row m z1 a) rfl hcu hu2 hroom hsy2 ?_; intro v9 y3 hR3 hg3 hv9)
      obtain ⟨nv, xv, hv9⟩ := hv9
      have hP3 : OwnP y3 x2.heap.size 33 _ (oth m z1 a 0) := OwnP.grown hP2 hg3 (fun q hq => own_ne (by decide) hP2 hv9 q hq)
      have hbel3 : Below x2.heap.size x2 y3 := hbel2.grown hg3 hsy2 (fun q hq => (World.ownsRow.lt hv9 q hq).1)
      rw [← rows_step] at hR3
      clear hR2 hP2 hu2 hbel2 hcu hroom hg3 hv9
      go_loopw [11, 13] (fun v11 i wr => ∃ b : Nat, a + 1 ≤ b ∧ b ≤ m ∧ i = .int .i64 b ∧ OwnR wr x2.heap.size 29 3 v9 ((List.range (a + 1)).map (Gr.row m z1)) ∧ OwnP wr x2.heap.size 33 v11 (oth m z1 a b) ∧ Below x2.heap.size x2 wr) (fun _ i _ => m - (intOf i).toNat)
      case atStart => exact ⟨a + 1, Nat.le_refl _, by omega, by go_num, hR3, by rw [oth_low (a + 1) (Nat.le_refl _)]; exact hP3, hbel3⟩
      case round =>
        obtain ⟨b, hab, hb, rfl, hR, hP, hbel⟩ := hrel
        have hsz := hbel.size
        by_cases hlb : b < m
        · have hrr := (r2.below hbel).more hsz
          cases hadj : Gr.adj z1 (a : Int) (b : Int)
          · have HA := Lib.hid hadj
            clear hadj
            have hlen := oth_len (ls := z1) hm8 (Nat.le_of_lt hlt) hb
            have hba := (Below.refl wr.heap.size wr).alloc (Nat.le_refl _) (.cells #[.int .i64 (a : Int), .int .i64 (b : Int)] 33)
            have hR2 := hR.below hba
            have hP2 := hP.below hba
            have hbel2 : Below x2.heap.size x2 (wr.alloc (.cells #[.int .i64 (a : Int), .int .i64 (b : Int)] 33)) := hbel.trans (hba.mono hsz)
            have hrd : RdP (wr.alloc (.cells #[.int .i64 (a : Int), .int .i64 (b : Int)] 33)) (wr.heap.size + 1) (some ⟨wr.heap.size, 0, none⟩) 1 1 [((a : Int), (b : Int))] := RdP.one wr _ _
            have hroom : (oth m z1 a b).length + 1 ≤ 8796093022208 := by omega
            have hsy2 : x2.heap.size ≤ (wr.alloc (.cells #[.int .i64 (a : Int), .int .i64 (b : Int)] 33)).heap.size := by simp; omega
            go_wp2_with fail
            refine (RefL.Beside_any a1 n1 c1 z1 (a : Int) (b : Int) false _ hrr HA.out).mono ?_
            rintro e y4 ⟨rfl, rfl⟩
            go_wp2_with (at_builtin; refine wpList_appP _ rfl (.tmp 58) (.tmp 62) 22 rfl x2.heap.size 33 Tryd.underlying22 lineInfo _ _ rfl hP2 _ 1 1 _ rfl hrd hroom hsy2 ?_; intro v4 y5 hP5 hg5 hat5)
            go_roundw
            case rel => exact ⟨b + 1, by omega, by omega, by go_num, hR2.grown hP2 (by decide) (by decide) hg5, by rw [oth_hit (by omega) HA.out]; exact hP5, below_appP hbel2 hP2 hg5 hsy2⟩
            case measure => simp [intOf]; omega
          · have HA := Lib.hid hadj
            clear hadj
            go_wp2_with fail
            refine (RefL.Beside_any a1 n1 c1 z1 (a : Int) (b : Int) true _ hrr HA.out).mono ?_
            rintro e y4 ⟨rfl, rfl⟩
            go_wp2
            go_roundw
            case rel => exact ⟨b + 1, by omega, by omega, by go_num, hR, by rw [oth_miss HA.out]; exact hP, hbel⟩
            case measure => simp [intOf]; omega
        · obtain rfl : b = m := by omega
          go_wp2
          go_roundw
          case rel => exact ⟨a + 1, by omega, by go_num, hR, by rw [← oth_row]; exact hP, hbel⟩
          case measure => simp [intOf]; omega
    · obtain rfl : a = m := by omega
      rw [oth_done] at hP
      have hb03 := hb02.trans (hbel.mono hb02.size)
      have r3 := r2.past hbel
      go_wp2_with fail
      refine (Go.Proofs.YtghdallaohpelaaDoor.Beside_any (a : Int) a1 n1 c1 z1 _ r3).mono ?_
      rintro e x4 ⟨hb4, (⟨hx, _⟩ | ⟨_, A4, c4, rfl, hr4⟩)⟩
      · exact absurd HC.out hx
      simp only [Int.toNat_natCast] at hr4 ⊢
      have hb04 := hb03.trans (hb4.mono hb03.size)
      have r4 := r3.past hb4
      have hR4 := hR.below hb4
      have hP4 := hP.below hb4
      clear r2 r3 hR hP hb4 hb03 hb02 hbel hsz
      go_wp2_with fail
      refine (Error_ok _).mono ?_
      rintro e x5 ⟨rfl, rfl⟩
      obtain ⟨A9, c9, rfl, hr9⟩ := hR4.rd
      have hq9 : ((List.range a).map (Gr.row a z1)).length = a := by simp
      rw [hq9] at hr9 ⊢
      go_wp2_with fail
      refine (Rows_any A4 A9 a a c4 c9 _ _ true _ hr4 hr9 (decide_eq_true rfl)).mono ?_
      rintro e x6 ⟨rfl, hb6⟩
      have hb06 := hb04.trans (hb6.mono hb04.size)
      have r6 := r4.past hb6
      have hP6 := hP4.below hb6
      obtain ⟨A6, c6, rfl, hr6⟩ := hP6.rd
      obtain ⟨q, hq⟩ : ∃ q, q = (Gr.other a z1).length := ⟨_, rfl⟩
      rw [← hq] at hr6 ⊢
      have HQ := Lib.hid hq
      have hqb := hr6.big
      clear hq hP6 hP4 hb6 hb04 r4 hR4 hr4 hr9 hq9
      by_cases h24 : 24 < q
      · go_wp2_with fail
        refine (Other_any (a : Int) a1 n1 c1 z1 _ r6).mono ?_
        rintro e x7 ⟨hb7, (⟨hx, _⟩ | ⟨_, _, rfl⟩ | ⟨_, hx, _⟩)⟩
        · exact absurd HC.out hx
        rotate_left
        · simp only [Int.toNat_natCast] at hx
          rw [← HQ.out] at hx
          omega
        have hb07 := hb06.trans (hb7.mono hb06.size)
        have r7 := r6.past hb7
        have het7 : tld.EtIs x7 := het.below hb07
        clear hb7 hb06 r6
        go_wp2_with fail
        refine (Error_same 4 _ het7).mono ?_
        rintro e x8 ⟨rfl, hb8⟩
        have hb08 := hb07.trans (hb8.mono hb07.size)
        have r8 := r7.past hb8
        clear hb8 hb07 r7 het7
        go_wp2_with fail
        refine (Lines_any none none 0 0 0 0 [] [] true _ (RdP.nil _ _) (RdP.nil _ _) rfl).mono ?_
        rintro e x9 ⟨rfl, hb9⟩
        have hby := hb08.trans (hb9.mono hb08.size)
        have ry := r8.past hb9
        clear hb9 hb08 r8
        by_cases hn1 : (a : Int) = 1
        · have HW : Hid (Gr.wcode (a : Int) z1 a2 = 1) := by show _ = _; unfold Gr.wcode; rw [if_neg (fun h => h HC.out), if_pos (.inl hn1)]
          have hd1 : ((a : Int) == 1) = true := by simpa using hn1
          have hd1' : (a == 1) = true := by simp; omega
          have HN := Lib.hid hn1
          clear hn1
          have hb1 : 0 < n1 ∨ (decide (0 < n1) = false ∧ decide ((0 : Int) < (n1 : Int)) = false) := by simp; omega
          rcases hb1 with h1 | ⟨h1, h1'⟩
          all_goals
            go_wp2
            go_loop [10, 20, 21] (fun v10 i _ => v10 = .slice none 0 0 ∧ i = .int .i64 0) (fun _ _ _ => 0)
            case atStart => exact ⟨rfl, rfl⟩
            case round =>
              obtain ⟨rfl, rfl⟩ := hrel
              go_wp2_with fail
              refine (Without_any (a : Int) a1 n1 c1 z1 a2 _ ry).mono ?_
              rintro e y1 ⟨hc1, (⟨_, rfl⟩ | ⟨hx, _⟩)⟩
              rotate_left
              · rw [HW.out] at hx
                exact absurd hx (by decide)
              rw [HW.out]
              have hc01 := hby.trans (hc1.mono hby.size)
              have hety : tld.EtIs y1 := het.below hc01
              go_wp2_with fail
              refine (Error_same 1 _ hety).mono ?_
              rintro e y2 ⟨rfl, hc2⟩
              have hc02 := hc01.trans (hc2.mono hc01.size)
              go_wp2_with fail
              refine (Lines_any none none 0 0 0 0 [] [] true _ (RdP.nil _ _) (RdP.nil _ _) rfl).mono ?_
              rintro e y3 ⟨rfl, hc3⟩
              go_wp2
              go_ret
              exact ⟨rfl, hc02.trans (hc3.mono hc02.size)⟩
        · have hd1 : ((a : Int) == 1) = false := by simpa using hn1
          have hd1' : (a == 1) = false := by simp; omega
          by_cases hin : a2 < 0 ∨ (a : Int) - 1 < a2
          · have HW : Hid (Gr.wcode (a : Int) z1 a2 = 1) := by show _ = _; unfold Gr.wcode; rw [if_neg (fun h => h HC.out), if_pos (by omega)]
            clear hn1
            have hb1 : 0 < n1 ∨ (decide (0 < n1) = false ∧ decide ((0 : Int) < (n1 : Int)) = false) := by simp; omega
            rcases hb1 with h1 | ⟨h1, h1'⟩
            all_goals
              go_wp2_with fail
              refine (in_no a2 0 ((a : Int) - 1) _ hin).mono ?_
              rintro e y0 ⟨rfl, rfl⟩
              go_wp2
              go_loop [10, 20, 21] (fun v10 i _ => v10 = .slice none 0 0 ∧ i = .int .i64 0) (fun _ _ _ => 0)
              case atStart => exact ⟨rfl, rfl⟩
              case round =>
                obtain ⟨rfl, rfl⟩ := hrel
                go_wp2_with fail
                refine (Without_any (a : Int) a1 n1 c1 z1 a2 _ ry).mono ?_
                rintro e y1 ⟨hc1, (⟨_, rfl⟩ | ⟨hx, _⟩)⟩
                rotate_left
                · rw [HW.out] at hx
                  exact absurd hx (by decide)
                rw [HW.out]
                have hc01 := hby.trans (hc1.mono hby.size)
                have hety : tld.EtIs y1 := het.below hc01
                go_wp2_with fail
                refine (Error_same 1 _ hety).mono ?_
                rintro e y2 ⟨rfl, hc2⟩
                have hc02 := hc01.trans (hc2.mono hc01.size)
                go_wp2_with fail
                refine (Lines_any none none 0 0 0 0 [] [] true _ (RdP.nil _ _) (RdP.nil _ _) rfl).mono ?_
                rintro e y3 ⟨rfl, hc3⟩
                go_wp2
                go_ret
                exact ⟨rfl, hc02.trans (hc3.mono hc02.size)⟩
          · have HW : Hid (Gr.wcode (a : Int) z1 a2 = 0) := Gr.wcode_zero.2 ⟨HC.out, hn1, by omega, by omega⟩
            clear hn1
            go_wp2_with fail
            refine (in_yes a2 0 ((a : Int) - 1) _ (by omega) (by omega)).mono ?_
            rintro e y0 ⟨rfl, rfl⟩
            go_wp2
            go_loopw [10, 20, 21] (fun v10 i _ wr => ∃ t : Nat, t ≤ n1 ∧ i = .int .i64 t ∧ OwnP wr x9.heap.size 33 v10 (Gr.without a2 (z1.take t)) ∧ Below x9.heap.size x9 wr) (fun _ i _ _ => n1 - (intOf i).toNat)
            case atStart => exact ⟨0, Nat.zero_le _, rfl, by simpa [Gr.without] using OwnP.nil _ _ _, Below.refl _ _⟩
            case round =>
              obtain ⟨t, ht, rfl, hP, hbel⟩ := hrel
              have hsz := hbel.size
              by_cases hlt : t < n1
              · obtain ⟨b1, o1, rfl, hbb, hcc⟩ := ry.at_ (by omega)
                obtain ⟨x, y⟩ := hcc t hlt
                have g1 : wr.cell? ⟨b1, o1 + t * 2, none⟩ = some (.int .i64 (z1.getD t (0, 0)).1) := (hbel.cell (by exact hbb)).trans x
                have g2 : wr.cell? ⟨b1, o1 + t * 2 + 1, none⟩ = some (.int .i64 (z1.getD t (0, 0)).2) := (hbel.cell (by exact hbb)).trans y
                clear hcc x y
                have hgd := HG.out t hlt
                obtain ⟨⟨p, s⟩, hp⟩ : ∃ p, p = z1.getD t (0, 0) := ⟨_, rfl⟩
                rw [← hp] at g1 g2 hgd
                have HP := Lib.hid hp
                clear hp
                simp only at g1 g2 hgd
                obtain ⟨p0, p8, s0, s8⟩ := hgd
                have htk : Hid (Gr.without a2 (z1.take (t + 1)) = if p = a2 ∨ s = a2 then Gr.without a2 (z1.take t) else Gr.without a2 (z1.take t) ++ [(Gr.dn a2 p, Gr.dn a2 s)]) := by
                  show _ = _
                  rw [Gr.without_take (by rw [HX.out]; exact hlt) (p, s) HP.out]
                have hba := (Below.refl wr.heap.size wr).alloc (Nat.le_refl _) (.cells #[.int .i64 p, .int .i64 s] 33)
                have hP2 := hP.below hba
                have hbel2 : Below x9.heap.size x9 (wr.alloc (.cells #[.int .i64 p, .int .i64 s] 33)) := hbel.trans (hba.mono hsz)
                by_cases hpi : p = a2
                · have hd : (p == a2) = true := by simpa using hpi
                  have HI := Lib.hid hpi
                  clear hpi
                  go_wp2
                  go_roundw
                  case rel => exact ⟨t + 1, by omega, by go_num, by rw [htk.out, if_pos (.inl HI.out)]; exact hP2, hbel2⟩
                  case measure => simp [intOf]; omega
                have hd : (p == a2) = false := by simpa using hpi
                by_cases hsi : s = a2
                · have hd2 : (s == a2) = true := by simpa using hsi
                  have HI := Lib.hid hsi
                  clear hsi
                  go_wp2
                  go_roundw
                  case rel => exact ⟨t + 1, by omega, by go_num, by rw [htk.out, if_pos (.inr HI.out)]; exact hP2, hbel2⟩
                  case measure => simp [intOf]; omega
                have hd2 : (s == a2) = false := by simpa using hsi
                have hroom : (Gr.without a2 (z1.take t)).length + 1 ≤ 8796093022208 := by
                  have h1 := Gr.without_len a2 (z1.take t)
                  rw [List.length_take] at h1
                  omega
                have hnn : Hid (¬ (p = a2 ∨ s = a2)) := by rintro (h | h); exact hpi h; exact hsi h
                clear hP2 hbel2 hba
                by_cases hp1 : a2 < p
                · by_cases hs1 : a2 < s
                  · have e1 : Hid (Gr.dn a2 p = p - 1) := by show _ = _; unfold Gr.dn; rw [if_pos hp1]
                    have e2 : Hid (Gr.dn a2 s = s - 1) := by show _ = _; unfold Gr.dn; rw [if_pos hs1]
                    have hb1 := (Below.refl wr.heap.size wr).alloc (Nat.le_refl _) (.cells #[.int .i64 (p - 1), .int .i64 (s - 1)] 33)
                    have hb2 := hb1.alloc (by simp) (.cells #[.int .i64 (p - 1), .int .i64 (s - 1)] 33)
                    have hP3 := hP.below hb2
                    have hbel3 : Below x9.heap.size x9 ((wr.alloc (.cells #[.int .i64 (p - 1), .int .i64 (s - 1)] 33)).alloc (.cells #[.int .i64 (p - 1), .int .i64 (s - 1)] 33)) := hbel.trans (hb2.mono hsz)
                    have hrd3 : RdP ((wr.alloc (.cells #[.int .i64 (p - 1), .int .i64 (s - 1)] 33)).alloc (.cells #[.int .i64 (p - 1), .int .i64 (s - 1)] 33)) (wr.heap.size + 1 + 1) (some ⟨wr.heap.size + 1, 0, none⟩) 1 1 [(p - 1, s - 1)] := by
                      have h := RdP.one (wr.alloc (.cells #[.int .i64 (p - 1), .int .i64 (s - 1)] 33)) (p - 1, s - 1) 33
                      rw [World.size_alloc] at h
                      exact h
                    have hsy3 : x9.heap.size ≤ ((wr.alloc (.cells #[.int .i64 (p - 1), .int .i64 (s - 1)] 33)).alloc (.cells #[.int .i64 (p - 1), .int .i64 (s - 1)] 33)).heap.size := by simp; omega
                    clear hb1 hb2
                    go_wp2_with (at_builtin; refine wpList_appP _ rfl (.tmp 153) (.tmp 155) 22 rfl x9.heap.size 33 Tryd.underlying22 lineInfo _ _ rfl hP3 _ 1 1 _ rfl hrd3 hroom hsy3 ?_; intro v4 y5 hP5 hg5 hat5)
                    go_roundw
                    case rel => exact ⟨t + 1, by omega, by go_num, by rw [htk.out, if_neg hnn.out, e1.out, e2.out]; exact hP5, below_appP hbel3 hP3 hg5 hsy3⟩
                    case measure => simp [intOf]; omega
                  · have e1 : Hid (Gr.dn a2 p = p - 1) := by show _ = _; unfold Gr.dn; rw [if_pos hp1]
                    have e2 : Hid (Gr.dn a2 s = s) := by show _ = _; unfold Gr.dn; rw [if_neg hs1]
                    have hb1 := (Below.refl wr.heap.size wr).alloc (Nat.le_refl _) (.cells #[.int .i64 (p - 1), .int .i64 (s)] 33)
                    have hb2 := hb1.alloc (by simp) (.cells #[.int .i64 (p - 1), .int .i64 (s)] 33)
                    have hP3 := hP.below hb2
                    have hbel3 : Below x9.heap.size x9 ((wr.alloc (.cells #[.int .i64 (p - 1), .int .i64 (s)] 33)).alloc (.cells #[.int .i64 (p - 1), .int .i64 (s)] 33)) := hbel.trans (hb2.mono hsz)
                    have hrd3 : RdP ((wr.alloc (.cells #[.int .i64 (p - 1), .int .i64 (s)] 33)).alloc (.cells #[.int .i64 (p - 1), .int .i64 (s)] 33)) (wr.heap.size + 1 + 1) (some ⟨wr.heap.size + 1, 0, none⟩) 1 1 [(p - 1, s)] := by
                      have h := RdP.one (wr.alloc (.cells #[.int .i64 (p - 1), .int .i64 (s)] 33)) (p - 1, s) 33
                      rw [World.size_alloc] at h
                      exact h
                    have hsy3 : x9.heap.size ≤ ((wr.alloc (.cells #[.int .i64 (p - 1), .int .i64 (s)] 33)).alloc (.cells #[.int .i64 (p - 1), .int .i64 (s)] 33)).heap.size := by simp; omega
                    clear hb1 hb2
                    go_wp2_with (at_builtin; refine wpList_appP _ rfl (.tmp 153) (.tmp 155) 22 rfl x9.heap.size 33 Tryd.underlying22 lineInfo _ _ rfl hP3 _ 1 1 _ rfl hrd3 hroom hsy3 ?_; intro v4 y5 hP5 hg5 hat5)
                    go_roundw
                    case rel => exact ⟨t + 1, by omega, by go_num, by rw [htk.out, if_neg hnn.out, e1.out, e2.out]; exact hP5, below_appP hbel3 hP3 hg5 hsy3⟩
                    case measure => simp [intOf]; omega
                · by_cases hs1 : a2 < s
                  · have e1 : Hid (Gr.dn a2 p = p) := by show _ = _; unfold Gr.dn; rw [if_neg hp1]
                    have e2 : Hid (Gr.dn a2 s = s - 1) := by show _ = _; unfold Gr.dn; rw [if_pos hs1]
                    have hb1 := (Below.refl wr.heap.size wr).alloc (Nat.le_refl _) (.cells #[.int .i64 (p), .int .i64 (s - 1)] 33)
                    have hb2 := hb1.alloc (by simp) (.cells #[.int .i64 (p), .int .i64 (s - 1)] 33)
                    have hP3 := hP.below hb2
                    have hbel3 : Below x9.heap.size x9 ((wr.alloc (.cells #[.int .i64 (p), .int .i64 (s - 1)] 33)).alloc (.cells #[.int .i64 (p), .int .i64 (s - 1)] 33)) := hbel.trans (hb2.mono hsz)
                    have hrd3 : RdP ((wr.alloc (.cells #[.int .i64 (p), .int .i64 (s - 1)] 33)).alloc (.cells #[.int .i64 (p), .int .i64 (s - 1)] 33)) (wr.heap.size + 1 + 1) (some ⟨wr.heap.size + 1, 0, none⟩) 1 1 [(p, s - 1)] := by
                      have h := RdP.one (wr.alloc (.cells #[.int .i64 (p), .int .i64 (s - 1)] 33)) (p, s - 1) 33
                      rw [World.size_alloc] at h
                      exact h
                    have hsy3 : x9.heap.size ≤ ((wr.alloc (.cells #[.int .i64 (p), .int .i64 (s - 1)] 33)).alloc (.cells #[.int .i64 (p), .int .i64 (s - 1)] 33)).heap.size := by simp; omega
                    clear hb1 hb2
                    go_wp2_with (at_builtin; refine wpList_appP _ rfl (.tmp 153) (.tmp 155) 22 rfl x9.heap.size 33 Tryd.underlying22 lineInfo _ _ rfl hP3 _ 1 1 _ rfl hrd3 hroom hsy3 ?_; intro v4 y5 hP5 hg5 hat5)
                    go_roundw
                    case rel => exact ⟨t + 1, by omega, by go_num, by rw [htk.out, if_neg hnn.out, e1.out, e2.out]; exact hP5, below_appP hbel3 hP3 hg5 hsy3⟩
                    case measure => simp [intOf]; omega
                  · have e1 : Hid (Gr.dn a2 p = p) := by show _ = _; unfold Gr.dn; rw [if_neg hp1]
                    have e2 : Hid (Gr.dn a2 s = s) := by show _ = _; unfold Gr.dn; rw [if_neg hs1]
                    have hb1 := (Below.refl wr.heap.size wr).alloc (Nat.le_refl _) (.cells #[.int .i64 (p), .int .i64 (s)] 33)
                    have hb2 := hb1.alloc (by simp) (.cells #[.int .i64 (p), .int .i64 (s)] 33)
                    have hP3 := hP.below hb2
                    have hbel3 : Below x9.heap.size x9 ((wr.alloc (.cells #[.int .i64 (p), .int .i64 (s)] 33)).alloc (.cells #[.int .i64 (p), .int .i64 (s)] 33)) := hbel.trans (hb2.mono hsz)
                    have hrd3 : RdP ((wr.alloc (.cells #[.int .i64 (p), .int .i64 (s)] 33)).alloc (.cells #[.int .i64 (p), .int .i64 (s)] 33)) (wr.heap.size + 1 + 1) (some ⟨wr.heap.size + 1, 0, none⟩) 1 1 [(p, s)] := by
                      have h := RdP.one (wr.alloc (.cells #[.int .i64 (p), .int .i64 (s)] 33)) (p, s) 33
                      rw [World.size_alloc] at h
                      exact h
                    have hsy3 : x9.heap.size ≤ ((wr.alloc (.cells #[.int .i64 (p), .int .i64 (s)] 33)).alloc (.cells #[.int .i64 (p), .int .i64 (s)] 33)).heap.size := by simp; omega
                    clear hb1 hb2
                    go_wp2_with (at_builtin; refine wpList_appP _ rfl (.tmp 153) (.tmp 155) 22 rfl x9.heap.size 33 Tryd.underlying22 lineInfo _ _ rfl hP3 _ 1 1 _ rfl hrd3 hroom hsy3 ?_; intro v4 y5 hP5 hg5 hat5)
                    go_roundw
                    case rel => exact ⟨t + 1, by omega, by go_num, by rw [htk.out, if_neg hnn.out, e1.out, e2.out]; exact hP5, below_appP hbel3 hP3 hg5 hsy3⟩
                    case measure => simp [intOf]; omega
              · obtain rfl : t = n1 := by omega
                have hfin : Hid (Gr.without a2 (z1.take t) = Gr.without a2 z1) := by show _ = _; rw [List.take_of_length_le (by rw [HX.out]; exact Nat.le_refl _)]
                rw [hfin.out] at hP
                have hby1 := hby.trans (hbel.mono hby.size)
                have ry1 := ry.past hbel
                go_wp2_with fail
                refine (Without_any (a : Int) a1 t c1 z1 a2 _ ry1).mono ?_
                rintro e y1 ⟨hc1, (⟨hx, _⟩ | ⟨_, v1, rfl, hown1⟩)⟩
                · exact absurd HW.out hx
                have hc01 := hby1.trans (hc1.mono hby1.size)
                have hPy := hP.below hc1
                obtain ⟨B1, d1, rfl, s1⟩ := hown1.rd
                obtain ⟨B2, d2, rfl, s2⟩ := hPy.rd
                obtain ⟨f, hf⟩ : ∃ f, f = (Gr.without a2 z1).length := ⟨_, rfl⟩
                rw [← hf] at s1 s2 ⊢
                clear hf hown1 hPy hP
                go_wp2_with fail
                refine (Error_ok _).mono ?_
                rintro e y2 ⟨rfl, rfl⟩
                go_wp2_with fail
                refine (Lines_any B1 B2 f f d1 d2 _ _ true _ s1 s2 (decide_eq_true rfl)).mono ?_
                rintro e y3 ⟨rfl, hc3⟩
                go_wp2
                go_ret
                exact ⟨rfl, hc01.trans (hc3.mono hc01.size)⟩
      · go_wp2_with fail
        refine (Other_any (a : Int) a1 n1 c1 z1 _ r6).mono ?_
        rintro e x7 ⟨hb7, (⟨hx, _⟩ | ⟨_, hx, _⟩ | ⟨_, _, v7, rfl, hown7⟩)⟩
        · exact absurd HC.out hx
        · simp only [Int.toNat_natCast] at hx
          rw [← HQ.out] at hx
          omega
        simp only [Int.toNat_natCast] at hown7
        have hb07 := hb06.trans (hb7.mono hb06.size)
        have r7 := r6.past hb7
        have hr67 := hr6.past hb7
        obtain ⟨A7, c7, rfl, hr7⟩ := hown7.rd
        rw [← HQ.out] at hr7 ⊢
        clear hb7 hb06 r6 hr6 hown7
        go_wp2_with fail
        refine (Error_ok _).mono ?_
        rintro e x8 ⟨rfl, rfl⟩
        go_wp2_with fail
        refine (Lines_any A7 A6 q q c7 c6 _ _ true _ hr7 hr67 (decide_eq_true rfl)).mono ?_
        rintro e x9 ⟨rfl, hb9⟩
        have hby := hb07.trans (hb9.mono hb07.size)
        have ry := r7.past hb9
        clear hb9 hb07 r7 hr7 hr67
        by_cases hn1 : (a : Int) = 1
        · have HW : Hid (Gr.wcode (a : Int) z1 a2 = 1) := by show _ = _; unfold Gr.wcode; rw [if_neg (fun h => h HC.out), if_pos (.inl hn1)]
          have hd1 : ((a : Int) == 1) = true := by simpa using hn1
          have hd1' : (a == 1) = true := by simp; omega
          have HN := Lib.hid hn1
          clear hn1
          have hb1 : 0 < n1 ∨ (decide (0 < n1) = false ∧ decide ((0 : Int) < (n1 : Int)) = false) := by simp; omega
          rcases hb1 with h1 | ⟨h1, h1'⟩
          all_goals
            go_wp2
            go_loop [10, 20, 21] (fun v10 i _ => v10 = .slice none 0 0 ∧ i = .int .i64 0) (fun _ _ _ => 0)
            case atStart => exact ⟨rfl, rfl⟩
            case round =>
              obtain ⟨rfl, rfl⟩ := hrel
              go_wp2_with fail
              refine (Without_any (a : Int) a1 n1 c1 z1 a2 _ ry).mono ?_
              rintro e y1 ⟨hc1, (⟨_, rfl⟩ | ⟨hx, _⟩)⟩
              rotate_left
              · rw [HW.out] at hx
                exact absurd hx (by decide)
              rw [HW.out]
              have hc01 := hby.trans (hc1.mono hby.size)
              have hety : tld.EtIs y1 := het.below hc01
              go_wp2_with fail
              refine (Error_same 1 _ hety).mono ?_
              rintro e y2 ⟨rfl, hc2⟩
              have hc02 := hc01.trans (hc2.mono hc01.size)
              go_wp2_with fail
              refine (Lines_any none none 0 0 0 0 [] [] true _ (RdP.nil _ _) (RdP.nil _ _) rfl).mono ?_
              rintro e y3 ⟨rfl, hc3⟩
              go_wp2
              go_ret
              exact ⟨rfl, hc02.trans (hc3.mono hc02.size)⟩
        · have hd1 : ((a : Int) == 1) = false := by simpa using hn1
          have hd1' : (a == 1) = false := by simp; omega
          by_cases hin : a2 < 0 ∨ (a : Int) - 1 < a2
          · have HW : Hid (Gr.wcode (a : Int) z1 a2 = 1) := by show _ = _; unfold Gr.wcode; rw [if_neg (fun h => h HC.out), if_pos (by omega)]
            clear hn1
            have hb1 : 0 < n1 ∨ (decide (0 < n1) = false ∧ decide ((0 : Int) < (n1 : Int)) = false) := by simp; omega
            rcases hb1 with h1 | ⟨h1, h1'⟩
            all_goals
              go_wp2_with fail
              refine (in_no a2 0 ((a : Int) - 1) _ hin).mono ?_
              rintro e y0 ⟨rfl, rfl⟩
              go_wp2
              go_loop [10, 20, 21] (fun v10 i _ => v10 = .slice none 0 0 ∧ i = .int .i64 0) (fun _ _ _ => 0)
              case atStart => exact ⟨rfl, rfl⟩
              case round =>
                obtain ⟨rfl, rfl⟩ := hrel
                go_wp2_with fail
                refine (Without_any (a : Int) a1 n1 c1 z1 a2 _ ry).mono ?_
                rintro e y1 ⟨hc1, (⟨_, rfl⟩ | ⟨hx, _⟩)⟩
                rotate_left
                · rw [HW.out] at hx
                  exact absurd hx (by decide)
                rw [HW.out]
                have hc01 := hby.trans (hc1.mono hby.size)
                have hety : tld.EtIs y1 := het.below hc01
                go_wp2_with fail
                refine (Error_same 1 _ hety).mono ?_
                rintro e y2 ⟨rfl, hc2⟩
                have hc02 := hc01.trans (hc2.mono hc01.size)
                go_wp2_with fail
                refine (Lines_any none none 0 0 0 0 [] [] true _ (RdP.nil _ _) (RdP.nil _ _) rfl).mono ?_
                rintro e y3 ⟨rfl, hc3⟩
                go_wp2
                go_ret
                exact ⟨rfl, hc02.trans (hc3.mono hc02.size)⟩
          · have HW : Hid (Gr.wcode (a : Int) z1 a2 = 0) := Gr.wcode_zero.2 ⟨HC.out, hn1, by omega, by omega⟩
            clear hn1
            go_wp2_with fail
            refine (in_yes a2 0 ((a : Int) - 1) _ (by omega) (by omega)).mono ?_
            rintro e y0 ⟨rfl, rfl⟩
            go_wp2
            go_loopw [10, 20, 21] (fun v10 i _ wr => ∃ t : Nat, t ≤ n1 ∧ i = .int .i64 t ∧ OwnP wr x9.heap.size 33 v10 (Gr.without a2 (z1.take t)) ∧ Below x9.heap.size x9 wr) (fun _ i _ _ => n1 - (intOf i).toNat)
            case atStart => exact ⟨0, Nat.zero_le _, rfl, by simpa [Gr.without] using OwnP.nil _ _ _, Below.refl _ _⟩
            case round =>
              obtain ⟨t, ht, rfl, hP, hbel⟩ := hrel
              have hsz := hbel.size
              by_cases hlt : t < n1
              · obtain ⟨b1, o1, rfl, hbb, hcc⟩ := ry.at_ (by omega)
                obtain ⟨x, y⟩ := hcc t hlt
                have g1 : wr.cell? ⟨b1, o1 + t * 2, none⟩ = some (.int .i64 (z1.getD t (0, 0)).1) := (hbel.cell (by exact hbb)).trans x
                have g2 : wr.cell? ⟨b1, o1 + t * 2 + 1, none⟩ = some (.int .i64 (z1.getD t (0, 0)).2) := (hbel.cell (by exact hbb)).trans y
                clear hcc x y
                have hgd := HG.out t hlt
                obtain ⟨⟨p, s⟩, hp⟩ : ∃ p, p = z1.getD t (0, 0) := ⟨_, rfl⟩
                rw [← hp] at g1 g2 hgd
                have HP := Lib.hid hp
                clear hp
                simp only at g1 g2 hgd
                obtain ⟨p0, p8, s0, s8⟩ := hgd
                have htk : Hid (Gr.without a2 (z1.take (t + 1)) = if p = a2 ∨ s = a2 then Gr.without a2 (z1.take t) else Gr.without a2 (z1.take t) ++ [(Gr.dn a2 p, Gr.dn a2 s)]) := by
                  show _ = _
                  rw [Gr.without_take (by rw [HX.out]; exact hlt) (p, s) HP.out]
                have hba := (Below.refl wr.heap.size wr).alloc (Nat.le_refl _) (.cells #[.int .i64 p, .int .i64 s] 33)
                have hP2 := hP.below hba
                have hbel2 : Below x9.heap.size x9 (wr.alloc (.cells #[.int .i64 p, .int .i64 s] 33)) := hbel.trans (hba.mono hsz)
                by_cases hpi : p = a2
                · have hd : (p == a2) = true := by simpa using hpi
                  have HI := Lib.hid hpi
                  clear hpi
                  go_wp2
                  go_roundw
                  case rel => exact ⟨t + 1, by omega, by go_num, by rw [htk.out, if_pos (.inl HI.out)]; exact hP2, hbel2⟩
                  case measure => simp [intOf]; omega
                have hd : (p == a2) = false := by simpa using hpi
                by_cases hsi : s = a2
                · have hd2 : (s == a2) = true := by simpa using hsi
                  have HI := Lib.hid hsi
                  clear hsi
                  go_wp2
                  go_roundw
                  case rel => exact ⟨t + 1, by omega, by go_num, by rw [htk.out, if_pos (.inr HI.out)]; exact hP2, hbel2⟩
                  case measure => simp [intOf]; omega
                have hd2 : (s == a2) = false := by simpa using hsi
                have hroom : (Gr.without a2 (z1.take t)).length + 1 ≤ 8796093022208 := by
                  have h1 := Gr.without_len a2 (z1.take t)
                  rw [List.length_take] at h1
                  omega
                have hnn : Hid (¬ (p = a2 ∨ s = a2)) := by rintro (h | h); exact hpi h; exact hsi h
                clear hP2 hbel2 hba
                by_cases hp1 : a2 < p
                · by_cases hs1 : a2 < s
                  · have e1 : Hid (Gr.dn a2 p = p - 1) := by show _ = _; unfold Gr.dn; rw [if_pos hp1]
                    have e2 : Hid (Gr.dn a2 s = s - 1) := by show _ = _; unfold Gr.dn; rw [if_pos hs1]
                    have hb1 := (Below.refl wr.heap.size wr).alloc (Nat.le_refl _) (.cells #[.int .i64 (p - 1), .int .i64 (s - 1)] 33)
                    have hb2 := hb1.alloc (by simp) (.cells #[.int .i64 (p - 1), .int .i64 (s - 1)] 33)
                    have hP3 := hP.below hb2
                    have hbel3 : Below x9.heap.size x9 ((wr.alloc (.cells #[.int .i64 (p - 1), .int .i64 (s - 1)] 33)).alloc (.cells #[.int .i64 (p - 1), .int .i64 (s - 1)] 33)) := hbel.trans (hb2.mono hsz)
                    have hrd3 : RdP ((wr.alloc (.cells #[.int .i64 (p - 1), .int .i64 (s - 1)] 33)).alloc (.cells #[.int .i64 (p - 1), .int .i64 (s - 1)] 33)) (wr.heap.size + 1 + 1) (some ⟨wr.heap.size + 1, 0, none⟩) 1 1 [(p - 1, s - 1)] := by
                      have h := RdP.one (wr.alloc (.cells #[.int .i64 (p - 1), .int .i64 (s - 1)] 33)) (p - 1, s - 1) 33
                      rw [World.size_alloc] at h
                      exact h
                    have hsy3 : x9.heap.size ≤ ((wr.alloc (.cells #[.int .i64 (p - 1), .int .i64 (s - 1)] 33)).alloc (.cells #[.int .i64 (p - 1), .int .i64 (s - 1)] 33)).heap.size := by simp; omega
                    clear hb1 hb2
                    go_wp2_with (at_builtin; refine wpList_appP _ rfl (.tmp 153) (.tmp 155) 22 rfl x9.heap.size 33 Tryd.underlying22 lineInfo _ _ rfl hP3 _ 1 1 _ rfl hrd3 hroom hsy3 ?_; intro v4 y5 hP5 hg5 hat5)
                    go_roundw
                    case rel => exact ⟨t + 1, by omega, by go_num, by rw [htk.out, if_neg hnn.out, e1.out, e2.out]; exact hP5, below_appP hbel3 hP3 hg5 hsy3⟩
                    case measure => simp [intOf]; omega
                  · have e1 : Hid (Gr.dn a2 p = p - 1) := by show _ = _; unfold Gr.dn; rw [if_pos hp1]
                    have e2 : Hid (Gr.dn a2 s = s) := by show _ = _; unfold Gr.dn; rw [if_neg hs1]
                    have hb1 := (Below.refl wr.heap.size wr).alloc (Nat.le_refl _) (.cells #[.int .i64 (p - 1), .int .i64 (s)] 33)
                    have hb2 := hb1.alloc (by simp) (.cells #[.int .i64 (p - 1), .int .i64 (s)] 33)
                    have hP3 := hP.below hb2
                    have hbel3 : Below x9.heap.size x9 ((wr.alloc (.cells #[.int .i64 (p - 1), .int .i64 (s)] 33)).alloc (.cells #[.int .i64 (p - 1), .int .i64 (s)] 33)) := hbel.trans (hb2.mono hsz)
                    have hrd3 : RdP ((wr.alloc (.cells #[.int .i64 (p - 1), .int .i64 (s)] 33)).alloc (.cells #[.int .i64 (p - 1), .int .i64 (s)] 33)) (wr.heap.size + 1 + 1) (some ⟨wr.heap.size + 1, 0, none⟩) 1 1 [(p - 1, s)] := by
                      have h := RdP.one (wr.alloc (.cells #[.int .i64 (p - 1), .int .i64 (s)] 33)) (p - 1, s) 33
                      rw [World.size_alloc] at h
                      exact h
                    have hsy3 : x9.heap.size ≤ ((wr.alloc (.cells #[.int .i64 (p - 1), .int .i64 (s)] 33)).alloc (.cells #[.int .i64 (p - 1), .int .i64 (s)] 33)).heap.size := by simp; omega
                    clear hb1 hb2
                    go_wp2_with (at_builtin; refine wpList_appP _ rfl (.tmp 153) (.tmp 155) 22 rfl x9.heap.size 33 Tryd.underlying22 lineInfo _ _ rfl hP3 _ 1 1 _ rfl hrd3 hroom hsy3 ?_; intro v4 y5 hP5 hg5 hat5)
                    go_roundw
                    case rel => exact ⟨t + 1, by omega, by go_num, by rw [htk.out, if_neg hnn.out, e1.out, e2.out]; exact hP5, below_appP hbel3 hP3 hg5 hsy3⟩
                    case measure => simp [intOf]; omega
                · by_cases hs1 : a2 < s
                  · have e1 : Hid (Gr.dn a2 p = p) := by show _ = _; unfold Gr.dn; rw [if_neg hp1]
                    have e2 : Hid (Gr.dn a2 s = s - 1) := by show _ = _; unfold Gr.dn; rw [if_pos hs1]
                    have hb1 := (Below.refl wr.heap.size wr).alloc (Nat.le_refl _) (.cells #[.int .i64 (p), .int .i64 (s - 1)] 33)
                    have hb2 := hb1.alloc (by simp) (.cells #[.int .i64 (p), .int .i64 (s - 1)] 33)
                    have hP3 := hP.below hb2
                    have hbel3 : Below x9.heap.size x9 ((wr.alloc (.cells #[.int .i64 (p), .int .i64 (s - 1)] 33)).alloc (.cells #[.int .i64 (p), .int .i64 (s - 1)] 33)) := hbel.trans (hb2.mono hsz)
                    have hrd3 : RdP ((wr.alloc (.cells #[.int .i64 (p), .int .i64 (s - 1)] 33)).alloc (.cells #[.int .i64 (p), .int .i64 (s - 1)] 33)) (wr.heap.size + 1 + 1) (some ⟨wr.heap.size + 1, 0, none⟩) 1 1 [(p, s - 1)] := by
                      have h := RdP.one (wr.alloc (.cells #[.int .i64 (p), .int .i64 (s - 1)] 33)) (p, s - 1) 33
                      rw [World.size_alloc] at h
                      exact h
                    have hsy3 : x9.heap.size ≤ ((wr.alloc (.cells #[.int .i64 (p), .int .i64 (s - 1)] 33)).alloc (.cells #[.int .i64 (p), .int .i64 (s - 1)] 33)).heap.size := by simp; omega
                    clear hb1 hb2
                    go_wp2_with (at_builtin; refine wpList_appP _ rfl (.tmp 153) (.tmp 155) 22 rfl x9.heap.size 33 Tryd.underlying22 lineInfo _ _ rfl hP3 _ 1 1 _ rfl hrd3 hroom hsy3 ?_; intro v4 y5 hP5 hg5 hat5)
                    go_roundw
                    case rel => exact ⟨t + 1, by omega, by go_num, by rw [htk.out, if_neg hnn.out, e1.out, e2.out]; exact hP5, below_appP hbel3 hP3 hg5 hsy3⟩
                    case measure => simp [intOf]; omega
                  · have e1 : Hid (Gr.dn a2 p = p) := by show _ = _; unfold Gr.dn; rw [if_neg hp1]
                    have e2 : Hid (Gr.dn a2 s = s) := by show _ = _; unfold Gr.dn; rw [if_neg hs1]
                    have hb1 := (Below.refl wr.heap.size wr).alloc (Nat.le_refl _) (.cells #[.int .i64 (p), .int .i64 (s)] 33)
                    have hb2 := hb1.alloc (by simp) (.cells #[.int .i64 (p), .int .i64 (s)] 33)
                    have hP3 := hP.below hb2
                    have hbel3 : Below x9.heap.size x9 ((wr.alloc (.cells #[.int .i64 (p), .int .i64 (s)] 33)).alloc (.cells #[.int .i64 (p), .int .i64 (s)] 33)) := hbel.trans (hb2.mono hsz)
                    have hrd3 : RdP ((wr.alloc (.cells #[.int .i64 (p), .int .i64 (s)] 33)).alloc (.cells #[.int .i64 (p), .int .i64 (s)] 33)) (wr.heap.size + 1 + 1) (some ⟨wr.heap.size + 1, 0, none⟩) 1 1 [(p, s)] := by
                      have h := RdP.one (wr.alloc (.cells #[.int .i64 (p), .int .i64 (s)] 33)) (p, s) 33
                      rw [World.size_alloc] at h
                      exact h
                    have hsy3 : x9.heap.size ≤ ((wr.alloc (.cells #[.int .i64 (p), .int .i64 (s)] 33)).alloc (.cells #[.int .i64 (p), .int .i64 (s)] 33)).heap.size := by simp; omega
                    clear hb1 hb2
                    go_wp2_with (at_builtin; refine wpList_appP _ rfl (.tmp 153) (.tmp 155) 22 rfl x9.heap.size 33 Tryd.underlying22 lineInfo _ _ rfl hP3 _ 1 1 _ rfl hrd3 hroom hsy3 ?_; intro v4 y5 hP5 hg5 hat5)
                    go_roundw
                    case rel => exact ⟨t + 1, by omega, by go_num, by rw [htk.out, if_neg hnn.out, e1.out, e2.out]; exact hP5, below_appP hbel3 hP3 hg5 hsy3⟩
                    case measure => simp [intOf]; omega
              · obtain rfl : t = n1 := by omega
                have hfin : Hid (Gr.without a2 (z1.take t) = Gr.without a2 z1) := by show _ = _; rw [List.take_of_length_le (by rw [HX.out]; exact Nat.le_refl _)]
                rw [hfin.out] at hP
                have hby1 := hby.trans (hbel.mono hby.size)
                have ry1 := ry.past hbel
                go_wp2_with fail
                refine (Without_any (a : Int) a1 t c1 z1 a2 _ ry1).mono ?_
                rintro e y1 ⟨hc1, (⟨hx, _⟩ | ⟨_, v1, rfl, hown1⟩)⟩
                · exact absurd HW.out hx
                have hc01 := hby1.trans (hc1.mono hby1.size)
                have hPy := hP.below hc1
                obtain ⟨B1, d1, rfl, s1⟩ := hown1.rd
                obtain ⟨B2, d2, rfl, s2⟩ := hPy.rd
                obtain ⟨f, hf⟩ : ∃ f, f = (Gr.without a2 z1).length := ⟨_, rfl⟩
                rw [← hf] at s1 s2 ⊢
                clear hf hown1 hPy hP
                go_wp2_with fail
                refine (Error_ok _).mono ?_
                rintro e y2 ⟨rfl, rfl⟩
                go_wp2_with fail
                refine (Lines_any B1 B2 f f d1 d2 _ _ true _ s1 s2 (decide_eq_true rfl)).mono ?_
                rintro e y3 ⟨rfl, hc3⟩
                go_wp2
                go_ret
                exact ⟨rfl, hc01.trans (hc3.mono hc01.size)⟩

theorem walk (w : World) (het : tld.EtIs w) (a0 : Int) (_w0 : (Lit.int .i64 a0).wf = true) (a1 : Option Addr) (n1 c1 : Nat) (z1 : List Gr.Ln) (w1 : RdP w w.heap.size a1 n1 c1 z1) (a2 : Int) (_w2 : (Lit.int .i64 a2).wf = true) :
    Calls Tryd.prog 3 #[.int .i64 a0, .slice a1 n1 c1, .int .i64 a2] w fun e w' => e = .returned (.bool true) ∧ Below w.heap.size w w' := by
  by_cases h : Gr.code a0 z1 = 0
  · obtain ⟨m, rfl⟩ : ∃ m : Nat, a0 = (m : Int) := ⟨a0.toNat, by have := (Gr.code_zero.1 h).1; omega⟩
    exact walk_ok w het m a1 n1 c1 z1 w1 a2 h
  · exact walk_err w het a0 a1 n1 c1 z1 w1 a2 h

end Go.Proofs.YtghdallaohpelaaDoor.graphSays
