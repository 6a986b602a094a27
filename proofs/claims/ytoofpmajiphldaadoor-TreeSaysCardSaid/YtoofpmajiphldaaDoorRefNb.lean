/-
  The contracts of the reference's Most and Middle: the greatest of a row; the points of a tree's middle, and how far. No statement of the program is proved here; there is no condition.
  The contracts of the reference's Before, name and Name: two texts byte by byte; the name of a point, seen from another one; a tree's name. No statement of the program is proved here; there is no condition.
  The contract of the reference's Name: the least name of a point of the middle. No statement of the program is proved here; there is no condition.
-/
import Derived.Test.YtoofpmajiphldaaDoorRefTr
import Derived.Test.YtoofpmajiphldaaDoorLibT
import Derived.Test.YtoofpmajiphldaaDoorTreeE
import Derived.Test.YtoofpmajiphldaaDoorSeen
import Derived.BigQuiet
namespace Go.Proofs.YtoofpmajiphldaaDoor.RefTr
open Go.RowKit
open RefF (RdR_row RdR_block far_cell Far_either rowF_dists)
set_option linter.unusedSimpArgs false
set_option linter.unusedVariables false

set_option maxHeartbeats 400000 in
theorem Most_any (A : Option Addr) (n c : Nat) (zs : List Int) (w : World) (hr : Rd w w.heap.size A n c zs) (hn : 1 ≤ n) :
    Calls Tryd.prog 10 #[.slice A n c] w fun e w' => ∃ d : Int, e = .returned (.int .i64 d) ∧ (∃ i, i < n ∧ zs.getD i 0 = d) ∧ (∀ i, i < n → zs.getD i 0 ≤ d) ∧ w = w' := by
  have hbig := hr.big
  obtain ⟨b, o, rfl, hb, hc⟩ := hr.at_ (by omega)
  have g0 := hc 0 (by omega)
  rw [Nat.add_zero] at g0
  obtain ⟨z0, hz0⟩ : ∃ z0, z0 = zs.getD 0 0 := ⟨_, rfl⟩
  rw [← hz0] at g0
  have H0 : Hid ((∃ i, i < n ∧ zs.getD i 0 = z0) ∧ ∀ i, i < 0 → zs.getD i 0 ≤ z0) := ⟨⟨0, by omega, hz0.symm⟩, fun i hi => absurd hi (Nat.not_lt_zero _)⟩
  have HC := Lib.hid hc
  clear hc hz0
  go_enter Tryd.func10, Tryd.ntmps10
  go_wp2
  go_loopw [3, 4] (fun dv iv wr => ∃ (i : Nat) (d : Int), i ≤ n ∧ iv = .int .i64 (i : Int) ∧ dv = .int .i64 d ∧ Hid ((∃ j, j < n ∧ zs.getD j 0 = d) ∧ ∀ j, j < i → zs.getD j 0 ≤ d) ∧ w = wr) (fun _ iv _ => n - (intOf iv).toNat)
  case atStart => exact ⟨0, z0, Nat.zero_le _, rfl, rfl, H0, rfl⟩
  case round =>
    clear H0 g0
    obtain ⟨i, d, hin, rfl, rfl, H, rfl⟩ := hrel
    by_cases hlt : i < n
    · have g := HC.out i hlt
      obtain ⟨x, hx⟩ : ∃ x, x = zs.getD i 0 := ⟨_, rfl⟩
      rw [← hx] at g
      have i1 : (0 : Int) ≤ (i : Int) := by omega
      have i2 : (i : Int) < (n : Int) := by omega
      by_cases hdx : d < x
      · have HN : Hid ((∃ j, j < n ∧ zs.getD j 0 = x) ∧ ∀ j, j < i + 1 → zs.getD j 0 ≤ x) := by
          obtain ⟨⟨j, hj, e⟩, h2⟩ := H.out
          refine ⟨⟨i, hlt, hx.symm⟩, fun k hk => ?_⟩
          rcases Nat.lt_or_ge k i with hl | hl
          · have := h2 k hl; omega
          · obtain rfl : k = i := by omega
            omega
        clear hx H
        go_wp2
        go_roundw
        case rel => exact ⟨i + 1, x, by omega, by go_num, rfl, HN, trivial⟩
        case measure => simp [intOf]; omega
      · have hd : decide (d < x) = false := decide_eq_false hdx
        have HN : Hid ((∃ j, j < n ∧ zs.getD j 0 = d) ∧ ∀ j, j < i + 1 → zs.getD j 0 ≤ d) := by
          obtain ⟨h1, h2⟩ := H.out
          refine ⟨h1, fun k hk => ?_⟩
          rcases Nat.lt_or_ge k i with hl | hl
          · exact h2 k hl
          · obtain rfl : k = i := by omega
            omega
        clear hx H hdx
        go_wp2
        go_roundw
        case rel => exact ⟨i + 1, d, by omega, by go_num, rfl, HN, trivial⟩
        case measure => simp [intOf]; omega
    · obtain rfl : i = n := by omega
      go_wp2
      go_ret
      exact ⟨d, rfl, H.out.1, H.out.2, rfl⟩

/-- the greatest of a point's distances -/
theorem Most_ecc (m a : Nat) (ha : a < m) (ls : List Gr.Ln) (hT : Tr.Tree m ls) (A : Option Addr) (c : Nat) (w : World) (hr : Rd w w.heap.size A m c (Wa.dists m (Wa.nrow m ls) a)) :
    Calls Tryd.prog 10 #[.slice A m c] w fun e w' => e = .returned (.int .i64 ((Tr.ecc m (Tr.far m ls) a : Nat) : Int)) ∧ w = w' := by
  refine (Most_any A m c _ w hr (by omega)).mono ?_
  rintro e w' ⟨d, rfl, h1, h2, rfl⟩
  exact ⟨by rw [Tr.max_ecc hT ha h1 h2], rfl⟩

set_option maxRecDepth 100000 in
set_option maxHeartbeats 2000000 in
theorem Middle_any (m : Nat) (A : Option Addr) (k c : Nat) (ls : List Gr.Ln) (w : World) (hr : RdP w w.heap.size A k c ls) (hm8 : m ≤ 8) (hm1 : 1 ≤ m) (hT : Tr.Tree m ls) :
    Calls Tryd.prog 7 #[.int .i64 (m : Int), .slice A k c] w fun e w' => ∃ v, e = .returned (.tuple #[v, .int .i64 ((Tr.best m (Tr.far m ls) : Nat) : Int)]) ∧ Own w' w.heap.size 3 v (Tr.midI m ls m) ∧ Below w.heap.size w w' := by
  have HT := Lib.hid hT
  clear hT
  go_enter Tryd.func7, Tryd.ntmps7
  go_wp2_with fail
  refine (Far_either m A k c ls _ hr hm1 hm8).mono ?_
  rintro e w2 ⟨gb, cb, rfl, hrows, hb2⟩
  have hgb := RdR_block hrows (by omega)
  have hcb := hrows.big
  have HC : Hid (∀ i, i < m → ∃ A' c', w2.cell? ⟨gb, i, none⟩ = some (.slice A' m c') ∧ Rd w2 w2.heap.size A' m c' (Wa.dists m (Wa.nrow m ls) i)) := by
    show ∀ i, _
    intro i hi
    obtain ⟨A', c', h1, h2⟩ := RdR_row hrows hi
    rw [rowF_dists] at h2
    exact ⟨A', c', h1, h2⟩
  have hM0 : Hid (m = Tr.mn (Tr.ecc m (Tr.far m ls)) m 0) := rfl
  clear hrows
  go_wp2
  go_loopw [7, 8] (fun bv iv wr => ∃ i b : Nat, i ≤ m ∧ iv = .int .i64 (i : Int) ∧ bv = .int .i64 (b : Int) ∧ Hid (b = Tr.mn (Tr.ecc m (Tr.far m ls)) m i) ∧ w2 = wr) (fun _ iv _ => m - (intOf iv).toNat)
  case atStart => exact ⟨0, m, Nat.zero_le _, rfl, rfl, hM0, rfl⟩
  case round =>
    clear hM0
    obtain ⟨i, b, hi, rfl, rfl, HB, rfl⟩ := hrel
    by_cases hlt : i < m
    · obtain ⟨A', c', g1, hrow⟩ := HC.out i hlt
      obtain ⟨x, hx⟩ : ∃ x, x = Tr.ecc m (Tr.far m ls) i := ⟨_, rfl⟩
      have HX := Lib.hid hx
      have HMo := Lib.hid (fun (W : World) (h : Rd W W.heap.size A' m c' (Wa.dists m (Wa.nrow m ls) i)) => Most_ecc m i hlt ls HT.out A' c' W h)
      have i1 : (0 : Int) ≤ (i : Int) := by omega
      have i2 : (i : Int) < (m : Int) := by omega
      by_cases hxb : x < b
      · have HN : Hid (x = Tr.mn (Tr.ecc m (Tr.far m ls)) m (i + 1)) := by
          show _ = _
          unfold Tr.mn
          rw [← hx, ← HB.out, if_pos hxb]
        have d1 : decide ((x : Int) < (b : Int)) = true := by simp; omega
        have d2 : decide (x < b) = true := by simp; omega
        clear hx hxb
        go_wp2_with fail
        refine (HMo.out _ hrow).mono ?_
        rintro e x3 ⟨rfl, rfl⟩
        rw [← HX.out]
        go_wp2_with fail
        refine (HMo.out _ hrow).mono ?_
        rintro e x3 ⟨rfl, rfl⟩
        rw [← HX.out]
        go_wp2
        go_roundw
        case rel => exact ⟨i + 1, x, by omega, by go_num, rfl, HN, trivial⟩
        case measure => simp [intOf]; omega
      · have HN : Hid (b = Tr.mn (Tr.ecc m (Tr.far m ls)) m (i + 1)) := by
          show _ = _
          unfold Tr.mn
          rw [← hx, ← HB.out, if_neg hxb]
        have d1 : decide ((x : Int) < (b : Int)) = false := by simp; omega
        have d2 : decide (x < b) = false := by simp; omega
        clear hx hxb
        go_wp2_with fail
        refine (HMo.out _ hrow).mono ?_
        rintro e x3 ⟨rfl, rfl⟩
        rw [← HX.out]
        go_wp2
        go_roundw
        case rel => exact ⟨i + 1, b, by omega, by go_num, rfl, HN, trivial⟩
        case measure => simp [intOf]; omega
    · obtain rfl : i = m := by omega
      have HBe : Hid (b = Tr.best i (Tr.far i ls)) := HB.out
      obtain ⟨s, hs⟩ : ∃ s, s = w2.heap.size := ⟨_, rfl⟩
      have hsw : w.heap.size ≤ s := by rw [hs]; exact hb2.size
      have h0 : Own w2 s 3 (.slice none 0 0) (Tr.midI i ls 0) := Own.nil _ _ _
      have hb0 : Below s w2 w2 := Below.refl _ _
      rw [← hs] at hgb
      have HS := Lib.hid hs
      clear hs HB
      go_wp2
      go_loopw [9, 10] (fun v jv wr => ∃ j : Nat, j ≤ i ∧ jv = .int .i64 (j : Int) ∧ Own wr s 3 v (Tr.midI i ls j) ∧ Below s w2 wr) (fun _ jv _ => i - (intOf jv).toNat)
      case atStart => exact ⟨0, Nat.zero_le _, rfl, h0, hb0⟩
      case round =>
        clear h0 hb0
        obtain ⟨j, hj, rfl, hown, hbw⟩ := hrel
        by_cases hltj : j < i
        · obtain ⟨A', c', g1, hrow⟩ := HC.out j hltj
          have g2 := (hbw.cell (p := ⟨gb, j, none⟩) hgb).trans g1
          have hrow2 : Rd wr wr.heap.size A' i c' (Wa.dists i (Wa.nrow i ls) j) := by
            have := hrow.below (w' := wr) (by rw [← HS.out]; exact hbw)
            exact this.more hbw.size
          obtain ⟨x, hx⟩ : ∃ x, x = Tr.ecc i (Tr.far i ls) j := ⟨_, rfl⟩
          have HX := Lib.hid hx
          have HMo := Lib.hid (Most_ecc i j hltj ls HT.out A' c' wr hrow2)
          have i1 : (0 : Int) ≤ (j : Int) := by omega
          have i2 : (j : Int) < (i : Int) := by omega
          have hsz := hbw.size
          rw [← HS.out] at hsz
          clear g1 hrow hrow2
          by_cases he : x = b
          · have hd : ((x : Int) == (b : Int)) = true := by simp [he]
            have HN : Hid (Tr.midI i ls (j + 1) = Tr.midI i ls j ++ [(j : Int)]) := Tr.midI_yes (by rw [← hx, he, HBe.out])
            have HR : Hid ((Tr.midI i ls j).length + 1 ≤ 17592186044416) := by show _ ≤ _; have := Tr.midI_len i ls j; omega
            clear he hx
            go_wp2_with (first
              | (go_at_call 10; refine HMo.out.mono ?_; rintro e x3 ⟨rfl, rfl⟩; rw [← HX.out])
              | (at_builtin; refine wpList_app _ rfl (.tmp 44) (.tmp 46) 28 rfl s 3 Tryd.underlying28 intInfo u9 _ rfl (hown.below ((Below.refl _ _).alloc (Nat.le_refl _) _)) (some ⟨wr.heap.size, 0, none⟩) 1 1 [(j : Int)] rfl (Rd.one _ _ _) HR.out (by simp; omega) ?_; intro v' w4 hown4 hgrow hat))
            go_roundw
            case rel =>
              have hba : Below s w2 (wr.alloc (.cells #[.int .i64 (j : Int)] 3)) := hbw.alloc hsz _
              exact ⟨j + 1, by omega, by go_num, by rw [HN.out]; exact hown4, hba.grown hgrow (by simp; omega) hown.at_base⟩
            case measure => simp [intOf]; omega
          · have hd : ((x : Int) == (b : Int)) = false := by simp; omega
            have HN : Hid (Tr.midI i ls (j + 1) = Tr.midI i ls j) := Tr.midI_no (by rw [← hx, ← HBe.out]; exact he)
            clear he hx
            go_wp2_with (first
              | (go_at_call 10; refine HMo.out.mono ?_; rintro e x3 ⟨rfl, rfl⟩; rw [← HX.out]))
            go_roundw
            case rel => exact ⟨j + 1, by omega, by go_num, by rw [HN.out]; exact hown, hbw⟩
            case measure => simp [intOf]; omega
        · obtain rfl : j = i := by omega
          go_wp2
          go_ret2
          exact ⟨u9, by rw [← HBe.out]; rfl, hown.mono hsw, hb2.trans (hbw.mono hsw)⟩

end Go.Proofs.YtoofpmajiphldaaDoor.RefTr

namespace Go.Proofs.YtoofpmajiphldaaDoor.RefTr
open Go.RowKit
set_option linter.unusedSimpArgs false
set_option linter.unusedVariables false

/-- a byte of a text -/
theorem run_at (x : List Nat) (hx : Nm.Sm x) (i : Nat) (hi : i < x.length) (W : World) : (Instr.index 9 (.string (Nm.bs x)) (.int .i64 (i : Int))).run Tryd.prog W = .ok (.int .u8 ((x.getD i 0 : Nat) : Int)) W := by
  rw [run_index_string W 9 (Nm.bs x) .i64 (i : Int) Tryd.underlying9, dif_pos ⟨by omega, by rw [Nm.bs_size]; omega⟩]
  simp only [Int.toNat_natCast]
  rw [Nm.bs_at x hi (by rw [Nm.bs_size]; exact hi), UInt8.toNat_ofNat_of_lt' (hx.at_ hi)]

set_option maxRecDepth 100000 in
set_option maxHeartbeats 1000000 in
theorem Before_any (x y : List Nat) (hx : Nm.Sm x) (hy : Nm.Sm y) (hxl : x.length ≤ 1000) (hyl : y.length ≤ 1000) (t : Bool) (ht : Nm.bf x y = t) (w : World) :
    Calls Tryd.prog 20 #[.string (Nm.bs x), .string (Nm.bs y)] w fun e w' => e = .returned (.bool t) ∧ ∃ m, w' = w.drewN m := by
  obtain ⟨X, hX⟩ : ∃ X, X = Nm.bs x := ⟨_, rfl⟩
  obtain ⟨Y, hY⟩ : ∃ Y, Y = Nm.bs y := ⟨_, rfl⟩
  obtain ⟨p, hp⟩ : ∃ p, p = x.length := ⟨_, rfl⟩
  obtain ⟨q, hq⟩ : ∃ q, q = y.length := ⟨_, rfl⟩
  have hXs : X.size = p := by rw [hX, Nm.bs_size, hp]
  have hYs : Y.size = q := by rw [hY, Nm.bs_size, hq]
  rw [← hp] at hxl
  rw [← hq] at hyl
  have H0 : Hid (Nm.bf (x.drop 0) (y.drop 0) = t) := by show _ = _; rw [List.drop_zero, List.drop_zero]; exact ht
  rw [← hX, ← hY]
  have HX := Lib.hid hX
  have HY := Lib.hid hY
  have HP := Lib.hid hp
  have HQ := Lib.hid hq
  have HSX := Lib.hid hx
  have HSY := Lib.hid hy
  clear hX hY hp hq hx hy ht
  go_enter Tryd.func20, Tryd.ntmps20
  go_wp2
  go_loopw [5] (fun iv wr => ∃ i d : Nat, i ≤ p ∧ i ≤ q ∧ iv = .int .i64 (i : Int) ∧ Hid (Nm.bf (x.drop i) (y.drop i) = t) ∧ wr = w.drewN d) (fun iv _ => p - (intOf iv).toNat)
  case atStart => exact ⟨0, 0, Nat.zero_le _, Nat.zero_le _, rfl, H0, rfl⟩
  case round =>
    clear H0
    obtain ⟨i, d, hip, hiq, rfl, H, hwd⟩ := hrel
    have HWD := Lib.hid hwd
    clear hwd
    by_cases hlp : i < p
    · by_cases hlq : i < q
      · have hix : i < x.length := by rw [← HP.out]; exact hlp
        have hiy : i < y.length := by rw [← HQ.out]; exact hlq
        obtain ⟨u, hu⟩ : ∃ u, u = x.getD i 0 := ⟨_, rfl⟩
        obtain ⟨v, hv⟩ : ∃ v, v = y.getD i 0 := ⟨_, rfl⟩
        have hrx : ∀ W, (Instr.index 9 (.string X) (.int .i64 (i : Int))).run Tryd.prog W = .ok (.int .u8 (u : Int)) W := fun W => by rw [HX.out, hu]; exact run_at x HSX.out i hix W
        have hry : ∀ W, (Instr.index 9 (.string Y) (.int .i64 (i : Int))).run Tryd.prog W = .ok (.int .u8 (v : Int)) W := fun W => by rw [HY.out, hv]; exact run_at y HSY.out i hiy W
        have i0 : (0 : Int) ≤ (i : Int) := by omega
        have i1 : (i : Int) < (p : Int) := by omega
        have i2 : (i : Int) < (q : Int) := by omega
        by_cases huv : u = v
        · have hd : ((u : Int) != (v : Int)) = false := by simp [huv]
          have HN : Hid (Nm.bf (x.drop (i + 1)) (y.drop (i + 1)) = t) := by show _ = _; rw [← Nm.bf_go hix hiy (by rw [← hu, ← hv]; exact huv)]; exact H.out
          clear huv hu hv hix hiy H
          go_wp2
          go_quiet (fail)
          go_wp2
          go_roundw
          case rel => exact ⟨i + 1, _, by omega, by omega, by go_num, HN, by rw [HWD.out]; exact World.drewN_drewN _ _ _⟩
          case measure => simp [intOf]; omega
        · have hd : ((u : Int) != (v : Int)) = true := by simp; omega
          have HT := H.out
          rw [Nm.bf_cut hix hiy (by rw [← hu, ← hv]; exact huv), ← hu, ← hv] at HT
          have hd2 : decide ((u : Int) < (v : Int)) = t := by rw [← HT]; simp
          have hd3 : decide (u < v) = t := HT
          clear huv hu hv hix hiy H HT
          go_wp2
          go_quiet (fail)
          go_wp2
          go_quiet (fail)
          go_wp2
          go_ret
          exact ⟨rfl, _, by rw [HWD.out, World.drewN_drewN, World.drewN_drewN]⟩
      · obtain rfl : i = q := by omega
        have HT := H.out
        rw [Nm.bf_end (by have := HP.out; omega) (by have := HQ.out; omega) (.inr HQ.out), ← HP.out, ← HQ.out] at HT
        have hd1 : decide ((p : Int) < (i : Int)) = t := by rw [← HT]; simp
        have hd2 : decide (p < i) = t := HT
        clear H HT
        go_wp2
        go_ret
        exact ⟨rfl, _, HWD.out⟩
    · obtain rfl : i = p := by omega
      have HT := H.out
      rw [Nm.bf_end (by have := HP.out; omega) (by have := HQ.out; omega) (.inl HP.out), ← HP.out, ← HQ.out] at HT
      have hd1 : decide ((i : Int) < (q : Int)) = t := by rw [← HT]; simp
      have hd2 : decide (i < q) = t := HT
      clear H HT
      go_wp2
      go_ret
      exact ⟨rfl, _, HWD.out⟩

/-! ### the name of a point -/
/-- what the choosing reads -/
def NaO (w : World) (s : Nat) (A : Option Addr) (n c : Nat) (zs : List (List Nat)) (us : List Bool) (W : World) : Prop :=
  SeenAt W s n us ∧ RdT W s A n c (zs.map Nm.bs) ∧ Below w.heap.size w W ∧ s + 1 ≤ W.heap.size
theorem NaO.drew {w : World} {s : Nat} {A : Option Addr} {n c : Nat} {zs : List (List Nat)} {us : List Bool} {W : World} (h : NaO w s A n c zs us W) (d : Nat) : NaO w s A n c zs us (W.drewN d) :=
  ⟨h.1, h.2.1, h.2.2.1.trans (Below.drewN' _ _ _), h.2.2.2⟩

set_option maxRecDepth 100000 in
set_option maxHeartbeats 4000000 in
theorem name_step (m a fr : Nat) (hm8 : m ≤ 8) (ha : a < m) (A : Option Addr) (k c : Nat) (ls : List Gr.Ln) (T : Nat → List Nat)
    (hS : ∀ i ∈ Nm.kids (Tr.ad ls) m a fr, Nm.Sm (T i) ∧ (T i).length ≤ 16)
    (hK : ∀ i ∈ Nm.kids (Tr.ad ls) m a fr, ∀ W, RdP W W.heap.size A k c ls → Calls Tryd.prog 19 #[.int .i64 (m : Int), .slice A k c, .int .i64 (i : Int), .int .i64 (a : Int)] W fun e W' => e = .returned (.string (Nm.bs (T i))) ∧ Below W.heap.size W W')
    (w : World) (hr : RdP w w.heap.size A k c ls) :
    Calls Tryd.prog 19 #[.int .i64 (m : Int), .slice A k c, .int .i64 (a : Int), .int .i64 (Tr.frI m fr)] w fun e w' => e = .returned (.string (Nm.bs (Nm.wrap (Nm.srt ((Nm.kids (Tr.ad ls) m a fr).map T))))) ∧ Below w.heap.size w w' := by
  obtain ⟨F, hF⟩ : ∃ F, F = Tr.frI m fr := ⟨_, rfl⟩
  rw [← hF]
  have HF := Lib.hid hF
  have HSm := Lib.hid hS
  have HK := Lib.hid hK
  obtain ⟨s0, hs0⟩ : ∃ s0, s0 = w.heap.size := ⟨_, rfl⟩
  have h0 : OwnT w s0 9 (.slice none 0 0) (((Tr.kidsTo (Tr.ad ls) a fr 0).map T).map Nm.bs) := OwnT.nil _ _ _
  have hb0 : Below s0 w w := by rw [hs0]; exact Below.refl _ _
  have HS0 := Lib.hid hs0
  clear hF hS hK hs0
  go_enter Tryd.func19, Tryd.ntmps19
  go_wp2
  go_loopw [9, 10] (fun v iv wr => ∃ i : Nat, i ≤ m ∧ iv = .int .i64 (i : Int) ∧ OwnT wr s0 9 v (((Tr.kidsTo (Tr.ad ls) a fr i).map T).map Nm.bs) ∧ Below s0 w wr) (fun _ iv _ => m - (intOf iv).toNat)
  case atStart => exact ⟨0, Nat.zero_le _, rfl, h0, hb0⟩
  case round =>
    clear h0 hb0
    obtain ⟨i, hi, rfl, hown, hbw⟩ := hrel
    have hsz := hbw.size
    rw [← HS0.out] at hsz
    by_cases hlt : i < m
    · have hrw : RdP wr wr.heap.size A k c ls := hr.past (by rw [← HS0.out]; exact hbw)
      by_cases hfr : i = fr
      · have hd : ((i : Int) != F) = false := by
          have := (Tr.frI_eq (fr := fr) hlt).2 hfr
          rw [HF.out]; simp [this]
        have HN : Hid (Tr.kidsTo (Tr.ad ls) a fr (i + 1) = Tr.kidsTo (Tr.ad ls) a fr i) := Tr.kidsTo_no (fun h => h.1 hfr)
        clear hfr hrw
        go_wp2
        go_roundw
        case rel => exact ⟨i + 1, by omega, by go_num, by rw [HN.out]; exact hown, hbw⟩
        case measure => simp [intOf]; omega
      · have hd : ((i : Int) != F) = true := by
          have : ¬ (i : Int) = F := fun e => hfr ((Tr.frI_eq (fr := fr) hlt).1 (by rw [← HF.out]; exact e))
          simpa using this
        obtain ⟨t, ht⟩ : ∃ t, t = Tr.ad ls a i := ⟨_, rfl⟩
        have HBE := Lib.hid (RefL.Beside_any A k c ls (a : Int) (i : Int) t wr hrw ht.symm)
        cases t with
        | false =>
          have HN : Hid (Tr.kidsTo (Tr.ad ls) a fr (i + 1) = Tr.kidsTo (Tr.ad ls) a fr i) := Tr.kidsTo_no (fun h => by rw [h.2] at ht; cases ht)
          clear ht hfr hrw
          go_wp2_with fail
          refine HBE.out.mono ?_
          rintro e x1 ⟨rfl, rfl⟩
          go_wp2
          go_roundw
          case rel => exact ⟨i + 1, by omega, by go_num, by rw [HN.out]; exact hown, hbw⟩
          case measure => simp [intOf]; omega
        | true =>
          have HN : Hid (Tr.kidsTo (Tr.ad ls) a fr (i + 1) = Tr.kidsTo (Tr.ad ls) a fr i ++ [i]) := Tr.kidsTo_yes hfr ht.symm
          have HKi := Lib.hid (HK.out i (Nm.mem_kids.2 ⟨hlt, ht.symm, hfr⟩) wr hrw)
          have HR : Hid ((((Tr.kidsTo (Tr.ad ls) a fr i).map T).map Nm.bs).length + 1 ≤ 1000000) := by
            show _ ≤ _
            rw [List.length_map, List.length_map]
            have : (Tr.kidsTo (Tr.ad ls) a fr i).length ≤ i := Tr.kids_len (Tr.ad ls) i a fr
            omega
          clear ht hfr
          go_wp2_with (first
            | (go_at_call 34; refine HBE.out.mono ?_; rintro e x1 ⟨rfl, rfl⟩)
            | (go_at_call 19; refine HKi.out.mono ?_; rintro e w5 ⟨rfl, hb5⟩; have hown5 := hown.below hb5; have h5s := hb5.size)
            | (at_builtin; refine wpList_appT _ rfl (.tmp 30) (.tmp 36) 53 rfl s0 9 Tryd.underlying53 infoT u9 _ rfl (hown5.below ((Below.refl _ _).alloc (Nat.le_refl _) _)) (some ⟨w5.heap.size, 0, none⟩) 1 1 [Nm.bs (T i)] rfl (RdT.one _ _ _) HR.out (by simp; omega) ?_; intro v' w6 hown6 hgrow hat))
          go_roundw
          case rel =>
            have hb05 : Below s0 w w5 := hbw.trans (hb5.mono (by omega))
            have hba : Below s0 w (w5.alloc (.cells #[.string (Nm.bs (T i))] 9)) := hb05.alloc (by omega) _
            exact ⟨i + 1, by omega, by go_num, by rw [HN.out, List.map_append, List.map_append]; exact hown6, hba.grown hgrow (by simp; omega) hown5.at_base⟩
          case measure => simp [intOf]; omega
    · obtain rfl : i = m := by omega
      obtain ⟨zs, hzs⟩ : ∃ zs, zs = (Nm.kids (Tr.ad ls) i a fr).map T := ⟨_, rfl⟩
      have hown2 : OwnT wr s0 9 u9 (zs.map Nm.bs) := by rw [hzs]; exact hown
      have hzm : ∀ x ∈ zs, Nm.Sm x ∧ x.length ≤ 16 := fun x hx => by
        rw [hzs] at hx
        obtain ⟨j, hj, rfl⟩ := List.mem_map.1 hx
        exact HSm.out j hj
      have hzl : zs.length ≤ 8 := by
        rw [hzs, List.length_map]
        exact Nat.le_trans (Tr.kids_len _ _ _ _) hm8
      obtain ⟨A9, c9, rfl, hrd⟩ := hown2.rd
      obtain ⟨N, hN⟩ : ∃ N, N = zs.length := ⟨_, rfl⟩
      have hN8 : N ≤ 8 := by omega
      have hlm : (zs.map Nm.bs).length = N := by rw [List.length_map, hN]
      rw [hlm] at hrd ⊢
      obtain ⟨i0, hi0, hz0, hz1, hz2⟩ := info_parts boolInfo
      have hml : N ≤ maxLen := by simp only [maxLen]; omega
      obtain ⟨zc, hzc⟩ : ∃ zc, zc = madeCells (Value.bool false).cells (N * 1) := ⟨_, rfl⟩
      have hmk : ∀ w : World, (Instr.makeSlice 69 (.int .i64 (N : Int)) (.int .i64 (N : Int))).run Tryd.prog w = .ok (.slice (some ⟨w.heap.size, 0, none⟩) N N) (w.alloc (.cells zc 4)) := fun w => by
        have := run_make (P := Tryd.prog) w 69 4 i0 (.bool false) Tryd.underlying69 hi0 hz0 .i64 .i64 (N : Int) (N : Int) (by omega) (Int.le_refl _) (by rw [hz2]; omega) (by omega)
        simp only [Int.toNat_natCast, hz1, ← hzc] at this
        exact this
      obtain ⟨s, hs⟩ : ∃ s, s = wr.heap.size := ⟨_, rfl⟩
      obtain ⟨x0, hx0⟩ : ∃ x0, x0 = wr.alloc (.cells zc 4) := ⟨_, rfl⟩
      have HLN := Lib.hid hN.symm
      have hS0 : SeenAt x0 s N (List.replicate zs.length false) := by
        rw [HLN.out, hx0, hs, hzc]
        exact SeenAt.made (World.ownsRow_lit wr _ N (Nat.le_refl _) hml (size_madeCells _ _))
      have hbx : Below s wr x0 := by rw [hx0, hs]; exact (Below.refl _ _).alloc (Nat.le_refl _) _
      have hI0 : NaO w s A9 N c9 zs (List.replicate zs.length false) x0 := by
        refine ⟨hS0, by rw [← hs] at hrd; exact hrd.below hbx, ?_, by rw [hx0, hs]; simp⟩
        have : Below s0 w x0 := hbw.trans (hbx.mono (by rw [hs]; exact hsz))
        rw [HS0.out] at this
        exact this
      have HV0 : Hid (Nm.Sel zs (List.replicate zs.length false) [] ∧ ([] : List (List Nat)).length = 0) := ⟨Nm.Sel.start zs, rfl⟩
      obtain ⟨B0, hB0⟩ : ∃ B0 : ByteArray, B0 = ⟨#[40]⟩ := ⟨_, rfl⟩
      have HB0 : Hid (B0 = Nm.bs (40 :: ([] : List (List Nat)).flatten) ∧ B0.size ≤ 1 + 16 * 0) := ⟨by rw [hB0]; rfl, by rw [hB0]; decide⟩
      have HX0 := Lib.hid hx0
      have HS := Lib.hid hs
      have HZM := Lib.hid hzm
      have HZS := Lib.hid hzs
      have HB00 := Lib.hid hB0
      clear hzc hx0 hs hS0 hbx hrd hown2 hzm hzs hN hlm hB0 hi0 hz0 hz1 hz2 hbw hown hzl
      go_wp2
      rw [← HX0.out, ← HS.out, ← HB00.out]
      go_loopw [11, 13, 14, 15] (fun ov kv _ _ wr => ∃ (q : Nat) (us : List Bool) (o : List (List Nat)) (B : ByteArray), q ≤ N ∧ kv = .int .i64 (q : Int) ∧ ov = .string B ∧ Hid (B = Nm.bs (40 :: o.flatten) ∧ B.size ≤ 1 + 16 * q) ∧ Hid (Nm.Sel zs us o ∧ o.length = q) ∧ NaO w s A9 N c9 zs us wr) (fun _ kv _ _ _ => N - (intOf kv).toNat)
      case atStart => exact ⟨0, _, _, B0, Nat.zero_le _, rfl, rfl, HB0, HV0, hI0⟩
      case round =>
        clear hI0 HV0 HB0
        obtain ⟨q, us, o, B, hqn, rfl, rfl, HB, HV, hI⟩ := hrel
        by_cases hlq : q < N
        · have hB1 : Hid (Nm.Lst zs us 0 (-1)) := Nm.Lst.start zs us
          go_wp2
          go_loopw [14, 15] (fun bv jv wi => ∃ (j : Nat) (b : Int), j ≤ N ∧ jv = .int .i64 (j : Int) ∧ bv = .int .i64 b ∧ Hid (Nm.Lst zs us j b) ∧ NaO w s A9 N c9 zs us wi) (fun _ jv _ => N - (intOf jv).toNat)
          case atStart => exact ⟨0, -1, Nat.zero_le _, rfl, rfl, hB1, hI⟩
          case round =>
            clear hB1 hI
            obtain ⟨j, b, hjn, rfl, rfl, HL, hI⟩ := hrel
            by_cases hlj : j < N
            · have hj1 : (0 : Int) ≤ (j : Int) := by omega
              have hj2 : (j : Int) < (N : Int) := by omega
              obtain ⟨b1, o1, rfl, hb1, hc1⟩ := hI.2.1.at_ (by omega)
              have hjz : j < zs.length := by rw [HLN.out]; exact hlj
              have g1 := hc1 j hlj
              rw [map_at zs hjz] at g1
              have g2 := hI.1.cell hlj
              obtain ⟨x, hx⟩ : ∃ x, x = zs.getD j [] := ⟨_, rfl⟩
              rw [← hx] at g1
              by_cases hu : us.getD j false = true
              · rw [hu] at g2
                have HN := Lib.hid (HL.out.skip hu)
                clear hc1 hu HL hx hjz
                go_wp2
                go_quiet (fail)
                go_wp2
                go_roundw
                case rel => exact ⟨j + 1, b, by omega, by go_num, rfl, HN, hI.drew _⟩
                case measure => simp [intOf]; omega
              · have hu := Bool.eq_false_iff.2 hu
                rw [hu] at g2
                by_cases hbn : b = -1
                · subst hbn
                  have HN := Lib.hid (HL.out.first hu)
                  clear hc1 hu HL hx hjz
                  go_wp2
                  go_quiet (fail)
                  go_wp2
                  go_roundw
                  case rel => exact ⟨j + 1, _, by omega, by go_num, rfl, HN, hI.drew _⟩
                  case measure => simp [intOf]; omega
                · obtain ⟨p, rfl, hpj⟩ : ∃ p : Nat, b = (p : Int) ∧ p < j := by
                    rcases HL.out with ⟨e, _⟩ | ⟨p, e, hp, _⟩
                    · exact absurd e hbn
                    · exact ⟨p, e, hp⟩
                  have hp1 : (0 : Int) ≤ (p : Int) := by omega
                  have hp2 : (p : Int) < (N : Int) := by omega
                  have hpz : p < zs.length := by rw [HLN.out]; omega
                  have g3 := hc1 p (by omega)
                  rw [map_at zs hpz] at g3
                  obtain ⟨y, hy⟩ : ∃ y, y = zs.getD p [] := ⟨_, rfl⟩
                  rw [← hy] at g3
                  have d1 : decide ((p : Int) < 0) = false := by simp
                  obtain ⟨t, ht⟩ : ∃ t, Nm.bf x y = t := ⟨_, rfl⟩
                  have hxm := HZM.out x (by rw [hx]; simp [List.getD, hjz])
                  have hym := HZM.out y (by rw [hy]; simp [List.getD, hpz])
                  have HQ := Lib.hid (fun W => Before_any x y hxm.1 hym.1 (by omega) (by omega) t ht W)
                  cases t with
                  | true =>
                    have HN := Lib.hid (HL.out.less hu (by rw [← hx, ← hy]; exact ht))
                    clear hc1 hu HL hbn hx hy hjz hpz ht hxm hym
                    go_wp2
                    go_quiet (first | (go_at_call 20; exact Calls.quiet_of (HQ.out _)))
                    go_wp2
                    go_roundw
                    case rel => exact ⟨j + 1, _, by omega, by go_num, rfl, HN, hI.drew _⟩
                    case measure => simp [intOf]; omega
                  | false =>
                    have HN := Lib.hid (HL.out.keep (by rw [← hx, ← hy]; exact ht))
                    clear hc1 hu HL hbn hx hy hjz hpz ht hxm hym
                    go_wp2
                    go_quiet (first | (go_at_call 20; exact Calls.quiet_of (HQ.out _)))
                    go_wp2
                    go_roundw
                    case rel => exact ⟨j + 1, _, by omega, by go_num, rfl, HN, hI.drew _⟩
                    case measure => simp [intOf]; omega
            · obtain rfl : j = N := by omega
              have hBe := HL.out
              rw [← HLN.out] at hBe
              obtain ⟨p, rfl, hp, hup, hmin⟩ := hBe.end_ HV.out.1 (by rw [HV.out.2, HLN.out]; exact hlq)
              have hnext := HV.out.1.take hp hup hmin
              have hol : o.length = q := HV.out.2
              obtain ⟨x, hx⟩ : ∃ x, x = zs.getD p [] := ⟨_, rfl⟩
              have HV2 : Hid (Nm.Sel zs (us.set p true) (o ++ [x]) ∧ (o ++ [x]).length = q + 1) := ⟨by rw [hx]; exact hnext, by rw [List.length_append, List.length_singleton, hol]⟩
              have hxm := HZM.out x (by rw [hx]; simp [List.getD, hp])
              obtain ⟨X, hX⟩ : ∃ X, X = Nm.bs x := ⟨_, rfl⟩
              have hXs : X.size ≤ 16 := by rw [hX, Nm.bs_size]; exact hxm.2
              have hBs : B.size ≤ 1 + 16 * q := HB.out.2
              have HB2 : Hid (B ++ X = Nm.bs (40 :: (o ++ [x]).flatten) ∧ (B ++ X).size ≤ 1 + 16 * (q + 1)) := by
                refine ⟨?_, by rw [ByteArray.size_append]; omega⟩
                rw [HB.out.1, hX, Nm.bs_app, List.flatten_append]
                simp
              obtain ⟨b1, o1, rfl, hb1, hc1⟩ := hI.2.1.at_ (by omega)
              have g1 := hc1 p (by rw [HLN.out] at hp; exact hp)
              rw [map_at zs hp, ← hx, ← hX] at g1
              rw [HLN.out] at hp
              clear HL hBe hnext hmin hup hol hx hxm hX hc1
              obtain ⟨V, hV⟩ : ∃ V, V = wr := ⟨_, rfl⟩
              subst hV
              obtain ⟨a2, a3, a4, a5⟩ := hI
              have g2 := a2.cell hp
              have g3 := World.ownsRow.frozenAt a2 p
              have hp1 : (0 : Int) ≤ (p : Int) := by omega
              have hp2 : (p : Int) < (j : Int) := by omega
              have hset := a2.set p true
              have g4 : (V.setCell ⟨s, p, none⟩ (.bool true)).cell? ⟨b1, o1 + p, none⟩ = some (.string X) := (World.cell?_setCell_other _ _ _ _ (fun e => by have : s = b1 := (congrArg Addr.block e); omega)).trans g1
              have hbV : Below s V (V.setCell ⟨s, p, none⟩ (.bool true)) := (Below.refl _ _).setCell (p := ⟨s, p, none⟩) (by simp) _
              have hI2 : NaO w s (some ⟨b1, o1, none⟩) j c9 zs (us.set p true) (V.setCell ⟨s, p, none⟩ (.bool true)) := by
                refine ⟨hset.1, a3.below hbV, a4.setCell (p := ⟨s, p, none⟩) (by have := HS.out; have := HS0.out; show w.heap.size ≤ s; omega) _, by simpa using a5⟩
              go_wp2
              go_roundw
              case rel => exact ⟨q + 1, _, _, _, by omega, by go_num, rfl, HB2, HV2, hI2⟩
              case measure => simp [intOf]; omega
        · obtain rfl : q = N := by omega
          have hdone := HV.out.1.done (by rw [HV.out.2, HLN.out])
          have hBs : B.size ≤ 1 + 16 * q := HB.out.2
          have HBE := HB.out.1
          rw [hdone] at HBE
          have HFin := Lib.hid HBE
          clear hdone HBE HB HV
          go_wp2
          go_ret
          refine ⟨?_, hI.2.2.1⟩
          show Ending.returned (.string (B ++ ⟨#[41]⟩)) = _
          rw [HFin.out, ← HZS.out, show (⟨#[41]⟩ : ByteArray) = Nm.bs [41] from rfl, Nm.bs_app]
          rfl

end Go.Proofs.YtoofpmajiphldaaDoor.RefTr

namespace Go.Proofs.YtoofpmajiphldaaDoor.RefTr
open Go.RowKit
set_option linter.unusedSimpArgs false
set_option linter.unusedVariables false

theorem name_in (m : Nat) (A : Option Addr) (c0 c : Nat) (ls : List Gr.Ln) (hm8 : m ≤ 8) (hT : Tr.Tree m ls) :
    ∀ (k a fr : Nat) (w : World), a < m → (fr < m → Tr.ad ls a fr = true) → Nm.Deep (Tr.far m ls) m k a fr → RdP w w.heap.size A c0 c ls →
      Calls Tryd.prog 19 #[.int .i64 (m : Int), .slice A c0 c, .int .i64 (a : Int), .int .i64 (Tr.frI m fr)] w fun e w' => e = .returned (.string (Nm.bs (Nm.nm (Tr.ad ls) m k a fr))) ∧ Below w.heap.size w w'
  | 0, a, fr, w, ha, hf, hk, hr => by
    rw [Nm.nm_end hT.met ha hf hk (fun _ => [])]
    refine name_step m a fr hm8 ha A c0 c ls (fun _ => []) (fun i hi => ?_) (fun i hi => ?_) w hr
    · rw [Nm.deep_end hT.met ha hf hk] at hi; cases hi
    · rw [Nm.deep_end hT.met ha hf hk] at hi; cases hi
  | k + 1, a, fr, w, ha, hf, hk, hr => by
    rw [Nm.nm_up]
    refine name_step m a fr hm8 ha A c0 c ls (fun i => Nm.nm (Tr.ad ls) m k i a) (fun i hi => ?_) (fun i hi W hW => ?_) w hr
    · obtain ⟨h1, h2, h3⟩ := Nm.deep_kid hT.met ha hf hk hi
      refine ⟨Nm.nm_sm _ _ _, ?_⟩
      have := Nm.nm_short hT.met h1 (fun _ => h2) h3
      omega
    · obtain ⟨h1, h2, h3⟩ := Nm.deep_kid hT.met ha hf hk hi
      have := name_in m A c0 c ls hm8 hT k i a W h1 (fun _ => h2) h3 hW
      rw [Tr.frI_some ha] at this
      exact this
theorem name_any (m : Nat) (A : Option Addr) (k c : Nat) (ls : List Gr.Ln) (hm8 : m ≤ 8) (hT : Tr.Tree m ls) (a : Nat) (ha : a < m) (w : World) (hr : RdP w w.heap.size A k c ls) :
    Calls Tryd.prog 19 #[.int .i64 (m : Int), .slice A k c, .int .i64 (a : Int), .int .i64 (-1)] w fun e w' => e = .returned (.string (Nm.bs (Nm.nm (Tr.ad ls) m m a m))) ∧ Below w.heap.size w w' := by
  have := name_in m A k c ls hm8 hT m a m w ha (fun h => absurd h (Nat.lt_irrefl m)) (Nm.deep_all hT.met ha) hr
  rwa [Tr.frI_none] at this

theorem below_drewN {B : Nat} {w W : World} {d : Nat} (h : Below B w W) : Below B w (W.drewN d) := h.trans (Below.drewN' _ _ _)

set_option maxRecDepth 100000 in
set_option maxHeartbeats 2000000 in
theorem Name_any (m : Nat) (A : Option Addr) (k c : Nat) (ls : List Gr.Ln) (w : World) (hr : RdP w w.heap.size A k c ls) (hm8 : m ≤ 8) (hm1 : 1 ≤ m) (hT : Tr.Tree m ls) :
    Calls Tryd.prog 8 #[.int .i64 (m : Int), .slice A k c] w fun e w' => e = .returned (.string (Nm.bs (Nm.wn (Tr.ad ls) m (Tr.far m ls)))) ∧ Below w.heap.size w w' := by
  have HT := Lib.hid hT
  clear hT
  go_enter Tryd.func8, Tryd.ntmps8
  go_wp2_with fail
  refine (Middle_any m A k c ls _ hr hm8 hm1 HT.out).mono ?_
  rintro e w1 ⟨v, rfl, hown, hb1⟩
  obtain ⟨A1, c1, rfl, hrd⟩ := hown.rd
  obtain ⟨L, hL⟩ : ∃ L, L = (Tr.midI m ls m).length := ⟨_, rfl⟩
  have hLm : L ≤ m := by rw [hL]; exact Tr.midI_len m ls m
  have hLp : 1 ≤ L := by rw [hL]; exact Tr.midI_pos HT.out hm1
  rw [← hL] at hrd ⊢
  obtain ⟨b1, o1, rfl, hbl, hc1⟩ := hrd.at_ (by omega)
  have hbig := hrd.big
  have HC : Hid (∀ i, i < L → w1.cell? ⟨b1, o1 + i, none⟩ = some (.int .i64 (((Tr.mids m (Tr.far m ls)).getD i 0 : Nat) : Int)) ∧ (Tr.mids m (Tr.far m ls)).getD i 0 < m) := by
    show ∀ i, _
    intro i hi
    obtain ⟨e1, e2⟩ := Tr.midI_at ls (m := m) (k := i) (by rw [← hL]; exact hi)
    exact ⟨by rw [← e1]; exact hc1 i hi, e2⟩
  have HL := Lib.hid hL
  have hr1 := hr.past hb1
  obtain ⟨g0, hv0⟩ := HC.out 0 (by omega)
  rw [Nat.add_zero] at g0
  obtain ⟨v0, hv⟩ : ∃ v0, v0 = (Tr.mids m (Tr.far m ls)).getD 0 0 := ⟨_, rfl⟩
  rw [← hv] at g0 hv0
  have hbl2 : ∀ W, Below w1.heap.size w1 W → ∀ i, W.cell? ⟨b1, o1 + i, none⟩ = w1.cell? ⟨b1, o1 + i, none⟩ := fun W hW i => hW.cell (p := ⟨b1, o1 + i, none⟩) hbl
  have HBL := Lib.hid hbl2
  have H1 : Hid (Nm.bs (Nm.nm (Tr.ad ls) m m v0 m) = Nm.bs (Nm.least (nmTo m ls 1))) := by
    show _ = _
    rw [nmTo_succ (by rw [Tr.mids_len, ← hL]; omega), nmTo_zero, List.nil_append, ← hv]
    rfl
  clear hown hL hrd hc1 hv hbl2
  go_wp2_with fail
  refine (name_any m A k c ls hm8 HT.out v0 hv0 _ hr1).mono ?_
  rintro e w2 ⟨rfl, hb2⟩
  obtain ⟨B0, hB0⟩ : ∃ B0, B0 = Nm.bs (Nm.nm (Tr.ad ls) m m v0 m) := ⟨_, rfl⟩
  rw [← hB0]
  have HB0 : Hid (B0 = Nm.bs (Nm.least (nmTo m ls 1))) := by show _ = _; rw [hB0]; exact H1.out
  clear hB0 hr1 g0
  go_wp2
  go_loopw [7, 8, 9] (fun ov iv _ wr => ∃ (i : Nat) (B : ByteArray), 1 ≤ i ∧ i ≤ L ∧ iv = .int .i64 (i : Int) ∧ ov = .string B ∧ Hid (B = Nm.bs (Nm.least (nmTo m ls i))) ∧ Below w1.heap.size w1 wr) (fun _ iv _ _ => L - (intOf iv).toNat)
  case atStart => exact ⟨1, B0, Nat.le_refl _, hLp, rfl, rfl, HB0, hb2⟩
  case round =>
    clear HB0 hb2
    obtain ⟨i, B, hi1, hi, rfl, rfl, HB, hbw⟩ := hrel
    by_cases hlt : i < L
    · obtain ⟨g1, hvm⟩ := HC.out i hlt
      rw [← HBL.out wr hbw i] at g1
      obtain ⟨v, hv⟩ : ∃ v, v = (Tr.mids m (Tr.far m ls)).getD i 0 := ⟨_, rfl⟩
      rw [← hv] at g1 hvm
      have hN := nmTo_succ (ls := ls) (m := m) (i := i) (by rw [Tr.mids_len, ← HL.out]; exact hlt)
      rw [← hv] at hN
      obtain ⟨y, hy⟩ : ∃ y, y = Nm.nm (Tr.ad ls) m m v m := ⟨_, rfl⟩
      rw [← hy] at hN
      have hysm : Nm.Sm y := by rw [hy]; exact Nm.nm_sm _ _ _
      have hyl : y.length ≤ 16 := by
        rw [hy]
        have := Nm.nm_short HT.out.met hvm (fun h => absurd h (Nat.lt_irrefl m)) (Nm.deep_all HT.out.met hvm)
        omega
      have hlen : (nmTo m ls i).length = i := by
        unfold nmTo
        rw [List.length_map, List.length_take, Tr.mids_len, ← HL.out]
        omega
      have hall : ∀ x ∈ nmTo m ls i, Nm.Sm x ∧ x.length ≤ 16 := fun x hx => by
        unfold nmTo at hx
        obtain ⟨u, hu, rfl⟩ := List.mem_map.1 hx
        have hum := (Tr.mem_mids.1 (List.mem_of_mem_take hu)).1
        refine ⟨Nm.nm_sm _ _ _, ?_⟩
        have := Nm.nm_short HT.out.met hum (fun h => absurd h (Nat.lt_irrefl m)) (Nm.deep_all HT.out.met hum)
        omega
      obtain ⟨z, hz⟩ : ∃ z, z = Nm.least (nmTo m ls i) := ⟨_, rfl⟩
      have hzm := hall z (by rw [hz]; exact Nm.least_mem (by omega))
      have hls := Nm.least_snoc (l := nmTo m ls i) (by omega) y
      rw [← hN, ← hz] at hls
      obtain ⟨t, ht⟩ : ∃ t, Nm.bf y z = t := ⟨_, rfl⟩
      rw [ht] at hls
      have HBf := Lib.hid (fun W => Before_any y z hysm hzm.1 (by omega) (by omega) t ht W)
      have hBz : B = Nm.bs z := by rw [hz]; exact HB.out
      have HBZ := Lib.hid hBz
      have HY := Lib.hid hy
      have HLS := Lib.hid hls
      have hrw : RdP wr wr.heap.size A k c ls := (hr.past hb1).past hbw
      have HNm := Lib.hid (name_any m A k c ls hm8 HT.out v hvm wr hrw)
      have i1 : (0 : Int) ≤ (i : Int) := by omega
      have i2 : (i : Int) < (L : Int) := by omega
      clear hv hN hy hysm hlen hall hz hzm hls ht hBz hrw
      go_wp2_with fail
      refine HNm.out.mono ?_
      rintro e w5 ⟨rfl, hb5⟩
      rw [← HY.out]
      have hb05 := hbw.trans (hb5.mono hbw.size)
      have HBB := HBf.out w5
      rw [← HBZ.out] at HBB
      have HBH := Lib.hid HBB
      obtain ⟨Y, hYY⟩ : ∃ Y, Y = Nm.bs y := ⟨_, rfl⟩
      rw [← hYY] at HBH ⊢
      have HYY := Lib.hid hYY
      clear HBB HBf hb5 hbw HNm hYY
      go_wp2_with fail
      refine HBH.out.mono ?_
      rintro e w6 ⟨rfl, d6, hw6⟩
      have hb06 : Below w1.heap.size w1 w6 := by rw [hw6]; exact below_drewN hb05
      clear hw6 hb05
      cases t with
      | true =>
        have HN : Hid (Y = Nm.bs (Nm.least (nmTo m ls (i + 1)))) := by show _ = _; rw [HLS.out, if_pos rfl, HYY.out]
        go_wp2
        go_roundw
        case rel => exact ⟨i + 1, Y, by omega, by omega, by go_num, rfl, HN, hb06⟩
        case measure => simp [intOf]; omega
      | false =>
        have HN : Hid (B = Nm.bs (Nm.least (nmTo m ls (i + 1)))) := by show _ = _; rw [HLS.out, if_neg (by simp), HBZ.out]
        go_wp2
        go_roundw
        case rel => exact ⟨i + 1, B, by omega, by omega, by go_num, rfl, HN, hb06⟩
        case measure => simp [intOf]; omega
    · obtain rfl : i = L := by omega
      have HW := nmTo_all (m := m) (ls := ls) (L := i) (by rw [Tr.mids_len]; exact HL.out)
      have HF : Hid (B = Nm.bs (Nm.wn (Tr.ad ls) m (Tr.far m ls))) := by show _ = _; rw [← HW]; exact HB.out
      clear HW HB
      go_wp2
      go_ret
      exact ⟨by rw [← HF.out]; rfl, hb1.trans (hbw.mono hb1.size)⟩

end Go.Proofs.YtoofpmajiphldaaDoor.RefTr
