/-
  The walk of the law CommonThree: for every number of points, lines and three points it returns true.
-/
import Derived.Test.YtojkjdccjomaaaaCommonF
import Derived.BigQuiet
namespace Go.Proofs.Ytojkjdccjomaaaa.commonThree
open Go.RowKit
open Tr (Met far ad)
set_option linter.unusedSimpArgs false
set_option linter.unusedVariables false

/-- those of the first way that lie on the two others, so far -/
def both (m : Nat) (ls : List Gr.Ln) (a b c k : Nat) : List Int := (((Co.way m ls a b).take k).filter fun v => decide (v ∈ Co.way m ls b c) && decide (v ∈ Co.way m ls a c)).map fun x : Nat => (x : Int)
theorem both_len (m : Nat) (ls : List Gr.Ln) (a b c k : Nat) : (both m ls a b c k).length ≤ k := by
  unfold both
  rw [List.length_map]
  refine Nat.le_trans (List.length_filter_le _ _) ?_
  rw [List.length_take]
  omega
theorem both_yes {m : Nat} {ls : List Gr.Ln} {a b c k : Nat} (hk : k < (Co.way m ls a b).length) (h1 : (Co.way m ls a b).getD k 0 ∈ Co.way m ls b c) (h2 : (Co.way m ls a b).getD k 0 ∈ Co.way m ls a c) : both m ls a b c (k + 1) = both m ls a b c k ++ [((Co.way m ls a b).getD k 0 : Int)] := by
  unfold both
  rw [Co.filter_take _ _ _ hk, if_pos (by rw [Bool.and_eq_true, decide_eq_true_eq, decide_eq_true_eq]; exact ⟨h1, h2⟩), List.map_append]
  rfl
theorem both_no {m : Nat} {ls : List Gr.Ln} {a b c k : Nat} (hk : k < (Co.way m ls a b).length) (h : ¬ ((Co.way m ls a b).getD k 0 ∈ Co.way m ls b c ∧ (Co.way m ls a b).getD k 0 ∈ Co.way m ls a c)) : both m ls a b c (k + 1) = both m ls a b c k := by
  unfold both
  rw [Co.filter_take _ _ _ hk, if_neg (by simpa using h), List.append_nil]
theorem both_all {m : Nat} {ls : List Gr.Ln} (hT : Tr.Tree m ls) {a b c k : Nat} (ha : a < m) (hb : b < m) (hc : c < m) (hk : k = far m ls a b + 1) : both m ls a b c k = [(Co.lowN m ls c a b : Int)] := by
  have hl : (Co.way m ls a b).length = far m ls a b + 1 := Co.wy_len hT.met ha hb
  have h3 := fun w hw => Co.three hT.met ha hb hc (Co.low_is hT hc ha hb) (w := w) hw
  have hlow := (Co.low_is hT hc ha hb)
  unfold both
  rw [List.take_of_length_le (by omega), Co.filter_one _ (Co.lowN m ls c a b) (Co.way m ls a b) (Co.wy_nodup hT.met ha hb)]
  · rfl
  · exact (Co.mem_wy hT.met ha hb).2 ⟨hlow.1, ((h3 _ hlow.1).2 rfl).1⟩
  · intro x hx
    obtain ⟨hxm, hxo⟩ := (Co.mem_wy hT.met ha hb).1 hx
    simp only [Bool.and_eq_true, decide_eq_true_eq]
    rw [← h3 x hxm]
    unfold Co.way
    rw [Co.mem_wy hT.met hb hc, Co.mem_wy hT.met ha hc]
    exact ⟨fun h => ⟨hxo, h.1.2, h.2.2⟩, fun h => ⟨⟨hxm, h.2.1⟩, hxm, h.2.2⟩⟩

set_option maxRecDepth 100000 in
set_option maxHeartbeats 2000000 in
theorem bad1 (w : World) (a0 : Int) (a1 : Option Addr) (n1 c1 : Nat) (z1 : List Gr.Ln) (w1 : RdP w w.heap.size a1 n1 c1 z1) (a2 a3 a4 : Int) (hc : Co.ycode a0 z1 a2 a3 ≠ 0) :
    Calls Try.prog 4 #[.int .i64 a0, .slice a1 n1 c1, .int .i64 a2, .int .i64 a3, .int .i64 a4] w fun e w' => e = .returned (.bool true) ∧ Below w.heap.size w w' := by
  have H := Lib.hid hc
  clear hc
  go_enter Try.func4, Try.ntmps4
  go_wp2_with fail
  refine (commonFact_any _).mono ?_
  rintro e x1 ⟨rfl, b1⟩
  go_wp2_with fail
  refine (Way_bad a0 a2 a3 a1 n1 c1 z1 _ (w1.past b1) H.out).mono ?_
  rintro e x2 ⟨rfl, b2⟩
  have b02 := b1.trans (b2.mono b1.size)
  go_wp2_with fail
  refine (Way_any a0 a3 a4 a1 n1 c1 z1 _ (w1.past b02)).mono ?_
  rintro e x3 ⟨b3, (⟨_, rfl⟩ | ⟨_, A3, N3, d3, rfl⟩)⟩
  all_goals
    have b03 := b02.trans (b3.mono b02.size)
    go_wp2_with fail
    refine (Way_any a0 a2 a4 a1 n1 c1 z1 _ (w1.past b03)).mono ?_
    rintro e x4 ⟨b4, (⟨_, rfl⟩ | ⟨_, A4, N4, d4, rfl⟩)⟩
    all_goals
      go_wp2
      go_ret
      exact ⟨rfl, b03.trans (b4.mono b03.size)⟩

set_option maxRecDepth 100000 in
set_option maxHeartbeats 2000000 in
theorem bad2 (w : World) (a0 : Int) (a1 : Option Addr) (n1 c1 : Nat) (z1 : List Gr.Ln) (w1 : RdP w w.heap.size a1 n1 c1 z1) (a2 a3 a4 : Int) (hc1 : Co.ycode a0 z1 a2 a3 = 0) (hc : Co.ycode a0 z1 a3 a4 ≠ 0) :
    Calls Try.prog 4 #[.int .i64 a0, .slice a1 n1 c1, .int .i64 a2, .int .i64 a3, .int .i64 a4] w fun e w' => e = .returned (.bool true) ∧ Below w.heap.size w w' := by
  have H := Lib.hid hc
  have H1 := Lib.hid hc1
  clear hc hc1
  go_enter Try.func4, Try.ntmps4
  go_wp2_with fail
  refine (commonFact_any _).mono ?_
  rintro e x1 ⟨rfl, b1⟩
  go_wp2_with fail
  refine (Way_any a0 a2 a3 a1 n1 c1 z1 _ (w1.past b1)).mono ?_
  rintro e x2 ⟨b2, (⟨h0, _⟩ | ⟨_, A2, N2, d2, rfl⟩)⟩
  · exact absurd H1.out h0
  have b02 := b1.trans (b2.mono b1.size)
  go_wp2_with fail
  refine (Way_bad a0 a3 a4 a1 n1 c1 z1 _ (w1.past b02) H.out).mono ?_
  rintro e x3 ⟨rfl, b3⟩
  have b03 := b02.trans (b3.mono b02.size)
  go_wp2_with fail
  refine (Way_any a0 a2 a4 a1 n1 c1 z1 _ (w1.past b03)).mono ?_
  rintro e x4 ⟨b4, (⟨_, rfl⟩ | ⟨_, A4, N4, d4, rfl⟩)⟩
  all_goals
    go_wp2
    go_ret
    exact ⟨rfl, b03.trans (b4.mono b03.size)⟩

set_option maxRecDepth 100000 in
set_option maxHeartbeats 4000000 in
theorem good (w : World) (m a b c : Nat) (a1 : Option Addr) (n1 c1 : Nat) (z1 : List Gr.Ln) (w1 : RdP w w.heap.size a1 n1 c1 z1) (hc : Tr.tcode (m : Int) z1 = 0) (ham : a < m) (hbm : b < m) (hcm : c < m) :
    Calls Try.prog 4 #[.int .i64 (m : Int), .slice a1 n1 c1, .int .i64 (a : Int), .int .i64 (b : Int), .int .i64 (c : Int)] w fun e w' => e = .returned (.bool true) ∧ Below w.heap.size w w' := by
  obtain ⟨hg, hT⟩ := Tr.tcode_zero.1 hc
  have hm8 : m ≤ 8 := by have := (Gr.code_zero.1 hg).2.1; omega
  obtain ⟨L, hL⟩ : ∃ L, L = far m z1 a b + 1 := ⟨_, rfl⟩
  obtain ⟨L2, hL2⟩ : ∃ L2, L2 = far m z1 b c + 1 := ⟨_, rfl⟩
  obtain ⟨L3, hL3⟩ : ∃ L3, L3 = far m z1 a c + 1 := ⟨_, rfl⟩
  have hLm : L ≤ m := by have := Co.far_lt hT ham hbm; omega
  have hwl : (Co.way m z1 a b).length = L := by rw [hL]; exact Co.wy_len hT.met ham hbm
  have HALL : Hid (both m z1 a b c L = [(Co.lowN m z1 c a b : Int)]) := both_all hT ham hbm hcm hL
  have H := Lib.hid hc
  have HT := Lib.hid hT
  have HL := Lib.hid hL
  have HL2 := Lib.hid hL2
  have HL3 := Lib.hid hL3
  have HWL := Lib.hid hwl
  clear hc hg hT hL hL2 hL3 hwl
  go_enter Try.func4, Try.ntmps4
  go_wp2_with fail
  refine (commonFact_any _).mono ?_
  rintro e x1 ⟨rfl, b1⟩
  go_wp2_with fail
  refine (Way_ok m a b a1 n1 c1 z1 _ (w1.past b1) H.out ham hbm).mono ?_
  rw [← HL.out]
  rintro e x2 ⟨A2, d2, rfl, r2, b2⟩
  have b02 := b1.trans (b2.mono b1.size)
  clear b1 b2
  go_wp2_with fail
  refine (Way_ok m b c a1 n1 c1 z1 _ (w1.past b02) H.out hbm hcm).mono ?_
  rw [← HL2.out]
  rintro e x3 ⟨A3, d3, rfl, r3, b3⟩
  have b03 := b02.trans (b3.mono b02.size)
  have r2 := r2.past b3
  clear b02 b3
  go_wp2_with fail
  refine (Way_ok m a c a1 n1 c1 z1 _ (w1.past b03) H.out ham hcm).mono ?_
  rw [← HL3.out]
  rintro e x4 ⟨A4, d4, rfl, r4, b4⟩
  have b04 := b03.trans (b4.mono b03.size)
  have r2 := r2.past b4
  have r3 := r3.past b4
  clear b03 b4
  have hs4 := b04.size
  have hbig2 := r2.big
  obtain ⟨bb2, o2, e2, hbb2, hc2⟩ := r2.at_ (by have := HL.out; omega)
  subst e2
  have HC2 := Lib.hid hc2
  have h0 : Own x4 x4.heap.size 3 (.slice none 0 0) (both m z1 a b c 0) := Own.nil _ _ _
  clear hc2
  go_wp2
  go_loopw [18, 19] (fun v iv wr => ∃ k : Nat, k ≤ L ∧ iv = .int .i64 (k : Int) ∧ Own wr x4.heap.size 3 v (both m z1 a b c k) ∧ Below x4.heap.size x4 wr) (fun _ iv _ => L - (intOf iv).toNat)
  case atStart => exact ⟨0, Nat.zero_le _, rfl, h0, Below.refl _ _⟩
  case round =>
    clear h0
    obtain ⟨k, hk, rfl, hown, hbw⟩ := hrel
    have hsz := hbw.size
    by_cases hlt : k < L
    · have hkD : k ≤ far m z1 a b := by have := HL.out; omega
      have hkl : k < (Co.way m z1 a b).length := by rw [HWL.out]; exact hlt
      have g0 := HC2.out k hlt
      rw [Co.wayI_at HT.out ham hbm hkD] at g0
      have hyes := both_yes (c := c) hkl
      have hno := both_no (c := c) hkl
      have h1c := Co.wayI_has m z1 b c ((Co.way m z1 a b).getD k 0)
      have h2c := Co.wayI_has m z1 a c ((Co.way m z1 a b).getD k 0)
      obtain ⟨v, hv⟩ : ∃ v, v = (Co.way m z1 a b).getD k 0 := ⟨_, rfl⟩
      rw [← hv] at g0 hyes hno h1c h2c
      have g1 := (hbw.cell (p := ⟨bb2, o2 + k, none⟩) hbb2).trans g0
      have q3 := r3.past hbw
      have q4 := r4.past hbw
      have k0 : (0 : Int) ≤ (k : Int) := by omega
      have k1 : (k : Int) < (L : Int) := by omega
      have hlen := both_len m z1 a b c k
      by_cases h1 : v ∈ Co.way m z1 b c
      · have t1 : (Co.wayI m z1 b c).contains (v : Int) = true := by rw [h1c]; simpa using h1
        by_cases h2 : v ∈ Co.way m z1 a c
        · have t2 : (Co.wayI m z1 a c).contains (v : Int) = true := by rw [h2c]; simpa using h2
          have HN := Lib.hid (hyes h1 h2)
          have hroom : Hid ((both m z1 a b c k).length + 1 ≤ 17592186044416) := by show _ ≤ _; omega
          clear hv h1c h2c hyes hno h1 h2 hkD hkl hlen
          go_wp2_with fail
          refine (Has_any A3 L2 d3 _ (v : Int) true _ q3 t1).mono ?_
          rintro e y1 ⟨rfl, rfl⟩
          go_wp2_with fail
          refine (Has_any A4 L3 d4 _ (v : Int) true _ q4 t2).mono ?_
          rintro e y1 ⟨rfl, rfl⟩
          go_wp2_with (at_builtin; refine wpList_app _ rfl (.tmp 86) (.tmp 91) 28 rfl x4.heap.size 3 Try.underlying28 intInfo _ _ rfl (hown.below ((Below.refl _ _).alloc (Nat.le_refl _) _)) (some ⟨wr.heap.size, 0, none⟩) 1 1 [(v : Int)] rfl (Rd.one _ _ _) hroom.out (by simp; omega) ?_; intro v1 w1 hown1 hg1 hat1)
          have hb1 := below_app (hbw.alloc hsz _) (hown.below ((Below.refl _ _).alloc (Nat.le_refl _) _)) hg1 (by simp; omega)
          go_wp2
          go_roundw
          case rel => exact ⟨k + 1, by omega, by go_num, by rw [HN.out]; exact hown1, hb1⟩
          case measure => simp [intOf]; omega
        · have t2 : (Co.wayI m z1 a c).contains (v : Int) = false := by rw [h2c]; simpa using h2
          have HN := Lib.hid (hno (fun h => h2 h.2))
          clear hv h1c h2c hyes hno h1 h2 hkD hkl hlen
          go_wp2_with fail
          refine (Has_any A3 L2 d3 _ (v : Int) true _ q3 t1).mono ?_
          rintro e y1 ⟨rfl, rfl⟩
          go_wp2_with fail
          refine (Has_any A4 L3 d4 _ (v : Int) false _ q4 t2).mono ?_
          rintro e y1 ⟨rfl, rfl⟩
          go_wp2
          go_roundw
          case rel => exact ⟨k + 1, by omega, by go_num, by rw [HN.out]; exact hown, hbw⟩
          case measure => simp [intOf]; omega
      · have t1 : (Co.wayI m z1 b c).contains (v : Int) = false := by rw [h1c]; simpa using h1
        have HN := Lib.hid (hno (fun h => h1 h.1))
        clear hv h1c h2c hyes hno h1 hkD hkl hlen
        go_wp2_with fail
        refine (Has_any A3 L2 d3 _ (v : Int) false _ q3 t1).mono ?_
        rintro e y1 ⟨rfl, rfl⟩
        go_wp2
        go_roundw
        case rel => exact ⟨k + 1, by omega, by go_num, by rw [HN.out]; exact hown, hbw⟩
        case measure => simp [intOf]; omega
    · obtain rfl : k = L := by omega
      rw [HALL.out] at hown
      have b05 := b04.trans (hbw.mono hs4)
      obtain ⟨A5, d5, rfl, r5⟩ := hown.rd
      simp only [List.length_cons, List.length_nil, Nat.zero_add] at r5 ⊢
      clear hown hbw
      go_wp2_with fail
      refine (COf_ok m c a b a1 n1 c1 z1 _ (w1.past b05) H.out hcm ham hbm).mono ?_
      rintro e x6 ⟨rfl, b6⟩
      have b06 := b05.trans (b6.mono b05.size)
      have r6 := r5.past b6
      clear b05 b6 r5
      obtain ⟨v, hv⟩ : ∃ v, v = Co.lowN m z1 c a b := ⟨_, rfl⟩
      rw [← hv] at r6 ⊢
      obtain ⟨x7, hx7⟩ : ∃ x7, x7 = x6.alloc (.cells #[.int .i64 (v : Int)] 3) := ⟨_, rfl⟩
      have hbx : Below x6.heap.size x6 x7 := by rw [hx7]; exact (Below.refl _ _).alloc (Nat.le_refl _) _
      have r7 : Rd x7 x7.heap.size (some ⟨x6.heap.size, 0, none⟩) 1 1 [(v : Int)] := by rw [hx7]; exact (Rd.new x6 [(v : Int)] _ 1 rfl (by omega)).more (by simp)
      have HX7 := Lib.hid hx7
      clear hx7 hv
      go_wp2_with fail
      rw [← HX7.out]
      clear HX7
      refine (Ints_t _ _ 1 1 _ 1 _ _ true _ (r6.past hbx) r7 (by simp)).mono ?_
      rintro e x8 ⟨rfl, b8⟩
      go_wp2
      go_ret
      exact ⟨rfl, b06.trans ((hbx.trans (b8.mono hbx.size)).mono b06.size)⟩

theorem walk (w : World) (a0 : Int) (w0 : (Lit.int .i64 a0).wf = true) (a1 : Option Addr) (n1 c1 : Nat) (z1 : List Gr.Ln) (w1 : RdP w w.heap.size a1 n1 c1 z1) (a2 : Int) (w2 : (Lit.int .i64 a2).wf = true) (a3 : Int) (w3 : (Lit.int .i64 a3).wf = true) (a4 : Int) (w4 : (Lit.int .i64 a4).wf = true) :
    Calls Try.prog 4 #[.int .i64 a0, .slice a1 n1 c1, .int .i64 a2, .int .i64 a3, .int .i64 a4] w fun e w' => e = .returned (.bool true) ∧ Below w.heap.size w w' := by
  by_cases h1 : Co.ycode a0 z1 a2 a3 = 0
  · by_cases h2 : Co.ycode a0 z1 a3 a4 = 0
    · obtain ⟨ht, ha, hb⟩ := Co.ycode_zero.1 h1
      obtain ⟨_, _, hc⟩ := Co.ycode_zero.1 h2
      obtain ⟨m, rfl⟩ : ∃ m : Nat, a0 = (m : Int) := ⟨a0.toNat, by omega⟩
      obtain ⟨a, rfl⟩ : ∃ b' : Nat, a2 = (b' : Int) := ⟨a2.toNat, by omega⟩
      obtain ⟨b, rfl⟩ : ∃ b' : Nat, a3 = (b' : Int) := ⟨a3.toNat, by omega⟩
      obtain ⟨c, rfl⟩ : ∃ b' : Nat, a4 = (b' : Int) := ⟨a4.toNat, by omega⟩
      exact good w m a b c a1 n1 c1 z1 w1 ht (by omega) (by omega) (by omega)
    · exact bad2 w a0 a1 n1 c1 z1 w1 a2 a3 a4 h1 h2
  · exact bad1 w a0 a1 n1 c1 z1 w1 a2 a3 a4 h1

end Go.Proofs.Ytojkjdccjomaaaa.commonThree
