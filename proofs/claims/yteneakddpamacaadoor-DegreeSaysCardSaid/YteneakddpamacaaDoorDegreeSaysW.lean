/-
  The walk of the law DegreeSays: for every number of points, lines and numbers it returns true, where the library's variable errors.errorType holds what its initialiser lays.
-/
import Derived.Test.YteneakddpamacaaDoorDegreeC
import Derived.Test.YteneakddpamacaaDoorRefH
import Derived.Test.YteneakddpamacaaDoorTold
namespace Go.Proofs.YteneakddpamacaaDoor.degreeSays
open Go.RowKit

theorem Error_same (k : Int) (w : World) (het : tld.EtIs w) : Calls Tryd.prog 7 #[errv k, .int .i64 k] w fun e w' => e = .returned (.bool true) ∧ Below w.heap.size w w' :=
  (Error_err k k w het).mono fun _ _ h => ⟨h.1.trans (by simp), h.2⟩
theorem Error_ok (w : World) : Calls Tryd.prog 7 #[.nilIface, .int .i64 0] w fun e w' => e = .returned (.bool true) ∧ w = w' :=
  (Error_nil 0 w).mono fun _ _ h => ⟨h.1.trans (by simp), h.2⟩
/-- the reference's answer, or none -/
theorem Havel_yes (A : Option Addr) (n c : Nat) (l : List Int) (t : Bool) (w : World) (hr : Rd w w.heap.size A n c l) (h : De.code l = 0) (ht : De.can l = t) :
    Calls Tryd.prog 11 #[.slice A n c] w fun e w' => ∃ v, e = .returned (.tuple #[v, .bool t]) ∧ Below w.heap.size w w' := by
  obtain ⟨h1, h8, hok⟩ := De.code_zero.1 h
  have hup : De.up (l.map Int.toNat) = l := De.up_toNat fun d hd => (hok d hd).1
  have hlen := hr.len
  have hc := De.havel_can h
  refine (RefD.Havel_any A n c (l.map Int.toNat) w (by rw [hup]; exact hr) (by omega) (by omega) ?_).mono ?_
  · intro x hx
    obtain ⟨d, hd, rfl⟩ := List.mem_map.1 hx
    have := hok d hd
    omega
  · rintro e w' ⟨hb, (⟨hn, rfl⟩ | ⟨os, v, hs, rfl, _⟩)⟩
    · rw [hn] at hc
      refine ⟨.slice none 0 0, ?_, hb⟩
      rw [← ht, ← hc]
      rfl
    · rw [hs] at hc
      refine ⟨v, ?_, hb⟩
      rw [← ht, ← hc]
      rfl

set_option maxRecDepth 100000 in
set_option maxHeartbeats 8000000 in
/-- where something is wrong with the points or the lines -/
theorem walk_err (w : World) (het : tld.EtIs w) (a0 : Int) (a1 : Option Addr) (n1 c1 : Nat) (z1 : List Gr.Ln) (w1 : RdP w w.heap.size a1 n1 c1 z1) (a2 : Option Addr) (n2 c2 : Nat) (z2 : List Int) (w2 : Rd w w.heap.size a2 n2 c2 z2) (hne : Gr.code a0 z1 ≠ 0) :
    Calls Tryd.prog 3 #[.int .i64 a0, .slice a1 n1 c1, .slice a2 n2 c2] w fun e w' => e = .returned (.bool true) ∧ Below w.heap.size w w' := by
  obtain ⟨k, hk⟩ : ∃ k, k = Gr.code a0 z1 := ⟨_, rfl⟩
  rw [← hk] at hne
  have HK := Lib.hid hk.symm
  have HN := Lib.hid hne
  have hd : (k == 0) = false := by simpa using hne
  clear hk hne
  have hb0 : 0 < a0 ∨ decide (0 < a0) = false := by simp; omega
  rcases hb0 with h0 | h0
  all_goals
    go_enter Tryd.func3, Tryd.ntmps3
    go_wp2_with fail
    refine (RefL.Lines_any a0 a1 n1 c1 z1 _ w1).mono ?_
    rintro e x1 ⟨rfl, hb1⟩
    rw [HK.out]
    have r1 := w1.past hb1
    go_wp2
    go_loop [8, 9] (fun v i => v = .slice none 0 0 ∧ i = .int .i64 0) (fun _ _ => 0)
    case atStart => exact ⟨rfl, rfl⟩
    case round =>
      obtain ⟨rfl, rfl⟩ := hrel
      go_wp2_with fail
      refine (Of_any a0 a1 n1 c1 z1 _ r1).mono ?_
      rintro e x2 ⟨hb2, (⟨_, rfl⟩ | ⟨hx, _⟩)⟩
      rotate_left
      · exact absurd (HK.out.symm.trans hx) HN.out
      rw [HK.out]
      have hb02 := hb1.trans (hb2.mono hb1.size)
      have het2 : tld.EtIs x2 := het.below hb02
      clear r1 hb1 hb2
      go_wp2_with fail
      refine (Error_same k _ het2).mono ?_
      rintro e x3 ⟨rfl, hb3⟩
      have hb03 := hb02.trans (hb3.mono hb02.size)
      clear hb02 hb3 het2
      go_wp2_with fail
      refine (Ints_t none none 0 0 0 0 [] [] true _ (Rd.nil _ _) (Rd.nil _ _) rfl).mono ?_
      rintro e x4 ⟨rfl, hb4⟩
      have hbs := hb03.trans (hb4.mono hb03.size)
      have hes : tld.EtIs x4 := het.below hbs
      have s0 := w2.past hbs
      clear hb03 hb4
      go_wp2_with fail
      refine (RefD.Degrees_any a2 n2 c2 z2 _ s0).mono ?_
      rintro e y1 ⟨rfl, rfl⟩
      by_cases hcd : De.code z2 = 0
      · rw [hcd]
        have HD := Lib.hid hcd
        clear hcd
        go_wp2_with fail
        refine (DCheck_nil a2 n2 c2 z2 _ s0 HD.out).mono ?_
        rintro e y1 ⟨rfl, rfl⟩
        go_wp2_with fail
        refine (Error_ok _).mono ?_
        rintro e y1 ⟨rfl, rfl⟩
        cases ht : De.can z2 with
        | true =>
          have HT := Lib.hid ht
          clear ht
          go_wp2_with fail
          refine (Havel_yes a2 n2 c2 z2 true _ s0 HD.out HT.out).mono ?_
          rintro e y2 ⟨v2, rfl, hb2⟩
          have s2 := s0.past hb2
          have hbs2 := hbs.trans (hb2.mono hbs.size)
          clear s0 hbs hb2 hes
          go_wp2_with fail
          refine (Can_ok a2 n2 c2 z2 true _ s2 HD.out HT.out).mono ?_
          rintro e y3 ⟨rfl, hb3⟩
          have hbs3 := hbs2.trans (hb3.mono hbs2.size)
          clear s2 hbs2 hb3
          go_wp2_with fail
          refine (Error_ok _).mono ?_
          rintro e y4 ⟨rfl, rfl⟩
          go_wp2
          go_ret
          exact ⟨rfl, hbs3⟩
        | false =>
          have HT := Lib.hid ht
          clear ht
          go_wp2_with fail
          refine (Havel_yes a2 n2 c2 z2 false _ s0 HD.out HT.out).mono ?_
          rintro e y2 ⟨v2, rfl, hb2⟩
          have s2 := s0.past hb2
          have hbs2 := hbs.trans (hb2.mono hbs.size)
          clear s0 hbs hb2 hes
          go_wp2_with fail
          refine (Can_ok a2 n2 c2 z2 false _ s2 HD.out HT.out).mono ?_
          rintro e y3 ⟨rfl, hb3⟩
          have hbs3 := hbs2.trans (hb3.mono hbs2.size)
          clear s2 hbs2 hb3
          go_wp2_with fail
          refine (Error_ok _).mono ?_
          rintro e y4 ⟨rfl, rfl⟩
          go_wp2
          go_ret
          exact ⟨rfl, hbs3⟩
      · have HD := Lib.hid hcd
        have hd : (De.code z2 == 0) = false := by simpa using hcd
        clear hcd
        obtain ⟨k2, hk2⟩ : ∃ k2, k2 = De.code z2 := ⟨_, rfl⟩
        rw [← hk2] at hd
        have HK2 := Lib.hid hk2.symm
        rw [HK2.out]
        clear hk2
        go_wp2_with fail
        refine (DCheck_err a2 n2 c2 z2 _ s0 HD.out).mono ?_
        rintro e y1 ⟨rfl, rfl⟩
        rw [HK2.out]
        go_wp2_with fail
        refine (Error_same k2 _ hes).mono ?_
        rintro e y2 ⟨rfl, hb2⟩
        have s2 := s0.past hb2
        have hbs2 := hbs.trans (hb2.mono hbs.size)
        have hes2 := het.below hbs2
        clear s0 hbs hb2 hes
        go_wp2_with fail
        refine (Can_err a2 n2 c2 z2 _ s2 HD.out).mono ?_
        rintro e y3 ⟨rfl, hb3⟩
        rw [HK2.out]
        have hbs3 := hbs2.trans (hb3.mono hbs2.size)
        have hes3 := het.below hbs3
        clear s2 hbs2 hb3 hes2
        go_wp2_with fail
        refine (Error_same k2 _ hes3).mono ?_
        rintro e y4 ⟨rfl, hb4⟩
        go_wp2
        go_ret
        exact ⟨rfl, hbs3.trans (hb4.mono hbs3.size)⟩

set_option maxRecDepth 100000 in
set_option maxHeartbeats 8000000 in
/-- where nothing is wrong with the points and the lines -/
theorem walk_ok (w : World) (het : tld.EtIs w) (a0 : Int) (a1 : Option Addr) (n1 c1 : Nat) (z1 : List Gr.Ln) (w1 : RdP w w.heap.size a1 n1 c1 z1) (a2 : Option Addr) (n2 c2 : Nat) (z2 : List Int) (w2 : Rd w w.heap.size a2 n2 c2 z2) (hc0 : Gr.code a0 z1 = 0) :
    Calls Tryd.prog 3 #[.int .i64 a0, .slice a1 n1 c1, .slice a2 n2 c2] w fun e w' => e = .returned (.bool true) ∧ Below w.heap.size w w' := by
  obtain ⟨z1', z8, _, _⟩ := Gr.code_zero.1 hc0
  obtain ⟨m, rfl⟩ : ∃ m : Nat, a0 = (m : Int) := ⟨a0.toNat, by omega⟩
  have HC := Lib.hid hc0
  clear hc0
  have hm8 : m ≤ 8 := by omega
  go_enter Tryd.func3, Tryd.ntmps3
  go_wp2_with fail
  refine (RefL.Lines_any (m : Int) a1 n1 c1 z1 _ w1).mono ?_
  rintro e x1 ⟨rfl, hb1⟩
  rw [HC.out]
  have r1 := w1.past hb1
  go_wp2
  go_loopw [8, 9] (fun v i wr => ∃ k : Nat, k ≤ m ∧ i = .int .i64 k ∧ Own wr x1.heap.size 3 v ((De.degs m z1).take k) ∧ Below x1.heap.size x1 wr) (fun _ i _ => m - (intOf i).toNat)
  case atStart => exact ⟨0, Nat.zero_le _, rfl, by simpa using Own.nil _ _ _, Below.refl _ _⟩
  case round =>
    obtain ⟨k, hk, rfl, hown, hbel⟩ := hrel
    obtain ⟨W, hW⟩ : ∃ W, W = wr := ⟨_, rfl⟩
    subst hW
    have hsz := hbel.size
    by_cases hlt : k < m
    · have hnext : Hid ((De.degs m z1).take (k + 1) = (De.degs m z1).take k ++ [((Gr.row m z1 k).length : Int)]) := by
        show _ = _
        have hkl : k < (De.degs m z1).length := by rw [De.degs_len]; exact hlt
        rw [List.take_succ_eq_append_getElem hkl]
        simp [De.degs, Gr.rows]
      have hlen : ((De.degs m z1).take k).length + 1 ≤ 17592186044416 := by rw [List.length_take]; omega
      go_wp2_with fail
      refine (RefL.Near_any m a1 n1 c1 z1 k _ (r1.past hbel) hm8).mono ?_
      rintro e Wn ⟨vn, rfl, hon, hbn⟩
      obtain ⟨An, cn, rfl, hrn⟩ := hon.rd
      obtain ⟨q, hq⟩ : ∃ q, q = (Gr.row m z1 k).length := ⟨_, rfl⟩
      rw [← hq] at hnext hrn ⊢
      clear hq hrn hon
      have hown1 := hown.below hbn
      have hbel1 := hbel.trans (hbn.mono hsz)
      have hs1 := hbel1.size
      clear hown
      go_wp2_with (at_builtin; refine wpList_app _ rfl (.tmp 28) (.tmp 34) _ rfl x1.heap.size 3 Tryd.underlying23 intInfo _ ((De.degs m z1).take k) rfl (hown1.below ((Below.refl _ _).alloc (Nat.le_refl _) _)) (some ⟨Wn.heap.size, 0, none⟩) 1 1 [(q : Int)] rfl (Rd.one Wn _ _) hlen (by simp; omega) ?_; intro v1 y1 hown2 hg2 hat2)
      have hb2 := below_app (hbel1.alloc hs1 _) (hown1.below ((Below.refl _ _).alloc (Nat.le_refl _) _)) hg2 (by simp; omega)
      go_roundw
      case rel => exact ⟨k + 1, by omega, by go_num, by rw [hnext.out]; exact hown2, hb2⟩
      case measure => simp [intOf]; omega
    · have hown' : Own W x1.heap.size 3 u8 (De.degs m z1) := by
        rw [List.take_of_length_le (by rw [De.degs_len]; omega)] at hown
        exact hown
      obtain ⟨A3, c3, hv3, hr3⟩ := hown'.rd
      rw [De.degs_len] at hv3 hr3
      subst hv3
      clear hown hown'
      have hb0 := hb1.trans (hbel.mono hb1.size)
      go_wp2_with fail
      refine (Of_any (m : Int) a1 n1 c1 z1 _ (r1.past hbel)).mono ?_
      rintro e x2 ⟨hb2, (⟨hne, rfl⟩ | ⟨_, A2, c2', rfl, hr2⟩)⟩
      · exact absurd HC.out hne
      simp only [Int.toNat_natCast] at hr2 ⊢
      have hb02 := hb0.trans (hb2.mono hb0.size)
      have hr3' := hr3.past hb2
      clear r1 hb1 hbel hb2 hb0 hr3
      go_wp2_with fail
      refine (Error_ok _).mono ?_
      rintro e x3 ⟨rfl, rfl⟩
      go_wp2_with fail
      refine (Ints_t A2 A3 m m c2' c3 _ _ true _ hr2 hr3' (by simp)).mono ?_
      rintro e x4 ⟨rfl, hb4⟩
      have hbs := hb02.trans (hb4.mono hb02.size)
      have hes : tld.EtIs x4 := het.below hbs
      have s0 := w2.past hbs
      clear hb02 hb4 hr2 hr3'
      go_wp2_with fail
      refine (RefD.Degrees_any a2 n2 c2 z2 _ s0).mono ?_
      rintro e y1 ⟨rfl, rfl⟩
      by_cases hcd : De.code z2 = 0
      · rw [hcd]
        have HD := Lib.hid hcd
        clear hcd
        go_wp2_with fail
        refine (DCheck_nil a2 n2 c2 z2 _ s0 HD.out).mono ?_
        rintro e y1 ⟨rfl, rfl⟩
        go_wp2_with fail
        refine (Error_ok _).mono ?_
        rintro e y1 ⟨rfl, rfl⟩
        cases ht : De.can z2 with
        | true =>
          have HT := Lib.hid ht
          clear ht
          go_wp2_with fail
          refine (Havel_yes a2 n2 c2 z2 true _ s0 HD.out HT.out).mono ?_
          rintro e y2 ⟨v2, rfl, hb2⟩
          have s2 := s0.past hb2
          have hbs2 := hbs.trans (hb2.mono hbs.size)
          clear s0 hbs hb2 hes
          go_wp2_with fail
          refine (Can_ok a2 n2 c2 z2 true _ s2 HD.out HT.out).mono ?_
          rintro e y3 ⟨rfl, hb3⟩
          have hbs3 := hbs2.trans (hb3.mono hbs2.size)
          clear s2 hbs2 hb3
          go_wp2_with fail
          refine (Error_ok _).mono ?_
          rintro e y4 ⟨rfl, rfl⟩
          go_wp2
          go_ret
          exact ⟨rfl, hbs3⟩
        | false =>
          have HT := Lib.hid ht
          clear ht
          go_wp2_with fail
          refine (Havel_yes a2 n2 c2 z2 false _ s0 HD.out HT.out).mono ?_
          rintro e y2 ⟨v2, rfl, hb2⟩
          have s2 := s0.past hb2
          have hbs2 := hbs.trans (hb2.mono hbs.size)
          clear s0 hbs hb2 hes
          go_wp2_with fail
          refine (Can_ok a2 n2 c2 z2 false _ s2 HD.out HT.out).mono ?_
          rintro e y3 ⟨rfl, hb3⟩
          have hbs3 := hbs2.trans (hb3.mono hbs2.size)
          clear s2 hbs2 hb3
          go_wp2_with fail
          refine (Error_ok _).mono ?_
          rintro e y4 ⟨rfl, rfl⟩
          go_wp2
          go_ret
          exact ⟨rfl, hbs3⟩
      · have HD := Lib.hid hcd
        have hd : (De.code z2 == 0) = false := by simpa using hcd
        clear hcd
        obtain ⟨k2, hk2⟩ : ∃ k2, k2 = De.code z2 := ⟨_, rfl⟩
        rw [← hk2] at hd
        have HK2 := Lib.hid hk2.symm
        rw [HK2.out]
        clear hk2
        go_wp2_with fail
        refine (DCheck_err a2 n2 c2 z2 _ s0 HD.out).mono ?_
        rintro e y1 ⟨rfl, rfl⟩
        rw [HK2.out]
        go_wp2_with fail
        refine (Error_same k2 _ hes).mono ?_
        rintro e y2 ⟨rfl, hb2⟩
        have s2 := s0.past hb2
        have hbs2 := hbs.trans (hb2.mono hbs.size)
        have hes2 := het.below hbs2
        clear s0 hbs hb2 hes
        go_wp2_with fail
        refine (Can_err a2 n2 c2 z2 _ s2 HD.out).mono ?_
        rintro e y3 ⟨rfl, hb3⟩
        rw [HK2.out]
        have hbs3 := hbs2.trans (hb3.mono hbs2.size)
        have hes3 := het.below hbs3
        clear s2 hbs2 hb3 hes2
        go_wp2_with fail
        refine (Error_same k2 _ hes3).mono ?_
        rintro e y4 ⟨rfl, hb4⟩
        go_wp2
        go_ret
        exact ⟨rfl, hbs3.trans (hb4.mono hbs3.size)⟩

theorem walk (w : World) (het : tld.EtIs w) (a0 : Int) (_w0 : (Lit.int .i64 a0).wf = true) (a1 : Option Addr) (n1 c1 : Nat) (z1 : List Gr.Ln) (w1 : RdP w w.heap.size a1 n1 c1 z1) (a2 : Option Addr) (n2 c2 : Nat) (z2 : List Int) (w2 : Rd w w.heap.size a2 n2 c2 z2) :
    Calls Tryd.prog 3 #[.int .i64 a0, .slice a1 n1 c1, .slice a2 n2 c2] w fun e w' => e = .returned (.bool true) ∧ Below w.heap.size w w' := by
  by_cases h : Gr.code a0 z1 = 0
  · exact walk_ok w het a0 a1 n1 c1 z1 w1 a2 n2 c2 z2 w2 h
  · exact walk_err w het a0 a1 n1 c1 z1 w1 a2 n2 c2 z2 w2 h

end Go.Proofs.YteneakddpamacaaDoor.degreeSays
