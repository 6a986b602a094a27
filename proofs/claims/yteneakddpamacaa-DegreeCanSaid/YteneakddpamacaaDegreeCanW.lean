/-
  The walk of the law DegreeCan: for every number of points, lines and numbers it returns true.
-/
import Derived.Test.YteneakddpamacaaDegreeE
namespace Go.Proofs.Yteneakddpamacaa.degreeCan
open Go.RowKit

set_option maxRecDepth 100000 in
set_option maxHeartbeats 4000000 in
theorem walk (w : World) (a0 : Int) (_w0 : (Lit.int .i64 a0).wf = true) (a1 : Option Addr) (n1 c1 : Nat) (z1 : List Gr.Ln) (w1 : RdP w w.heap.size a1 n1 c1 z1) (a2 : Option Addr) (n2 c2 : Nat) (z2 : List Int) (w2 : Rd w w.heap.size a2 n2 c2 z2) :
    Calls Try.prog 4 #[.int .i64 a0, .slice a1 n1 c1, .slice a2 n2 c2] w fun e w' => e = .returned (.bool true) ∧ Below w.heap.size w w' := by
  have HX2 := Lib.hid w2.len
  go_enter Try.func4, Try.ntmps4
  go_wp2_with fail
  refine (degreeFact_any _).mono ?_
  rintro e x1 ⟨rfl, hb1⟩
  go_wp2_with fail
  refine (Of_any a0 a1 n1 c1 z1 _ (w1.past hb1)).mono ?_
  rintro e x2 ⟨hb2, (⟨hne, rfl⟩ | ⟨h0, A, c, rfl, hr⟩)⟩
  · have hb := hb1.trans (hb2.mono hb1.size)
    clear hne
    go_wp2
    go_ret
    exact ⟨rfl, hb⟩
  have hb := hb1.trans (hb2.mono hb1.size)
  clear hb1 hb2
  obtain ⟨z1', z8, _, _⟩ := Gr.code_zero.1 h0
  obtain ⟨m, rfl⟩ : ∃ m : Nat, a0 = (m : Int) := ⟨a0.toNat, by omega⟩
  simp only [Int.toNat_natCast] at hr ⊢
  have HC := Lib.hid h0
  clear h0
  have hl2 := w2.past hb
  go_wp2
  go_loopw [10, 11] (fun v i wr => ∃ k : Nat, k ≤ m ∧ i = .int .i64 k ∧ Own wr x2.heap.size 3 v ((De.odegs m z1).take k) ∧ Below x2.heap.size x2 wr) (fun _ i _ => m - (intOf i).toNat)
  case atStart => exact ⟨0, Nat.zero_le _, rfl, by simpa using Own.nil _ _ _, Below.refl _ _⟩
  case round =>
    obtain ⟨k, hk, rfl, hown, hbel⟩ := hrel
    have hsz := hbel.size
    by_cases hlt : k < m
    · obtain ⟨b1, o1, rfl, hbb, hcc⟩ := hr.at_ (by omega)
      have g1 : wr.cell? ⟨b1, o1 + k, none⟩ = some (.int .i64 ((De.degs m z1).getD k 0)) := (hbel.cell (by exact hbb)).trans (hcc k hlt)
      clear hcc
      have hnext := De.odegs_take (ls := z1) hlt
      obtain ⟨hp0, hpm⟩ := De.degs_at HC.out hlt
      obtain ⟨p, hp⟩ : ∃ p, p = (De.degs m z1).getD k 0 := ⟨_, rfl⟩
      rw [← hp] at g1 hnext hp0 hpm
      have HN := Lib.hid hnext
      clear hp hnext
      have hlen : ((De.odegs m z1).take k).length + 1 ≤ 17592186044416 := by rw [List.length_take]; omega
      go_wp2_with (at_builtin; refine wpList_app _ rfl (.tmp 38) (.tmp 46) _ rfl x2.heap.size 3 Try.underlying24 intInfo _ _ rfl (hown.below ((Below.refl _ _).alloc (Nat.le_refl _) _)) (some ⟨wr.heap.size, 0, none⟩) 1 1 [(m : Int) - 1 - p] rfl (Rd.one _ _ _) hlen (by simp; omega) ?_; intro v1 y1 hown1 hg1 hat1)
      have hb1 := below_app (hbel.alloc hsz _) (hown.below ((Below.refl _ _).alloc (Nat.le_refl _) _)) hg1 (by simp; omega)
      go_roundw
      case rel => exact ⟨k + 1, by omega, by go_num, by rw [HN.out]; exact hown1, hb1⟩
      case measure => simp [intOf]; omega
    · obtain rfl : k = m := by omega
      rw [List.take_of_length_le (by rw [De.odegs_len]; exact Nat.le_refl _)] at hown
      obtain ⟨A3, c3, rfl, hr3⟩ := hown.rd
      rw [De.odegs_len] at hr3 ⊢
      clear hown
      have hr1 := hr.past hbel
      have hl3 := hl2.past hbel
      have hbw := hb.trans (hbel.mono hb.size)
      go_wp2_with fail
      refine (Can_ok A k c _ true _ hr1 (De.degs_code HC.out) (De.degs_can HC.out)).mono ?_
      rintro e x4 ⟨rfl, hb4⟩
      go_wp2_with fail
      refine (Can_ok A3 k c3 _ true _ (hr3.past hb4) (De.odegs_code HC.out) (De.odegs_can HC.out)).mono ?_
      rintro e x5 ⟨rfl, hb5⟩
      have hb45 := hb4.trans (hb5.mono hb4.size)
      have hl5 := hl3.past hb45
      have hbw5 := hbw.trans (hb45.mono hbw.size)
      clear hl2 hl3 hr1 hr hr3 hbel hb hb4 hb5 hb45 hbw
      by_cases hcd : De.code z2 = 0
      · have hn2 : n2 ≤ 8 := by have := (De.code_zero.1 hcd).2.1; rw [HX2.out] at this; exact this
        have HD := Lib.hid hcd
        clear hcd
        cases ht : De.can z2 with
        | true =>
          have HT := Lib.hid ht
          clear ht
          go_wp2_with fail
          refine (Can_ok a2 n2 c2 z2 true _ hl5 HD.out HT.out).mono ?_
          rintro e x6 ⟨rfl, hb6⟩
          go_wp2_with fail
          refine (Turned_any a2 n2 c2 z2 _ (hl5.past hb6) (by omega)).mono ?_
          rintro e x7 ⟨v, rfl, hown, hb7⟩
          obtain ⟨A7, c7, rfl, hr7⟩ := hown.rd
          rw [List.length_reverse, HX2.out] at hr7 ⊢
          clear hown
          go_wp2_with fail
          refine (Can_ok A7 n2 c7 _ true _ hr7 (by rw [De.code_perm (List.reverse_perm z2)]; exact HD.out) (by rw [De.can_perm (List.reverse_perm z2)]; exact HT.out)).mono ?_
          rintro e x8 ⟨rfl, hb8⟩
          have hb67 := hb6.trans (hb7.mono hb6.size)
          have hb68 := hb67.trans (hb8.mono hb67.size)
          go_wp2
          go_ret
          exact ⟨rfl, hbw5.trans (hb68.mono hbw5.size)⟩
        | false =>
          have HT := Lib.hid ht
          clear ht
          go_wp2_with fail
          refine (Can_ok a2 n2 c2 z2 false _ hl5 HD.out HT.out).mono ?_
          rintro e x6 ⟨rfl, hb6⟩
          go_wp2_with fail
          refine (Turned_any a2 n2 c2 z2 _ (hl5.past hb6) (by omega)).mono ?_
          rintro e x7 ⟨v, rfl, hown, hb7⟩
          obtain ⟨A7, c7, rfl, hr7⟩ := hown.rd
          rw [List.length_reverse, HX2.out] at hr7 ⊢
          clear hown
          go_wp2_with fail
          refine (Can_ok A7 n2 c7 _ false _ hr7 (by rw [De.code_perm (List.reverse_perm z2)]; exact HD.out) (by rw [De.can_perm (List.reverse_perm z2)]; exact HT.out)).mono ?_
          rintro e x8 ⟨rfl, hb8⟩
          have hb67 := hb6.trans (hb7.mono hb6.size)
          have hb68 := hb67.trans (hb8.mono hb67.size)
          go_wp2
          go_ret
          exact ⟨rfl, hbw5.trans (hb68.mono hbw5.size)⟩
      · have HD := Lib.hid hcd
        clear hcd
        go_wp2_with fail
        refine (Can_err a2 n2 c2 z2 _ hl5 HD.out).mono ?_
        rintro e x6 ⟨rfl, hb6⟩
        go_wp2
        go_ret
        exact ⟨rfl, hbw5.trans (hb6.mono hbw5.size)⟩

end Go.Proofs.Yteneakddpamacaa.degreeCan
