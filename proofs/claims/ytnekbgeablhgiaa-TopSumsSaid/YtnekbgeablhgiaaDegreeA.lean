/-
  Contracts of package degree's sum, mostEnds, Check and Of: what each call returns and what it leaves in memory.
-/
import Derived.Test.YtnekbgeablhgiaaGraphB
import Derived.Test.YtnekbgeablhgiaaLibS
import Derived.Test.YtnekbgeablhgiaaDegreeG
namespace Go.Proofs.Ytnekbgeablhgiaa
open Go.RowKit

set_option maxHeartbeats 400000 in
theorem dsum_any {B : Nat} (A : Option Addr) (n c : Nat) (l : List Int) (w : World) (hr : Rd w B A n c l) (hb : ∀ d ∈ l, 0 ≤ d ∧ d ≤ 7) (h8 : n ≤ 8) :
    Calls Try.prog 38 #[.slice A n c] w fun e w' => e = .returned (.int .i64 (De.tot l)) ∧ w = w' := by
  have HX := Lib.hid hr.len
  have HB := Lib.hid hb
  clear hb
  go_enter Try.func38, Try.ntmps38
  go_wp2
  go_loop [3, 5, 8] (fun s _ i => ∃ (k : Nat) (a : Int), k ≤ n ∧ i = .int .i64 k ∧ s = .int .i64 a ∧ 0 ≤ a ∧ a ≤ 7 * (k : Int) ∧ Hid (a = De.tot (l.take k))) (fun _ _ i => n - (intOf i).toNat)
  case atStart => exact ⟨0, 0, Nat.zero_le _, rfl, rfl, by omega, by omega, rfl⟩
  case round =>
    obtain ⟨k, a, hk, rfl, rfl, ha0, ha7, H⟩ := hrel
    by_cases hlt : k < n
    · obtain ⟨b1, o1, rfl, hb1, hc1⟩ := hr.at_ (by omega)
      have g1 := hc1 k hlt
      clear hc1
      obtain ⟨p, hp⟩ : ∃ p, p = l.getD k 0 := ⟨_, rfl⟩
      rw [← hp] at g1
      have hkl : k < l.length := by rw [HX.out]; exact hlt
      have hp07 : 0 ≤ p ∧ p ≤ 7 := HB.out p (by rw [hp]; simp [List.getD, hkl])
      have hnext : Hid (a + p = De.tot (l.take (k + 1))) := by show _ = _; rw [De.tot_take hkl, ← H.out, ← hp]
      obtain ⟨hp0, hp7⟩ := hp07
      clear hp hkl
      go_wp2
      go_round
      case rel => exact ⟨k + 1, a + p, by omega, by go_num, rfl, by omega, by omega, hnext⟩
      case measure => simp [intOf]; omega
    · have hfin : Hid (a = De.tot l) := by show _ = _; rw [H.out, List.take_of_length_le (by rw [HX.out]; omega)]
      go_wp2
      go_ret
      exact ⟨by rw [← hfin.out]; rfl, rfl⟩

set_option maxHeartbeats 400000 in
theorem mostEnds_any {B : Nat} (q : Nat) (A : Option Addr) (n c : Nat) (l : List Int) (w : World) (hr : Rd w B A n c l) (hb : ∀ d ∈ l, 0 ≤ d ∧ d ≤ 7) (h8 : n ≤ 8) (hq : q ≤ 8) :
    Calls Try.prog 39 #[.int .i64 (q : Int), .slice A n c] w fun e w' => e = .returned (.int .i64 ((q : Int) * ((q : Int) - 1) + De.ends (q : Int) l)) ∧ w = w' := by
  have HX := Lib.hid hr.len
  have HB := Lib.hid hb
  clear hb
  obtain ⟨z, hz⟩ : ∃ z : Int, z = (q : Int) * ((q : Int) - 1) := ⟨_, rfl⟩
  have hz56 : 0 ≤ z ∧ z ≤ 56 := by
    have : q = 0 ∨ q = 1 ∨ q = 2 ∨ q = 3 ∨ q = 4 ∨ q = 5 ∨ q = 6 ∨ q = 7 ∨ q = 8 := by omega
    rcases this with rfl | rfl | rfl | rfl | rfl | rfl | rfl | rfl | rfl <;> (rw [hz]; decide)
  have hw : IntKind.i64.wrap ((q : Int) * ((q : Int) - 1)) = z := by rw [← hz, IntKind.wrap_i64]; omega
  have HZ := Lib.hid hz
  obtain ⟨hz0, hz7⟩ := hz56
  rw [← hz]
  clear hz
  go_enter Try.func39, Try.ntmps39
  go_wp2
  go_loop [5, 7, 14] (fun s _ i => ∃ (k : Nat) (a : Int), k ≤ n ∧ i = .int .i64 k ∧ s = .int .i64 a ∧ 0 ≤ a ∧ a ≤ 56 + 7 * (k : Int) ∧ Hid (a = z + De.ends (q : Int) (l.take k))) (fun _ _ i => n - (intOf i).toNat)
  case atStart => exact ⟨0, z, Nat.zero_le _, rfl, rfl, by omega, by omega, by show _ = _; simp [De.ends]⟩
  case round =>
    obtain ⟨k, a, hk, rfl, rfl, ha0, ha7, H⟩ := hrel
    by_cases hlt : k < n
    · obtain ⟨b1, o1, rfl, hb1, hc1⟩ := hr.at_ (by omega)
      have g1 := hc1 k hlt
      clear hc1
      obtain ⟨p, hp⟩ : ∃ p, p = l.getD k 0 := ⟨_, rfl⟩
      rw [← hp] at g1
      have hkl : k < l.length := by rw [HX.out]; exact hlt
      have hp07 : 0 ≤ p ∧ p ≤ 7 := HB.out p (by rw [hp]; simp [List.getD, hkl])
      have hnext : Hid (a + min p (q : Int) = z + De.ends (q : Int) (l.take (k + 1))) := by show _ = _; rw [De.ends_take hkl, H.out, ← hp]; omega
      obtain ⟨hp0, hp7⟩ := hp07
      clear hp hkl
      by_cases hpq : p ≤ (q : Int)
      · go_wp2
        go_round
        case rel => exact ⟨k + 1, a + p, by omega, by go_num, rfl, by omega, by omega, by show _ = _; rw [← hnext.out]; omega⟩
        case measure => simp [intOf]; omega
      · go_wp2
        go_round
        case rel => exact ⟨k + 1, a + q, by omega, by go_num, by rw [if_pos (show (q : Int) < p by omega)], by omega, by omega, by show _ = _; rw [← hnext.out]; omega⟩
        case measure => simp [intOf]; omega
    · have hfin : Hid (a = z + De.ends (q : Int) l) := by show _ = _; rw [H.out, List.take_of_length_le (by rw [HX.out]; omega)]
      go_wp2
      go_ret
      exact ⟨by rw [← hfin.out]; rfl, rfl⟩

set_option maxHeartbeats 400000 in
theorem DCheck_any {B : Nat} (A : Option Addr) (n c : Nat) (l : List Int) (w : World) (hr : Rd w B A n c l) :
    Calls Try.prog 34 #[.slice A n c] w fun e w' => e = .returned (errOf (De.code l)) ∧ w = w' := by
  have HX := Lib.hid hr.len
  have hbig := hr.big
  by_cases h0 : n = 0
  · subst h0
    have hfin : Hid (De.code l = 5) := by show _ = _; exact De.code_none HX.out
    go_enter Try.func34, Try.ntmps34
    go_wp2
    go_ret
    exact ⟨by rw [hfin.out]; rfl, rfl⟩
  · have hd0 : ((n : Int) == 0) = false := by simp only [beq_eq_false_iff_ne, ne_eq]; omega
    by_cases h8 : 8 < n
    · have hfin : Hid (De.code l = 4) := by show _ = _; exact De.code_full (by rw [HX.out]; exact h8)
      go_enter Try.func34, Try.ntmps34
      go_wp2
      go_ret
      exact ⟨by rw [hfin.out]; rfl, rfl⟩
    · go_enter Try.func34, Try.ntmps34
      go_wp2
      go_loop [4, 15] (fun _ i => ∃ k : Nat, k ≤ n ∧ i = .int .i64 k ∧ Hid (De.okTo l k)) (fun _ i => n - (intOf i).toNat)
      case atStart => exact ⟨0, Nat.zero_le _, rfl, De.okTo_zero l⟩
      case round =>
        obtain ⟨k, hk, rfl, H⟩ := hrel
        by_cases hlt : k < n
        · obtain ⟨b1, o1, rfl, hb1, hc1⟩ := hr.at_ (by omega)
          have g1 := hc1 k hlt
          clear hc1
          obtain ⟨p, hp⟩ : ∃ p, p = l.getD k 0 := ⟨_, rfl⟩
          rw [← hp] at g1
          have HP := Lib.hid hp
          clear hp
          have hkl : Hid (k < l.length) := by show _ < _; rw [HX.out]; exact hlt
          by_cases hp0 : p < 0
          · have hfin : Hid (De.code l = 1) := by show _ = _; exact De.code_bad (by rw [HX.out]; exact h0) (by rw [HX.out]; omega) hkl.out (by rw [← HP.out]; omega)
            go_wp2
            go_ret
            exact ⟨by rw [hfin.out]; rfl, rfl⟩
          · by_cases hp7 : 7 < p
            · have hfin : Hid (De.code l = 1) := by show _ = _; exact De.code_bad (by rw [HX.out]; exact h0) (by rw [HX.out]; omega) hkl.out (by rw [← HP.out]; omega)
              go_wp2
              go_ret
              exact ⟨by rw [hfin.out]; rfl, rfl⟩
            · have hnext : Hid (De.okTo l (k + 1)) := De.okTo_succ H.out hkl.out (by rw [← HP.out]; omega) (by rw [← HP.out]; omega)
              go_wp2
              go_round
              case rel => exact ⟨k + 1, by omega, by go_num, hnext⟩
              case measure => simp [intOf]; omega
        · have hfin : Hid (De.code l = 0) := by show _ = _; exact De.code_good (by rw [HX.out]; exact h0) (by rw [HX.out]; omega) (De.okTo_all H.out (by rw [HX.out]; omega))
          go_wp2
          go_ret
          exact ⟨by rw [hfin.out]; rfl, rfl⟩

/-- what Of hands back -/
def OfPost (n : Int) (ls : List Gr.Ln) (w : World) (e : Ending) (w' : World) : Prop :=
  Below w.heap.size w w' ∧ ((Gr.code n ls ≠ 0 ∧ e = .returned (.tuple #[.slice none 0 0, errv (Gr.code n ls)])) ∨
    (Gr.code n ls = 0 ∧ ∃ A c, e = .returned (.tuple #[.slice A n.toNat c, .nilIface]) ∧ Rd w' w'.heap.size A n.toNat c (De.degs n.toNat ls)))

set_option maxHeartbeats 1000000 in
theorem Of_any (n : Int) (A : Option Addr) (k c : Nat) (ls : List Gr.Ln) (w : World) (hr : RdP w w.heap.size A k c ls) :
    Calls Try.prog 13 #[.int .i64 n, .slice A k c] w (OfPost n ls w) := by
  obtain ⟨i0, hi, hz0, hz1, hz2⟩ := info_parts intInfo
  go_enter Try.func13, Try.ntmps13
  go_wp2_with fail
  refine (Beside_any n A k c ls _ hr).mono ?_
  rintro e w1 ⟨hb, ⟨hc, rfl⟩ | ⟨hc, A1, c1, rfl, hrows⟩⟩
  · have H := Lib.hid hc
    clear hc
    go_wp2
    go_ret2
    exact ⟨hb, .inl ⟨H.out, rfl⟩⟩
  · obtain ⟨m, hm⟩ : ∃ m, m = n.toNat := ⟨_, rfl⟩
    have hm8 : m ≤ 8 := by have := (Gr.code_zero.1 hc).2.1; omega
    rw [← hm] at hrows ⊢
    have HC := Lib.hid hc
    have HM := Lib.hid hm
    clear hc hm
    have hs := hb.size
    go_wp2_with (refine wpList_make_full _ rfl (.tmp 21) (.tmp 21) 23 rfl w1.heap.size 3 i0 (.int .i64 0) 1 Try.underlying23 hi hz0 hz1 .i64 .i64 _ _ m rfl rfl (by omega) (by omega) (by rw [hz2]; omega) (by simp only [maxLen]; omega) (Nat.le_refl _) ?_; intro w2 hown2 hg2; have hown := Own.made hown2; clear hown2)
    have hb12 : Below w1.heap.size w1 w2 := (Below.refl _ _).grown hg2 (Nat.le_refl _) (fun _ h => by cases h)
    go_loopw [9, 10, 25] (fun _ _ i wr => ∃ j : Nat, j ≤ m ∧ i = .int .i64 j ∧ Below w1.heap.size w1 wr ∧ Own wr w1.heap.size 3 (.slice (some ⟨w1.heap.size, 0, none⟩) m m) (fillTo (De.degs m ls) j)) (fun _ _ i _ => m - (intOf i).toNat)
    case atStart => exact ⟨0, Nat.zero_le _, rfl, hb12, by rw [fillTo_zero, De.degs_len]; exact hown⟩
    case round =>
      obtain ⟨j, hj, rfl, hbel, hown3⟩ := hrel
      by_cases hlt : j < m
      · obtain ⟨b1, o1, rfl, hb1, hc1⟩ := hrows.at_ (by omega)
        obtain ⟨A2, c2, hx2, _⟩ := hc1 j hlt
        have g1 : wr.cell? ⟨b1, o1 + j, none⟩ = some (.slice A2 ((Gr.rows m ls).getD j []).length c2) := (hbel.cell (by exact hb1)).trans hx2
        clear hc1 hx2
        obtain ⟨q, hq⟩ : ∃ q, q = ((Gr.rows m ls).getD j []).length := ⟨_, rfl⟩
        rw [← hq] at g1
        have hqd : Hid ((De.degs m ls).getD j 0 = (q : Int)) := by
          show _ = _
          rw [hq]
          simp [De.degs, List.getD, Gr.rows, hlt]
        clear hq
        have g2 := hown3.cell j hlt
        have g3 := hown3.frozen j
        have hst := hown3.store j (q : Int)
        have hown4 := hst.1
        rw [← hqd.out, fillTo_succ (by rw [De.degs_len]; exact hlt)] at hown4
        rw [hqd.out] at hown4
        have hb4 : Below w1.heap.size w1 (wr.setCell ⟨w1.heap.size, j, none⟩ (.int .i64 (q : Int))) := hbel.setCell (p := ⟨w1.heap.size, j, none⟩) (Nat.le_refl _) _
        clear hst hown3
        go_wp2
        go_roundw
        case rel => exact ⟨j + 1, by omega, by go_num, hb4, hown4⟩
        case measure => simp [intOf]; omega
      · obtain rfl : j = m := by omega
        have hrd := hown3.rd'
        have hfa : Hid (fillTo (De.degs j ls) j = De.degs j ls) := by
          show _ = _
          have := fillTo_all (De.degs j ls)
          rwa [De.degs_len] at this
        go_wp2
        go_ret2
        refine ⟨hb.trans (hbel.mono hs), .inr ⟨HC.out, some ⟨w1.heap.size, 0, none⟩, j, by rw [← HM.out]; rfl, ?_⟩⟩
        rw [← HM.out, ← hfa.out]
        exact hrd

end Go.Proofs.Ytnekbgeablhgiaa
