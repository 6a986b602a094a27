/-
  Contracts of what the laws on degrees ask besides: the sum and the turning round of a list, whether a number stands twice, and the closed fact on degrees.
-/
import Derived.Test.YteneakddpamacaaDegreeC
import Derived.Test.YteneakddpamacaaGraphF
import Derived.Test.YteneakddpamacaaRefL
namespace Go.Proofs.Yteneakddpamacaa
open Go.RowKit

set_option maxHeartbeats 400000 in
theorem ESum_any {B : Nat} (A : Option Addr) (n c : Nat) (l : List Int) (w : World) (hr : Rd w B A n c l) (hb : ∀ d ∈ l, 0 ≤ d ∧ d ≤ 7) (h8 : n ≤ 8) :
    Calls Try.prog 10 #[.slice A n c] w fun e w' => e = .returned (.int .i64 (De.tot l)) ∧ w = w' := by
  have HX := Lib.hid hr.len
  have HB := Lib.hid hb
  clear hb
  go_enter Try.func10, Try.ntmps10
  go_wp2
  go_loop [3, 4] (fun s i => ∃ (k : Nat) (a : Int), k ≤ n ∧ i = .int .i64 k ∧ s = .int .i64 a ∧ 0 ≤ a ∧ a ≤ 7 * (k : Int) ∧ Hid (a = De.tot (l.take k))) (fun _ i => n - (intOf i).toNat)
  case atStart => exact ⟨0, 0, Nat.zero_le _, rfl, rfl, by omega, by omega, rfl⟩
  case round =>
    obtain ⟨k, a, hk, rfl, rfl, ha0, ha7, H⟩ := hrel
    by_cases hlt : k < n
    · obtain ⟨b1, o1, rfl, hb1, hc1⟩ := hr.at_ (by omega)
      have g1 := hc1 k hlt
      clear hc1
      obtain ⟨p, hp⟩ : ∃ p, p = l.getD k 0 := ⟨_, rfl⟩
      rw [← hp] at g1
      have hkl : k < l.length := by rw [HX.out]; exact hlt
      have hp07 : 0 ≤ p ∧ p ≤ 7 := HB.out p (by rw [hp]; simp [List.getD, hkl])
      have hnext : Hid (a + p = De.tot (l.take (k + 1))) := by show _ = _; rw [De.tot_take hkl, ← H.out, ← hp]
      obtain ⟨hp0, hp7⟩ := hp07
      clear hp hkl
      go_wp2
      go_round
      case rel => exact ⟨k + 1, a + p, by omega, by go_num, rfl, by omega, by omega, hnext⟩
      case measure => simp [intOf]; omega
    · have hfin : Hid (a = De.tot l) := by show _ = _; rw [H.out, List.take_of_length_le (by rw [HX.out]; omega)]
      go_wp2
      go_ret
      exact ⟨by rw [← hfin.out]; rfl, rfl⟩

theorem turned_drop {l : List Int} {i : Nat} (hi : i < l.length) : (l.drop i).reverse = (l.drop (i + 1)).reverse ++ [l.getD i 0] := by
  rw [List.drop_eq_getElem_cons hi, List.reverse_cons]
  simp [List.getD, hi]
set_option maxHeartbeats 1000000 in
theorem Turned_any (A : Option Addr) (n c : Nat) (l : List Int) (w : World) (hr : Rd w w.heap.size A n c l) (hsm : n ≤ 1048576) :
    Calls Try.prog 12 #[.slice A n c] w fun e w' => ∃ v, e = .returned v ∧ Own w' w.heap.size 3 v l.reverse ∧ Below w.heap.size w w' := by
  have HX := Lib.hid hr.len
  go_enter Try.func12, Try.ntmps12
  go_wp2
  go_loopw [3, 4] (fun v i wr => ∃ (j : Int) (k : Nat), k ≤ n ∧ i = .int .i64 j ∧ j + 1 = (k : Int) ∧ Own wr w.heap.size 3 v (l.drop k).reverse ∧ Below w.heap.size w wr) (fun _ i _ => (intOf i + 1).toNat)
  case atStart => exact ⟨_, n, Nat.le_refl _, rfl, by omega, by rw [List.drop_eq_nil_of_le (by rw [HX.out]; exact Nat.le_refl _)]; exact Own.nil _ _ _, Below.refl _ _⟩
  case round =>
    obtain ⟨j, k, hk, rfl, hj, hown, hbel⟩ := hrel
    have hsz := hbel.size
    by_cases hpos : 0 ≤ j
    · obtain ⟨i, rfl⟩ : ∃ i : Nat, j = (i : Int) := ⟨j.toNat, by omega⟩
      obtain rfl : k = i + 1 := by omega
      clear hj
      obtain ⟨b1, o1, rfl, hbb, hcc⟩ := hr.at_ (by omega)
      have g1 : wr.cell? ⟨b1, o1 + i, none⟩ = some (.int .i64 (l.getD i 0)) := (hbel.cell (by exact hbb)).trans (hcc i (by omega))
      clear hcc
      obtain ⟨p, hp⟩ : ∃ p, p = l.getD i 0 := ⟨_, rfl⟩
      rw [← hp] at g1
      have hnext : Hid ((l.drop i).reverse = (l.drop (i + 1)).reverse ++ [p]) := by show _ = _; rw [turned_drop (by rw [HX.out]; omega), hp]
      clear hp
      have hlen : ((l.drop (i + 1)).reverse).length + 1 ≤ 17592186044416 := by rw [List.length_reverse, List.length_drop, HX.out]; omega
      go_wp2_with (at_builtin; refine wpList_app _ rfl (.tmp 12) (.tmp 17) _ rfl w.heap.size 3 Try.underlying24 intInfo _ _ rfl (hown.below ((Below.refl _ _).alloc (Nat.le_refl _) _)) (some ⟨wr.heap.size, 0, none⟩) 1 1 [p] rfl (Rd.one _ _ _) hlen (by simp; omega) ?_; intro v1 w1 hown1 hg1 hat1)
      have hb1 := below_app (hbel.alloc hsz _) (hown.below ((Below.refl _ _).alloc (Nat.le_refl _) _)) hg1 (by simp; omega)
      go_roundw
      case rel => exact ⟨_, i, by omega, rfl, by omega, by rw [hnext.out]; exact hown1, hb1⟩
      case measure => simp [intOf]
    · obtain rfl : k = 0 := by omega
      go_wp2
      go_ret
      exact ⟨_, rfl, by simpa using hown, hbel⟩

/-- does a number among the first k stand twice? -/
def twiceTo (l : List Int) (k : Nat) : Prop := ¬ (l.take k).Nodup
theorem nodup_succ {l : List Int} {k : Nat} (hk : k < l.length) (h : (l.take k).Nodup) (hn : (l.take k).contains (l.getD k 0) = false) : (l.take (k + 1)).Nodup := by
  rw [List.take_succ_eq_append_getElem hk]
  refine List.nodup_append.2 ⟨h, by simp, fun a ha b hb => ?_⟩
  obtain rfl : b = l[k] := by simpa using hb
  intro e
  subst e
  have : (l.take k).contains (l.getD k 0) = true := by
    rw [List.contains_iff_mem]
    simpa [List.getD, hk] using ha
  rw [this] at hn
  cases hn
set_option maxHeartbeats 1000000 in
theorem Twice_any (A : Option Addr) (n c : Nat) (l : List Int) (w : World) (hr : Rd w w.heap.size A n c l) (hd : ¬ l.Nodup) :
    Calls Try.prog 13 #[.slice A n c] w fun e w' => e = .returned (.bool true) ∧ Below w.heap.size w w' := by
  have HX := Lib.hid hr.len
  have HD := Lib.hid hd
  clear hd
  have hbig := hr.big
  have hnc := hr.le
  have hcap := hr.cap
  go_enter Try.func13, Try.ntmps13
  go_wp2
  go_loopw [3] (fun i wr => ∃ k : Nat, k ≤ n ∧ i = .int .i64 k ∧ Below w.heap.size w wr ∧ Hid ((l.take k).Nodup)) (fun i _ => n - (intOf i).toNat)
  case atStart => exact ⟨0, Nat.zero_le _, rfl, Below.refl _ _, by show List.Nodup _; simp⟩
  case round =>
    obtain ⟨k, hk, rfl, hbel, H⟩ := hrel
    by_cases hlt : k < n
    · have hrk : Rd wr w.heap.size A n c l := hr.below hbel
      have hrt := hrk.take (k := k) (by omega)
      obtain ⟨b1, o1, rfl, hb1, hc1⟩ := hrk.at_ (by omega)
      have g1 := hc1 k hlt
      clear hc1
      obtain ⟨p, hp⟩ : ∃ p, p = l.getD k 0 := ⟨_, rfl⟩
      rw [← hp] at g1
      have HP := Lib.hid hp
      clear hp
      have k1 : (0 : Int) ≤ (k : Int) := by omega
      have k2 : (k : Int) < (n : Int) := by omega
      have hsz := hbel.size
      cases ht : (l.take k).contains p with
      | true =>
        have HT := Lib.hid ht
        clear ht
        go_wp2
        go_quiet (first | (go_at_call 23; exact Calls.quiet_of_same ((Has_any _ _ _ _ p true _ ((hrt.drewN _).more hsz) HT.out).mono fun _ _ h => ⟨h.1, h.2.symm⟩)))
        go_wp2
        go_ret
        exact ⟨rfl, hbel.trans (Below.drewN' _ _ _)⟩
      | false =>
        have hnext : Hid ((l.take (k + 1)).Nodup) := nodup_succ (by rw [HX.out]; exact hlt) H.out (by rw [← HP.out]; exact ht)
        have HT := Lib.hid ht
        clear ht
        go_wp2
        go_quiet (first | (go_at_call 23; exact Calls.quiet_of_same ((Has_any _ _ _ _ p false _ ((hrt.drewN _).more hsz) HT.out).mono fun _ _ h => ⟨h.1, h.2.symm⟩)))
        go_wp2
        go_roundw
        case rel => exact ⟨k + 1, by omega, by go_num, hbel.trans (Below.drewN' _ _ _), hnext⟩
        case measure => simp [intOf]; omega
    · exfalso
      have := H.out
      rw [List.take_of_length_le (by rw [HX.out]; omega)] at this
      exact HD.out this

theorem dfact1 : De.code [1, 2, 1] = 0 := by decide
theorem dfact2 : De.can [1, 2, 1] = true := by decide
theorem dfact3 : De.code [3, 1, 1] = 0 := by decide
theorem dfact4 : De.can [3, 1, 1] = false := by decide
theorem dfact5 : Gr.code 3 [(0, 1), (1, 2)] = 0 := by decide
theorem dfact6 : De.degs 3 [(0, 1), (1, 2)] = [1, 2, 1] := by decide

set_option maxRecDepth 100000 in
set_option maxHeartbeats 2000000 in
theorem degreeFact_any (w : World) : Calls Try.prog 6 #[] w fun e w' => e = .returned (.bool true) ∧ Below w.heap.size w w' := by
  have hb0 : Below w.heap.size w (w.alloc (.cells #[.int .i64 1, .int .i64 2, .int .i64 1] 3)) := (Below.refl _ _).alloc (Nat.le_refl _) _
  have hr0 : Rd (w.alloc (.cells #[.int .i64 1, .int .i64 2, .int .i64 1] 3)) (w.alloc (.cells #[.int .i64 1, .int .i64 2, .int .i64 1] 3)).heap.size (some ⟨w.heap.size, 0, none⟩) 3 3 [1, 2, 1] := (Rd.new w [1, 2, 1] _ 3 rfl (by omega)).more (by simp)
  go_enter Try.func6, Try.ntmps6
  go_wp2_with fail
  refine (Can_ok _ 3 3 [1, 2, 1] true _ hr0 dfact1 dfact2).mono ?_
  rintro e w1 ⟨rfl, hb1⟩
  have hb01 := hb0.trans (hb1.mono hb0.size)
  clear hr0 hb0 hb1
  obtain ⟨x1, hx1⟩ : ∃ x1, x1 = w1.alloc (.cells #[.int .i64 3, .int .i64 1, .int .i64 1] 3) := ⟨_, rfl⟩
  have hbx : Below w1.heap.size w1 x1 := by rw [hx1]; exact (Below.refl _ _).alloc (Nat.le_refl _) _
  have hr1 : Rd x1 x1.heap.size (some ⟨w1.heap.size, 0, none⟩) 3 3 [3, 1, 1] := by rw [hx1]; exact (Rd.new w1 [3, 1, 1] _ 3 rfl (by omega)).more (by simp)
  go_wp2_with fail
  rw [← hx1]
  clear hx1
  refine (Can_ok _ 3 3 [3, 1, 1] false _ hr1 dfact3 dfact4).mono ?_
  rintro e w2 ⟨rfl, hb2⟩
  have hb02 := hb01.trans ((hbx.trans (hb2.mono hbx.size)).mono hb01.size)
  clear hr1 hbx hb2 hb01
  obtain ⟨x2, hx2⟩ : ∃ x2, x2 = w2.alloc (.cells #[.int .i64 0, .int .i64 1, .int .i64 1, .int .i64 2] 39) := ⟨_, rfl⟩
  have hbx2 : Below w2.heap.size w2 x2 := by rw [hx2]; exact (Below.refl _ _).alloc (Nat.le_refl _) _
  have hr2 : RdP x2 x2.heap.size (some ⟨w2.heap.size, 0, none⟩) 2 2 [(0, 1), (1, 2)] := by rw [hx2]; exact (RdP.new2 w2 _ 0 1 1 2).more (by simp)
  go_wp2_with fail
  rw [← hx2]
  clear hx2
  refine (Of_any 3 _ 2 2 [(0, 1), (1, 2)] _ hr2).mono ?_
  rintro e w3 ⟨hb3, (⟨hne, rfl⟩ | ⟨_, A3, c3, rfl, hr3⟩)⟩
  · exact absurd dfact5 hne
  simp only [show ((3 : Int).toNat) = 3 from rfl] at hr3 ⊢
  rw [dfact6] at hr3
  have hb03 := hb02.trans ((hbx2.trans (hb3.mono hbx2.size)).mono hb02.size)
  clear hr2 hbx2 hb3 hb02
  obtain ⟨x3, hx3⟩ : ∃ x3, x3 = w3.alloc (.cells #[.int .i64 1, .int .i64 2, .int .i64 1] 3) := ⟨_, rfl⟩
  have hbx3 : Below w3.heap.size w3 x3 := by rw [hx3]; exact (Below.refl _ _).alloc (Nat.le_refl _) _
  have hr4 : Rd x3 x3.heap.size (some ⟨w3.heap.size, 0, none⟩) 3 3 [1, 2, 1] := by rw [hx3]; exact (Rd.new w3 [1, 2, 1] _ 3 rfl (by omega)).more (by simp)
  go_wp2_with fail
  rw [← hx3]
  clear hx3
  refine (Ints_t _ _ 3 3 _ 3 _ _ true _ (hr3.past hbx3) hr4 (by decide)).mono ?_
  rintro e w4 ⟨rfl, hb4⟩
  go_wp2
  go_ret
  exact ⟨rfl, hb03.trans ((hbx3.trans (hb4.mono hbx3.size)).mono hb03.size)⟩

end Go.Proofs.Yteneakddpamacaa
