/-
  Contracts of hasCode, slices.Reverse, digitsOf and gammaOf of package elias: what each call returns and what it leaves in memory.
-/
import Derived.Test.YtghdallaohpelaaProg
import Derived.Test.YtghdallaohpelaaBase
import Derived.Test.YtghdallaohpelaaElias
import Derived.WalkKit
import Derived.Deep.LoopGhost
import Derived.Deep.QuietTactic
import Derived.BigQuiet
import Derived.Outline
import Derived.Shelf.Slices.Reverse
namespace Go.Proofs.Ytghdallaohpelaa
open Go.RowKit


theorem hasCode_yes (n : Int) (w : World) (h1 : 1 ≤ n) (h2 : n ≤ 1000000) :
    Calls Try.prog 40 #[.int .i64 n] w fun e w' => e = .returned (.bool true) ∧ w = w' := by
  go_enter Try.func40, Try.ntmps40
  go_wp2
  go_ret
  exact ⟨rfl, rfl⟩
theorem hasCode_no (n : Int) (w : World) (h : n < 1 ∨ 1000000 < n) :
    Calls Try.prog 40 #[.int .i64 n] w fun e w' => e = .returned (.bool false) ∧ w = w' := by
  rcases h with h | h
  · go_enter Try.func40, Try.ntmps40
    go_wp2
    go_ret
    exact ⟨rfl, rfl⟩
  · have h1 : 1 ≤ n := by omega
    have hd : decide (n ≤ 1000000) = false := by simp; omega
    go_enter Try.func40, Try.ntmps40
    go_wp2
    go_ret
    exact ⟨rfl, rfl⟩

/-! ### slices.Reverse at []int: the library's contract, laid at this program -/
def revRen : Go.Shelf.Ren := ⟨fun | 112 => 43 | n => n, fun | 28 => 31 | 3 => 3 | 4 => 4 | 0 => 0 | n => n, fun | n => n⟩
theorem revLays : Go.Proofs.Lays.n112 Try.prog revRen := {
  mixed := by kernel_rfl
  f112 := Try.func43.trans (congrArg some (by kernel_rfl))
  t0 := Try.underlying0
  a0 := Try.isAgg0
  z0 := Try.sizeOf0
  v0 := Try.zeroValue0
  t3 := Try.underlying3
  a3 := Try.isAgg3
  z3 := Try.sizeOf3
  v3 := Try.zeroValue3
  t4 := Try.underlying4
  a4 := Try.isAgg4
  z4 := Try.sizeOf4
  v4 := Try.zeroValue4
  t28 := Try.underlying31
  a28 := Try.isAgg31
  z28 := Try.sizeOf31
  v28 := Try.zeroValue31 }

theorem rev_row (blk cap : Nat) (zs : List Int) (w : World) (hH : Go.Sort.Holds (Value.int .i64) w blk 0 zs.toArray) (hsz : zs.length ≤ 9223372036854775807) :
    Calls Try.prog 43 #[.slice (some ⟨blk, 0, none⟩) zs.length cap] w fun e w' => e = .returned (.tuple #[]) ∧ ∃ n, w' = Go.Sort.putRow (Value.int .i64) (Go.Sort.ahead w n) blk 0 zs.reverse.toArray :=
  Any.slices_Reverse_int revLays blk 0 cap zs w hH hsz
theorem rev_empty (a : Option Addr) (cap : Nat) (w : World) :
    Calls Try.prog 43 #[.slice a 0 cap] w fun e w' => e = .returned (.tuple #[]) ∧ w' = w := Any.slices_Reverse_int_empty revLays a cap w

theorem heap_putRow (w : World) (n g : Nat) (cur : Array Value) (e : TypeId) (d : Array Int) (hg : w.heap[g]? = some (.cells cur e (0, 0))) :
    (Go.Sort.putRow (Value.int .i64) (Go.Sort.ahead w n) g 0 d).heap[g]? = some (.cells (Go.Sort.putCells (Value.int .i64) 0 d cur) e (0, 0)) := by
  simp [Go.Sort.putRow, Go.Sort.mapBlock, Go.Sort.ahead, Array.getElem?_modify, hg, Go.Sort.onCells]
theorem heap_putRow_other (w : World) (n g k : Nat) (d : Array Int) (hk : k ≠ g) :
    (Go.Sort.putRow (Value.int .i64) (Go.Sort.ahead w n) g 0 d).heap[k]? = w.heap[k]? := by
  simp [Go.Sort.putRow, Go.Sort.mapBlock, Go.Sort.ahead, Array.getElem?_modify, Ne.symm hk]

/-- slices.Reverse of a slice of the call's own -/
theorem rev_own (base : Nat) (v : Value) (zs : List Int) (w : World) (hown : Own w base 3 v zs) :
    Calls Try.prog 43 #[v] w fun e w' => e = .returned (.tuple #[]) ∧ Own w' base 3 v zs.reverse ∧ w.grownBy w' v.ownBlock := by
  have hown' := hown
  rcases hown.2 with ⟨rfl, h0⟩ | ⟨g, cap, cur, rfl, hb, hg, hnc, hcm, hcs, htake⟩
  · have hz : zs = [] := List.eq_nil_of_length_eq_zero h0
    subst hz
    refine (rev_empty none 0 w).mono ?_
    rintro e w' ⟨rfl, rfl⟩
    exact ⟨rfl, hown', World.grownBy.refl _ _⟩
  · refine (rev_row g cap zs w ?_ (by simp only [maxLen] at hcm; omega)).mono ?_
    · intro j hj
      have hj' : j < zs.length := by simpa using hj
      refine ⟨?_, World.ownsRow.frozenAt hown' _⟩
      rw [Nat.zero_add, World.ownsRow.cellAt hown' j (by omega)]
      simp [hj']
    · rintro e w' ⟨rfl, n, rfl⟩
      refine ⟨rfl, ?_, ⟨rfl, rfl, rfl, by simp [Go.Sort.putRow, Go.Sort.mapBlock, Go.Sort.ahead], fun k _ hk => heap_putRow_other _ _ _ _ _ (fun e => hk (by rw [e]; rfl))⟩⟩
      unfold Own
      rw [List.length_reverse]
      refine ⟨by simp, .inr ⟨g, cap, _, rfl, hb, heap_putRow w n g cur _ _ hg, hnc, hcm, by simpa [Go.Sort.putCells] using hcs, ?_⟩⟩
      apply List.ext_getElem?
      intro k
      have hc : cur.size = cap := by simpa using hcs
      by_cases hk : k < zs.length
      · have hkc : k < cur.size := by omega
        simp [Go.Sort.putCells, hk, hkc]
      · simp [Go.Sort.putCells, List.getElem?_take, hk]

theorem digits_step {n k : Nat} {ds : List Int} (hk : 0 < k) (h : El.bin n = (if k = 0 then [] else El.bin k) ++ ds.reverse) :
    El.bin n = (if k / 2 = 0 then [] else El.bin (k / 2)) ++ (ds ++ [((k : Int) % 2)]).reverse := by
  rw [h, if_neg (by omega), List.reverse_append, List.reverse_cons, List.reverse_nil, List.nil_append]
  by_cases h2 : k < 2
  · obtain rfl : k = 1 := by omega
    simp [El.bin_small]
  · rw [if_neg (by omega), El.bin_step (by omega)]
    simp
theorem digits_len {n k : Nat} {ds : List Int} (h : El.bin n = (if k = 0 then [] else El.bin k) ++ ds.reverse) : ds.length ≤ (El.bin n).length := by
  rw [h]; simp

set_option maxHeartbeats 400000 in
/-- digitsOf: the binary digits -/
theorem digitsOf_any (n : Nat) (w : World) (h1 : 1 ≤ n) (h2 : n ≤ 1000000) :
    Calls Try.prog 41 #[.int .i64 n] w fun e w' => ∃ v, e = .returned v ∧ Own w' w.heap.size 3 v (El.bin n) ∧ Below w.heap.size w w' := by
  have hbl := El.bin_len_le h1 h2
  go_enter Try.func41, Try.ntmps41
  go_wp2
  go_loopw [0, 3] (fun i v wr => ∃ (k : Nat) (ds : List Int), k ≤ n ∧ i = .int .i64 k ∧ Own wr w.heap.size 3 v ds ∧ Below w.heap.size w wr ∧ Hid (El.bin n = (if k = 0 then [] else El.bin k) ++ ds.reverse))
    (fun i _ _ => (intOf i).toNat)
  case atStart => exact ⟨n, [], Nat.le_refl _, rfl, Own.nil _ _ _, Below.refl _ _, by show _ = _; rw [if_neg (by omega)]; simp⟩
  case round =>
    obtain ⟨k, ds, hk, rfl, hown, hbel, H⟩ := hrel
    have hl := digits_len H.out
    have hsz := hbel.size
    by_cases hpos : 0 < k
    · go_wp2_with (at_builtin; refine wpList_app _ rfl (.tmp 8) (.tmp 11) _ rfl w.heap.size 3 Try.underlying31 intInfo _ ds rfl (hown.below ((Below.refl _ _).alloc (Nat.le_refl _) _)) (some ⟨wr.heap.size, 0, none⟩) 1 1 [(k : Int) % 2] rfl (Rd.one _ _ _) (by omega) (by simp; omega) ?_; intro v1 w1 hown1 hg1 hat1)
      have hb1 := below_app (hbel.alloc hsz _) (hown.below ((Below.refl _ _).alloc (Nat.le_refl _) _)) hg1 (by simp; omega)
      go_roundw
      case rel => exact ⟨k / 2, ds ++ [(k : Int) % 2], by omega, by go_num, hown1, hb1, digits_step hpos H.out⟩
      case measure => simp [intOf]; omega
    · obtain rfl : k = 0 := by omega
      have hfin : El.bin n = ds.reverse := by have := H.out; simpa using this
      have HF := Lib.hid hfin
      clear hfin
      go_wp2_with (go_at_call 43; refine (rev_own w.heap.size _ ds _ hown).mono ?_; rintro e w1 ⟨rfl, hown1, hg1⟩)
      go_ret
      refine ⟨_, rfl, ?_, hbel.grown hg1 hsz hown.at_base⟩
      rw [HF.out]
      exact hown1

/-- gammaOf: zeros, and the digits behind them -/
theorem gammaOf_any (A : Option Addr) (n c : Nat) (ds : List Int) (w : World) (hr : Rd w w.heap.size A n c ds) (h1 : 1 ≤ n) (h2 : n ≤ 100) :
    Calls Try.prog 42 #[.slice A n c] w fun e w' => ∃ v, e = .returned v ∧ Own w' w.heap.size 3 v (List.replicate (n - 1) 0 ++ ds) ∧ Below w.heap.size w w' := by
  obtain ⟨i0, hi, hz0, hz1, hz2⟩ := info_parts intInfo
  go_enter Try.func42, Try.ntmps42
  go_wp2_with (first
    | (refine wpList_make_full _ rfl (.tmp 6) (.tmp 6) 31 rfl w.heap.size 3 i0 (.int .i64 0) 1 Try.underlying31 hi hz0 hz1 .i64 .i64 _ _ (n - 1) rfl rfl (by omega) (by omega) (by rw [hz2]; omega) (by simp only [maxLen]; omega) (Nat.le_refl _) ?_; intro w1 hown1 hg1; have hown2 := Own.made hown1; clear hown1; have hb1 : Below w.heap.size w w1 := (Below.refl _ _).grown hg1 (Nat.le_refl _) (fun _ h => by cases h); have hz := hb1.size)
    | (at_builtin; refine wpList_app _ rfl (.tmp 8) (.tmp 9) _ rfl w.heap.size 3 Try.underlying31 intInfo _ _ rfl hown2 A n c ds rfl (hr.below hb1) (by simp; omega) hz ?_; intro v2 w2 hown3 hg2 hat2; have hb2 := below_app hb1 hown2 hg2 hz))
  go_ret
  exact ⟨_, rfl, hown3, hb2⟩

end Go.Proofs.Ytghdallaohpelaa
