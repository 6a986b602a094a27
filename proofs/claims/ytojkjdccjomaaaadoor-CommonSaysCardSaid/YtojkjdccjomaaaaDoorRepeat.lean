/-
  Contracts of math/bits.Mul and of slices.Repeat, at one number that is repeated at most eight times.
-/
import Derived.Test.YtojkjdccjomaaaaDoorBase
import Derived.Test.YtojkjdccjomaaaaDoorLibS
import Derived.Laws.CopyOwn
import Derived.Shelf.RegionOpen
import Derived.Shelf.Bits.Mul64
namespace Go.Proofs.YtojkjdccjomaaaaDoor
open Go.RowKit

set_option linter.unusedSimpArgs false
set_option linter.unusedVariables false

def mulRen : Go.Shelf.Ren := ⟨fun | 264 => 48 | n => n, fun | 46 => 63 | 53 => 84 | n => n, fun | n => n⟩
theorem mulLays : Go.Proofs.Lays.n264 Tryd.prog mulRen := {
  mixed := by kernel_rfl
  f264 := Tryd.func48.trans (congrArg some (by kernel_rfl))
  t46 := Tryd.underlying63
  a46 := Tryd.isAgg63
  z46 := Tryd.sizeOf63
  v46 := Tryd.zeroValue63
  t53 := Tryd.underlying84
  a53 := Tryd.isAgg84
  z53 := Tryd.sizeOf84
  v53 := Tryd.zeroValue84 }
theorem Mul64_one (m : Nat) (hm8 : m ≤ 8) (w : World) :
    Calls Tryd.prog 48 #[.int .u64 1, .int .u64 (m : Int)] w fun e w' => e = .returned (.tuple #[.int .u64 0, .int .u64 (m : Int)]) ∧ w = w' := by
  refine (Go.Proofs.Any.bits_Mul64 mulLays 1 m (by omega) (by omega) w).mono ?_
  rintro e w' ⟨rfl, rfl⟩
  refine ⟨?_, rfl⟩
  rw [Nat.one_mul, Nat.div_eq_of_lt (by omega), Nat.mod_eq_of_lt (by omega)]
  rfl

theorem Mul_one (m : Nat) (hm8 : m ≤ 8) (w : World) :
    Calls Tryd.prog 37 #[.int .u64 1, .int .u64 (m : Int)] w fun e w' => e = .returned (.tuple #[.int .u64 0, .int .u64 (m : Int)]) ∧ w = w' := by
  go_enter Tryd.func37, Tryd.ntmps37
  go_wp2_with (go_at_call 48; refine (Mul64_one m hm8 _).mono ?_; rintro e w1 ⟨rfl, rfl⟩)
  go_ret2
  exact ⟨rfl, rfl⟩

/-- k numbers x, the others 0 yet -/
def repTo (x : Int) (m k : Nat) : List Value := List.replicate k (.int .i64 x) ++ List.replicate (m - k) (.int .i64 0)
theorem repTo_len {x : Int} {m k : Nat} (hk : k ≤ m) : (repTo x m k).length = m := by simp [repTo]; omega
theorem repTo_splice {x : Int} {m k j : Nat} (_hk : k + j ≤ m) : splice (repTo x m k) k (List.replicate j (.int .i64 x)) = repTo x m (k + j) := by
  unfold splice repTo
  rw [List.take_append_of_le_length (by simp), List.take_of_length_le (by simp), List.length_replicate, List.drop_append]
  simp only [List.length_replicate, List.drop_replicate]
  rw [show k - (k + j) = 0 by omega, show k + j - k = j by omega, show m - k - j = m - (k + j) by omega, List.replicate_zero, List.nil_append, ← List.append_assoc, List.replicate_append_replicate]

theorem row_block {w : World} {base e g m : Nat} {xs : List Value} (h : w.ownsRow base e 1 (.slice (some ⟨g, 0, none⟩) m m) m xs) : w.heap[g]? = some (.cells xs.toArray e (0, 0)) := by
  rcases h.2 with ⟨h', _⟩ | ⟨g', cap, cur, h', _, hg, _, _, hsz, htake⟩
  · cases h'
  · simp only [Value.slice.injEq, Option.some.injEq, Addr.mk.injEq, and_true, true_and] at h'
    obtain ⟨rfl, rfl⟩ := h'
    rw [List.take_of_length_le (by rw [Array.length_toList]; omega)] at htake
    rw [hg, ← htake]
theorem row_of_block {w : World} {base e g m : Nat} {xs : List Value} (hg : w.heap[g]? = some (.cells xs.toArray e (0, 0))) (hl : xs.length = m) (hm : m ≤ maxLen) (hb : base ≤ g) : w.ownsRow base e 1 (.slice (some ⟨g, 0, none⟩) m m) m xs := by
  refine ⟨by omega, .inr ⟨g, m, xs.toArray, rfl, hb, hg, Nat.le_refl _, hm, by simp; omega, ?_⟩⟩
  exact List.take_of_length_le (by simp; omega)

set_option maxRecDepth 100000 in
set_option maxHeartbeats 4000000 in
theorem Repeat_one (x : Int) (b m : Nat) (hm : 1 ≤ m) (hm8 : m ≤ 8) (w : World) (hc : w.cell? ⟨b, 0, none⟩ = some (.int .i64 x)) :
    Calls Tryd.prog 28 #[.slice (some ⟨b, 0, none⟩) 1 1, .int .i64 (m : Int)] w fun e w' =>
      e = .returned (.slice (some ⟨w.heap.size, 0, none⟩) m m) ∧ Own w' w.heap.size 3 (.slice (some ⟨w.heap.size, 0, none⟩) m m) (List.replicate m x) ∧ Below w.heap.size w w' := by
  obtain ⟨i0, hi, hz0, hz1, hz2⟩ := info_parts intInfo
  have hsz1 : (Tryd.prog.info? 3).map (·.size) = some 1 := by rw [hi]; simp [hz1]
  have hml : m ≤ maxLen := by simp only [maxLen]; omega
  have hby : i0.bytes * m ≤ 281474976710656 := by rw [hz2]; omega
  have hu : ∀ k : Nat, k ≤ 8 → IntKind.u64.wrap (k : Int) = (k : Int) := fun k hk => by rw [IntKind.wrap_u64]; omega
  have hu1 := hu m hm8
  have hu2 : IntKind.i64.wrap (m : Int) = (m : Int) := by rw [IntKind.wrap_i64]; omega
  have hd1 : decide ((m : Int) < 0) = false := by simp
  have hd2 : decide ((9223372036854775807 : Int) < (m : Int)) = false := by simp; omega
  have hbl := World.block_lt_of_cell? w _ hc
  simp only at hbl
  clear hu
  obtain ⟨g, hg⟩ : ∃ g, g = w.heap.size := ⟨_, rfl⟩
  have e0 : (madeCells (Value.int .i64 0).cells (m * 1)).toList = repTo x m 0 := by
    rw [Nat.mul_one, show (Value.int .i64 0).cells = #[Value.int .i64 0] from rfl, toList_madeCells_one]; simp [repTo]
  have HE := Lib.hid e0
  clear e0
  have hbg : b < g := by omega
  have hcopy : ∀ w2 : World, w2.heap[g]? = some (.cells (repTo x m 0).toArray 3 (0, 0)) → w2.cell? ⟨b, 0, none⟩ = some (.int .i64 x) → Below g w w2 →
      ∃ w3, (∀ ty, (Builtin.copy_ #[25, 25] ty #[.slice (some ⟨g, 0, none⟩) m m, .slice (some ⟨b, 0, none⟩) 1 1]).run Tryd.prog w2 = .ok (.int .i64 1) w3) ∧ Hid (w3.heap[g]? = some (.cells (repTo x m 1).toArray 3 (0, 0))) ∧ Below g w w3 := by
    intro w2 hbk hc2 hb2
    refine ⟨w2.setRow g (repTo x m 1).toArray, fun ty => ?_, setRow_heap w2 g _ _ _ _ hbk, below_setRow hb2 (Nat.le_refl _) _⟩
    have := run_copy_row (P := Tryd.prog) w2 25 25 ty 3 g 0 m m ⟨b, 0, none⟩ 1 1 (repTo x m 0).toArray 3 (List.replicate 1 (.int .i64 x)) Tryd.underlying25 hsz1 hbk (by simp [Nat.min_def]; omega) (fun i v hi => by
      obtain ⟨h1, h2⟩ := List.getElem?_eq_some_iff.1 hi
      simp only [List.length_replicate] at h1
      simp only [List.getElem_replicate] at h2
      subst h2
      obtain rfl : i = 0 := by omega
      simpa [Addr.add] using hc2) (by rw [List.size_toArray, repTo_len (Nat.zero_le _)]; simp; omega) (by simp [Value.oneCell'])
    rw [this]
    have e := repTo_splice (x := x) (m := m) (k := 0) (j := 1) (by omega)
    unfold splice at e
    rw [Nat.zero_add] at e
    rw [List.append_assoc]
    simp only [List.length_replicate]
    rw [Nat.zero_add] at e ⊢
    simp only [List.length_replicate] at e
    rw [e]
    rfl
  have hgl : g ≤ w.heap.size := by omega
  have HG0 := Lib.hid hg
  rw [← hg]
  clear hg
  go_enter Tryd.func28, Tryd.ntmps28
  go_wp2_with (first
    | (go_at_call 37; refine (Mul_one m hm8 _).mono ?_; rintro e w1 ⟨rfl, rfl⟩)
    | (at_make; refine wpList_make_full _ rfl (.tmp 29) (.tmp 29) 25 rfl w.heap.size 3 i0 (.int .i64 0) 1 Tryd.underlying25 hi hz0 hz1 .i64 .i64 _ _ m rfl rfl rfl rfl hby hml (Nat.le_refl _) ?_; intro w2 hown2 hg2; rw [HE.out, ← HG0.out] at hown2; rw [← HG0.out]; have hb2 : Below g w w2 := (Below.refl _ _).grown hg2 hgl (fun _ e => by cases e); have hbk := row_block hown2; have hc2 := (hb2.cell (p := ⟨b, 0, none⟩) hbg).trans hc; obtain ⟨w3, hrun, hg3, hb3⟩ := hcopy w2 hbk hc2 hb2; clear hbk hown2 hg2 hb2 hc2 hcopy))
  go_loopw [8] (fun kv wr => ∃ k : Nat, 1 ≤ k ∧ k ≤ m ∧ kv = .int .i64 (k : Int) ∧ Hid (wr.heap[g]? = some (.cells (repTo x m k).toArray 3 (0, 0))) ∧ Below g w wr) (fun kv _ => m - (intOf kv).toNat)
  case atStart => exact ⟨1, Nat.le_refl _, hm, rfl, hg3, hb3⟩
  case round =>
    obtain ⟨k, hk1, hkm, rfl, HG, hB⟩ := hrel
    clear hg3 hb3 hrun
    by_cases hlt : k < m
    · have hltI : (k : Int) < (m : Int) := by omega
      have hk0 : (0 : Int) ≤ (k : Int) := by omega
      have hnc : ¬ m = k := by omega
      obtain ⟨j, hj⟩ : ∃ j, j = min k (m - k) := ⟨_, rfl⟩
      have hjk : k + j ≤ m := by omega
      have hcp : ∃ w4, (∀ ty, (Builtin.copy_ #[25, 25] ty #[.slice (some ⟨g, k, none⟩) (m - k) (m - k), .slice (some ⟨g, 0, none⟩) k m]).run Tryd.prog wr.drew = .ok (.int .i64 (j : Int)) w4) ∧ Hid (w4.heap[g]? = some (.cells (repTo x m (k + j)).toArray 3 (0, 0))) ∧ Below g w w4 := by
        refine ⟨wr.drew.setRow g (repTo x m (k + j)).toArray, fun ty => ?_, setRow_heap wr.drew g _ _ _ _ HG.out, below_setRow hB.drew (Nat.le_refl _) _⟩
        have := run_copy_row (P := Tryd.prog) wr.drew 25 25 ty 3 g k (m - k) (m - k) ⟨g, 0, none⟩ k m (repTo x m k).toArray 3 (List.replicate j (.int .i64 x)) Tryd.underlying25 hsz1 HG.out (by simp [hj]) (fun i v hi => by
          obtain ⟨h1, h2⟩ := List.getElem?_eq_some_iff.1 hi
          simp only [List.length_replicate] at h1
          simp only [List.getElem_replicate] at h2
          subst h2
          rw [Addr.add_mid, Nat.zero_add]
          show wr.cell? _ = _
          have := HG.out
          have hi1 : i < k := by omega
          simp [World.cell?, this, repTo, List.getElem?_append, hi1]) (by rw [List.size_toArray, repTo_len hkm]; simp; omega) (fun v hv => by rw [(List.mem_replicate.1 hv).2]; rfl)
        rw [this, List.append_assoc]
        have e := repTo_splice (x := x) (m := m) (k := k) (j := j) hjk
        unfold splice at e
        simp only [List.length_replicate] at e ⊢
        rw [e]
        rfl
      obtain ⟨w4, hrun, hg4, hb4⟩ := hcp
      have HJ := Lib.hid hj
      have hjp : k < k + j := by omega
      have hjb : (k : Int) + (j : Int) ≤ 8 := by omega
      clear hj hB HG hkm
      go_wp2
      go_region
      go_roundw
      case rel =>
        refine ⟨_, _, _, _, _, _, _, _, _, _, _, _, _, _, ?_, rfl⟩
        exact ⟨k + j, by omega, by omega, by simp, hg4, hb4⟩
      case measure => simp [intOf]; omega
    · obtain rfl : k = m := by omega
      go_wp2
      go_ret
      refine ⟨rfl, ?_, hB⟩
      have := row_of_block HG.out (repTo_len (Nat.le_refl _)) hml (Nat.le_refl g)
      unfold Own
      rw [List.length_replicate]
      simpa [repTo] using this

set_option maxRecDepth 100000 in
set_option maxHeartbeats 1000000 in
/-- no time at all -/
theorem Repeat_none (x : Int) (b : Nat) (w : World) (hc : w.cell? ⟨b, 0, none⟩ = some (.int .i64 x)) :
    Calls Tryd.prog 28 #[.slice (some ⟨b, 0, none⟩) 1 1, .int .i64 0] w fun e w' =>
      e = .returned (.slice (some ⟨w.heap.size, 0, none⟩) 0 0) ∧ Own w' w.heap.size 3 (.slice (some ⟨w.heap.size, 0, none⟩) 0 0) [] ∧ Below w.heap.size w w' := by
  obtain ⟨i0, hi, hz0, hz1, hz2⟩ := info_parts intInfo
  have hsz1 : (Tryd.prog.info? 3).map (·.size) = some 1 := by rw [hi]; simp [hz1]
  have hml : 0 ≤ maxLen := Nat.zero_le _
  have hby : i0.bytes * 0 ≤ 281474976710656 := by omega
  have hm0 := Mul_one 0 (by omega)
  obtain ⟨g, hg⟩ : ∃ g, g = w.heap.size := ⟨_, rfl⟩
  have hcopy : ∀ w2 : World, w2.heap[g]? = some (.cells #[] 3 (0, 0)) → Below g w w2 →
      ∃ w3, (∀ ty, (Builtin.copy_ #[25, 25] ty #[.slice (some ⟨g, 0, none⟩) 0 0, .slice (some ⟨b, 0, none⟩) 1 1]).run Tryd.prog w2 = .ok (.int .i64 0) w3) ∧ Hid (w3.heap[g]? = some (.cells #[] 3 (0, 0))) ∧ Below g w w3 := by
    intro w2 hbk hb2
    refine ⟨w2.setRow g #[], fun ty => ?_, setRow_heap w2 g _ _ _ _ hbk, below_setRow hb2 (Nat.le_refl _) _⟩
    have := run_copy_row (P := Tryd.prog) w2 25 25 ty 3 g 0 0 0 ⟨b, 0, none⟩ 1 1 #[] 3 [] Tryd.underlying25 hsz1 hbk (by simp) (fun i v hi => by simp at hi) (by simp) (by simp)
    simp at this
    exact this
  have e0 : (madeCells (Value.int .i64 0).cells (0 * 1)).toList = [] := by rw [Nat.zero_mul, show (Value.int .i64 0).cells = #[Value.int .i64 0] from rfl, toList_madeCells_one]; rfl
  have HE := Lib.hid e0
  clear e0
  have hgl : g ≤ w.heap.size := by omega
  have HG0 := Lib.hid hg
  have HM := Lib.hid hm0
  rw [← hg]
  clear hg hm0
  go_enter Tryd.func28, Tryd.ntmps28
  go_wp2_with (first
    | (go_at_call 37; refine (HM.out _).mono ?_; rintro e w1 ⟨rfl, rfl⟩)
    | (at_make; refine wpList_make_full _ rfl (.tmp 29) (.tmp 29) 25 rfl w.heap.size 3 i0 (.int .i64 0) 1 Tryd.underlying25 hi hz0 hz1 .i64 .i64 _ _ 0 rfl rfl rfl rfl hby hml (Nat.le_refl _) ?_; intro w2 hown2 hg2; rw [HE.out, ← HG0.out] at hown2; rw [← HG0.out]; have hb2 : Below g w w2 := (Below.refl _ _).grown hg2 hgl (fun _ e => by cases e); have hbk := row_block hown2; obtain ⟨w3, hrun, hg3, hb3⟩ := hcopy w2 hbk hb2; clear hbk hown2 hg2 hb2 hcopy))
  go_loopw [8] (fun kv wr => kv = .int .i64 0 ∧ Hid (wr.heap[g]? = some (.cells #[] 3 (0, 0))) ∧ Below g w wr) (fun _ _ => 0)
  case atStart => exact ⟨rfl, hg3, hb3⟩
  case round =>
    obtain ⟨rfl, HG, hB⟩ := hrel
    clear hg3 hb3 hrun
    go_wp2
    go_ret
    exact ⟨rfl, row_of_block HG.out rfl hml (Nat.le_refl g), hB⟩

theorem Repeat_any (x : Int) (b m : Nat) (hm8 : m ≤ 8) (w : World) (hc : w.cell? ⟨b, 0, none⟩ = some (.int .i64 x)) :
    Calls Tryd.prog 28 #[.slice (some ⟨b, 0, none⟩) 1 1, .int .i64 (m : Int)] w fun e w' =>
      e = .returned (.slice (some ⟨w.heap.size, 0, none⟩) m m) ∧ Own w' w.heap.size 3 (.slice (some ⟨w.heap.size, 0, none⟩) m m) (List.replicate m x) ∧ Below w.heap.size w w' := by
  by_cases h : m = 0
  · subst h
    exact Repeat_none x b w hc
  · exact Repeat_one x b m (by omega) hm8 w hc

end Go.Proofs.YtojkjdccjomaaaaDoor
