/-
  Contracts of slices.Grow at nil and slices.Concat of two slices of lines, and of package trail: without, reachesAll.
-/
import Derived.Test.YtibphofiaodnmaaDoorTrailA
import Derived.Test.YtibphofiaodnmaaDoorWalkA
import Derived.Deep.RegionWith
namespace Go.Proofs.YtibphofiaodnmaaDoor
open Go.RowKit

set_option linter.unusedSimpArgs false
set_option linter.unusedVariables false

set_option maxRecDepth 100000 in
set_option maxHeartbeats 1000000 in
/-- room for so many lines -/
theorem Grow_nil (n : Nat) (hn : n ≤ 2097152) (w : World) :
    Calls Tryd.prog 58 #[.slice none 0 0, .int .i64 (n : Int)] w fun e w' => ∃ v, e = .returned v ∧ OwnP w' w.heap.size 37 v [] ∧ Below w.heap.size w w' := by
  obtain ⟨i0, hi, hz0, hz1, hz2⟩ := info_parts lineInfo
  have hge := grownCap_ge w n 0 37
  have hle := grownCap_le_maxLen w n 0 37 (by unfold maxLen; omega)
  by_cases h0 : 0 < n
  · have hrz : ∀ ty, (Builtin.append_ #[22, 3] ty #[.slice none 0 0, .int .i64 (n : Int)]).run Tryd.prog w = _ := fun ty =>
      Lib.run_append_nil_zeros w 22 3 ty 37 i0 _ .i64 .i64 Tryd.underlying22 Tryd.underlying3 hi hz0 n h0 (by rw [hz1]; omega) (by omega) (by rw [hz2]; omega)
    obtain ⟨G, hG⟩ : ∃ G, G = grownCap w n 0 37 := ⟨_, rfl⟩
    rw [← hG] at hge hle hrz
    have hm : G ≤ maxLen := hle
    have hown : OwnP (w.drew.alloc (.cells (Builtin.zeroCells (Value.agg #[.int .i64 0, .int .i64 0]).cells n ++ Builtin.zeroCells (Value.agg #[.int .i64 0, .int .i64 0]).cells (G - n)) 37)) w.heap.size 37 (.slice (some ⟨w.heap.size, 0, none⟩) 0 G) [] := by
      refine World.ownsRow_made w.drew _ G (Nat.le_refl _) hm ?_
      rw [Array.size_append]
      simp [Builtin.zeroCells, Value.cells]
      omega
    have hbel : Below w.heap.size w (w.drew.alloc (.cells (Builtin.zeroCells (Value.agg #[.int .i64 0, .int .i64 0]).cells n ++ Builtin.zeroCells (Value.agg #[.int .i64 0, .int .i64 0]).cells (G - n)) 37)) :=
      (Below.drewN' _ w 1).alloc (Nat.le_refl _) _
    have h1 : (0 : Int) < (n : Int) := by omega
    have hG63 : G ≤ 9223372036854775807 := hle
    clear hG
    go_enter Tryd.func58, Tryd.ntmps58
    go_wp2_with (at_builtin; refine Lib.wpList_append_run _ rfl _ _ _ _ rfl _ _ rfl rfl _ _ (hrz _) ?_)
    go_ret
    exact ⟨_, rfl, hown, hbel⟩
  · obtain rfl : n = 0 := by omega
    go_enter Tryd.func58, Tryd.ntmps58
    go_wp2
    go_ret
    exact ⟨_, rfl, OwnP.nil _ _ _, Below.refl _ _⟩

set_option maxRecDepth 100000 in
set_option maxHeartbeats 2000000 in
/-- two slices of lines, one behind the other, in new memory; s holds the two -/
theorem Concat_two (s : Nat) (A B : Option Addr) (n c k d : Nat) (l r : List Gr.Ln) (w : World) (hl : RdP w w.heap.size A n c l) (hr : RdP w w.heap.size B k d r) (h0 : w.cell? ⟨s, 0, none⟩ = some (.slice A n c)) (h1 : w.cell? ⟨s, 1, none⟩ = some (.slice B k d)) (hn : n ≤ 1048576) (hk : k ≤ 1048576) :
    Calls Tryd.prog 46 #[.slice (some ⟨s, 0, none⟩) 2 2] w fun e w' => ∃ v, e = .returned v ∧ OwnP w' w.heap.size 37 v (l ++ r) ∧ Below w.heap.size w w' := by
  have HN := Lib.hid hl.len
  have HK := Lib.hid hr.len
  have hs : s < w.heap.size := World.block_lt_of_cell? w _ h0
  obtain ⟨N, hN⟩ : ∃ N, N = n + k := ⟨_, rfl⟩
  have hN2 : N ≤ 2097152 := by omega
  have kw0 : IntKind.i64.wrap (0 + (n : Int)) = (n : Int) := by rw [IntKind.wrap_i64]; omega
  have kw1 : IntKind.i64.wrap ((n : Int) + (k : Int)) = (N : Int) := by rw [IntKind.wrap_i64]; omega
  have kw2 : wrap64 ((n : Int) + (k : Int)) = (N : Int) := by unfold wrap64; omega
  have hnN : (n : Int) + (k : Int) = (N : Int) := by omega
  have HNN := Lib.hid hN
  clear hN
  have p0 : (0 : Int) ≤ (n : Int) := by omega
  have p1 : (0 : Int) ≤ (N : Int) := by omega
  go_enter Tryd.func46, Tryd.ntmps46
  go_wp2
  go_loop [3, 11] (fun sv iv => (iv = .int .i64 0 ∧ sv = .int .i64 0) ∨ (iv = .int .i64 1 ∧ sv = .int .i64 (n : Int)) ∨ (iv = .int .i64 2 ∧ sv = .int .i64 (N : Int))) (fun _ iv => 2 - (intOf iv).toNat)
  case atStart => exact .inl ⟨rfl, rfl⟩
  case round =>
    rcases hrel with ⟨rfl, rfl⟩ | ⟨rfl, rfl⟩ | ⟨rfl, rfl⟩
    · go_wp2
      go_round
      case rel => exact .inr (.inl ⟨by go_num, by go_num⟩)
      case measure => simp [intOf]
    · go_wp2
      go_round
      case rel => exact .inr (.inr ⟨by go_num, by go_num⟩)
      case measure => simp [intOf]
    · go_wp2_with fail
      refine (Grow_nil N (by omega) _).mono ?_
      rintro e w1 ⟨v1, rfl, o1, b1⟩
      go_wp2
      go_loopw [6, 27] (fun vv iv wr => Below w.heap.size w wr ∧ ((iv = .int .i64 0 ∧ OwnP wr w.heap.size 37 vv []) ∨ (iv = .int .i64 1 ∧ OwnP wr w.heap.size 37 vv l) ∨ (iv = .int .i64 2 ∧ OwnP wr w.heap.size 37 vv (l ++ r)))) (fun _ iv _ => 2 - (intOf iv).toNat)
      case atStart => exact ⟨b1, .inl ⟨rfl, o1⟩⟩
      case round =>
        clear o1 b1
        obtain ⟨hb, hrel⟩ := hrel
        have d0 := (hb.cell (p := ⟨s, 0, none⟩) hs).trans h0
        have d1 := (hb.cell (p := ⟨s, 1, none⟩) hs).trans h1
        have hsz := hb.size
        rcases hrel with ⟨rfl, ho⟩ | ⟨rfl, ho⟩ | ⟨rfl, ho⟩
        · go_wp2_with (at_builtin; refine wpList_appP _ rfl (.tmp 31) (.tmp 32) _ rfl w.heap.size 37 Tryd.underlying22 lineInfo _ _ rfl ho A n c l rfl (hl.past hb) (by simp; omega) hsz ?_; intro v3 w3 o3 g3 a3)
          have b3 := below_appP hb ho g3 hsz
          go_wp2
          go_roundw
          case rel => exact ⟨b3, .inr (.inl ⟨by go_num, by simpa using o3⟩)⟩
          case measure => simp [intOf]
        · have hll : l.length ≤ 1048576 := by rw [HN.out]; exact hn
          go_wp2_with (at_builtin; refine wpList_appP _ rfl (.tmp 31) (.tmp 32) _ rfl w.heap.size 37 Tryd.underlying22 lineInfo _ _ rfl ho B k d r rfl (hr.past hb) (by omega) hsz ?_; intro v3 w3 o3 g3 a3)
          have b3 := below_appP hb ho g3 hsz
          go_wp2
          go_roundw
          case rel => exact ⟨b3, .inr (.inr ⟨by go_num, o3⟩)⟩
          case measure => simp [intOf]
        · go_wp2
          go_ret
          exact ⟨_, rfl, ho, hb⟩

/-- what without hands back -/
def WoPost (ls : List Gr.Ln) (a b : Int) (w : World) (e : Ending) (w' : World) : Prop :=
  Below w.heap.size w w' ∧ ((e = .returned (.tuple #[.slice none 0 0, .bool false]) ∧ ∀ i, i < ls.length → Tl.jn a b (ls.getD i (0, 0)) = false) ∨
    ∃ v i, e = .returned (.tuple #[v, .bool true]) ∧ i < ls.length ∧ Tl.jn a b (ls.getD i (0, 0)) = true ∧ OwnP w' w.heap.size 37 v (ls.eraseIdx i))

set_option maxRecDepth 100000 in
set_option maxHeartbeats 2000000 in
theorem without_any (A : Option Addr) (n c : Nat) (ls : List Gr.Ln) (a b : Int) (w : World) (hr : RdP w w.heap.size A n c ls) (hn : n ≤ 1048576) :
    Calls Tryd.prog 33 #[.slice A n c, .int .i64 a, .int .i64 b] w (WoPost ls a b w) := by
  unfold WoPost
  obtain ⟨s, hs⟩ : ∃ s, s = w.heap.size := ⟨_, rfl⟩
  obtain ⟨W, hW⟩ : ∃ W, W = (w.alloc (.cells #[.int .i64 a] 3)).alloc (.cells #[.int .i64 b] 3) := ⟨_, rfl⟩
  have hb0 : Below w.heap.size w W := by rw [hW]; exact ((Below.refl _ _).alloc (Nat.le_refl _) _).alloc (by simp) _
  have hx0 : Boxed W s 3 (.int .i64 a) := by rw [hW, hs]; exact (Boxed.new w _ _).alloc _
  have hx1 : Boxed W (s + 1) 3 (.int .i64 b) := by
    rw [hW, hs]
    have := Boxed.new (w.alloc (.cells #[.int .i64 a] 3)) 3 (.int .i64 b)
    rw [World.size_alloc] at this
    exact this
  have hr0 := hr.past hb0
  have HX := Lib.hid hr.len
  have hnc := hr.le
  have hcap := hr.cap
  rw [← hs] at hb0 ⊢
  have HI := Lib.hid (IndexFn_any 45 #[.pointer (some ⟨s, 0, none⟩), .pointer (some ⟨s + 1, 0, none⟩)] (Tl.jn a b) A n c ls W hr0 (enters_of Tryd.func45 (by kernel_rfl) rfl)
    (fun V p hp hV => wout1_any s (s + 1) a b p.1 p.2 V ((hV.cell (p := ⟨s, 0, none⟩) hx0.lt).trans hx0.cell) ((hV.cell (p := ⟨s + 1, 0, none⟩) hx1.lt).trans hx1.cell)))
  have HS := Lib.hid hs
  have HW := Lib.hid hW
  clear hs hW hr hx0 hx1
  go_enter Tryd.func33, Tryd.ntmps33
  go_wp2_with fail
  rw [← HW.out, ← HS.out]
  refine HI.out.mono ?_
  rintro e w1 ⟨hb1, r, rfl, hI⟩
  have hbw : Below s w w1 := hb0.trans (hb1.mono (by rw [HS.out]; exact hb0.size))
  rcases hI.out with ⟨rfl, hno⟩ | ⟨i, rfl, hil, hj⟩
  · have HNO := Lib.hid hno
    clear hno
    go_wp2
    go_ret2
    exact ⟨hbw, .inl ⟨rfl, HNO.out⟩⟩
  · have hin : i < n := by rw [← HX.out]; exact hil
    have hd : decide ((i : Int) < 0) = false := by simp
    obtain ⟨N, hN⟩ : ∃ N, N = i + 1 := ⟨_, rfl⟩
    have kw : IntKind.i64.wrap ((i : Int) + 1) = (N : Int) := by rw [IntKind.wrap_i64]; omega
    have kw2 : wrap64 ((i : Int) + 1) = (N : Int) := by unfold wrap64; omega
    have q1 : (0 : Int) ≤ (i : Int) := by omega
    have q2 : (i : Int) ≤ (c : Int) := by omega
    have q3 : (0 : Int) ≤ (N : Int) := by omega
    have q4 : (N : Int) ≤ (n : Int) := by omega
    have q5 : (n : Int) ≤ (c : Int) := by omega
    have q6 : N ≤ n := by omega
    have hr1 := hr0.past hb1
    have HL := Lib.hid (hr1.take (k := i) (by omega))
    obtain ⟨b0, o0, rfl, _, _⟩ := hr1.at_ (by omega)
    have HF : Hid (ls.take i ++ ls.drop N = ls.eraseIdx i) := by show _ = _; rw [hN]; exact (List.eraseIdx_eq_take_drop_succ ls i).symm
    have HIL := Lib.hid hil
    have HJ := Lib.hid hj
    have hb1s := hbw.size
    clear hj hil
    have hsw : s ≤ w1.heap.size := by rw [HS.out]; exact hb1s
    have key : ∀ (d e : Nat) (B : Option Addr), RdP w1 w1.heap.size B d e (ls.drop N) → d ≤ 1048576 → Calls Tryd.prog 46 #[.slice (some ⟨w1.heap.size, 0, none⟩) 2 2] (w1.alloc (.cells #[.slice (some ⟨b0, o0, none⟩) i c, .slice B d e] 22)).drew fun e w' => Below s w w' ∧ ∃ v, e = .returned v ∧ OwnP w' s 37 v (ls.eraseIdx i) := fun d e B hB hd => by
      obtain ⟨X, hX⟩ : ∃ X, X = (w1.alloc (.cells #[.slice (some ⟨b0, o0, none⟩) i c, .slice B d e] 22)).drew := ⟨_, rfl⟩
      have hbX : Below w1.heap.size w1 X := by rw [hX]; exact ((Below.refl _ _).alloc (Nat.le_refl _) _).trans (Below.drewN' _ _ 1)
      rw [← hX]
      refine (Concat_two w1.heap.size (some ⟨b0, o0, none⟩) B i c d e (ls.take i) (ls.drop N) X (HL.out.past hbX) (hB.past hbX) ?_ ?_ (by omega) hd).mono ?_
      · rw [hX]; simp
      · rw [hX]; simp
      · rintro e w2 ⟨v, rfl, ho, hb⟩
        refine ⟨hbw.trans ((hbX.trans (hb.mono hbX.size)).mono hsw), v, rfl, ?_⟩
        rw [HF.out] at ho
        exact ho.mono (Nat.le_trans hsw hbX.size)
    have KEY := Lib.hid key
    clear key
    by_cases hcN : c = N
    · obtain rfl : N = n := by omega
      subst hcN
      have HR := Lib.hid (hr1.none_left (k := c) rfl)
      rw [Nat.sub_self] at HR
      have HK := Lib.hid (KEY.out 0 0 _ HR.out (by omega))
      clear hN hr0 hr1 hb1 HI hI KEY HR HL HF
      go_wp2
      go_region_with (go_at_call 46; refine HK.out.mono ?_; rintro e w2 ⟨hb2, v2, rfl, ho2⟩)
      all_goals
        go_wp2
        go_ret2
        exact ⟨hb2, .inr ⟨v2, i, rfl, HIL.out, HJ.out, ho2⟩⟩
    · have HR := Lib.hid (hr1.drop (k := N) (by omega))
      have HK := Lib.hid (KEY.out _ _ _ HR.out (by omega))
      clear hN hr0 hr1 hb1 HI hI KEY HR HL HF
      go_wp2
      go_region_with (go_at_call 46; refine HK.out.mono ?_; rintro e w2 ⟨hb2, v2, rfl, ho2⟩)
      all_goals
        go_wp2
        go_ret2
        exact ⟨hb2, .inr ⟨v2, i, rfl, HIL.out, HJ.out, ho2⟩⟩

end Go.Proofs.YtibphofiaodnmaaDoor
