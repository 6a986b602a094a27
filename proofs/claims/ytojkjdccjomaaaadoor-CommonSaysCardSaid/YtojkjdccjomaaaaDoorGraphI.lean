/-
  The iterator that graph.pairs hands back, over either closure of the package: what it yields, for every loop body that keeps what the closure reads.
-/
import Derived.RangeFuncNested
import Derived.RangeFuncBound
import Derived.RangeFuncCalls
import Derived.RangeFuncLeaves
import Derived.RangeFuncBox
import Derived.Shelf.Abstract
import Derived.Shelf.RegionOpen
import Derived.WalkKit
import Derived.OwnWalkIn
import Derived.TacticsInMore
import Derived.LoopNIn
import Derived.LoopIn
import Derived.Maps.AppendAt
import Derived.Test.YtojkjdccjomaaaaDoorGraphC
namespace Go.Proofs.YtojkjdccjomaaaaDoor
open Go.RowKit Go.Shelf

attribute [local go_sem] Oper.semAt_some

/-- a pair, as plain numbers -/
def nat2 {m : Nat} (x : Fin m × Fin m) : Nat × Nat := (x.1.val, x.2.val)
/-- a pair, as it is yielded -/
def enc2 {m : Nat} (x : Fin m × Fin m) : Array Value := #[.int .i64 (x.1.val : Int), .int .i64 (x.2.val : Int)]

set_option maxRecDepth 100000 in
set_option maxHeartbeats 2000000 in
theorem pairs1_adj (l m b1 b2 c1 : Nat) (hm : m ≤ 8) (r : Nat → Nat → Bool) (G : World → Prop)
    (hG1 : ∀ W, G W → W.cell? ⟨b1, 0, none⟩ = some (.int .i64 (m : Int)))
    (hG2 : ∀ W, G W → W.cell? ⟨b2, 0, none⟩ = some (.func (.func 41) #[] #[.pointer (some ⟨c1, 0, none⟩)]))
    (hGb : ∀ W W', G W → Below W.heap.size W W' → G W')
    (hGr : ∀ (W : World) (a b : Nat) (t : Bool), G W → a < m → b < m → r a b = t → Calls Tryd.prog 41 #[.int .i64 (a : Int), .int .i64 (b : Int), .pointer (some ⟨c1, 0, none⟩)] W fun e W' => e = .returned (.bool t) ∧ Below W.heap.size W W')
    (J Jx : List (Fin m × Fin m) → World → Prop) (hJ : ∀ pre W W', J pre W → Below W.heap.size W W' → J pre W')
    (hY : ∀ pre x W, J pre W → pre.length < m * m → YieldAt Fence.wide 8 Tryd.prog l (enc2 x) W fun e W' =>
      (e = .returned (.bool true) ∧ J (pre ++ [x]) W' ∧ (G W → G W')) ∨ (e = .returned (.bool false) ∧ Jx (pre ++ [x]) W'))
    (W : World) (hW : G W) (h0 : J [] W) :
    CallsIn Fence.wide 9 Tryd.prog 40 #[.func (.yield l) #[] #[], .pointer (some ⟨b1, 0, none⟩), .pointer (some ⟨b2, 0, none⟩)] W fun e W' => (∃ v, e = .returned v) ∧
      ((∃ xs, xs.map nat2 = Gr.full m r ∧ J xs W') ∨ (∃ pre, True ∧ Jx pre W')) := by
  have hro : Fence.wide.round = none := rfl
  have hFn : Fence.wide.fn 41 := trivial
  have g1 := hG1 W hW
  refine callsIn_of_wp Tryd.func40 rfl trivial ?_ hro
  simp only [Tryd.ntmps40, List.size_toArray, List.length_cons, List.length_nil, Nat.reduceAdd, Nat.reduceSub, Array.replicate_succ, Array.replicate_zero, List.push_toArray, List.append_toArray, List.nil_append, List.cons_append]
  gi_wp2
  gi_loopw [7] (fun i wr => ∃ (a : Nat) (pre : List (Fin m × Fin m)), a ≤ m ∧ i = .int .i64 (a : Int) ∧ Hid (pre.map nat2 = Gr.upTo m r a 0) ∧ J pre wr ∧ G wr) (fun i _ => m - (intOf i).toNat)
  case atStart => exact ⟨0, [], Nat.zero_le _, rfl, by show _ = _; simp [Gr.upTo], h0, hW⟩
  case round =>
    obtain ⟨a, pre, ha, rfl, H, hj, hg⟩ := hrel
    have g1' := hG1 wr hg
    by_cases hlt : a < m
    · gi_wp2
      gi_loopw [11] (fun i wi => ∃ (b : Nat) (pre : List (Fin m × Fin m)), b ≤ m ∧ i = .int .i64 (b : Int) ∧ Hid (pre.map nat2 = Gr.upTo m r a b) ∧ J pre wi ∧ G wi) (fun i _ => m - (intOf i).toNat)
      case atStart => exact ⟨0, pre, Nat.zero_le _, rfl, H, hj, hg⟩
      case round =>
        obtain ⟨b, pre, hb, rfl, H, hj, hg⟩ := hrel
        have g2 := hG2 wr hg
        by_cases hlb : b < m
        · cases hr : r a b
          · have hnext : Hid (pre.map nat2 = Gr.upTo m r a (b + 1)) := by show _ = _; rw [H.out, Gr.upTo_miss hr]
            have HR := Lib.hid hr
            clear hr
            gi_wp2_with (gi_at_call 41; refine (callsIn_wide.2 (hGr wr a b false hg hlt hlb HR.out)).mono ?_; rintro e w1 ⟨rfl, hbel⟩)
            refine ⟨fun _ h => (by cases h), ?_⟩
            gi_wp2
            go_roundw
            case rel => exact ⟨b + 1, pre, by omega, by go_num, hnext, hJ _ _ _ hj hbel, hGb _ _ hg hbel⟩
            case measure => simp [intOf]; omega
          · have hnext : Hid ((pre ++ [((⟨a, hlt⟩ : Fin m), (⟨b, hlb⟩ : Fin m))]).map nat2 = Gr.upTo m r a (b + 1)) := by
              show _ = _
              rw [List.map_append, H.out, Gr.upTo_hit hr]
              rfl
            have hlen : pre.length < m * m := by
              have := congrArg List.length H.out
              rw [List.length_map] at this
              rw [this]
              exact Gr.upTo_small hlt hlb
            have HR := Lib.hid hr
            clear hr
            gi_wp2_with (gi_at_call 41; refine (callsIn_wide.2 (hGr wr a b true hg hlt hlb HR.out)).mono ?_; rintro e w1 ⟨rfl, hbel⟩; obtain ⟨fn, tmps, assign, body, hy, hR⟩ := hY pre (⟨a, hlt⟩, ⟨b, hlb⟩) w1 (hJ _ _ _ hj hbel) hlen; simp only [enc2] at hy)
            refine hR.mono ?_
            rintro e W3 (⟨rfl, hJ3, hk3⟩ | ⟨rfl, hJx3⟩)
            · gi_wp2
              go_roundw
              case rel => exact ⟨b + 1, _, by omega, by go_num, hnext, hJ3, hk3 (hGb _ _ hg hbel)⟩
              case measure => simp [intOf]; omega
            · gi_wp2
              refine bodyPost_ret (results_none rfl _ _ _) rfl ?_
              exact ⟨⟨_, rfl⟩, .inr ⟨_, trivial, hJx3⟩⟩
        · obtain rfl : b = m := by omega
          have hnext : Hid (pre.map nat2 = Gr.upTo b r (a + 1) 0) := by show _ = _; rw [H.out, Gr.upTo_row]
          gi_wp2
          go_roundw
          case rel => exact ⟨a + 1, pre, by omega, by go_num, hnext, hj, hg⟩
          case measure => simp [intOf]; omega
    · obtain rfl : a = m := by omega
      gi_wp2
      go_end0
      exact ⟨⟨_, rfl⟩, .inl ⟨pre, by rw [H.out, Gr.upTo_done], hj⟩⟩

/-- the same, as the caller's law asks for it -/
theorem pairs1_adj_stops (m b1 b2 c1 : Nat) (hm : m ≤ 8) (r : Nat → Nat → Bool) (G : World → Prop)
    (hG1 : ∀ W, G W → W.cell? ⟨b1, 0, none⟩ = some (.int .i64 (m : Int)))
    (hG2 : ∀ W, G W → W.cell? ⟨b2, 0, none⟩ = some (.func (.func 41) #[] #[.pointer (some ⟨c1, 0, none⟩)]))
    (hGb : ∀ W W', G W → Below W.heap.size W W' → G W')
    (hGr : ∀ (W : World) (a b : Nat) (t : Bool), G W → a < m → b < m → r a b = t → Calls Tryd.prog 41 #[.int .i64 (a : Int), .int .i64 (b : Int), .pointer (some ⟨c1, 0, none⟩)] W fun e W' => e = .returned (.bool t) ∧ Below W.heap.size W W')
    (w : World) (hw : G w) :
    SeqStopsK Fence.wide 9 Tryd.prog 40 #[.pointer (some ⟨b1, 0, none⟩), .pointer (some ⟨b2, 0, none⟩)] (enc2 (m := m)) (fun W W' => G W → G W') (fun xs => xs.map nat2 = Gr.full m r) (fun _ => True) (m * m) w :=
  fun l J Jx W hW hJ _ hY h0 => pairs1_adj l m b1 b2 c1 hm r G hG1 hG2 hGb hGr J Jx (fun _ _ _ hs hb => hJ _ _ _ none hs (grown_of_below hb none) (fun _ e => by cases e)) hY W (hGb _ _ hw hW) h0


end Go.Proofs.YtojkjdccjomaaaaDoor
