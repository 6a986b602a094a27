/-
  Contracts of slices.SortStableFunc at short slices of points with the closure of package havel, of slices.Clone, and of falling: the points in the order of what they want.
-/
import Derived.Test.YtnekbgeablhgiaaBase
import Derived.Test.YtnekbgeablhgiaaLibS
import Derived.Test.YtnekbgeablhgiaaHavelS
import Derived.Shelf.Abstract
import Derived.Lib.SliceRun
namespace Go.Proofs.Ytnekbgeablhgiaa
open Go.RowKit

def stabRen : Go.Shelf.Ren := ⟨fun | 20 => 94 | n => n, fun | 0 => 0 | 3 => 3 | 4 => 4 | 22 => 23 | 24 => 3 | 25 => 55 | n => n, fun | n => n⟩
set_option maxHeartbeats 1000000 in
theorem stabLays : Go.Proofs.SlLaysF.n20 Try.prog stabRen := {
  mixed := by kernel_rfl
  f20 := ⟨Try.f94.name, by kernel_rfl, Try.func94.trans (congrArg some (by kernel_rfl))⟩
  t0 := Try.underlying0
  a0 := Try.isAgg0
  z0 := Try.sizeOf0
  v0 := Try.zeroValue0
  t3 := Try.underlying3
  a3 := Try.isAgg3
  z3 := Try.sizeOf3
  v3 := Try.zeroValue3
  t4 := Try.underlying4
  a4 := Try.isAgg4
  z4 := Try.sizeOf4
  v4 := Try.zeroValue4
  t22 := Try.underlying23
  a22 := Try.isAgg23
  z22 := Try.sizeOf23
  v22 := Try.zeroValue23
  a24 := Try.isAgg3
  z24 := Try.sizeOf3
  t25 := Try.underlying55
  a25 := Try.isAgg55
  z25 := Try.sizeOf55
  v25 := Try.zeroValue55 }

/-- the closure of falling, which has captured the box L of the numbers -/
theorem fall1_any (L b o n c : Nat) (x y p q : Nat) (w : World) (hL : w.cell? ⟨L, 0, none⟩ = some (.slice (some ⟨b, o, none⟩) n c)) (hx : x < n) (hy : y < n)
    (g1 : w.cell? ⟨b, o + x, none⟩ = some (.int .i64 (p : Int))) (g2 : w.cell? ⟨b, o + y, none⟩ = some (.int .i64 (q : Int))) (hp : p ≤ 7) (hq : q ≤ 7) :
    Calls Try.prog 61 #[.int .i64 (x : Int), .int .i64 (y : Int), .pointer (some ⟨L, 0, none⟩)] w fun e w' => e = .returned (.int .i64 ((q : Int) - (p : Int))) ∧ ∃ k, w' = w.drewN k := by
  have k1 : (0 : Int) ≤ (x : Int) := by omega
  have k2 : (x : Int) < (n : Int) := by omega
  have k3 : (0 : Int) ≤ (y : Int) := by omega
  have k4 : (y : Int) < (n : Int) := by omega
  have k5 : IntKind.i64.wrap ((q : Int) - (p : Int)) = (q : Int) - (p : Int) := by rw [IntKind.wrap_i64]; omega
  go_enter Try.func61, Try.ntmps61
  go_wp2
  go_quiet (fail)
  go_wp2
  go_ret
  exact ⟨rfl, _, rfl⟩

/-- a point as a number -/
def pt {m : Nat} (x : Fin (m + 1)) : Value := .int .i64 ((x.val : Nat) : Int)
theorem heap_putRow' {m : Nat} (w : World) (n g : Nat) (cur : Array Value) (e : TypeId) (d : Array (Fin (m + 1))) (hg : w.heap[g]? = some (.cells cur e (0, 0))) :
    ((Go.Sort.putRow pt w g 0 d).drewN n).heap[g]? = some (.cells (Go.Sort.putCells pt 0 d cur) e (0, 0)) := by
  show (Go.Sort.putRow pt w g 0 d).heap[g]? = _
  simp [Go.Sort.putRow, Go.Sort.mapBlock, Array.getElem?_modify, hg, Go.Sort.onCells]
theorem heap_putRow_other' {m : Nat} (w : World) (n g k : Nat) (d : Array (Fin (m + 1))) (hk : k ≠ g) :
    ((Go.Sort.putRow pt w g 0 d).drewN n).heap[k]? = w.heap[k]? := by
  show (Go.Sort.putRow pt w g 0 d).heap[k]? = _
  simp [Go.Sort.putRow, Go.Sort.mapBlock, Array.getElem?_modify, Ne.symm hk]

/-- what the closure reads stays as it is while the points are sorted -/
theorem cell_sorting {m : Nat} (w : World) (g k : Nat) (d : Array (Fin (m + 1))) (os : Array Obj) (a : Addr) (h1 : a.block ≠ g) (h2 : a.block < w.heap.size) : (Go.Proofs.sortWorld pt w g 0 k d os).cell? a = w.cell? a := by
  unfold Go.Proofs.sortWorld
  rw [Go.Sort.cell?_grow _ _ _ (by simpa [Go.Sort.putRow, Go.Sort.mapBlock, Go.Sort.ahead] using h2), Go.Sort.cell?_putRow_other pt _ g 0 d a (Or.inl h1)]
  rfl

theorem insert_own (base g cap m L b o c : Nat) (ns : List Nat) (w : World) (hown : Own w base 3 (.slice (some ⟨g, 0, none⟩) (m + 1) cap) (De.up (List.range (m + 1))))
    (hL : w.cell? ⟨L, 0, none⟩ = some (.slice (some ⟨b, o, none⟩) (m + 1) c)) (hLg : L ≠ g) (hbg : b ≠ g) (hr : Rd w w.heap.size (some ⟨b, o, none⟩) (m + 1) c (De.up ns)) (h7 : ∀ x ∈ ns, x ≤ 7) (h8 : m ≤ 7) :
    Calls Try.prog 94 #[.slice (some ⟨g, 0, none⟩) (m + 1) cap, .int .i64 0, .int .i64 ((m + 1 : Nat) : Int), .func (.func 61) #[] #[.pointer (some ⟨L, 0, none⟩)]] w fun e w' =>
      e = .returned (.tuple #[]) ∧ Own w' base 3 (.slice (some ⟨g, 0, none⟩) (m + 1) cap) (De.up (De.order ns m)) ∧ w.grownBy w' (some g) := by
  have hs : (De.points m).size = m + 1 := De.points_size m
  have hnl : ns.length = m + 1 := by rw [← De.up_len]; exact hr.len
  obtain ⟨b', o', e', hbw, hcell⟩ := hr.at_ (by omega)
  simp only [Option.some.injEq, Addr.mk.injEq, and_true] at e'
  obtain ⟨rfl, rfl⟩ := e'
  have hLw := World.block_lt_of_cell? w _ hL
  have hC : Go.Proofs.CmpReads Try.prog 61 #[.pointer (some ⟨L, 0, none⟩)] pt (De.want ns (n := m)) g 0 (De.points m).size w := by
    intro k os dk _ x y
    have hx := x.isLt
    have hy := y.isLt
    have h1 := hcell x.val hx
    have h2 := hcell y.val hy
    rw [De.up_getD] at h1 h2
    exact fall1_any L b o (m + 1) c x.val y.val (ns.getD x.val 0) (ns.getD y.val 0) _ ((cell_sorting w g k dk os ⟨L, 0, none⟩ hLg hLw).trans hL) hx hy
      ((cell_sorting w g k dk os ⟨b, o + x.val, none⟩ hbg hbw).trans h1) ((cell_sorting w g k dk os ⟨b, o + y.val, none⟩ hbg hbw).trans h2) (De.le_getD h7 _) (De.le_getD h7 _)
  have hH : Go.Sort.Holds pt w g 0 (De.points m) := by
    intro j hj
    rw [hs] at hj
    refine ⟨?_, ?_⟩
    · have := hown.cell j hj
      rw [Nat.zero_add, this, De.up_getD]
      have e1 : (List.range (m + 1)).getD j 0 = j := by simp [List.getD, hj]
      rw [e1]
      unfold pt
      rw [De.points_get hj]
    · rw [Nat.zero_add]; exact hown.frozen j
  have key := Go.Proofs.Any.insertionSortCmpFunc_one stabLays pt (fun _ => rfl) (De.want ns (n := m)) 61 #[.pointer (some ⟨L, 0, none⟩)] g 0 cap 0 (m + 1) (De.points m) w
    (enters_of Try.func61 (by kernel_rfl) rfl) hC hH (Nat.zero_le _) (by rw [hs]; exact Nat.le_refl _) (by rw [hs]; omega)
  rw [hs] at key
  refine Calls.mono key ?_
  rintro e w' ⟨rfl, k, rfl⟩
  have hown' := hown
  rcases hown.2 with ⟨h0, _⟩ | ⟨g', cap', cur, hv, hb, hg, hnc, hcm, hcs, htake⟩
  · cases h0
  · simp only [Value.slice.injEq, Option.some.injEq, Addr.mk.injEq, and_true] at hv
    obtain ⟨rfl, _, rfl⟩ := hv
    refine ⟨rfl, ?_, ⟨rfl, rfl, rfl, by show _ ≤ (Go.Sort.putRow pt w _ 0 _).heap.size; simp [Go.Sort.putRow, Go.Sort.mapBlock], fun j _ hj => heap_putRow_other' _ _ _ _ _ (fun e => hj (by rw [e]))⟩⟩
    have hl2 : (De.up (De.order ns m)).length = m + 1 := by rw [De.up_len, De.order_len]
    have hl3 : (De.up (List.range (m + 1))).length = m + 1 := by simp [De.up]
    have hls := (De.sorted_upto ns m).size
    rw [hl3] at hnc
    unfold Own
    rw [hl2]
    refine ⟨by simp [hl2], .inr ⟨g, cap, _, rfl, hb, heap_putRow' w k g cur _ _ hg, hnc, hcm, by simpa [Go.Sort.putCells] using hcs, ?_⟩⟩
    apply List.ext_getElem?
    intro j
    have hc : cur.size = cap := by simpa using hcs
    by_cases hj : j < m + 1
    · have hjc : j < cur.size := by omega
      have ho := De.order_at (ns := ns) hj
      have hjo : j < (De.order ns m).length := by rw [De.order_len]; exact hj
      have e1 : (De.order ns m)[j] = (De.sorted ns m)[j]!.val := by simpa [List.getD, hjo] using ho
      have e2 : Go.Sort.insertionSort (Go.Proofs.ltOf (De.want ns (n := m))) (De.points m) 0 (m + 1) = De.sorted ns m := rfl
      rw [e2]
      simp [Go.Sort.putCells, hj, hjc, De.up, hjo, hls, e1, pt]
    · have hjo : ¬ j < (De.order ns m).length := by rw [De.order_len]; exact hj
      simp [List.getElem?_take, hj, De.up, hjo]

set_option maxRecDepth 100000 in
set_option maxHeartbeats 1000000 in
theorem stab_own (base g cap n m L b o c : Nat) (ns : List Nat) (w : World) (hm : n = m + 1) (hown : Own w base 3 (.slice (some ⟨g, 0, none⟩) n cap) (De.up (List.range n)))
    (hL : w.cell? ⟨L, 0, none⟩ = some (.slice (some ⟨b, o, none⟩) n c)) (hLg : L ≠ g) (hbg : b ≠ g) (hr : Rd w w.heap.size (some ⟨b, o, none⟩) n c (De.up ns)) (h7 : ∀ x ∈ ns, x ≤ 7) (h8 : n ≤ 8) :
    Calls Try.prog 78 #[.slice (some ⟨g, 0, none⟩) n cap, .int .i64 (n : Int), .func (.func 61) #[] #[.pointer (some ⟨L, 0, none⟩)]] w fun e w' =>
      e = .returned (.tuple #[]) ∧ Own w' base 3 (.slice (some ⟨g, 0, none⟩) n cap) (De.up (De.order ns m)) ∧ w.grownBy w' (some g) := by
  have hI : Calls Try.prog 94 #[.slice (some ⟨g, 0, none⟩) n cap, .int .i64 0, .int .i64 (n : Int), .func (.func 61) #[] #[.pointer (some ⟨L, 0, none⟩)]] w fun e w' =>
      e = .returned (.tuple #[]) ∧ Own w' base 3 (.slice (some ⟨g, 0, none⟩) n cap) (De.up (De.order ns m)) ∧ w.grownBy w' (some g) := by
    subst hm
    exact insert_own base g cap m L b o c ns w hown hL hLg hbg hr h7 (by omega)
  have HI := Lib.hid hI
  clear hI hr hown hL hm h7 hLg hbg
  go_enter Try.func78, Try.ntmps78
  go_wp2
  go_loopw [7, 8] (fun a e wr => a = .int .i64 0 ∧ e = .int .i64 20 ∧ wr = w) (fun _ _ _ => 0)
  case atStart => exact ⟨rfl, rfl, rfl⟩
  case round =>
    obtain ⟨rfl, rfl, rfl⟩ := hrel
    go_wp2_with fail
    refine HI.out.mono ?_
    rintro e w1 ⟨rfl, hown1, hg1⟩
    go_wp2
    go_loopw [6] (fun e wr => e = .int .i64 20 ∧ wr = w1) (fun _ _ => 0)
    case atStart => exact ⟨rfl, rfl⟩
    case round =>
      obtain ⟨rfl, rfl⟩ := hrel
      go_wp2
      go_end0
      exact ⟨rfl, hown1, hg1⟩

theorem sortStable_own (base g cap n m L b o c : Nat) (ns : List Nat) (w : World) (hm : n = m + 1) (hown : Own w base 3 (.slice (some ⟨g, 0, none⟩) n cap) (De.up (List.range n)))
    (hL : w.cell? ⟨L, 0, none⟩ = some (.slice (some ⟨b, o, none⟩) n c)) (hLg : L ≠ g) (hbg : b ≠ g) (hr : Rd w w.heap.size (some ⟨b, o, none⟩) n c (De.up ns)) (h7 : ∀ x ∈ ns, x ≤ 7) (h8 : n ≤ 8) :
    Calls Try.prog 60 #[.slice (some ⟨g, 0, none⟩) n cap, .func (.func 61) #[] #[.pointer (some ⟨L, 0, none⟩)]] w fun e w' =>
      e = .returned (.tuple #[]) ∧ Own w' base 3 (.slice (some ⟨g, 0, none⟩) n cap) (De.up (De.order ns m)) ∧ w.grownBy w' (some g) := by
  have HI := Lib.hid (stab_own base g cap n m L b o c ns w hm hown hL hLg hbg hr h7 h8)
  clear hr hown hL hm h7 hLg hbg
  go_enter Try.func60, Try.ntmps60
  go_wp2_with fail
  refine HI.out.mono ?_
  rintro e w1 ⟨rfl, hown1, hg1⟩
  go_wp2
  go_end0
  exact ⟨rfl, hown1, hg1⟩

set_option maxHeartbeats 1000000 in
/-- slices.Clone of a slice that is not nil -/
theorem Clone_any (b o n c : Nat) (zs : List Int) (w : World) (hr : Rd w w.heap.size (some ⟨b, o, none⟩) n c zs) (hsm : n ≤ 1048576) :
    Calls Try.prog 43 #[.slice (some ⟨b, o, none⟩) n c] w fun e w' => ∃ v, e = .returned v ∧ Own w' w.heap.size 3 v zs ∧ Below w.heap.size w w' := by
  have q22 : ∀ (w : World) (a : Option Addr) (n c n' c' : Nat), (binOp .eql 23 (.slice a n c) (.slice none n' c')).run Try.prog w = .ok (.bool a.isNone) w := fun w a n c n' c' => Lib.run_eql_slice_nil w _ _ a n c n' c' Try.underlying23
  have hown0 : Own (w.alloc (.cells #[] 3)) w.heap.size 3 (.slice (some ⟨w.heap.size, 0, none⟩) 0 0) [] := World.ownsRow_made w #[] 0 (Nat.le_refl _) (Nat.zero_le _) rfl
  have hal : Below w.heap.size w (w.alloc (.cells #[] 3)) := (Below.refl _ _).alloc (Nat.le_refl _) _
  have hr1 := hr.below hal
  have hbase : w.heap.size ≤ (w.alloc (.cells #[] 3)).heap.size := hal.size
  go_enter Try.func43, Try.ntmps43
  go_wp2_with (at_builtin; refine wpList_app _ rfl (.tmp 5) (.tmp 6) _ rfl w.heap.size 3 Try.underlying23 intInfo _ [] rfl hown0 (some ⟨b, o, none⟩) n c zs rfl hr1 (by simp; omega) hbase ?_; intro v1 w1 hown1 hg1 hat1)
  go_wp2
  go_ret
  refine ⟨v1, rfl, by simpa using hown1, below_app hal hown0 hg1 hbase⟩

set_option maxRecDepth 100000 in
set_option maxHeartbeats 1000000 in
/-- the points in the order of what they want -/
theorem falling_any (b o n m c : Nat) (ns : List Nat) (w : World) (hm : n = m + 1) (hr : Rd w w.heap.size (some ⟨b, o, none⟩) n c (De.up ns)) (h7 : ∀ x ∈ ns, x ≤ 7) (h8 : n ≤ 8) :
    Calls Try.prog 44 #[.slice (some ⟨b, o, none⟩) n c] w fun e w' => ∃ g, e = .returned (.slice (some ⟨g, 0, none⟩) n n) ∧ Own w' w.heap.size 3 (.slice (some ⟨g, 0, none⟩) n n) (De.up (De.order ns m)) ∧ Below w.heap.size w w' := by
  obtain ⟨i0, hi, hz0, hz1, hz2⟩ := info_parts intInfo
  have hn1 : 1 ≤ n := by omega
  obtain ⟨b', o', e', hbw, _⟩ := hr.at_ (by omega)
  simp only [Option.some.injEq, Addr.mk.injEq, and_true] at e'
  obtain ⟨rfl, rfl⟩ := e'
  have HM := Lib.hid hm
  have H7 := Lib.hid h7
  clear hm h7
  obtain ⟨W0, hW0⟩ : ∃ W0, W0 = w.alloc (.cells #[.slice (some ⟨b, o, none⟩) n c] 23) := ⟨_, rfl⟩
  have hb0 : Below w.heap.size w W0 := by rw [hW0]; exact (Below.refl _ _).alloc (Nat.le_refl _) _
  have hs0 : w.heap.size < W0.heap.size := by rw [hW0]; simp
  have hc0 : W0.cell? ⟨w.heap.size, 0, none⟩ = some (.slice (some ⟨b, o, none⟩) n c) := by rw [hW0]; simp
  go_enter Try.func44, Try.ntmps44
  go_wp2_with (rw [← hW0]; refine wpList_make_full _ rfl (.tmp 6) (.tmp 6) 23 rfl W0.heap.size 3 i0 (.int .i64 0) 1 Try.underlying23 hi hz0 hz1 .i64 .i64 _ _ n rfl rfl (by omega) (by omega) (by rw [hz2]; omega) (by simp only [maxLen]; omega) (Nat.le_refl _) ?_; intro w2 hown2 hg2; have hown := Own.made hown2; clear hown2 hW0)
  have hb12 : Below W0.heap.size W0 w2 := (Below.refl _ _).grown hg2 (Nat.le_refl _) (fun _ h => by cases h)
  have hlr : (De.up (List.range n)).length = n := by simp [De.up]
  have HLR := Lib.hid hlr
  clear hlr
  go_loopw [4, 10] (fun _ i wr => ∃ j : Nat, j ≤ n ∧ i = .int .i64 j ∧ Below W0.heap.size W0 wr ∧ Own wr W0.heap.size 3 (.slice (some ⟨W0.heap.size, 0, none⟩) n n) (fillTo (De.up (List.range n)) j)) (fun _ i _ => n - (intOf i).toNat)
  case atStart => exact ⟨0, Nat.zero_le _, rfl, hb12, by rw [fillTo_zero, HLR.out]; exact hown⟩
  case round =>
    obtain ⟨j, hj, rfl, hbel, hown3⟩ := hrel
    by_cases hlt : j < n
    · have g2 := hown3.cell j hlt
      have g3 := hown3.frozen j
      have hst := hown3.store j (j : Int)
      have hown4 := hst.1
      have hqd : (De.up (List.range n)).getD j 0 = (j : Int) := by rw [De.up_getD]; simp [List.getD, hlt]
      rw [← hqd, fillTo_succ (by rw [HLR.out]; exact hlt), hqd] at hown4
      have hb4 : Below W0.heap.size W0 (wr.setCell ⟨W0.heap.size, j, none⟩ (.int .i64 (j : Int))) := hbel.setCell (p := ⟨W0.heap.size, j, none⟩) (Nat.le_refl _) _
      clear hst hown3 hqd
      go_wp2
      go_roundw
      case rel => exact ⟨j + 1, by omega, by go_num, hb4, hown4⟩
      case measure => simp [intOf]; omega
    · obtain rfl : j = n := by omega
      have hfa : fillTo (De.up (List.range j)) j = De.up (List.range j) := by
        have := fillTo_all (De.up (List.range j))
        rwa [HLR.out] at this
      rw [hfa] at hown3
      clear hfa
      have hc3 : wr.cell? ⟨w.heap.size, 0, none⟩ = some (.slice (some ⟨b, o, none⟩) j c) := (hbel.cell (p := ⟨w.heap.size, 0, none⟩) (by show w.heap.size < _; omega)).trans hc0
      have hr3 : Rd wr wr.heap.size (some ⟨b, o, none⟩) j c (De.up ns) := ((hr.below hb0).more (by omega)).past hbel
      have HS := Lib.hid (sortStable_own W0.heap.size W0.heap.size j j m w.heap.size b o c ns wr HM.out hown3 hc3 (by omega) (by omega) hr3 H7.out h8)
      clear hc3 hr3
      go_wp2_with fail
      refine HS.out.mono ?_
      rintro e w4 ⟨rfl, hown5, hg5⟩
      go_wp2
      go_ret
      exact ⟨_, rfl, hown5.mono (by omega), hb0.trans ((hbel.grown hg5 hbel.size (fun k e => by cases e; exact Nat.le_refl _)).mono (by omega))⟩

end Go.Proofs.Ytnekbgeablhgiaa
