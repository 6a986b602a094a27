/-
  Contracts of package pairs: Solve where something is wrong, and by what there is; Is.
-/
import Derived.Test.YthalopmplekdoaaDoorPairsC
import Derived.BigQuiet
namespace Go.Proofs.YthalopmplekdoaaDoor
open Go.RowKit Go.Shelf

attribute [local go_sem] Oper.semAt_some
set_option linter.unusedSimpArgs false
set_option linter.unusedVariables false

set_option maxRecDepth 100000 in
set_option maxHeartbeats 1000000 in
theorem Solve_err (n : Int) (A : Option Addr) (k c : Nat) (cs : List Or2) (w : World) (hr : RdO w w.heap.size A k c cs) (h : Pa.code n cs ≠ 0) :
    Calls Tryd.prog 11 #[.int .i64 n, .slice A k c] w fun e w' => e = .returned (.tuple #[.slice none 0 0, errv (Pa.code n cs)]) ∧ Below w.heap.size w w' := by
  have H := Lib.hid h
  clear h
  go_enter Tryd.func11, Tryd.ntmps11
  go_wp2_with fail
  refine (PCheck_err n A k c cs _ hr H.out).mono ?_
  rintro e w1 ⟨rfl, hb1⟩
  go_wp2
  go_ret2
  exact ⟨rfl, hb1⟩

theorem Solve_yes (N : Nat) (A : Option Addr) (k c : Nat) (cs : List Or2) (m : List Bool) (w : World) (hr : RdO w w.heap.size A k c cs) (h : Pa.code (N : Int) cs = 0) (hm : Pa.Least cs N m) :
    Calls Tryd.prog 11 #[.int .i64 (N : Int), .slice A k c] w fun e w' => (∃ g, e = .returned (.tuple #[.slice (some ⟨g, 0, none⟩) N N, .nilIface]) ∧ OwnB w' w.heap.size 4 (.slice (some ⟨g, 0, none⟩) N N) m) ∧ Below w.heap.size w w' := by
  obtain ⟨_, h4, _, hg⟩ := Pa.code_good h
  refine (Solve_ok N A k c cs w hr h).mono ?_
  rintro e w' ⟨hb, (⟨⟨i, hi, hc⟩, _⟩ | ⟨hc, g, he, ho⟩)⟩
  · have := Pa.cla_none h4 hg hi hc m
    rw [hm.2.1] at this
    cases this
  · rw [(Pa.pre_least h4 hg hc).only hm] at ho
    exact ⟨⟨g, he, ho⟩, hb⟩
theorem Solve_no (N : Nat) (A : Option Addr) (k c : Nat) (cs : List Or2) (w : World) (hr : RdO w w.heap.size A k c cs) (h : Pa.code (N : Int) cs = 0) (hm : Pa.ans (Pa.right cs) N [] = none) :
    Calls Tryd.prog 11 #[.int .i64 (N : Int), .slice A k c] w fun e w' => e = .returned (.tuple #[.slice none 0 0, errv 5]) ∧ Below w.heap.size w w' := by
  obtain ⟨_, h4, _, hg⟩ := Pa.code_good h
  refine (Solve_ok N A k c cs w hr h).mono ?_
  rintro e w' ⟨hb, (⟨_, he⟩ | ⟨hc, _⟩)⟩
  · exact ⟨he, hb⟩
  · rw [(Pa.pre_least h4 hg hc).ans] at hm
    cases hm

set_option maxRecDepth 100000 in
set_option maxHeartbeats 1000000 in
theorem isTrue_any (bx : Nat) (A : Option Addr) (N c : Nat) (v : List Bool) (a : Int) (s t : Bool) (w : World) (hx : w.cell? ⟨bx, 0, none⟩ = some (.slice A N c)) (hr : RdB w w.heap.size A N c v) (h0 : 0 ≤ a) (hN : a < (N : Int)) (ht : Pa.say v (a, s) = t) :
    Calls Tryd.prog 24 #[.agg #[.int .i64 a, .bool s], .pointer (some ⟨bx, 0, none⟩)] w fun e w' => e = .returned (.bool t) ∧ Below w.heap.size w w' := by
  obtain ⟨i, rfl⟩ : ∃ i : Nat, a = (i : Int) := ⟨a.toNat, by omega⟩
  have hiN : i < N := by omega
  obtain ⟨b, o, rfl, hb, hc⟩ := hr.at_ (by omega)
  have hci := hc i hiN
  obtain ⟨x, hxx⟩ : ∃ x, x = v.getD i false := ⟨_, rfl⟩
  rw [← hxx] at hci
  have HT : Hid (t = (x != s)) := by show _ = _; rw [← ht, hxx]; unfold Pa.say; simp
  have hal : Below w.heap.size w (w.alloc (.cells #[.int .i64 (i : Int), .bool s] 41)) := (Below.refl _ _).alloc (Nat.le_refl _) _
  have k1 := (hal.cell (p := ⟨bx, 0, none⟩) (World.block_lt_of_cell? w _ hx)).trans hx
  have k2 := (hal.cell (p := ⟨b, o + i, none⟩) (World.block_lt_of_cell? w _ hci)).trans hci
  have HAL := Lib.hid hal
  clear hc hci hx hr hxx ht hal hb
  cases x <;> cases s
  all_goals
    go_enter Tryd.func24, Tryd.ntmps24
    go_wp2
    go_quiet (fail)
    go_wp2
    go_ret
    exact ⟨by rw [HT.out]; rfl, HAL.out.trans (Below.drewN' _ _ _)⟩

set_option maxRecDepth 100000 in
set_option maxHeartbeats 1000000 in
theorem PIs_err (n : Int) (A B : Option Addr) (k c m d : Nat) (cs : List Or2) (w : World) (hr : RdO w w.heap.size A k c cs) (h : Pa.code n cs ≠ 0) :
    Calls Tryd.prog 13 #[.int .i64 n, .slice A k c, .slice B m d] w fun e w' => e = .returned (.tuple #[.bool false, errv (Pa.code n cs)]) ∧ Below w.heap.size w w' := by
  have H := Lib.hid h
  clear h
  have hal : Below w.heap.size w (w.alloc (.cells #[.slice B m d] 23)) := (Below.refl _ _).alloc (Nat.le_refl _) _
  have hr1 := hr.past hal
  go_enter Tryd.func13, Tryd.ntmps13
  go_wp2_with fail
  refine (PCheck_err n A k c cs _ hr1 H.out).mono ?_
  rintro e w1 ⟨rfl, hb1⟩
  go_wp2
  go_ret2
  exact ⟨rfl, hal.trans (hb1.mono hal.size)⟩
set_option maxRecDepth 100000 in
set_option maxHeartbeats 1000000 in
theorem PIs_shape (N : Nat) (A B : Option Addr) (k c m d : Nat) (cs : List Or2) (v : List Bool) (w : World) (hr : RdO w w.heap.size A k c cs) (hv : RdB w w.heap.size B m d v) (h : Pa.code (N : Int) cs = 0) (hm : m ≠ N) :
    Calls Tryd.prog 13 #[.int .i64 (N : Int), .slice A k c, .slice B m d] w fun e w' => e = .returned (.tuple #[.bool false, errv 3]) ∧ Below w.heap.size w w' := by
  have H := Lib.hid h
  clear h
  have hN4 := (Pa.code_good H.out).2.1
  have hal : Below w.heap.size w (w.alloc (.cells #[.slice B m d] 23)) := (Below.refl _ _).alloc (Nat.le_refl _) _
  have hr1 := hr.past hal
  have hd : ((m : Int) == (N : Int)) = false := by simp; omega
  have hbig := hv.big
  have hK : Hid (∀ w1, Below (w.alloc (.cells #[.slice B m d] 23)).heap.size (w.alloc (.cells #[.slice B m d] 23)) w1 → w1.cell? ⟨w.heap.size, 0, none⟩ = some (.slice B m d)) := fun w1 hb1 => (hb1.cell (p := ⟨w.heap.size, 0, none⟩) (by simp)).trans (by simp)
  go_enter Tryd.func13, Tryd.ntmps13
  go_wp2_with fail
  refine (PCheck_nil (N : Int) A k c cs _ hr1 H.out).mono ?_
  rintro e w1 ⟨rfl, hb1⟩
  have hk := hK.out w1 hb1
  go_wp2
  go_ret2
  exact ⟨rfl, hal.trans (hb1.mono hal.size)⟩

set_option maxRecDepth 100000 in
set_option maxHeartbeats 2000000 in
theorem PIs_ok (N : Nat) (A B : Option Addr) (k c d : Nat) (cs : List Or2) (v : List Bool) (t : Bool) (w : World) (hr : RdO w w.heap.size A k c cs) (hv : RdB w w.heap.size B N d v) (h : Pa.code (N : Int) cs = 0) (ht : Pa.right cs v = t) :
    Calls Tryd.prog 13 #[.int .i64 (N : Int), .slice A k c, .slice B N d] w fun e w' => e = .returned (.tuple #[.bool t, .nilIface]) ∧ Below w.heap.size w w' := by
  have H := Lib.hid h
  clear h
  have hN4 := (Pa.code_good H.out).2.1
  have HG := Lib.hid (Pa.code_good H.out).2.2.2
  have HT := Lib.hid ht
  clear ht
  have HX := Lib.hid hr.len
  obtain ⟨wa, hwa⟩ : ∃ wa, wa = w.alloc (.cells #[.slice B N d] 23) := ⟨_, rfl⟩
  have hal : Below w.heap.size w wa := by rw [hwa]; exact (Below.refl _ _).alloc (Nat.le_refl _) _
  have hr1 := hr.past hal
  have hv1 := hv.past hal
  have hx1 : wa.cell? ⟨w.heap.size, 0, none⟩ = some (.slice B N d) := by rw [hwa]; simp
  have hd : ((N : Int) == (N : Int)) = true := by simp
  have hmf : ∀ (fn : Fn) (first cap : Array Value) (w : World), (Instr.makeFunc fn first cap).run Tryd.prog w = .ok (.func fn first cap) w := fun _ _ _ _ => rfl
  have hbig := hr.big
  have HAL := Lib.hid hal
  have HW := Lib.hid hwa
  clear hr hv hal
  go_enter Tryd.func13, Tryd.ntmps13
  go_wp2_with fail
  rw [← hwa]
  clear hwa
  refine (PCheck_nil (N : Int) A k c cs _ hr1 H.out).mono ?_
  rintro e w1 ⟨rfl, hb1⟩
  have hx2 := (hb1.cell (p := ⟨w.heap.size, 0, none⟩) (World.block_lt_of_cell? wa _ hx1)).trans hx1
  have hr2 := hr1.past hb1
  have hv2 := hv1.past hb1
  have hb2 := HAL.out.trans (hb1.mono HAL.out.size)
  clear hx1 hr1 hv1 hb1
  obtain ⟨bx, hbx⟩ : ∃ bx, bx = w.heap.size := ⟨_, rfl⟩
  rw [← hbx] at hx2 ⊢
  have HBX := Lib.hid hbx
  clear hbx
  have h0 : Hid (Pa.right (cs.take 0) v = true) := by show _ = _; simp [Pa.right]
  go_wp2
  go_loopw [11, 26] (fun _ i wr => ∃ j : Nat, j ≤ k ∧ i = .int .i64 j ∧ Below w1.heap.size w1 wr ∧ Hid (Pa.right (cs.take j) v = true)) (fun _ i _ => k - (intOf i).toNat)
  case atStart => exact ⟨0, Nat.zero_le _, rfl, Below.refl _ _, h0⟩
  case round =>
    clear h0
    obtain ⟨j, hj, rfl, hbel, HR⟩ := hrel
    have hrr := hr2.past hbel
    have hvr := hv2.past hbel
    have hxr := (hbel.cell (p := ⟨bx, 0, none⟩) (World.block_lt_of_cell? w1 _ hx2)).trans hx2
    have hbr := hb2.trans (hbel.mono hb2.size)
    by_cases hlt : j < k
    · obtain ⟨b1, o1, rfl, hbb, hcc⟩ := hrr.at_ (by omega)
      obtain ⟨g0, g1, g2, g3⟩ := hcc j hlt
      clear hcc
      have hjl : j < cs.length := by rw [HX.out]; exact hlt
      have hmem : cs.getD j or0 ∈ cs := by simp [List.getD, hjl]
      have hgood := HG.out _ hmem
      obtain ⟨⟨⟨a, s⟩, ⟨b, u⟩⟩, hp⟩ : ∃ p, p = cs.getD j or0 := ⟨_, rfl⟩
      rw [← hp] at g0 g1 g2 g3 hgood
      unfold Pa.Good at hgood
      simp only at g0 g1 g2 g3 hgood
      obtain ⟨ha0, haN, hb0, hbN⟩ := hgood
      obtain ⟨t1, ht1⟩ : ∃ t1, Pa.say v (a, s) = t1 := ⟨_, rfl⟩
      obtain ⟨t2, ht2⟩ : ∃ t2, Pa.say v (b, u) = t2 := ⟨_, rfl⟩
      have HN : Hid (Pa.right (cs.take (j + 1)) v = (t1 || t2)) := by
        show _ = _
        rw [Pa.right_to hjl v ((a, s), (b, u)) hp, HR.out, ht1, ht2]; rfl
      have HS : Hid ((t1 || t2) = false → Pa.right cs v = false) := fun hf => Pa.right_stop hjl v ((a, s), (b, u)) hp (by rw [ht1, ht2]; exact hf)
      have HT1 : Hid (Pa.say v (a, s) = t1) := ht1
      have HT2 : Hid (Pa.say v (b, u) = t2) := ht2
      obtain ⟨y, hy⟩ : ∃ y, y = wr.alloc (.cells #[.int .i64 a, .bool s, .int .i64 b, .bool u] 43) := ⟨_, rfl⟩
      have hyb : Below wr.heap.size wr y := by rw [hy]; exact (Below.refl _ _).alloc (Nat.le_refl _) _
      have hO : OrAt wr.heap.size a s b u y := by rw [hy]; exact ⟨by simp, by simp, by simp, by simp⟩
      have hvy := hvr.past hyb
      have hxy := (hyb.cell (p := ⟨bx, 0, none⟩) (World.block_lt_of_cell? wr _ hxr)).trans hxr
      have hby := hbr.trans (hyb.mono hbr.size)
      have hby1 := hbel.trans (hyb.mono hbel.size)
      have HY := Lib.hid hy
      clear hp hmem hjl ht1 ht2 hvr hxr hrr hbr hyb hbel hbb
      go_wp2_with fail
      rw [← hy]
      clear hy g0 g1 g2 g3
      obtain ⟨g, hg⟩ : ∃ g, g = wr.heap.size := ⟨_, rfl⟩
      rw [← hg] at hO ⊢
      have HGG := Lib.hid hg
      clear hg
      refine (isTrue_any bx B N d v a s t1 _ hxy hvy ha0 haN HT1.out).mono ?_
      rintro e w3 ⟨rfl, hb3⟩
      have hO3 := hO.past hb3
      have hv3 := hvy.past hb3
      have hx3 := (hb3.cell (p := ⟨bx, 0, none⟩) (World.block_lt_of_cell? y _ hxy)).trans hxy
      have hy3 := hby1.trans (hb3.mono hby1.size)
      have hz3 := hby.trans (hb3.mono hby.size)
      obtain ⟨p0, p1, p2, p3⟩ := hO3
      clear hO hvy hxy hby1 hby hb3
      cases t1 with
      | true =>
        go_wp2
        go_roundw
        case rel => exact ⟨j + 1, by omega, by go_num, hy3, HN⟩
        case measure => simp [intOf]; omega
      | false =>
        go_wp2_with fail
        refine (isTrue_any bx B N d v b u t2 _ hx3 hv3 hb0 hbN HT2.out).mono ?_
        rintro e w4 ⟨rfl, hb4⟩
        have hy4 := hy3.trans (hb4.mono hy3.size)
        have hz4 := hz3.trans (hb4.mono hz3.size)
        cases t2 with
        | true =>
          go_wp2
          go_roundw
          case rel => exact ⟨j + 1, by omega, by go_num, hy4, HN⟩
          case measure => simp [intOf]; omega
        | false =>
          have hfin : Hid (t = false) := by show _ = _; rw [← HT.out, HS.out rfl]
          go_wp2
          go_ret2
          exact ⟨by rw [hfin.out]; rfl, hz4⟩
    · have hfin : Hid (t = true) := by
        show _ = _
        rw [← HT.out, ← HR.out, List.take_of_length_le (by rw [HX.out]; omega)]
      go_wp2
      go_ret2
      exact ⟨by rw [hfin.out]; rfl, hbr⟩

end Go.Proofs.YthalopmplekdoaaDoor
