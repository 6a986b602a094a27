/-
  Contract of Bridges of package cuts: the lines that hold their ends together, or what is wrong.
-/
import Derived.Test.YtehkkpkhpbbpnaaDoorCutsG
import Derived.Deep.RegionHeld3
namespace Go.Proofs.YtehkkpkhpbbpnaaDoor
open Go.RowKit

set_option linter.unusedSimpArgs false

/-- all blocks below B but L lie as they lay -/
def KB (B L : Nat) (w w' : World) : Prop := w'.os = w.os ∧ w'.tape = w.tape ∧ w'.output = w.output ∧ w.heap.size ≤ w'.heap.size ∧ ∀ k, k < B → k ≠ L → w'.heap[k]? = w.heap[k]?
theorem KB.refl (B L : Nat) (w : World) : KB B L w w := ⟨rfl, rfl, rfl, Nat.le_refl _, fun _ _ _ => rfl⟩
theorem KB.trans {B L : Nat} {w1 w2 w3 : World} (h : KB B L w1 w2) (h' : KB B L w2 w3) : KB B L w1 w3 :=
  ⟨h'.1.trans h.1, h'.2.1.trans h.2.1, h'.2.2.1.trans h.2.2.1, Nat.le_trans h.2.2.2.1 h'.2.2.2.1, fun k h1 h2 => (h'.2.2.2.2 k h1 h2).trans (h.2.2.2.2 k h1 h2)⟩
theorem KB.below {B L : Nat} {w w' : World} (h : Below B w w') : KB B L w w' := ⟨h.os, h.tape, h.output, h.size, fun k h1 _ => h.block k h1⟩
theorem KB.cell {B L : Nat} {w w' : World} (h : KB B L w w') {a : Addr} (h1 : a.block < B) (h2 : a.block ≠ L) : w'.cell? a = w.cell? a := World.cell?_of_block (h.2.2.2.2 a.block h1 h2)

/-- what the closure of Bridges leaves -/
def B1Post (B Lb : Nat) (w : World) (zs : List Gr.Ln) (e : Ending) (w' : World) : Prop :=
  e = .returned (.tuple #[]) ∧ KB B Lb w w' ∧ ∃ v, OwnP w' B 30 v zs ∧ Boxed w' Lb 22 v

set_option maxRecDepth 100000 in
set_option maxHeartbeats 1000000 in
/-- the closure of Bridges: Ls is the box of the search, Ll that of the lines, Lb that of the lines that were found -/
theorem brs1_any (B Lb Ls Ll g1 gl m p j n c : Nat) (A : Option Addr) (ls zs : List Gr.Ln) (v : Value) (x y : Int) (w : World) (hown : OwnP w B 30 v zs) (hbx : Boxed w Lb 22 v)
    (hL0 : w.cell? ⟨Ls, 0, none⟩ = some (.slice (some ⟨g1, 0, none⟩) m m)) (hL2 : w.cell? ⟨Ls, 2, none⟩ = some (.slice (some ⟨gl, 0, none⟩) m m)) (hLl : w.cell? ⟨Ll, 0, none⟩ = some (.slice A n c))
    (hr : RdP w w.heap.size A n c ls) (hsm : n ≤ 1048576) (hx : w.cell? ⟨g1, p, none⟩ = some (.int .i64 x)) (hy : w.cell? ⟨gl, j, none⟩ = some (.int .i64 y)) (hp : p < m) (hj : j < m) (hB : B ≤ w.heap.size) (hLb : Lb < B) (hzs : zs.length ≤ 100) :
    Calls Tryd.prog 19 #[.int .i64 (p : Int), .int .i64 (j : Int), .pointer (some ⟨Ls, 0, none⟩), .pointer (some ⟨Ll, 0, none⟩), .pointer (some ⟨Lb, 0, none⟩)] w
      (B1Post B Lb w (zs ++ if x < y ∧ ls.countP (Dp.jn (p : Int) (j : Int)) = 1 then [(min (p : Int) (j : Int), max (p : Int) (j : Int))] else [])) := by
  have b1 : (0 : Int) ≤ (j : Int) := by omega
  have b2 : (j : Int) < (m : Int) := by omega
  have b3 : (0 : Int) ≤ (p : Int) := by omega
  have b4 : (p : Int) < (m : Int) := by omega
  by_cases hxy : x < y
  · have hcnt := edges_any A n c ls (p : Int) (j : Int) w.drew hr hsm
    have hlw := hbx.lt
    have i0 := World.block_lt_of_cell? w _ hL0
    have i2 := World.block_lt_of_cell? w _ hL2
    have il := World.block_lt_of_cell? w _ hLl
    have ix := World.block_lt_of_cell? w _ hx
    have iy := World.block_lt_of_cell? w _ hy
    have hkeep : ∀ w5 : World, Below w.drew.heap.size w.drew w5 → w5.cell? ⟨Ls, 0, none⟩ = some (.slice (some ⟨g1, 0, none⟩) m m) ∧ w5.cell? ⟨Ls, 2, none⟩ = some (.slice (some ⟨gl, 0, none⟩) m m) ∧ w5.cell? ⟨Ll, 0, none⟩ = some (.slice A n c) ∧ w5.cell? ⟨g1, p, none⟩ = some (.int .i64 x) ∧ w5.cell? ⟨gl, j, none⟩ = some (.int .i64 y) := fun w5 hb =>
      ⟨(hb.cell (p := ⟨Ls, 0, none⟩) i0).trans hL0, (hb.cell (p := ⟨Ls, 2, none⟩) i2).trans hL2, (hb.cell (p := ⟨Ll, 0, none⟩) il).trans hLl, (hb.cell (p := ⟨g1, p, none⟩) ix).trans hx, (hb.cell (p := ⟨gl, j, none⟩) iy).trans hy⟩
    have HK := Lib.hid hkeep
    have hown1 : Hid (∀ w5 : World, Below w.drew.heap.size w.drew w5 → OwnP w5 B 30 v zs ∧ Boxed w5 Lb 22 v ∧ KB B Lb w w5 ∧ B ≤ w5.heap.size) := fun w5 hb =>
      ⟨OwnP.below (w := w.drew) hown hb, (hb.block Lb hlw).trans hbx, KB.trans (w2 := w.drew) ⟨rfl, rfl, rfl, Nat.le_refl _, fun _ _ _ => rfl⟩ (KB.below (hb.mono hB)), Nat.le_trans hB hb.size⟩
    obtain ⟨t, ht⟩ : ∃ t, t = ls.countP (Dp.jn (p : Int) (j : Int)) := ⟨_, rfl⟩
    rw [← ht] at hcnt ⊢
    have HC := Lib.hid hcnt
    have HT := Lib.hid ht
    clear hkeep hcnt ht hown hbx
    by_cases ht1 : t = 1
    · have hd : decide (((t : Nat) : Int) = 1) = true := by simp [ht1]
      have hbe : (((t : Nat) : Int) == 1) = true := by simp [ht1]
      have hg : Hid ((zs ++ if x < y ∧ t = 1 then [(min (p : Int) (j : Int), max (p : Int) (j : Int))] else []) = zs ++ [(min (p : Int) (j : Int), max (p : Int) (j : Int))]) := by
        show _ = _
        rw [if_pos ⟨hxy, ht1⟩]
      rw [hg.out]
      clear ht1
      go_enter Tryd.func19, Tryd.ntmps19
      go_wp2
      go_region_held3 (fun w' : World => w'.cell? ⟨Ls, 0, none⟩ = some (.slice (some ⟨g1, 0, none⟩) m m) ∧ w'.cell? ⟨Ls, 2, none⟩ = some (.slice (some ⟨gl, 0, none⟩) m m) ∧ w'.cell? ⟨Ll, 0, none⟩ = some (.slice A n c) ∧ w'.cell? ⟨g1, p, none⟩ = some (.int .i64 x) ∧ w'.cell? ⟨gl, j, none⟩ = some (.int .i64 y)) (first | exact ⟨hL0, hL2, hLl, hx, hy⟩ | assumption)
        (first
          | (go_at_call 20; refine HC.out.mono ?_; rintro e w5 ⟨rfl, hb5⟩; have hk5 := HK.out w5 hb5))
      obtain ⟨hown5, hbx5, hkb5, hB5⟩ := hown1.out w5 hb5
      have c5 := hbx5.cell
      have f5 := hbx5.frozen
      have lt5 := hbx5.lt
      have hW : Below w5.heap.size w5 (w5.alloc (.cells #[.int .i64 (min (p : Int) (j : Int)), .int .i64 (max (p : Int) (j : Int))] 30)) := (Below.refl _ _).alloc (Nat.le_refl _) _
      have hown6 := hown5.below hW
      have hbx6 : Boxed (w5.alloc (.cells #[.int .i64 (min (p : Int) (j : Int)), .int .i64 (max (p : Int) (j : Int))] 30)) Lb 22 v := (hW.block Lb lt5).trans hbx5
      have hkb6 := hkb5.trans (KB.below (L := Lb) (hW.mono hB5))
      have hatb := hown5.at_base
      clear hk5 hL0 hL2 hLl hx hy hown5 hbx5 hkb5 hW
      go_wp2_with (at_builtin; refine wpList_appP _ rfl (.tmp 25) (.tmp 33) _ rfl B 30 Tryd.underlying22 lineInfo _ _ rfl hown6 _ 1 1 [(min (p : Int) (j : Int), max (p : Int) (j : Int))] rfl (RdP.one w5 _ _) (by omega) (by simp; omega) ?_; intro v3 w3 hown3 hg3 hat3; have hbx3 := hbx6.kept hg3 (fun e => by have := hatb Lb e.symm; omega); have c3 := hbx3.cell; have f3 := hbx3.frozen; have hkb3 : KB B Lb (w5.alloc (.cells #[.int .i64 (min (p : Int) (j : Int)), .int .i64 (max (p : Int) (j : Int))] 30)) w3 := ⟨hg3.os, hg3.tape, hg3.output, hg3.size, fun k h1 h2 => hg3.block k (Nat.lt_of_lt_of_le h1 (by simp; omega)) (fun e => by have := hatb k e.symm; omega)⟩; clear hg3 hat3 hbx6 hown6; obtain ⟨A3, e3, rfl, hr3⟩ := hown3.rd; have HO3 := Lib.hid hown3; have lt3 := hown3.at_base; clear hown3 hr3)
      go_end0
      have hW7 : ∀ (u : Value) k, k ≠ Lb → (w3.setCell ⟨Lb, 0, none⟩ u).heap[k]? = w3.heap[k]? := fun u k hk => Below.heap_setCell w3 ⟨Lb, 0, none⟩ u k hk
      have hlen : (zs ++ [(min (p : Int) (j : Int), max (p : Int) (j : Int))]).length = zs.length + 1 := by simp
      rw [hlen] at HO3 lt3
      refine ⟨rfl, (hkb6.trans hkb3).trans ⟨rfl, rfl, rfl, by simp, fun k _ hk => hW7 _ k hk⟩, _, ownsRow_same HO3.out (fun k hk => hW7 _ k (fun e => by have := lt3 k hk; omega)), Boxed.set _ hbx3⟩
    · have hd : decide (((t : Nat) : Int) = 1) = false := by simp; omega
      have hbe : (((t : Nat) : Int) == 1) = false := by simp; omega
      have hg : Hid ((zs ++ if x < y ∧ t = 1 then [(min (p : Int) (j : Int), max (p : Int) (j : Int))] else []) = zs) := by
        show _ = _
        rw [if_neg (by rintro ⟨_, h⟩; exact ht1 h)]
        simp
      rw [hg.out]
      clear ht1
      go_enter Tryd.func19, Tryd.ntmps19
      go_wp2
      go_region_held3 (fun w' : World => w'.cell? ⟨Ls, 0, none⟩ = some (.slice (some ⟨g1, 0, none⟩) m m) ∧ w'.cell? ⟨Ls, 2, none⟩ = some (.slice (some ⟨gl, 0, none⟩) m m) ∧ w'.cell? ⟨Ll, 0, none⟩ = some (.slice A n c) ∧ w'.cell? ⟨g1, p, none⟩ = some (.int .i64 x) ∧ w'.cell? ⟨gl, j, none⟩ = some (.int .i64 y)) (first | exact ⟨hL0, hL2, hLl, hx, hy⟩ | assumption)
        (first
          | (go_at_call 20; refine HC.out.mono ?_; rintro e w5 ⟨rfl, hb5⟩; have hk5 := HK.out w5 hb5))
      go_wp2
      go_end0
      obtain ⟨hown5, hbx5, hkb5, hB5⟩ := hown1.out w5 hb5
      exact ⟨rfl, hkb5, v, hown5, hbx5⟩
  · have hg : Hid ((zs ++ if x < y ∧ ls.countP (Dp.jn (p : Int) (j : Int)) = 1 then [(min (p : Int) (j : Int), max (p : Int) (j : Int))] else []) = zs) := by
      show _ = _
      rw [if_neg (by rintro ⟨h, _⟩; exact hxy h)]
      simp
    rw [hg.out]
    have hxd : decide (x < y) = false := by simpa using hxy
    have HO := Lib.hid hown
    have HBX := Lib.hid hbx
    clear hown hbx hr
    go_enter Tryd.func19, Tryd.ntmps19
    go_wp2
    go_quiet (fail)
    go_wp2
    go_end0
    exact ⟨rfl, KB.refl _ _ _, v, HO.out, HBX.out⟩

/-! ### a sort of no lines -/
set_option maxRecDepth 100000 in
theorem insertLn_nil (w : World) : Calls Tryd.prog 37 #[.slice none 0 0, .int .i64 0, .int .i64 0, .func (.func 22) #[] #[]] w fun e w' => e = .returned (.tuple #[]) ∧ w = w' := by
  go_enter Tryd.func37, Tryd.ntmps37
  go_wp2
  refine wp_loop_rounds 1 ?_
  rw [rounds_succ]
  go_wp2
  go_end0
  exact ⟨rfl, rfl⟩
set_option maxRecDepth 100000 in
set_option maxHeartbeats 1000000 in
theorem pdqLn_nil (lim : Int) (w : World) : Calls Tryd.prog 28 #[.slice none 0 0, .int .i64 0, .int .i64 0, .int .i64 lim, .func (.func 22) #[] #[]] w fun e w' => e = .returned (.tuple #[]) ∧ w = w' := by
  go_enter Tryd.func28, Tryd.ntmps28
  go_wp2
  refine wp_loop_rounds 1 ?_
  rw [rounds_succ]
  go_wp2_with fail
  refine (insertLn_nil _).mono ?_
  rintro e w1 ⟨rfl, rfl⟩
  go_wp2
  (try simp only [Exit.inBlock, Exit.then]); refine bodyPost_ret (results_none rfl _ _ _) rfl ?_
  exact ⟨rfl, rfl⟩
theorem sortLn_nil (w : World) : Calls Tryd.prog 21 #[.slice none 0 0, .func (.func 22) #[] #[]] w fun e w' => e = .returned (.tuple #[]) ∧ w = w' := by
  go_enter Tryd.func21, Tryd.ntmps21
  go_wp2_with fail
  refine (Len_small 0 _ (by omega)).mono ?_
  rintro e w1 ⟨⟨l, rfl⟩, rfl⟩
  go_wp2_with fail
  refine (pdqLn_nil l _).mono ?_
  rintro e w1 ⟨rfl, rfl⟩
  go_wp2
  go_end0
  exact ⟨rfl, rfl⟩

set_option maxRecDepth 100000 in
set_option maxHeartbeats 1000000 in
theorem Bridges_err (n : Int) (A : Option Addr) (k c : Nat) (ls : List Gr.Ln) (w : World) (hr : RdP w w.heap.size A k c ls) (h : Gr.code n ls ≠ 0) :
    Calls Tryd.prog 11 #[.int .i64 n, .slice A k c] w fun e w' => e = .returned (.tuple #[.slice none 0 0, errv (Gr.code n ls)]) ∧ Below w.heap.size w w' := by
  have H := Lib.hid h
  clear h
  have hb0 : Below w.heap.size w (w.alloc (.cells #[.slice A k c] 22)) := (Below.refl _ _).alloc (Nat.le_refl _) _
  have hr0 := hr.past hb0
  go_enter Tryd.func11, Tryd.ntmps11
  go_wp2_with fail
  refine (searched_err n A k c ls _ hr0 H.out).mono ?_
  rintro e w1 ⟨rfl, hb1⟩
  have hb01 := hb0.trans (hb1.mono hb0.size)
  go_wp2
  go_ret2
  exact ⟨rfl, hb01.alloc hb01.size _⟩

set_option maxRecDepth 100000 in
set_option maxHeartbeats 1000000 in
theorem Bridges_good (m : Nat) (A : Option Addr) (k c : Nat) (ls : List Gr.Ln) (w : World) (hr : RdP w w.heap.size A k c ls) (h : Gr.code (m : Int) ls = 0) :
    Calls Tryd.prog 11 #[.int .i64 (m : Int), .slice A k c] w fun e w' => Below w.heap.size w w' ∧ ∃ v, e = .returned (.tuple #[v, .nilIface]) ∧ OwnP w' w.heap.size 30 v (Dp.brl m ls) := by
  have hm8 : m ≤ 8 := by have := (Gr.code_zero.1 h).2.1; omega
  have hm1 : 1 ≤ m := by have := (Gr.code_zero.1 h).1; omega
  have hk24 : k ≤ 1048576 := by have := (Gr.code_zero.1 h).2.2.1; have := hr.len; omega
  obtain ⟨F, hF⟩ := Dp.whole_exist (Wa.nrow_ok m ls)
  have hfin : Hid (∀ os : List Gr.Ln, os.Perm (Dp.brs m ls F m) → os.Pairwise (fun p q => ¬ Dp.lnLt q p) → os = Dp.brl m ls) := fun os h1 h2 => Dp.brl_of h hF h1 h2
  have H := Lib.hid h
  have HF := Lib.hid hF
  clear h hF
  obtain ⟨a, ha⟩ : ∃ a, a = w.heap.size := ⟨_, rfl⟩
  obtain ⟨W0, hW0⟩ : ∃ W0, W0 = w.alloc (.cells #[.slice A k c] 22) := ⟨_, rfl⟩
  have hb0 : Below a w W0 := by rw [hW0, ha]; exact (Below.refl _ _).alloc (Nat.le_refl _) _
  have hs0 : W0.heap.size = a + 1 := by rw [hW0, ha]; simp
  have hr0 : RdP W0 W0.heap.size A k c ls := by rw [← ha] at hr; exact (hr.below hb0).more (by omega)
  have hl0 : W0.cell? ⟨a, 0, none⟩ = some (.slice A k c) := by rw [hW0, ha]; simp
  rw [← ha]
  have HA := Lib.hid ha
  have HW0 := Lib.hid hW0
  clear hW0 ha
  go_enter Tryd.func11, Tryd.ntmps11
  go_wp2_with fail
  rw [← HA.out, ← HW0.out]
  refine (searched_good m A k c ls F HF.out _ hr0 H.out).mono ?_
  rintro e w1 ⟨hb1, ga, gc, gl, rfl, o1, o3, o4⟩
  have l1 := o1.lt ga rfl
  have l3 := o3.lt gc rfl
  have l4 := o4.lt gl rfl
  have hs1 := hb1.size
  have hr1 := hr0.past hb1
  have hl1 := (hb1.cell (p := ⟨a, 0, none⟩) (show a < W0.heap.size by omega)).trans hl0
  obtain ⟨b, hb⟩ : ∃ b, b = w1.heap.size := ⟨_, rfl⟩
  obtain ⟨W, hW⟩ : ∃ W, W = (w1.alloc (.cells #[.slice (some ⟨ga, 0, none⟩) m m, .slice (some ⟨gc, 0, none⟩) m m, .slice (some ⟨gl, 0, none⟩) m m] 44)).alloc (.cells #[.slice none 0 0] 22) := ⟨_, rfl⟩
  have hWs : W.heap.size = b + 2 := by rw [hW, hb]; simp
  have hbW : Below b w1 W := by rw [hW, hb]; exact ((Below.refl _ _).alloc (Nat.le_refl _) _).alloc (by simp) _
  have hh : W.heap[b]? = some (.cells #[.slice (some ⟨ga, 0, none⟩) m m, .slice (some ⟨gc, 0, none⟩) m m, .slice (some ⟨gl, 0, none⟩) m m] 44 (0, 0)) := by
    rw [hW, hb]
    exact (Below.heap_alloc _ _ _ (by simp)).trans (heap_new _ _)
  have hbx : Boxed W (b + 1) 22 (.slice none 0 0) := by
    have := Boxed.new (w1.alloc (.cells #[.slice (some ⟨ga, 0, none⟩) m m, .slice (some ⟨gc, 0, none⟩) m m, .slice (some ⟨gl, 0, none⟩) m m] 44)) 22 (.slice none 0 0)
    rw [← hW, World.size_alloc, ← hb] at this
    exact this
  have q1 : Own W W0.heap.size 3 (.slice (some ⟨ga, 0, none⟩) m m) (Dp.mets m F) := o1.same (fun k hk => by cases hk; exact hbW.block ga (by omega))
  have q3 : Own W W0.heap.size 3 (.slice (some ⟨gc, 0, none⟩) m m) (Dp.pars m F) := o3.same (fun k hk => by cases hk; exact hbW.block gc (by omega))
  have q4 : Own W W0.heap.size 3 (.slice (some ⟨gl, 0, none⟩) m m) (Dp.lows m (Wa.nrow m ls) F) := o4.same (fun k hk => by cases hk; exact hbW.block gl (by omega))
  have hrB : RdP W b A k c ls := by rw [← hb] at hr1; exact hr1.below hbW
  have hbw : Below a w W := (hb0.trans (hb1.mono (by omega))).trans (hbW.mono (by omega))
  have hlW := (hbW.cell (p := ⟨a, 0, none⟩) (show a < b by omega)).trans hl1
  have key := each_any m 19 m (some ⟨gc, 0, none⟩) (.slice (some ⟨ga, 0, none⟩) m m) (.slice (some ⟨gl, 0, none⟩) m m) #[.pointer (some ⟨b, 0, none⟩), .pointer (some ⟨a, 0, none⟩), .pointer (some ⟨b + 1, 0, none⟩)] (Dp.pars m F)
    (fun j V => KB (b + 2) (b + 1) W V ∧ ∃ v, OwnP V (b + 2) 30 v (Dp.brs m ls F j) ∧ Boxed V (b + 1) 22 v) W hm8 (enters_of Tryd.func19 (by kernel_rfl) rfl)
    (fun V hV => ⟨KB.below (hV.mono (by omega)), .slice none 0 0, OwnP.nil _ _ _, (hV.block (b + 1) (by omega)).trans hbx⟩)
    (fun j V hJ => (q3.same (fun k hk => by cases hk; exact hJ.1.2.2.2.2 gc (by omega) (by omega))).rd')
    (fun j V hj hneg hJ => by
      rw [Dp.pars_at F hj] at hneg
      have hn : Dp.brAt m ls F j = [] := by
        have : Dp.par F (-1) j = -1 := (HF.out.par (Wa.nrow_ok m ls) hj).elim id (fun ⟨q, _, h, _⟩ => by omega)
        unfold Dp.brAt
        rw [if_neg (by rintro ⟨h, _⟩; exact h this)]
      rw [Dp.brs_succ, hn, List.append_nil]
      exact hJ)
    (fun j V hj hpos hJ => by
      rw [Dp.pars_at F hj] at hpos ⊢
      obtain ⟨hkb, v, hov, hbv⟩ := hJ
      obtain ⟨q, hq, hpq, _, hmq, _⟩ : ∃ q, q < m ∧ Dp.par F (-1) j = (q : Int) ∧ j ∈ Wa.nrow m ls q ∧ Dp.met F 0 q < Dp.met F 0 j ∧ Dp.left F 0 j < Dp.left F 0 q := (HF.out.par (Wa.nrow_ok m ls) hj).elim (fun h => by omega) id
      have x1 := (hkb.cell (a := ⟨ga, q, none⟩) (show ga < _ by omega) (show ga ≠ _ by omega)).trans (q1.cell q hq)
      have x2 := (hkb.cell (a := ⟨gl, j, none⟩) (show gl < _ by omega) (show gl ≠ _ by omega)).trans (q4.cell j hj)
      rw [Dp.mets_at F hq] at x1
      have hVs : b + 2 ≤ V.heap.size := by have := hkb.2.2.2.1; omega
      have hrV : RdP V V.heap.size A k c ls := hrB.keep (by omega) (fun p hp => hkb.cell (by omega) (by omega))
      have hat : Dp.brAt m ls F j = if ((Dp.met F 0 q : Nat) : Int) < (Dp.lows m (Wa.nrow m ls) F).getD j 0 ∧ ls.countP (Dp.jn (q : Int) (j : Int)) = 1 then [(min (q : Int) (j : Int), max (q : Int) (j : Int))] else [] := by
        unfold Dp.brAt
        rw [hpq]
        have : (q : Int) ≠ -1 := by omega
        simp [this]
      rw [hpq, Dp.brs_succ, hat]
      have := brs1_any (b + 2) (b + 1) b a ga gl m q j k c A ls (Dp.brs m ls F j) v _ _ V hov hbv
        ((hkb.cell (a := ⟨b, 0, none⟩) (show b < _ by omega) (show b ≠ b + 1 by omega)).trans (cell_of3 hh (i := 0) rfl)) ((hkb.cell (a := ⟨b, 2, none⟩) (show b < _ by omega) (show b ≠ b + 1 by omega)).trans (cell_of3 hh (i := 2) rfl))
        ((hkb.cell (a := ⟨a, 0, none⟩) (show a < _ by omega) (show a ≠ b + 1 by omega)).trans hlW) hrV hk24 x1 x2 hq hj hVs (by omega) (by have := Dp.brs_len m ls F j; omega)
      refine Calls.mono this ?_
      rintro e V' ⟨rfl, hkb', v', hov', hbv'⟩
      exact ⟨rfl, hkb.trans hkb', v', hov', hbv'⟩)
  have hab : a < b := by omega
  have HK := Lib.hid key
  have HB := Lib.hid hb
  have HW := Lib.hid hW
  clear key hW hb q1 q3 q4 hh hr o1 o3 o4 hr0 hr1 hrB hlW hl1 hl0 hbx
  go_wp2_with fail
  rw [← HB.out, ← HW.out]
  refine HK.out.mono ?_
  rintro e w2 ⟨rfl, hkb, v, hov, hbv⟩
  have hb2 : Below a w w2 := hbw.trans ⟨hkb.1, hkb.2.1, hkb.2.2.1, hkb.2.2.2.1, fun k hk => hkb.2.2.2.2 k (by omega) (by omega)⟩
  have c2 := hbv.cell
  have lt2 := hbv.lt
  have hbl := Dp.brs_len m ls F m
  rcases hov.2 with ⟨rfl, h0⟩ | ⟨g, cap, cur, rfl, hgb, _⟩
  · have hf : Hid ([] = Dp.brl m ls) := hfin.out [] (by rw [List.eq_nil_of_length_eq_zero h0]) (by simp)
    go_wp2_with fail
    refine (sortLn_nil _).mono ?_
    rintro e w3 ⟨rfl, rfl⟩
    go_wp2
    go_ret2
    refine ⟨hb2, _, rfl, ?_⟩
    rw [← hf.out]
    exact OwnP.nil _ _ _
  · have hs := sortLn_own (b + 2) g cap (Dp.brs m ls F m).length (Dp.brs m ls F m) w2 rfl hov (by omega)
    have HS := Lib.hid hs
    obtain ⟨n2, hn2⟩ : ∃ n2, n2 = (Dp.brs m ls F m).length := ⟨_, rfl⟩
    rw [← hn2] at HS c2
    have hbv' := Lib.hid hbv
    rw [← hn2] at hbv'
    clear hs hov hbv hn2
    go_wp2_with fail
    refine HS.out.mono ?_
    rintro e w3 ⟨rfl, hg3, os, hp, hso, ho⟩
    have hbv3 := hbv'.out.kept hg3 (fun e => by have : b + 1 = g := Option.some.inj e; omega)
    have c3 := hbv3.cell
    have hf := Lib.hid (hfin.out os hp hso)
    have hb3 : Below a w w3 := hb2.grown hg3 (by omega) (fun k e => by have : g = k := Option.some.inj e; omega)
    have HO := Lib.hid ho
    clear hp hso ho
    go_wp2
    go_ret2
    refine ⟨hb3, _, rfl, ?_⟩
    rw [← hf.out]
    exact HO.out.mono (by omega)

end Go.Proofs.YtehkkpkhpbbpnaaDoor
