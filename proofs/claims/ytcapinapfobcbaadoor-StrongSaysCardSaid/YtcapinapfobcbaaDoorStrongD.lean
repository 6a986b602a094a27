/-
  The contract of between of package strong: the lines between parts, in order, each once. No statement of the program is proved here; there is no condition.
-/
import Derived.Test.YtcapinapfobcbaaDoorCompactL
import Derived.Test.YtcapinapfobcbaaDoorSortS
import Derived.Deep.RegionHeld3
import Derived.Sort.LotA
namespace Go.Proofs.YtcapinapfobcbaaDoor
open Go.RowKit

set_option linter.unusedSimpArgs false
set_option linter.unusedVariables false

set_option maxRecDepth 100000 in
set_option maxHeartbeats 600000 in
theorem cmpS_any (p q p' q' : Int) (w : World) : Calls Tryd.prog 26 #[.agg #[.int .i64 p, .int .i64 q], .agg #[.int .i64 p', .int .i64 q']] w fun e w' => e = .returned (.int .i64 (cmpL (p, q) (p', q'))) ∧ ∃ k os, w' = Go.Sort.grow (w.drewN k) os := by
  obtain ⟨b, hb⟩ : ∃ b, b = w.heap.size := ⟨_, rfl⟩
  obtain ⟨W, hW⟩ : ∃ W, W = (w.alloc (.cells #[.int .i64 p, .int .i64 q] 28)).alloc (.cells #[.int .i64 p', .int .i64 q'] 28) := ⟨_, rfl⟩
  have c0 : W.cell? ⟨b, 0, none⟩ = some (.int .i64 p) := by rw [hW, hb]; simp
  have c1 : W.cell? ⟨b, 1, none⟩ = some (.int .i64 q) := by rw [hW, hb]; simp
  have c2 : W.cell? ⟨b + 1, 0, none⟩ = some (.int .i64 p') := by rw [hW, hb]; simp
  have c3 : W.cell? ⟨b + 1, 1, none⟩ = some (.int .i64 q') := by rw [hW, hb]; simp
  have hWg : Hid (W = Go.Sort.grow w #[.cells #[.int .i64 p, .int .i64 q] 28, .cells #[.int .i64 p', .int .i64 q'] 28]) := by
    show _ = _
    rw [hW, Go.Sort.alloc_eq_grow, Go.Sort.alloc_eq_grow, Go.Sort.grow_grow]; rfl
  have hsz : W.heap.size = b + 2 := by rw [hW, hb]; simp
  have hres : Hid (cmpL (p, q) (p', q') = orI (cmpI p p') (cmpI q q')) := by show _ = _; rfl
  obtain ⟨r, hr⟩ : ∃ r, r = cmpL (p, q) (p', q') := ⟨_, rfl⟩
  rw [← hr] at hres ⊢
  have HB := Lib.hid hb
  have HSZ := Lib.hid hsz
  have HW := Lib.hid hW
  have q4 : ∀ (V : World) (x y : Int), (V.alloc (.cells #[.int .i64 x, .int .i64 y] 3)).cell? ⟨V.heap.size, 0, none⟩ = some (.int .i64 x) ∧ (V.alloc (.cells #[.int .i64 x, .int .i64 y] 3)).cell? ⟨V.heap.size, 1, none⟩ = some (.int .i64 y) := fun V x y => ⟨by simp, by simp⟩
  obtain ⟨e4, e5⟩ := q4 W.drew (cmpI p p') (cmpI q q')
  have hbl := (Below.refl W.drew.heap.size W.drew).alloc (Nat.le_refl _) (.cells #[.int .i64 (cmpI p p'), .int .i64 (cmpI q q')] 3)
  have d0 := (hbl.cell (p := ⟨b, 0, none⟩) (show b < W.heap.size by omega)).trans c0
  have d1 := (hbl.cell (p := ⟨b, 1, none⟩) (show b < W.heap.size by omega)).trans c1
  have d2 := (hbl.cell (p := ⟨b + 1, 0, none⟩) (show b + 1 < W.heap.size by omega)).trans c2
  have d3 := (hbl.cell (p := ⟨b + 1, 1, none⟩) (show b + 1 < W.heap.size by omega)).trans c3
  have hO := Or_two W.drew.heap.size (cmpI p p') (cmpI q q') _ e4 e5
  have HO := Lib.hid hO
  clear hr hb hW hsz hbl hO q4 e4 e5
  go_enter Tryd.func26, Tryd.ntmps26
  go_wp2
  rw [← HB.out, ← HW.out]
  go_region_held3 (fun w' : World => w'.cell? ⟨b, 0, none⟩ = some (.int .i64 p) ∧ w'.cell? ⟨b, 1, none⟩ = some (.int .i64 q) ∧ w'.cell? ⟨b + 1, 0, none⟩ = some (.int .i64 p') ∧ w'.cell? ⟨b + 1, 1, none⟩ = some (.int .i64 q')) (first | exact ⟨c0, c1, c2, c3⟩ | exact ⟨d0, d1, d2, d3⟩ | assumption)
    (first
      | (go_at_call 28; refine (Compare_int _ _ _).mono ?_; rintro e w5 ⟨rfl, rfl⟩)
      | (go_at_call 27; refine HO.out.mono ?_; rintro e w5 ⟨rfl, rfl⟩))
  go_wp2
  go_ret
  refine ⟨by rw [hres.out]; rfl, 1, #[.cells #[.int .i64 p, .int .i64 q] 28, .cells #[.int .i64 p', .int .i64 q'] 28, .cells #[.int .i64 (cmpI p p'), .int .i64 (cmpI q q')] 3], ?_⟩
  rw [hWg.out, Go.Sort.alloc_eq_grow]
  rfl


theorem sortS_own (base g cap n : Nat) (zs : List (Int × Int)) (w : World) (hn : zs.length = n) (hown : OwnP w base 28 (.slice (some ⟨g, 0, none⟩) n cap) zs) (h62 : n < 4611686018427387904) :
    Calls Tryd.prog 25 #[.slice (some ⟨g, 0, none⟩) n cap, .func (.func 26) #[] #[]] w (SortPost w base g n cap zs) :=
  sortLns_own 26 #[] base g cap n zs w hn hown h62 (enters_of Tryd.func26 (by kernel_rfl) rfl) (fun sz m os dk _ x y => cmpS_any x.1 x.2 y.1 y.2 _)

set_option maxRecDepth 100000 in
set_option maxHeartbeats 4000000 in
theorem between_any (m : Nat) (hm8 : m ≤ 8) (ls : List Gr.Ln) (hg : ∀ p ∈ ls, Gr.Good (m : Int) p) (A : Option Addr) (k c : Nat) (An : Option Addr) (cn : Nat) (w : World) (hr : RdP w w.heap.size A k c ls) (hnm : Rd w w.heap.size An m cn (Sg.nums m ls)) (hk : k ≤ 1048576) :
    Calls Tryd.prog 17 #[.slice An m cn, .slice A k c] w fun e w' => ∃ A' L c', e = .returned (.slice A' L c') ∧ RdP w' w'.heap.size A' L c' (Sg.folded m ls) ∧ Below w.heap.size w w' := by
  have HG := Lib.hid hg
  have HK := Lib.hid hr.len
  have HFIN := Lib.hid (fun (os : List Gr.Ln) (h1 : os.Perm (Sg.crs m ls ls)) (h2 : os.Pairwise fun p q => ¬ Dp.lnLt q p) => Sg.cpt_fold hg h1 h2)
  have hbig := hr.big
  clear hg
  go_enter Tryd.func17, Tryd.ntmps17
  go_wp2
  go_loopw [5, 7, 8, 9, 12] (fun u _ _ _ i wr => ∃ j : Nat, j ≤ k ∧ i = .int .i64 (j : Int) ∧ OwnP wr w.heap.size 28 u (Sg.crs m ls (ls.take j)) ∧ Below w.heap.size w wr) (fun _ _ _ _ i _ => k - (intOf i).toNat)
  case atStart => exact ⟨0, Nat.zero_le _, rfl, OwnP.nil _ _ _, Below.refl _ _⟩
  case round =>
    obtain ⟨j, hj, rfl, hown, hbel⟩ := hrel
    have hcl : (Sg.crs m ls (ls.take j)).length ≤ j := Nat.le_trans (Sg.crs_len _) (by simp; omega)
    by_cases hlt : j < k
    · obtain ⟨b1, o1, rfl, hb1, hc1⟩ := hr.at_ (by omega)
      obtain ⟨x1, x2⟩ := hc1 j hlt
      have y1 := (hbel.cell (p := ⟨b1, o1 + j * 2, none⟩) hb1).trans x1
      have y2 := (hbel.cell (p := ⟨b1, o1 + j * 2 + 1, none⟩) hb1).trans x2
      have hkl : j < ls.length := by rw [HK.out]; exact hlt
      have hgd := HG.out (ls.getD j (0, 0)) (by simp [List.getD, hkl])
      have hct := Sg.crs_take (n := m) (ls := ls) (ks := ls) hkl
      obtain ⟨p, hp⟩ : ∃ p, p = ls.getD j (0, 0) := ⟨_, rfl⟩
      rw [← hp] at y1 y2 hgd hct
      unfold Gr.Good at hgd
      clear hc1 x1 x2 hp hkl
      obtain ⟨p1, p2⟩ := p
      simp only at y1 y2 hgd
      obtain ⟨a, rfl⟩ : ∃ a : Nat, p1 = (a : Int) := ⟨p1.toNat, by omega⟩
      obtain ⟨b, rfl⟩ : ∃ b : Nat, p2 = (b : Int) := ⟨p2.toNat, by omega⟩
      have ha : a < m := by omega
      have hb : b < m := by omega
      clear hgd
      obtain ⟨bn, on, rfl, hbn, hcn⟩ := hnm.at_ (by omega)
      have z1 := hcn a ha
      have z2 := hcn b hb
      rw [Sg.nums_at ha] at z1
      rw [Sg.nums_at hb] at z2
      have a1 : (0 : Int) ≤ (a : Int) := by omega
      have a2 : (a : Int) < (m : Int) := by omega
      have b1' : (0 : Int) ≤ (b : Int) := by omega
      have b2' : (b : Int) < (m : Int) := by omega
      obtain ⟨q, hq⟩ : ∃ q, q = Sg.nm m ls a := ⟨_, rfl⟩
      obtain ⟨r, hr'⟩ : ∃ r, r = Sg.nm m ls b := ⟨_, rfl⟩
      rw [← hq] at z1
      rw [← hr'] at z2
      have HQ := Lib.hid hq
      have HR := Lib.hid hr'
      have HCT := Lib.hid hct
      obtain ⟨x, hx⟩ : ∃ x, x = wr.alloc (.cells #[.int .i64 (a : Int), .int .i64 (b : Int)] 28) := ⟨_, rfl⟩
      have hbx : Below wr.heap.size wr x := by rw [hx]; exact (Below.refl _ _).alloc (Nat.le_refl _) _
      have hxs : x.heap.size = wr.heap.size + 1 := by rw [hx]; simp
      have g1 : x.cell? ⟨wr.heap.size, 0, none⟩ = some (.int .i64 (a : Int)) := by rw [hx]; simp
      have g2 : x.cell? ⟨wr.heap.size, 1, none⟩ = some (.int .i64 (b : Int)) := by rw [hx]; simp
      have hbwx : Below w.heap.size w x := hbel.trans (hbx.mono hbel.size)
      have w1 := (hbwx.cell (p := ⟨bn, on + a, none⟩) hbn).trans z1
      have w2 := (hbwx.cell (p := ⟨bn, on + b, none⟩) hbn).trans z2
      have hownx := hown.below hbx
      have HX := Lib.hid hx
      clear hq hr' hct hcn z1 z2 hown hbx hx
      by_cases he : q = r
      · have hd : ((q : Int) != (r : Int)) = false := by simp [he]
        have hn : Hid (Sg.crs m ls (ls.take (j + 1)) = Sg.crs m ls (ls.take j)) := by
          show _ = _
          rw [HCT.out, Sg.cr_miss (p := ((a : Int), (b : Int))) (by simp only [Int.toNat_natCast]; rw [← HQ.out, ← HR.out]; exact he), List.append_nil]
        clear he
        go_wp2
        rw [← HX.out]
        clear HX
        go_quiet (fail)
        go_wp2
        go_roundw
        case rel => exact ⟨j + 1, by omega, by go_num, by rw [hn.out]; exact hownx.drewN _, hbwx.trans (Below.drewN' _ _ _)⟩
        case measure => simp [intOf]; omega
      · have hd : ((q : Int) != (r : Int)) = true := by simp; omega
        have hn : Hid (Sg.crs m ls (ls.take (j + 1)) = Sg.crs m ls (ls.take j) ++ [((q : Int), (r : Int))]) := by
          show _ = _
          rw [HCT.out, Sg.cr_hit (p := ((a : Int), (b : Int))) (by simp only [Int.toNat_natCast]; exact HQ.out.symm) (by simp only [Int.toNat_natCast]; exact HR.out.symm) he]
        clear he
        go_wp2
        rw [← HX.out]
        clear HX
        go_quiet (fail)
        obtain ⟨y, hy⟩ : ∃ y, y = x.drewN nq := ⟨_, rfl⟩
        have howny : OwnP y w.heap.size 28 u5 (Sg.crs m ls (ls.take j)) := by rw [hy]; exact hownx.drewN nq
        have hby : Below w.heap.size w y := by rw [hy]; exact hbwx.trans (Below.drewN' _ _ _)
        have hbys := hby.size
        rw [← hy]
        clear hy hownx hbwx g1 g2 w1 w2 hxs
        have hownz := howny.below ((Below.refl _ y).alloc (Nat.le_refl _) (.cells #[.int .i64 (q : Int), .int .i64 (r : Int)] 28))
        go_wp2_with (first
          | (refine wpList_appP _ rfl _ _ 22 rfl w.heap.size 28 Tryd.underlying22 lineInfo _ _ rfl hownz (some ⟨y.heap.size, 0, none⟩) 1 1 [((q : Int), (r : Int))] rfl (RdP.one y ((q : Int), (r : Int)) _) (by omega) (by simp; omega) ?_; intro u' w5 hown5 hg5 _))
        go_roundw
        case rel => exact ⟨j + 1, by omega, by go_num, by rw [hn.out]; exact hown5, below_appP (hby.alloc hbys _) hownz hg5 (by simp; omega)⟩
        case measure => simp [intOf]; omega
    · obtain rfl : j = k := by omega
      rw [List.take_of_length_le (by rw [HK.out]; exact Nat.le_refl _)] at hown hcl
      have hbs := hbel.size
      obtain ⟨N, hN⟩ : ∃ N, N = (Sg.crs m ls ls).length := ⟨_, rfl⟩
      have hrd := hown.rd
      rw [← hN] at hcl hrd
      obtain ⟨A5, c5, rfl, hrd5⟩ := hrd
      have HN := Lib.hid hN
      clear hN
      by_cases h0 : N = 0
      · subst h0
        have hnil : Sg.crs m ls ls = [] := List.eq_nil_of_length_eq_zero HN.out.symm
        have hfin : Hid ([] = Sg.folded m ls) := HFIN.out [] (by rw [hnil]) List.Pairwise.nil
        rw [hnil] at hrd5
        clear hnil hown
        go_wp2_with fail
        refine (sortLns_none A5 c5 _ _).mono ?_
        rintro e w3 ⟨rfl, rfl⟩
        go_wp2_with fail
        refine (Compact_short A5 0 c5 [] _ hrd5 (by omega)).mono ?_
        rintro e w3 ⟨rfl, _, rfl⟩
        go_wp2
        go_ret
        exact ⟨_, _, _, rfl, by rw [← hfin.out]; exact hrd5, hbel⟩
      · obtain ⟨g, rfl, hgb⟩ : ∃ g, A5 = some ⟨g, 0, none⟩ ∧ w.heap.size ≤ g := by
          rcases hown.2 with ⟨h1, _⟩ | ⟨g, cap, cur, h1, hgb, _⟩
          · simp only [Value.slice.injEq] at h1
            exact absurd h1.2.1 h0
          · simp only [Value.slice.injEq] at h1
            exact ⟨g, h1.1, hgb⟩
        have HS := Lib.hid (sortS_own w.heap.size g c5 N (Sg.crs m ls ls) wr HN.out.symm hown (by omega))
        clear hrd5 hown
        go_wp2_with fail
        refine HS.out.mono ?_
        rintro e w3 ⟨rfl, hg3, os, hp, hso, ho⟩
        have hbw3 : Below w.heap.size w w3 := hbel.grown hg3 hbs (fun q e => by have : g = q := Option.some.inj e; omega)
        have hosN : os.length = N := by rw [hp.length_eq]; exact HN.out.symm
        have hfin : Hid (Sg.cpt os N = Sg.folded m ls) := by
          show _ = _
          have := HFIN.out os hp hso
          rwa [hosN] at this
        have hbw3s := hbw3.size
        clear hp hso
        by_cases h2 : N < 2
        · have hr3 : RdP w3 w3.heap.size (some ⟨g, 0, none⟩) N c5 os := by
            obtain ⟨A', c', he, hr'⟩ := ho.rd
            simp only [Value.slice.injEq] at he
            obtain ⟨rfl, _, rfl⟩ := he
            rwa [hosN] at hr'
          have HO := Lib.hid hosN
          clear ho hosN
          go_wp2_with fail
          refine (Compact_short _ N c5 os _ hr3 h2).mono ?_
          rintro e w4 ⟨rfl, hc, rfl⟩
          have HC := Lib.hid hc
          clear hc
          go_wp2
          go_ret
          exact ⟨_, _, _, rfl, by rw [← hfin.out, HC.out]; exact hr3, hbw3⟩
        · have HC := Lib.hid (Compact_own w.heap.size g c5 N os w3 hosN ho (by omega) (by omega))
          clear ho hosN
          go_wp2_with fail
          refine HC.out.mono ?_
          rintro e w4 ⟨L, rfl, hr4, hg4⟩
          go_wp2
          go_ret
          exact ⟨_, _, _, rfl, by rw [← hfin.out]; exact hr4, hbw3.grown hg4 hbw3s (fun q e => by have : g = q := Option.some.inj e; omega)⟩

end Go.Proofs.YtcapinapfobcbaaDoor
