/-
  The contracts of largest and Most of package match: how many pairs there are at most.
-/
import Derived.Test.YtinglgnddmadaaaDoorMatchP
import Derived.Test.YtinglgnddmadaaaDoorRepeat
import Derived.Laws.EntriesVeiled
namespace Go.Proofs.YtinglgnddmadaaaDoor
open Go.RowKit Go.Shelf

set_option linter.unusedSimpArgs false
set_option linter.unusedVariables false

/-- between two tries: s is where the call's own begins, q the box of the partners -/
structure LgI (s q r : Nat) (A : Option Addr) (n c : Nat) (ls : List Gr.Ln) (par : List Int) (w W : World) : Prop where
  rd : RdP W s A n c ls
  cl : W.cell? ⟨s, 0, none⟩ = some (.slice A n c)
  cp : W.cell? ⟨q, 0, none⟩ = some (.slice (some ⟨s + 2, 0, none⟩) r r)
  ba : ∃ u, Boxed W (q + 1) 80 u
  cf : W.cell? ⟨q + 2, 0, none⟩ = some (.func (.func 49) #[] #[.pointer (some ⟨s, 0, none⟩), .pointer (some ⟨q + 1, 0, none⟩), .pointer (some ⟨q, 0, none⟩), .pointer (some ⟨q + 2, 0, none⟩)])
  own : Own W s 3 (.slice (some ⟨s + 2, 0, none⟩) r r) par
  bel : Below s w W
  size : q + 3 ≤ W.heap.size

set_option maxRecDepth 100000 in
set_option maxHeartbeats 2000000 in
theorem largest_any (l r : Nat) (hl6 : l ≤ 6) (hr6 : r ≤ 6) (A : Option Addr) (n c : Nat) (ls : List Gr.Ln) (hg : ∀ p ∈ ls, Ma.Good (l : Int) (r : Int) p) (w : World) (hr : RdP w w.heap.size A n c ls) :
    Calls Tryd.prog 33 #[.int .i64 (l : Int), .int .i64 (r : Int), .slice A n c] w fun e w' => e = .returned (.int .i64 ((Ma.nu (Ma.gl ls) l r : Nat) : Int)) ∧ Below w.heap.size w w' := by
  have hmf : ∀ (fn : Fn) (first cap : Array Value) (w : World), (Instr.makeFunc fn first cap).run Tryd.prog w = .ok (.func fn first cap) w := fun _ _ _ _ => rfl
  obtain ⟨i0, hi, hz0, hz1, hz2⟩ := info_parts boolInfo
  have HI := Lib.hid (And.intro hi (And.intro hz0 (And.intro hz1 hz2)))
  clear hi hz0 hz1 hz2
  obtain ⟨s, hs⟩ : ∃ s, s = w.heap.size := ⟨_, rfl⟩
  obtain ⟨w1, hw1⟩ : ∃ w1, w1 = (w.alloc (.cells #[.slice A n c] 22)).alloc (.cells #[.int .i64 (-1)] 3) := ⟨_, rfl⟩
  have hs1 : w1.heap.size = s + 2 := by rw [hw1, hs]; simp
  have hb1 : Below s w w1 := by rw [hw1, hs]; exact ((Below.refl _ _).alloc (Nat.le_refl _) _).alloc (by simp) _
  have bx1 : Boxed w1 s 22 (.slice A n c) := by rw [hw1, hs]; exact (Boxed.new w _ _).alloc _
  have hc1 : w1.cell? ⟨s + 1, 0, none⟩ = some (.int .i64 (-1)) := by
    have := Boxed.new (w.alloc (.cells #[.slice A n c] 22)) 3 (.int .i64 (-1))
    rw [World.size_alloc, ← hs, ← hw1] at this
    exact this.cell
  have HR := Lib.hid (Repeat_any (-1) (s + 1) r (by omega) w1 hc1)
  have HS := Lib.hid hs
  have HW1 := Lib.hid hw1
  have HS1 := Lib.hid hs1
  have HGd := Lib.hid hg
  rw [← hs] at hr ⊢
  clear hs hw1 hs1 hg hc1
  go_enter Tryd.func33, Tryd.ntmps33
  go_wp2_with fail
  rw [← HS.out, ← HW1.out]
  refine HR.out.mono ?_
  rintro e w2 ⟨rfl, hown2, hb2⟩
  rw [HS1.out] at hown2 hb2 ⊢
  obtain ⟨q, hq⟩ : ∃ q, q = w2.heap.size := ⟨_, rfl⟩
  have hsq : s + 2 < q := by rw [hq]; exact hown2.lt (s + 2) rfl
  obtain ⟨F, hF⟩ : ∃ F : Value, F = .func (.func 49) #[] #[.pointer (some ⟨s, 0, none⟩), .pointer (some ⟨q + 1, 0, none⟩), .pointer (some ⟨q, 0, none⟩), .pointer (some ⟨q + 2, 0, none⟩)] := ⟨_, rfl⟩
  obtain ⟨W, hW⟩ : ∃ W, W = ((w2.alloc (.cells #[.slice (some ⟨s + 2, 0, none⟩) r r] 24)).alloc (.cells #[.slice none 0 0] 80)).alloc (.cells #[F] 65) := ⟨_, rfl⟩
  have hsW : W.heap.size = q + 3 := by rw [hW, hq]; simp
  have hbW : Below q w2 W := by rw [hW, hq]; exact (((Below.refl _ _).alloc (Nat.le_refl _) _).alloc (by simp) _).alloc (by simp; omega) _
  have B0 : Boxed W q 24 (.slice (some ⟨s + 2, 0, none⟩) r r) := by
    have := ((Boxed.new w2 24 (.slice (some ⟨s + 2, 0, none⟩) r r)).alloc (.cells #[.slice none 0 0] 80)).alloc (.cells #[F] 65)
    rw [← hW, ← hq] at this
    exact this
  have B1 : Boxed W (q + 1) 80 (.slice none 0 0) := by
    have := (Boxed.new (w2.alloc (.cells #[.slice (some ⟨s + 2, 0, none⟩) r r] 24)) 80 (.slice none 0 0)).alloc (.cells #[F] 65)
    rw [← hW, World.size_alloc, ← hq] at this
    exact this
  have B2 : Boxed W (q + 2) 65 F := by
    have := Boxed.new ((w2.alloc (.cells #[.slice (some ⟨s + 2, 0, none⟩) r r] 24)).alloc (.cells #[.slice none 0 0] 80)) 65 F
    rw [← hW, World.size_alloc, World.size_alloc, ← hq] at this
    exact this
  have hb1W : Below (s + 2) w1 W := hb2.trans (hbW.mono (by omega))
  have hbwW : Below s w W := hb1.trans (hb1W.mono (by omega))
  have HLg : LgI s q r A n c ls (List.replicate r (-1)) w W :=
    ⟨hr.below hbwW, (hb1W.cell (p := ⟨s, 0, none⟩) (show s < s + 2 by omega)).trans bx1.cell, B0.cell, ⟨_, B1⟩, by rw [← hF]; exact B2.cell, (hown2.same (fun k hk => by cases hk; exact hbW.block (s + 2) (by omega))).mono (by omega), hbwW, by omega⟩
  have HRun := Lib.hid (Ma.Run.start ls l r)
  rw [hF] at hW
  have HW := Lib.hid hW
  have HQ := Lib.hid hq
  clear hW hq hF B0 B1 B2 hb1W hbwW hown2 hb2 hbW bx1 hb1 hr HR
  go_wp2
  rw [← HQ.out]
  simp only [Nat.add_assoc, Nat.reduceAdd]
  rw [← HW.out]
  clear HW HQ
  have hnum : ∀ k : Nat, k ≤ 6 → IntKind.i64.wrap ((k : Int) + 1) = (k : Int) + 1 := fun k hk => by rw [IntKind.wrap_i64]; omega
  go_loopw [10, 11, 17] (fun zv _ iv wr => ∃ (i z : Nat) (par : List Int), i ≤ l ∧ z ≤ i ∧ iv = .int .i64 (i : Int) ∧ zv = .int .i64 (z : Int) ∧ Hid (Ma.Run ls l r i z par) ∧ LgI s q r A n c ls par w wr) (fun _ _ iv _ => l - (intOf iv).toNat)
  case atStart => exact ⟨0, 0, _, Nat.zero_le _, Nat.le_refl _, rfl, rfl, HRun, HLg⟩
  case round =>
    clear HLg HRun
    obtain ⟨i, z, par, hil, hzi, rfl, rfl, HRun, hL⟩ := hrel
    by_cases hlt : i < l
    · have k1 : (i : Int) < (l : Int) := by omega
      obtain ⟨u, hbx⟩ := hL.ba
      obtain ⟨ga, hga⟩ : ∃ ga, ga = wr.heap.size := ⟨_, rfl⟩
      have hsz := hL.size
      have HGA := Lib.hid hga
      have hgq : q + 3 ≤ ga := by omega
      clear hga
      go_wp2_with (at_make; refine wpList_make_full _ rfl (.tmp 20) (.tmp 20) 80 rfl ga 4 i0 (.bool false) 1 Tryd.underlying80 HI.out.1 HI.out.2.1 HI.out.2.2.1 .i64 .i64 _ _ r rfl rfl (by omega) (by omega) (by rw [HI.out.2.2.2]; omega) (by simp only [maxLen]; omega) (by rw [HGA.out]; exact Nat.le_refl _) ?_; intro w3 hown3 hg3; rw [← HGA.out] at hown3; rw [← HGA.out]; have hbx3 : Boxed w3 (q + 1) 80 u := (hg3.block (q + 1) (by rw [← HGA.out]; omega) (fun e => by cases e)).trans hbx; have v1 := hbx3.cell; have v2 := hbx3.frozen; have v3 : (w3.setCell ⟨q + 1, 0, none⟩ (.slice (some ⟨ga, 0, none⟩) r r)).cell? ⟨q + 2, 0, none⟩ = some (.func (.func 49) #[] #[.pointer (some ⟨s, 0, none⟩), .pointer (some ⟨q + 1, 0, none⟩), .pointer (some ⟨q, 0, none⟩), .pointer (some ⟨q + 2, 0, none⟩)]) := (World.cell?_of_block (Below.heap_setCell w3 _ _ (q + 2) (show q + 2 ≠ q + 1 by omega))).trans ((World.cell?_of_block (hg3.block (q + 2) (by rw [← HGA.out]; omega) (fun e => by cases e))).trans hL.cf))
      obtain ⟨W4, hW4⟩ : ∃ W4, W4 = w3.setCell ⟨q + 1, 0, none⟩ (.slice (some ⟨ga, 0, none⟩) r r) := ⟨_, rfl⟩
      rw [← hW4]
      have hgs : ga ≤ wr.heap.size := by rw [HGA.out]; exact Nat.le_refl _
      have hsg : wr.heap.size ≤ ga := by rw [HGA.out]; exact Nat.le_refl _
      have hb3 : Below ga wr w3 := (Below.refl _ _).grown hg3 hgs (fun _ e => by cases e)
      have hS3 := SeenAt.made hown3
      have hS4 : SeenAt W4 ga r (List.replicate r false) := hS3.same (by rw [hW4]; exact Below.heap_setCell w3 _ _ ga (show ga ≠ q + 1 by omega))
      have hbx4 : Boxed W4 (q + 1) 80 (.slice (some ⟨ga, 0, none⟩) r r) := by rw [hW4]; exact hbx3.set _
      have hK4 : Kept (fun k => k = q + 1) wr W4 := by
        rw [hW4]
        exact Kept.trans' ⟨hb3.size, fun k hk _ => hb3.block k (by omega)⟩ (Kept.set _ _ _ _ rfl)
      have hB4 : Below s wr W4 := by rw [hW4]; exact (hb3.mono (by omega)).setCell (p := ⟨q + 1, 0, none⟩) (show s ≤ q + 1 by omega) _
      have hO4 : Own W4 s 3 (.slice (some ⟨s + 2, 0, none⟩) r r) par := hL.own.same (fun k hk => by cases hk; exact hK4.2 (s + 2) (by omega) (by omega))
      have hxx : PlX s s (q + 1) q (q + 2) ga (s + 2) := ⟨by omega, by omega, by omega, ⟨by omega, by omega⟩, ⟨by omega, by omega⟩, ⟨by omega, by omega⟩, ⟨by omega, by omega⟩⟩
      have hG4 : PlG s s (q + 1) q (q + 2) ga (s + 2) r A n c ls W4 :=
        ⟨by have := hK4.1; omega, hL.rd.below hB4, hK4.cell hL.cl (by simp only; omega), hbx4.cell, hK4.cell hL.cp (by simp only; omega), hK4.cell hL.cf (by simp only; omega)⟩
      have HC := Lib.hid (callsIn_wide.1 (place_in s s (q + 1) q (q + 2) ga (s + 2) l r hxx hl6 hr6 A n c ls HGd.out (Ma.opn (List.replicate r false) + 1) (List.replicate r false) par (i : Int) W4 (Nat.lt_succ_self _) HRun.out.ok (by omega) k1 hG4 hS4 hO4))
      have hbl := hL.bel.trans hB4
      have h4s : q + 3 ≤ W4.heap.size := by have := hK4.1; omega
      clear hW4 hown3 hg3 v1 v2 v3 hbx3 hS3 hK4 hO4 hb3 hL hbx
      refine HC.out.mono ?_
      rintro e W5 ⟨hK5, hB5, ask', hS5, (⟨rfl, par', hO5, hy⟩ | ⟨rfl, hO5, hno⟩)⟩
      · have hG5 := hG4.kept hxx hK5
        have hL5 : LgI s q r A n c ls par' w W5 := ⟨hG5.rd, hG5.cl, hG5.cp, ⟨_, hK5.boxed' hbx4 (by rintro (e | e) <;> omega)⟩, hG5.cf, hO5, hbl.trans hB5, by have := hK5.1; omega⟩
        have HR5 := Lib.hid (HRun.out.yes hlt hy)
        clear hG5 hy HRun HC hS5 hO5 hG4 hbx4 hS4
        go_wp2
        go_roundw
        case rel => exact ⟨i + 1, z + 1, par', by omega, by omega, by go_num, by go_num, HR5, hL5⟩
        case measure => simp [intOf]; omega
      · have hG5 := hG4.kept hxx hK5
        have hL5 : LgI s q r A n c ls par w W5 := ⟨hG5.rd, hG5.cl, hG5.cp, ⟨_, hK5.boxed' hbx4 (by rintro (e | e) <;> omega)⟩, hG5.cf, hO5, hbl.trans hB5, by have := hK5.1; omega⟩
        have HR5 := Lib.hid (HRun.out.no hno)
        clear hG5 hno HRun HC hS5 hO5 hG4 hbx4 hS4
        go_wp2
        go_roundw
        case rel => exact ⟨i + 1, z, par, by omega, by omega, by go_num, rfl, HR5, hL5⟩
        case measure => simp [intOf]; omega
    · obtain rfl : i = l := by omega
      have hfin : Hid (Ma.nu (Ma.gl ls) i r = z) := HRun.out.done
      go_wp2
      go_ret
      exact ⟨by rw [hfin.out]; rfl, hL.bel⟩

theorem Most_err (l r : Int) (A : Option Addr) (n c : Nat) (ls : List Gr.Ln) (w : World) (hr : RdP w w.heap.size A n c ls) (h : Ma.code l r ls ≠ 0) :
    Calls Tryd.prog 26 #[.int .i64 l, .int .i64 r, .slice A n c] w fun e w' => e = .returned (.tuple #[.int .i64 0, errv (Ma.code l r ls)]) ∧ Below w.heap.size w w' := by
  have H := Lib.hid h
  clear h
  go_enter Tryd.func26, Tryd.ntmps26
  go_wp2_with fail
  refine (MCheck_any l r A n c ls _ hr).mono ?_
  rintro e w1 ⟨rfl, hb⟩
  rw [errOf_pos H.out]
  go_wp2
  go_ret2
  exact ⟨rfl, hb⟩
theorem Most_ok (l r : Nat) (A : Option Addr) (n c : Nat) (ls : List Gr.Ln) (w : World) (hr : RdP w w.heap.size A n c ls) (h : Ma.code (l : Int) (r : Int) ls = 0) :
    Calls Tryd.prog 26 #[.int .i64 (l : Int), .int .i64 (r : Int), .slice A n c] w fun e w' => e = .returned (.tuple #[.int .i64 ((Ma.nu (Ma.gl ls) l r : Nat) : Int), .nilIface]) ∧ Below w.heap.size w w' := by
  have H := Lib.hid h
  have HZ := Lib.hid (Ma.code_zero.1 h)
  clear h
  have hl6 : l ≤ 6 := by have := HZ.out.2.1; omega
  have hr6 : r ≤ 6 := by have := HZ.out.2.2.2.1; omega
  go_enter Tryd.func26, Tryd.ntmps26
  go_wp2_with fail
  refine (MCheck_any l r A n c ls _ hr).mono ?_
  rintro e w1 ⟨rfl, hb⟩
  rw [errOf_zero H.out]
  go_wp2_with fail
  refine (largest_any l r hl6 hr6 A n c ls HZ.out.2.2.2.2.2 _ (hr.past hb)).mono ?_
  rintro e w2 ⟨rfl, hb2⟩
  go_wp2
  go_ret2
  exact ⟨rfl, hb.trans (hb2.mono hb.size)⟩

end Go.Proofs.YtinglgnddmadaaaDoor
