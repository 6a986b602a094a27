/-
  Contracts of package pairs: the closure that tells whether a name must be so; Solve.
-/
import Derived.Test.YthalopmplekdoaaPairsB
import Derived.Test.YthalopmplekdoaaLibB
import Derived.Test.YthalopmplekdoaaSeen
namespace Go.Proofs.Ythalopmplekdoaa
open Go.RowKit Go.Shelf

attribute [local go_sem] Oper.semAt_some
set_option linter.unusedSimpArgs false
set_option linter.unusedVariables false

/-- the closure over the table -/
def impv (tb : Nat) : Value := .func (.func 13) #[] #[.pointer (some ⟨tb, 0, none⟩)]
/-- what the closure reads -/
structure NdS (tb ba bi g N i : Nat) (cs : List Or2) (p : List Bool) (w : World) : Prop where
  a : w.cell? ⟨ba, 0, none⟩ = some (.slice (some ⟨g, 0, none⟩) N N)
  f : w.cell? ⟨bi, 0, none⟩ = some (impv tb)
  t : PtA tb (Cl.cl (Pa.plns cs) 8) w
  c : ∀ k, k < i → w.cell? ⟨g, k, none⟩ = some (.bool (p.getD k false))
theorem NdS.past {tb ba bi g N i : Nat} {cs : List Or2} {p : List Bool} {w w' : World} (h : NdS tb ba bi g N i cs p w) (hb : Below w.heap.size w w') : NdS tb ba bi g N i cs p w' :=
  ⟨(hb.cell (p := ⟨ba, 0, none⟩) (World.block_lt_of_cell? w _ h.a)).trans h.a, (hb.cell (p := ⟨bi, 0, none⟩) (World.block_lt_of_cell? w _ h.f)).trans h.f, h.t.past hb, fun k hk => (hb.cell (p := ⟨g, k, none⟩) (World.block_lt_of_cell? w _ (h.c k hk))).trans (h.c k hk)⟩

set_option maxRecDepth 100000 in
set_option maxHeartbeats 2000000 in
theorem need_any (tb ba bi g N i : Nat) (h4 : N ≤ 4) (hi : i < N) (cs : List Or2) (p : List Bool) (v : Bool) (w : World) (hS : NdS tb ba bi g N i cs p w) (hv : Pa.need cs p i = v) :
    Calls Try.prog 9 #[.agg #[.int .i64 (i : Int), .bool false], .pointer (some ⟨ba, 0, none⟩), .pointer (some ⟨bi, 0, none⟩)] w fun e w' => e = .returned (.bool v) ∧ Below w.heap.size w w' := by
  obtain ⟨w1, hw1⟩ : ∃ w1, w1 = w.alloc (.cells #[.int .i64 (i : Int), .bool false] 31) := ⟨_, rfl⟩
  have b1 : Below w.heap.size w w1 := by rw [hw1]; exact (Below.refl _ _).alloc (Nat.le_refl _) _
  have c0 : w1.cell? ⟨w.heap.size, 0, none⟩ = some (.int .i64 (i : Int)) := by rw [hw1]; simp
  have c1 : w1.cell? ⟨w.heap.size, 1, none⟩ = some (.bool false) := by rw [hw1]; simp
  have hS1 := hS.past b1
  have HB1 := Lib.hid b1
  have HV := Lib.hid hv
  have HS1 := Lib.hid hS1
  have ka := hS1.a
  have i0 : (0 : Int) ≤ (i : Int) := by omega
  have iN : (i : Int) ≤ (N : Int) := by omega
  have i4 : (i : Int) < 4 := by omega
  have iN0 : i ≤ N := by omega
  have hv0 : Hid (Pa.byTo cs p i 0 = false) := Pa.byTo_zero cs p i
  rw [hw1] at ka
  have HW1 := Lib.hid hw1
  clear hS hS1 b1 hv hw1
  go_enter Try.func9, Try.ntmps9
  go_wp2
  rw [← HW1.out]
  rw [← HW1.out] at ka
  obtain ⟨s0, hs0⟩ : ∃ s0, s0 = w.heap.size := ⟨_, rfl⟩
  rw [← hs0] at c0 c1 ⊢
  have HS0 := Lib.hid hs0
  clear hs0
  go_loopw [5, 6, 12] (fun _ _ jv wr => ∃ j : Nat, j ≤ i ∧ jv = .int .i64 (j : Int) ∧ Below w1.heap.size w1 wr ∧ Hid (Pa.byTo cs p i j = false)) (fun _ _ jv _ => i - (intOf jv).toNat)
  case atStart => exact ⟨0, Nat.zero_le _, rfl, Below.refl _ _, hv0⟩
  case round =>
    clear hv0
    obtain ⟨j, hj, rfl, hb, H⟩ := hrel
    have r1 := (hb.cell (p := ⟨s0, 0, none⟩) (World.block_lt_of_cell? w1 _ c0)).trans c0
    have r2 := (hb.cell (p := ⟨s0, 1, none⟩) (World.block_lt_of_cell? w1 _ c1)).trans c1
    have rS := HS1.out.past hb
    have rf := rS.f
    unfold impv at rf
    have HR := Lib.hid rS
    have HB := Lib.hid hb
    clear ka c0 c1
    by_cases hlt : j < i
    · have rc := rS.c j hlt
      obtain ⟨x, hx⟩ : ∃ x, x = p.getD j false := ⟨_, rfl⟩
      rw [← hx] at rc
      obtain ⟨t, ht⟩ : ∃ t, t = Pa.imp cs ((j : Int), !x) ((i : Int), false) := ⟨_, rfl⟩
      have HT : Hid (Cl.cl (Pa.plns cs) 8 (Pa.pl ((j : Int), !x)) (Pa.pl ((i : Int), false)) = t) := ht.symm
      have HN : Hid (Pa.byTo cs p i (j + 1) = t) := Pa.byTo_next H.out (by rw [← hx]; exact ht.symm)
      have j0 : (0 : Int) ≤ (j : Int) := by omega
      have j1 : (j : Int) < (i : Int) := by omega
      have j4 : (j : Int) < 4 := by omega
      clear rS hb hx ht
      go_wp2_with fail
      refine (imp_any tb (Cl.cl (Pa.plns cs) 8) (j : Int) (!x) (i : Int) false t _ HR.out.t j0 j4 i0 i4 HT.out).mono ?_
      rintro e w2 ⟨rfl, hb2⟩
      have hb12 := HB.out.trans (hb2.mono HB.out.size)
      cases t with
      | false =>
        go_wp2
        go_roundw
        case rel => exact ⟨j + 1, by omega, by go_num, hb12, HN⟩
        case measure => simp [intOf]; omega
      | true =>
        have hfin : Hid (v = true) := by show _ = _; rw [← HV.out]; unfold Pa.need; rw [Pa.byTo_le HN.out (by omega)]; rfl
        have hbf : Below w.heap.size w w2 := HB1.out.trans (hb12.mono HB1.out.size)
        go_wp2
        go_ret
        exact ⟨by rw [hfin.out]; rfl, hbf⟩
    · obtain rfl : j = i := by omega
      obtain ⟨t, ht⟩ : ∃ t, t = Pa.imp cs ((j : Int), true) ((j : Int), false) := ⟨_, rfl⟩
      have HT : Hid (Cl.cl (Pa.plns cs) 8 (Pa.pl ((j : Int), true)) (Pa.pl ((j : Int), false)) = t) := ht.symm
      have hfin : Hid (v = t) := by show _ = _; rw [← HV.out]; unfold Pa.need; rw [H.out, ← ht]; rfl
      clear rS hb ht
      go_wp2
      have HC : Hid (∀ w5 : World, Below wr.heap.size wr.drew w5 → NdS tb ba bi g N j cs p w5 ∧ (w5.cell? ⟨bi, 0, none⟩ = some (.func (.func 13) #[] #[.pointer (some ⟨tb, 0, none⟩)]) ∧ w5.cell? ⟨s0, 0, none⟩ = some (.int .i64 (j : Int)) ∧ w5.cell? ⟨s0, 1, none⟩ = some (.bool false)) ∧ Below w.heap.size w w5) := fun w5 hb5 => by
        have hbr : Below wr.heap.size wr w5 := (Below.refl wr.heap.size wr).drew.trans hb5
        have h1 := HR.out.past hbr
        exact ⟨h1, ⟨h1.f, (hbr.cell (p := ⟨s0, 0, none⟩) (World.block_lt_of_cell? wr _ r1)).trans r1, (hbr.cell (p := ⟨s0, 1, none⟩) (World.block_lt_of_cell? wr _ r2)).trans r2⟩, HB1.out.trans ((HB.out.trans (hbr.mono HB.out.size)).mono HB1.out.size)⟩
      have hz : Below wr.heap.size wr.drew wr.drew := Below.refl _ _
      go_region_held3 (fun w' : World => w'.cell? ⟨bi, 0, none⟩ = some (.func (.func 13) #[] #[.pointer (some ⟨tb, 0, none⟩)]) ∧ w'.cell? ⟨s0, 0, none⟩ = some (.int .i64 (j : Int)) ∧ w'.cell? ⟨s0, 1, none⟩ = some (.bool false)) (first | assumption | exact ⟨rf, r1, r2⟩)
        (first
          | (go_at_call 10; refine (negation_any (j : Int) false _).mono ?_; rintro e w5 ⟨rfl, hb5⟩; obtain ⟨k5, c5, d5⟩ := HC.out w5 hb5)
          | (go_at_call 13; refine (imp_any tb (Cl.cl (Pa.plns cs) 8) (j : Int) true (j : Int) false t _ (NdS.t (by assumption)) i0 i4 i0 i4 HT.out).mono ?_; rintro e w6 ⟨rfl, hb6⟩; obtain ⟨k6, c6, d6⟩ := HC.out w6 (hb5.trans (hb6.mono hb5.size))))
      go_wp2
      go_ret
      exact ⟨by rw [hfin.out]; rfl, d6⟩

/-- in the midst of Solve -/
structure SvI (cs : List Or2) (N : Nat) (w : World) (tb bi i : Nat) (wr : World) : Prop where
  b : Below w.heap.size w wr
  t : PtA tb (Cl.cl (Pa.plns cs) 8) wr
  f : wr.cell? ⟨bi, 0, none⟩ = some (impv tb)
  h : wr.cell? ⟨bi + 1 + 1, 0, none⟩ = some (.slice (some ⟨bi + 1, 0, none⟩) N N)
  o : OwnB wr w.heap.size 4 (.slice (some ⟨bi + 1, 0, none⟩) N N) (Pa.fill cs N i)
section
variable {cs : List Or2} {N : Nat} {w wr w' : World} {tb bi i : Nat}
theorem SvI.past (h : SvI cs N w tb bi i wr) (hb : Below wr.heap.size wr w') : SvI cs N w tb bi i w' :=
  ⟨h.b.trans (hb.mono h.b.size), h.t.past hb, (hb.cell (p := ⟨bi, 0, none⟩) (World.block_lt_of_cell? wr _ h.f)).trans h.f, (hb.cell (p := ⟨bi + 1 + 1, 0, none⟩) (World.block_lt_of_cell? wr _ h.h)).trans h.h, h.o.below hb⟩
theorem SvI.nd (h : SvI cs N w tb bi i wr) (hi : i ≤ N) : NdS tb (bi + 1 + 1) bi (bi + 1) N i cs (Pa.pre cs i) wr :=
  ⟨h.h, h.f, h.t, fun k hk => by rw [h.o.cell k (by omega), Pa.fill_at hk]⟩
theorem SvI.set (h : SvI cs N w tb bi i wr) (hi : i < N) (htb : tb < bi) {v : Bool} (hv : Pa.need cs (Pa.pre cs i) i = v) : SvI cs N w tb bi (i + 1) (wr.setCell ⟨bi + 1, i, none⟩ (.bool v)) :=
  ⟨h.b.setCell h.o.base_le _, ArB.same h.t (heap_setCell_other wr _ _ _ (by simp only; omega)), (World.cell?_setCell_far wr _ _ _ (by simp only; omega)).trans h.f, (World.cell?_setCell_far wr _ _ _ (by simp only; omega)).trans h.h, by rw [← Pa.fill_set hi hv]; exact (h.o.store i v).1⟩
end

/-- what Solve hands back where nothing is wrong -/
def SvPost (cs : List Or2) (N : Nat) (w : World) (e : Ending) (w' : World) : Prop :=
  Below w.heap.size w w' ∧ (((∃ i, i < N ∧ Pa.cla cs i = true) ∧ e = .returned (.tuple #[.slice none 0 0, errv 5])) ∨
    ((∀ i, i < N → Pa.cla cs i = false) ∧ ∃ g, e = .returned (.tuple #[.slice (some ⟨g, 0, none⟩) N N, .nilIface]) ∧ OwnB w' w.heap.size 4 (.slice (some ⟨g, 0, none⟩) N N) (Pa.pre cs N)))

set_option maxRecDepth 100000 in
set_option maxHeartbeats 4000000 in
theorem Solve_ok (N : Nat) (A : Option Addr) (k c : Nat) (cs : List Or2) (w : World) (hr : RdO w w.heap.size A k c cs) (h : Pa.code (N : Int) cs = 0) :
    Calls Try.prog 4 #[.int .i64 (N : Int), .slice A k c] w (SvPost cs N w) := by
  unfold SvPost
  obtain ⟨hN1, hN4, _, hgood⟩ := Pa.code_good h
  have H := Lib.hid h
  have HG := Lib.hid hgood
  clear h hgood
  obtain ⟨i0, hi, hz0, hz1, hz2⟩ := info_parts boolInfo
  have hml : N ≤ maxLen := by simp only [maxLen]; omega
  obtain ⟨zc, hzc⟩ : ∃ zc, zc = madeCells (Value.bool false).cells (N * 1) := ⟨_, rfl⟩
  have hmk : ∀ w : World, (Instr.makeSlice 23 (.int .i64 (N : Int)) (.int .i64 (N : Int))).run Try.prog w = .ok (.slice (some ⟨w.heap.size, 0, none⟩) N N) (w.alloc (.cells zc 4)) := fun w => by
    have := run_make (P := Try.prog) w 23 4 i0 (.bool false) Try.underlying23 hi hz0 .i64 .i64 (N : Int) (N : Int) (by omega) (Int.le_refl _) (by rw [hz2]; omega) (by omega)
    simp only [Int.toNat_natCast, hz1, ← hzc] at this
    exact this
  have hmf : ∀ (fn : Fn) (first cap : Array Value) (w : World), (Instr.makeFunc fn first cap).run Try.prog w = .ok (.func fn first cap) w := fun _ _ _ _ => rfl
  have HZC := Lib.hid hzc
  clear hzc hi hz0 hz1 hz2
  go_enter Try.func4, Try.ntmps4
  go_wp2_with fail
  refine (PCheck_nil (N : Int) A k c cs _ hr H.out).mono ?_
  rintro e w1 ⟨rfl, hb1⟩
  have hr1 := hr.past hb1
  go_wp2_with fail
  refine (implication_any N hN4 A k c cs _ hr1 HG.out).mono ?_
  rintro e w2 ⟨rfl, hP⟩
  obtain ⟨tb, htb⟩ : ∃ tb, tb = w1.heap.size := ⟨_, rfl⟩
  obtain ⟨bi, hbi⟩ : ∃ bi, bi = w2.heap.size := ⟨_, rfl⟩
  have hP1 := hP.1
  have hP2 := hP.2
  rw [← htb] at hP1 ⊢
  have htlt : tb < bi := by rw [hbi]; exact (Array.getElem?_eq_some_iff.1 hP1).1
  have hb2 := hb1.trans (hP2.mono hb1.size)
  obtain ⟨W, hW⟩ : ∃ W, W = ((w2.alloc (.cells #[impv tb] 36)).alloc (.cells zc 4)).alloc (.cells #[.slice (some ⟨bi + 1, 0, none⟩) N N] 23) := ⟨_, rfl⟩
  have hS0 : SvI cs N w tb bi 0 W := by
    have n1 : Below w2.heap.size w2 (w2.alloc (.cells #[impv tb] 36)) := (Below.refl _ _).alloc (Nat.le_refl _) _
    have n2 := n1.alloc n1.size (.cells zc 4)
    have n3 := n2.alloc n2.size (.cells #[.slice (some ⟨bi + 1, 0, none⟩) N N] 23)
    rw [← hW] at n3
    refine ⟨hb2.trans (n3.mono hb2.size), hP1.past n3, ?_, ?_, ?_⟩
    · have x1 := (Boxed.new w2 36 (impv tb)).cell
      have n23 : Below (w2.heap.size + 1) (w2.alloc (.cells #[impv tb] 36)) W := by
        rw [hW]
        exact ((Below.refl _ _).alloc (by rw [World.size_alloc]; omega) _).alloc (by rw [World.size_alloc, World.size_alloc]; omega) _
      rw [hbi]
      exact (n23.cell (p := ⟨w2.heap.size, 0, none⟩) (by simp only; omega)).trans x1
    · have x1 := (Boxed.new ((w2.alloc (.cells #[impv tb] 36)).alloc (.cells zc 4)) 23 (.slice (some ⟨bi + 1, 0, none⟩) N N)).cell
      rw [World.size_alloc, World.size_alloc, ← hbi, ← hW] at x1
      exact x1
    · rw [Pa.fill_zero]
      have one : OwnB ((w2.alloc (.cells #[impv tb] 36)).alloc (.cells zc 4)) w.heap.size 4 (.slice (some ⟨(w2.alloc (.cells #[impv tb] 36)).heap.size, 0, none⟩) N N) (List.replicate N false) := by
        rw [HZC.out]
        exact OwnB.made (World.ownsRow_lit _ _ N (by rw [World.size_alloc]; have := hb2.size; omega) hml (size_madeCells _ _))
      rw [World.size_alloc, ← hbi] at one
      rw [hW]
      exact one.below ((Below.refl _ _).alloc (Nat.le_refl _) _)
  have hc0 := hS0.h
  have HW := Lib.hid hW
  have HTB := Lib.hid htb
  have HBI := Lib.hid hbi
  unfold impv at hW
  clear hb1 hr1 hP hP1 hP2 hb2 hr htb
  go_wp2
  rw [← hbi, ← hW]
  clear hW hbi
  have hv0 : Hid (∀ j, j < 0 → Pa.cla cs j = false) := fun j hj => by omega
  go_loopw [10, 11, 25] (fun _ _ iv wr => ∃ i : Nat, i ≤ N ∧ iv = .int .i64 (i : Int) ∧ SvI cs N w tb bi i wr ∧ Hid (∀ j, j < i → Pa.cla cs j = false)) (fun _ _ iv _ => N - (intOf iv).toNat)
  case atStart => exact ⟨0, Nat.zero_le _, rfl, hS0, hv0⟩
  case round =>
    clear hv0 hS0 hc0
    obtain ⟨i, hi, rfl, hS, HCL⟩ := hrel
    by_cases hlt : i < N
    · obtain ⟨u1, hu1⟩ : ∃ u1, u1 = Pa.imp cs ((i : Int), false) ((i : Int), true) := ⟨_, rfl⟩
      obtain ⟨u2, hu2⟩ : ∃ u2, u2 = Pa.imp cs ((i : Int), true) ((i : Int), false) := ⟨_, rfl⟩
      have HCA : Hid (Pa.cla cs i = (u1 && u2)) := by show _ = _; rw [hu1, hu2]; rfl
      have HU1 : Hid (Cl.cl (Pa.plns cs) 8 (Pa.pl ((i : Int), false)) (Pa.pl ((i : Int), true)) = u1) := hu1.symm
      have HU2 : Hid (Cl.cl (Pa.plns cs) 8 (Pa.pl ((i : Int), true)) (Pa.pl ((i : Int), false)) = u2) := hu2.symm
      obtain ⟨v, hv⟩ : ∃ v, Pa.need cs (Pa.pre cs i) i = v := ⟨_, rfl⟩
      have HV : Hid (Pa.need cs (Pa.pre cs i) i = v) := hv
      clear hu1 hu2 hv
      have i0 : (0 : Int) ≤ (i : Int) := by omega
      have i4 : (i : Int) < 4 := by omega
      have iN : (i : Int) < (N : Int) := by omega
      obtain ⟨y, hy⟩ : ∃ y, y = wr.alloc (.cells #[.int .i64 (i : Int), .bool false] 31) := ⟨_, rfl⟩
      have hyb : Below wr.heap.size wr y := by rw [hy]; exact (Below.refl _ _).alloc (Nat.le_refl _) _
      have hSy := hS.past hyb
      have c0 : y.cell? ⟨wr.heap.size, 0, none⟩ = some (.int .i64 (i : Int)) := by rw [hy]; simp
      have c1 : y.cell? ⟨wr.heap.size, 1, none⟩ = some (.bool false) := by rw [hy]; simp
      have HSB : Hid (wr.heap.size ≠ bi + 1) := by
        have := World.block_lt_of_cell? wr _ hS.h
        simp only at this
        show _ ≠ _; omega
      clear hyb hS
      go_wp2
      rw [← hy]
      have HY := Lib.hid hy
      obtain ⟨s, hs⟩ : ∃ s, s = wr.heap.size := ⟨_, rfl⟩
      rw [← hs] at c0 c1 HSB ⊢
      have HSS := Lib.hid hs
      clear hy hs
      have HZ0 : Hid (y.drew.cell? ⟨bi, 0, none⟩ = some (.func (.func 13) #[] #[.pointer (some ⟨tb, 0, none⟩)]) ∧ y.drew.cell? ⟨s, 0, none⟩ = some (.int .i64 (i : Int)) ∧ y.drew.cell? ⟨s, 1, none⟩ = some (.bool false)) := ⟨hSy.f, c0, c1⟩
      have hz0 : Below y.heap.size y.drew y.drew := Below.refl _ _
      have HTR : Hid (∀ W w5 : World, Below y.heap.size y.drew W → Below W.heap.size W w5 → Below y.heap.size y.drew w5) := fun W w5 h1 h2 => h1.trans (h2.mono h1.size)
      have HC : Hid (∀ w5 : World, Below y.heap.size y.drew w5 → SvI cs N w tb bi i w5 ∧ (w5.cell? ⟨bi, 0, none⟩ = some (.func (.func 13) #[] #[.pointer (some ⟨tb, 0, none⟩)]) ∧ w5.cell? ⟨s, 0, none⟩ = some (.int .i64 (i : Int)) ∧ w5.cell? ⟨s, 1, none⟩ = some (.bool false))) := fun w5 hb5 => by
        have hbr : Below y.heap.size y w5 := (Below.refl y.heap.size y).drew.trans hb5
        have h1 := hSy.past hbr
        exact ⟨h1, h1.f, (hbr.cell (p := ⟨s, 0, none⟩) (World.block_lt_of_cell? y _ c0)).trans c0, (hbr.cell (p := ⟨s, 1, none⟩) (World.block_lt_of_cell? y _ c1)).trans c1⟩
      clear c0 c1 hSy
      cases u1 with
      | false =>
        refine wp_region_held_drew (S := (fun w' : World => w'.cell? ⟨bi, 0, none⟩ = some (.func (.func 13) #[] #[.pointer (some ⟨tb, 0, none⟩)]) ∧ w'.cell? ⟨s, 0, none⟩ = some (.int .i64 (i : Int)) ∧ w'.cell? ⟨s, 1, none⟩ = some (.bool false))) (by kernel_rfl) HZ0.out (fun hHeld => ?_)
        have hHeld0 := hHeld
        refine wpAnyH_take (i := 0) (v := .func (.func 13) #[] #[.pointer (some ⟨tb, 0, none⟩)]) rfl (by kernel_rfl) (by kernel_rfl) (by kernel_rfl) (fun _ _ _ h => h) (Or.inl ⟨by kernel_rfl, ?_⟩) (by assumption) ?_
        · intro w hSw
          obtain ⟨hSa, hSb, hSc⟩ := hSw
          go_simp
        try simp only [Act.put, List.getElem_toArray, List.getElem_cons_succ, List.getElem_cons_zero, List.setIfInBounds_toArray, List.set_cons_zero, List.set_cons_succ]
        refine wpAnyH_take (i := 1) (v := .agg #[.int .i64 (i : Int), .bool false]) rfl (by kernel_rfl) (by kernel_rfl) (by kernel_rfl) (fun _ _ _ h => h) (Or.inl ⟨by kernel_rfl, ?_⟩) (by assumption) ?_
        · intro w hSw
          obtain ⟨hSa, hSb, hSc⟩ := hSw
          go_simp
        try simp only [Act.put, List.getElem_toArray, List.getElem_cons_succ, List.getElem_cons_zero, List.setIfInBounds_toArray, List.set_cons_zero, List.set_cons_succ]
        refine wpAnyH_take (i := 2) (v := .agg #[.int .i64 (i : Int), .bool false]) rfl (by kernel_rfl) (by kernel_rfl) (by kernel_rfl) (fun _ _ _ h => h) (Or.inl ⟨by kernel_rfl, ?_⟩) (by assumption) ?_
        · intro w hSw
          obtain ⟨hSa, hSb, hSc⟩ := hSw
          go_simp
        try simp only [Act.put, List.getElem_toArray, List.getElem_cons_succ, List.getElem_cons_zero, List.setIfInBounds_toArray, List.set_cons_zero, List.set_cons_succ]
        refine wpAnyH_ready (rs := [3]) (by kernel_rfl) (by simp) ?_
        refine AllReadyH.cons rfl (fun K hK => ?_) AllReadyH.nil
        rw [if_pos (by kernel_rfl)]
        go_simp
        refine (negation_any (i : Int) false _).mono ?_
        rintro e z1 ⟨rfl, hbz1⟩
        have hzz1 := HTR.out _ z1 hz0 hbz1
        obtain ⟨kz1, cz1⟩ := HC.out z1 hzz1
        go_wp2_with fail
        refine hK.out _ _ cz1 (fun hHeld => ?_)
        clear hK K
        try simp only [Act.put, List.getElem_toArray, List.getElem_cons_succ, List.getElem_cons_zero, List.setIfInBounds_toArray, List.set_cons_zero, List.set_cons_succ]
        refine wpAnyH_ready (rs := [4]) (by kernel_rfl) (by simp) ?_
        refine AllReadyH.cons rfl (fun K hK => ?_) AllReadyH.nil
        rw [if_pos (by kernel_rfl)]
        go_simp
        refine (imp_any tb (Cl.cl (Pa.plns cs) 8) (i : Int) false (i : Int) true false _ kz1.t i0 i4 i0 i4 HU1.out).mono ?_
        rintro e z2 ⟨rfl, hbz2⟩
        have hzz2 := HTR.out _ z2 hzz1 hbz2
        obtain ⟨kz2, cz2⟩ := HC.out z2 hzz2
        go_wp2_with fail
        refine hK.out _ _ cz2 (fun hHeld => ?_)
        clear hK K
        try simp only [Act.put, List.getElem_toArray, List.getElem_cons_succ, List.getElem_cons_zero, List.setIfInBounds_toArray, List.set_cons_zero, List.set_cons_succ]
        refine wpAnyH_take (i := 5) (v := .bool false) rfl (by kernel_rfl) (by kernel_rfl) (by kernel_rfl) (fun _ _ _ h => h) (Or.inl ⟨by kernel_rfl, ?_⟩) (by assumption) ?_
        · intro w hSw
          obtain ⟨hSa, hSb, hSc⟩ := hSw
          go_simp
        try simp only [Act.put, List.getElem_toArray, List.getElem_cons_succ, List.getElem_cons_zero, List.setIfInBounds_toArray, List.set_cons_zero, List.set_cons_succ]
        refine wpAnyH_take (i := 6) (v := undef) rfl (by kernel_rfl) (by kernel_rfl) (by kernel_rfl) (fun _ _ _ h => h) (Or.inr ⟨by kernel_rfl, rfl⟩) (by assumption) ?_
        try simp only [Act.put, List.getElem_toArray, List.getElem_cons_succ, List.getElem_cons_zero, List.setIfInBounds_toArray, List.set_cons_zero, List.set_cons_succ]
        refine wpAnyH_take (i := 7) (v := undef) rfl (by kernel_rfl) (by kernel_rfl) (by kernel_rfl) (fun _ _ _ h => h) (Or.inr ⟨by kernel_rfl, rfl⟩) (by assumption) ?_
        try simp only [Act.put, List.getElem_toArray, List.getElem_cons_succ, List.getElem_cons_zero, List.setIfInBounds_toArray, List.set_cons_zero, List.set_cons_succ]
        refine wpAnyH_take (i := 8) (v := undef) rfl (by kernel_rfl) (by kernel_rfl) (by kernel_rfl) (fun _ _ _ h => h) (Or.inr ⟨by kernel_rfl, rfl⟩) (by assumption) ?_
        try simp only [Act.put, List.getElem_toArray, List.getElem_cons_succ, List.getElem_cons_zero, List.setIfInBounds_toArray, List.set_cons_zero, List.set_cons_succ]
        refine wpAnyH_take (i := 9) (v := undef) rfl (by kernel_rfl) (by kernel_rfl) (by kernel_rfl) (fun _ _ _ h => h) (Or.inr ⟨by kernel_rfl, rfl⟩) (by assumption) ?_
        try simp only [Act.put, List.getElem_toArray, List.getElem_cons_succ, List.getElem_cons_zero, List.setIfInBounds_toArray, List.set_cons_zero, List.set_cons_succ]
        refine wpAnyH_take (i := 10) (v := undef) rfl (by kernel_rfl) (by kernel_rfl) (by kernel_rfl) (fun _ _ _ h => h) (Or.inr ⟨by kernel_rfl, rfl⟩) (by assumption) ?_
        try simp only [Act.put, List.getElem_toArray, List.getElem_cons_succ, List.getElem_cons_zero, List.setIfInBounds_toArray, List.set_cons_zero, List.set_cons_succ]
        refine wpAnyH_take (i := 11) (v := .bool false) rfl (by kernel_rfl) (by kernel_rfl) (by kernel_rfl) (fun _ _ _ h => h) (Or.inl ⟨by kernel_rfl, ?_⟩) (by assumption) ?_
        · intro w hSw
          obtain ⟨hSa, hSb, hSc⟩ := hSw
          go_simp
        try simp only [Act.put, List.getElem_toArray, List.getElem_cons_succ, List.getElem_cons_zero, List.setIfInBounds_toArray, List.set_cons_zero, List.set_cons_succ]
        refine wpAnyH_done (by kernel_rfl) ?_ _
        have k5 := kz2
        have c5 := cz2
        have HCN : Hid (∀ j, j < i + 1 → Pa.cla cs j = false) := fun j hj => by
          by_cases e : j = i
          · rw [e, HCA.out]; rfl
          · exact HCL.out j (by omega)
        obtain ⟨x5, hx5⟩ : ∃ x5, x5 = z2 := ⟨_, rfl⟩
        have kx : SvI cs N w tb bi i x5 := by rw [hx5]; exact k5
        have cx : x5.cell? ⟨s, 0, none⟩ = some (.int .i64 (i : Int)) ∧ x5.cell? ⟨s, 1, none⟩ = some (.bool false) := by rw [hx5]; exact ⟨c5.2.1, c5.2.2⟩
        clear HZ0 hz0 HC HTR
        go_wp2
        rw [← hx5]
        clear hx5
        obtain ⟨d0, d1⟩ := cx
        have hh := kx.h
        have HS5 : Hid (∀ w6 : World, Below x5.drew.heap.size x5.drew w6 → SvI cs N w tb bi i w6 ∧ (w6.cell? ⟨bi + 1 + 1, 0, none⟩ = some (.slice (some ⟨bi + 1, 0, none⟩) N N) ∧ w6.cell? ⟨s, 0, none⟩ = some (.int .i64 (i : Int)) ∧ w6.cell? ⟨s, 1, none⟩ = some (.bool false)) ∧ w6.cell? ⟨bi + 1, i, none⟩ = some (.bool ((Pa.fill cs N i).getD i false)) ∧ w6.frozen? ⟨bi + 1, i, none⟩ = false) := fun w6 hb6 => by
          have hbr : Below x5.heap.size x5 w6 := (Below.refl x5.heap.size x5).drew.trans hb6
          have h1 := kx.past hbr
          exact ⟨h1, ⟨h1.h, (hbr.cell (p := ⟨s, 0, none⟩) (World.block_lt_of_cell? x5 _ d0)).trans d0, (hbr.cell (p := ⟨s, 1, none⟩) (World.block_lt_of_cell? x5 _ d1)).trans d1⟩, h1.o.cell i hlt, h1.o.frozen i⟩
        have HST : Hid (∀ w6 : World, (w6.cell? ⟨bi + 1 + 1, 0, none⟩ = some (.slice (some ⟨bi + 1, 0, none⟩) N N) ∧ w6.cell? ⟨s, 0, none⟩ = some (.int .i64 (i : Int)) ∧ w6.cell? ⟨s, 1, none⟩ = some (.bool false)) → ((w6.setCell ⟨bi + 1, i, none⟩ (.bool v)).cell? ⟨bi + 1 + 1, 0, none⟩ = some (.slice (some ⟨bi + 1, 0, none⟩) N N) ∧ (w6.setCell ⟨bi + 1, i, none⟩ (.bool v)).cell? ⟨s, 0, none⟩ = some (.int .i64 (i : Int)) ∧ (w6.setCell ⟨bi + 1, i, none⟩ (.bool v)).cell? ⟨s, 1, none⟩ = some (.bool false))) := fun w6 h6 =>
          ⟨(World.cell?_setCell_far w6 _ _ _ (by simp only; omega)).trans h6.1, (World.cell?_setCell_far w6 _ _ _ (fun e => HSB.out e.symm)).trans h6.2.1, (World.cell?_setCell_far w6 _ _ _ (fun e => HSB.out e.symm)).trans h6.2.2⟩
        have HND : Hid (NdS tb (bi + 1 + 1) bi (bi + 1) N i cs (Pa.pre cs i) x5.drew) := (kx.past (Below.refl x5.heap.size x5).drew).nd hi
        go_region_held3 (fun w' : World => w'.cell? ⟨bi + 1 + 1, 0, none⟩ = some (.slice (some ⟨bi + 1, 0, none⟩) N N) ∧ w'.cell? ⟨s, 0, none⟩ = some (.int .i64 (i : Int)) ∧ w'.cell? ⟨s, 1, none⟩ = some (.bool false)) (first | assumption | exact ⟨hh, d0, d1⟩ | exact HST.out _ (by assumption))
          (first
            | (go_at_call 9; refine (need_any tb (bi + 1 + 1) bi (bi + 1) N i hN4 hlt cs (Pa.pre cs i) v _ HND.out HV.out).mono ?_; rintro e w6 ⟨rfl, hb6⟩; obtain ⟨k6, c6, e6, f6⟩ := HS5.out w6 hb6))
        have hfin := k6.set hlt htlt HV.out
        go_wp2
        go_roundw
        case rel => exact ⟨i + 1, by omega, by go_num, hfin, HCN⟩
        case measure => simp [intOf]; omega
      | true =>
        cases u2 with
        | false =>
          refine wp_region_held_drew (S := (fun w' : World => w'.cell? ⟨bi, 0, none⟩ = some (.func (.func 13) #[] #[.pointer (some ⟨tb, 0, none⟩)]) ∧ w'.cell? ⟨s, 0, none⟩ = some (.int .i64 (i : Int)) ∧ w'.cell? ⟨s, 1, none⟩ = some (.bool false))) (by kernel_rfl) HZ0.out (fun hHeld => ?_)
          have hHeld0 := hHeld
          refine wpAnyH_take (i := 0) (v := .func (.func 13) #[] #[.pointer (some ⟨tb, 0, none⟩)]) rfl (by kernel_rfl) (by kernel_rfl) (by kernel_rfl) (fun _ _ _ h => h) (Or.inl ⟨by kernel_rfl, ?_⟩) (by assumption) ?_
          · intro w hSw
            obtain ⟨hSa, hSb, hSc⟩ := hSw
            go_simp
          try simp only [Act.put, List.getElem_toArray, List.getElem_cons_succ, List.getElem_cons_zero, List.setIfInBounds_toArray, List.set_cons_zero, List.set_cons_succ]
          refine wpAnyH_take (i := 1) (v := .agg #[.int .i64 (i : Int), .bool false]) rfl (by kernel_rfl) (by kernel_rfl) (by kernel_rfl) (fun _ _ _ h => h) (Or.inl ⟨by kernel_rfl, ?_⟩) (by assumption) ?_
          · intro w hSw
            obtain ⟨hSa, hSb, hSc⟩ := hSw
            go_simp
          try simp only [Act.put, List.getElem_toArray, List.getElem_cons_succ, List.getElem_cons_zero, List.setIfInBounds_toArray, List.set_cons_zero, List.set_cons_succ]
          refine wpAnyH_take (i := 2) (v := .agg #[.int .i64 (i : Int), .bool false]) rfl (by kernel_rfl) (by kernel_rfl) (by kernel_rfl) (fun _ _ _ h => h) (Or.inl ⟨by kernel_rfl, ?_⟩) (by assumption) ?_
          · intro w hSw
            obtain ⟨hSa, hSb, hSc⟩ := hSw
            go_simp
          try simp only [Act.put, List.getElem_toArray, List.getElem_cons_succ, List.getElem_cons_zero, List.setIfInBounds_toArray, List.set_cons_zero, List.set_cons_succ]
          refine wpAnyH_ready (rs := [3]) (by kernel_rfl) (by simp) ?_
          refine AllReadyH.cons rfl (fun K hK => ?_) AllReadyH.nil
          rw [if_pos (by kernel_rfl)]
          go_simp
          refine (negation_any (i : Int) false _).mono ?_
          rintro e z1 ⟨rfl, hbz1⟩
          have hzz1 := HTR.out _ z1 hz0 hbz1
          obtain ⟨kz1, cz1⟩ := HC.out z1 hzz1
          go_wp2_with fail
          refine hK.out _ _ cz1 (fun hHeld => ?_)
          clear hK K
          try simp only [Act.put, List.getElem_toArray, List.getElem_cons_succ, List.getElem_cons_zero, List.setIfInBounds_toArray, List.set_cons_zero, List.set_cons_succ]
          refine wpAnyH_ready (rs := [4]) (by kernel_rfl) (by simp) ?_
          refine AllReadyH.cons rfl (fun K hK => ?_) AllReadyH.nil
          rw [if_pos (by kernel_rfl)]
          go_simp
          refine (imp_any tb (Cl.cl (Pa.plns cs) 8) (i : Int) false (i : Int) true true _ kz1.t i0 i4 i0 i4 HU1.out).mono ?_
          rintro e z2 ⟨rfl, hbz2⟩
          have hzz2 := HTR.out _ z2 hzz1 hbz2
          obtain ⟨kz2, cz2⟩ := HC.out z2 hzz2
          go_wp2_with fail
          refine hK.out _ _ cz2 (fun hHeld => ?_)
          clear hK K
          try simp only [Act.put, List.getElem_toArray, List.getElem_cons_succ, List.getElem_cons_zero, List.setIfInBounds_toArray, List.set_cons_zero, List.set_cons_succ]
          refine wpAnyH_take (i := 5) (v := .bool true) rfl (by kernel_rfl) (by kernel_rfl) (by kernel_rfl) (fun _ _ _ h => h) (Or.inl ⟨by kernel_rfl, ?_⟩) (by assumption) ?_
          · intro w hSw
            obtain ⟨hSa, hSb, hSc⟩ := hSw
            go_simp
          try simp only [Act.put, List.getElem_toArray, List.getElem_cons_succ, List.getElem_cons_zero, List.setIfInBounds_toArray, List.set_cons_zero, List.set_cons_succ]
          refine wpAnyH_take (i := 6) (v := .func (.func 13) #[] #[.pointer (some ⟨tb, 0, none⟩)]) rfl (by kernel_rfl) (by kernel_rfl) (by kernel_rfl) (fun _ _ _ h => h) (Or.inl ⟨by kernel_rfl, ?_⟩) (by assumption) ?_
          · intro w hSw
            obtain ⟨hSa, hSb, hSc⟩ := hSw
            go_simp
          try simp only [Act.put, List.getElem_toArray, List.getElem_cons_succ, List.getElem_cons_zero, List.setIfInBounds_toArray, List.set_cons_zero, List.set_cons_succ]
          refine wpAnyH_take (i := 7) (v := .agg #[.int .i64 (i : Int), .bool false]) rfl (by kernel_rfl) (by kernel_rfl) (by kernel_rfl) (fun _ _ _ h => h) (Or.inl ⟨by kernel_rfl, ?_⟩) (by assumption) ?_
          · intro w hSw
            obtain ⟨hSa, hSb, hSc⟩ := hSw
            go_simp
          try simp only [Act.put, List.getElem_toArray, List.getElem_cons_succ, List.getElem_cons_zero, List.setIfInBounds_toArray, List.set_cons_zero, List.set_cons_succ]
          refine wpAnyH_take (i := 9) (v := .agg #[.int .i64 (i : Int), .bool false]) rfl (by kernel_rfl) (by kernel_rfl) (by kernel_rfl) (fun _ _ _ h => h) (Or.inl ⟨by kernel_rfl, ?_⟩) (by assumption) ?_
          · intro w hSw
            obtain ⟨hSa, hSb, hSc⟩ := hSw
            go_simp
          try simp only [Act.put, List.getElem_toArray, List.getElem_cons_succ, List.getElem_cons_zero, List.setIfInBounds_toArray, List.set_cons_zero, List.set_cons_succ]
          refine wpAnyH_ready (rs := [8]) (by kernel_rfl) (by simp) ?_
          refine AllReadyH.cons rfl (fun K hK => ?_) AllReadyH.nil
          rw [if_pos (by kernel_rfl)]
          go_simp
          refine (negation_any (i : Int) false _).mono ?_
          rintro e z3 ⟨rfl, hbz3⟩
          have hzz3 := HTR.out _ z3 hzz2 hbz3
          obtain ⟨kz3, cz3⟩ := HC.out z3 hzz3
          go_wp2_with fail
          refine hK.out _ _ cz3 (fun hHeld => ?_)
          clear hK K
          try simp only [Act.put, List.getElem_toArray, List.getElem_cons_succ, List.getElem_cons_zero, List.setIfInBounds_toArray, List.set_cons_zero, List.set_cons_succ]
          refine wpAnyH_ready (rs := [10]) (by kernel_rfl) (by simp) ?_
          refine AllReadyH.cons rfl (fun K hK => ?_) AllReadyH.nil
          rw [if_pos (by kernel_rfl)]
          go_simp
          refine (imp_any tb (Cl.cl (Pa.plns cs) 8) (i : Int) true (i : Int) false false _ kz3.t i0 i4 i0 i4 HU2.out).mono ?_
          rintro e z4 ⟨rfl, hbz4⟩
          have hzz4 := HTR.out _ z4 hzz3 hbz4
          obtain ⟨kz4, cz4⟩ := HC.out z4 hzz4
          go_wp2_with fail
          refine hK.out _ _ cz4 (fun hHeld => ?_)
          clear hK K
          try simp only [Act.put, List.getElem_toArray, List.getElem_cons_succ, List.getElem_cons_zero, List.setIfInBounds_toArray, List.set_cons_zero, List.set_cons_succ]
          refine wpAnyH_take (i := 11) (v := .bool false) rfl (by kernel_rfl) (by kernel_rfl) (by kernel_rfl) (fun _ _ _ h => h) (Or.inl ⟨by kernel_rfl, ?_⟩) (by assumption) ?_
          · intro w hSw
            obtain ⟨hSa, hSb, hSc⟩ := hSw
            go_simp
          try simp only [Act.put, List.getElem_toArray, List.getElem_cons_succ, List.getElem_cons_zero, List.setIfInBounds_toArray, List.set_cons_zero, List.set_cons_succ]
          refine wpAnyH_done (by kernel_rfl) ?_ _
          have k5 := kz4
          have c5 := cz4
          have HCN : Hid (∀ j, j < i + 1 → Pa.cla cs j = false) := fun j hj => by
            by_cases e : j = i
            · rw [e, HCA.out]; rfl
            · exact HCL.out j (by omega)
          obtain ⟨x5, hx5⟩ : ∃ x5, x5 = z4 := ⟨_, rfl⟩
          have kx : SvI cs N w tb bi i x5 := by rw [hx5]; exact k5
          have cx : x5.cell? ⟨s, 0, none⟩ = some (.int .i64 (i : Int)) ∧ x5.cell? ⟨s, 1, none⟩ = some (.bool false) := by rw [hx5]; exact ⟨c5.2.1, c5.2.2⟩
          clear HZ0 hz0 HC HTR
          go_wp2
          rw [← hx5]
          clear hx5
          obtain ⟨d0, d1⟩ := cx
          have hh := kx.h
          have HS5 : Hid (∀ w6 : World, Below x5.drew.heap.size x5.drew w6 → SvI cs N w tb bi i w6 ∧ (w6.cell? ⟨bi + 1 + 1, 0, none⟩ = some (.slice (some ⟨bi + 1, 0, none⟩) N N) ∧ w6.cell? ⟨s, 0, none⟩ = some (.int .i64 (i : Int)) ∧ w6.cell? ⟨s, 1, none⟩ = some (.bool false)) ∧ w6.cell? ⟨bi + 1, i, none⟩ = some (.bool ((Pa.fill cs N i).getD i false)) ∧ w6.frozen? ⟨bi + 1, i, none⟩ = false) := fun w6 hb6 => by
            have hbr : Below x5.heap.size x5 w6 := (Below.refl x5.heap.size x5).drew.trans hb6
            have h1 := kx.past hbr
            exact ⟨h1, ⟨h1.h, (hbr.cell (p := ⟨s, 0, none⟩) (World.block_lt_of_cell? x5 _ d0)).trans d0, (hbr.cell (p := ⟨s, 1, none⟩) (World.block_lt_of_cell? x5 _ d1)).trans d1⟩, h1.o.cell i hlt, h1.o.frozen i⟩
          have HST : Hid (∀ w6 : World, (w6.cell? ⟨bi + 1 + 1, 0, none⟩ = some (.slice (some ⟨bi + 1, 0, none⟩) N N) ∧ w6.cell? ⟨s, 0, none⟩ = some (.int .i64 (i : Int)) ∧ w6.cell? ⟨s, 1, none⟩ = some (.bool false)) → ((w6.setCell ⟨bi + 1, i, none⟩ (.bool v)).cell? ⟨bi + 1 + 1, 0, none⟩ = some (.slice (some ⟨bi + 1, 0, none⟩) N N) ∧ (w6.setCell ⟨bi + 1, i, none⟩ (.bool v)).cell? ⟨s, 0, none⟩ = some (.int .i64 (i : Int)) ∧ (w6.setCell ⟨bi + 1, i, none⟩ (.bool v)).cell? ⟨s, 1, none⟩ = some (.bool false))) := fun w6 h6 =>
            ⟨(World.cell?_setCell_far w6 _ _ _ (by simp only; omega)).trans h6.1, (World.cell?_setCell_far w6 _ _ _ (fun e => HSB.out e.symm)).trans h6.2.1, (World.cell?_setCell_far w6 _ _ _ (fun e => HSB.out e.symm)).trans h6.2.2⟩
          have HND : Hid (NdS tb (bi + 1 + 1) bi (bi + 1) N i cs (Pa.pre cs i) x5.drew) := (kx.past (Below.refl x5.heap.size x5).drew).nd hi
          go_region_held3 (fun w' : World => w'.cell? ⟨bi + 1 + 1, 0, none⟩ = some (.slice (some ⟨bi + 1, 0, none⟩) N N) ∧ w'.cell? ⟨s, 0, none⟩ = some (.int .i64 (i : Int)) ∧ w'.cell? ⟨s, 1, none⟩ = some (.bool false)) (first | assumption | exact ⟨hh, d0, d1⟩ | exact HST.out _ (by assumption))
            (first
              | (go_at_call 9; refine (need_any tb (bi + 1 + 1) bi (bi + 1) N i hN4 hlt cs (Pa.pre cs i) v _ HND.out HV.out).mono ?_; rintro e w6 ⟨rfl, hb6⟩; obtain ⟨k6, c6, e6, f6⟩ := HS5.out w6 hb6))
          have hfin := k6.set hlt htlt HV.out
          go_wp2
          go_roundw
          case rel => exact ⟨i + 1, by omega, by go_num, hfin, HCN⟩
          case measure => simp [intOf]; omega
        | true =>
          refine wp_region_held_drew (S := (fun w' : World => w'.cell? ⟨bi, 0, none⟩ = some (.func (.func 13) #[] #[.pointer (some ⟨tb, 0, none⟩)]) ∧ w'.cell? ⟨s, 0, none⟩ = some (.int .i64 (i : Int)) ∧ w'.cell? ⟨s, 1, none⟩ = some (.bool false))) (by kernel_rfl) HZ0.out (fun hHeld => ?_)
          have hHeld0 := hHeld
          refine wpAnyH_take (i := 0) (v := .func (.func 13) #[] #[.pointer (some ⟨tb, 0, none⟩)]) rfl (by kernel_rfl) (by kernel_rfl) (by kernel_rfl) (fun _ _ _ h => h) (Or.inl ⟨by kernel_rfl, ?_⟩) (by assumption) ?_
          · intro w hSw
            obtain ⟨hSa, hSb, hSc⟩ := hSw
            go_simp
          try simp only [Act.put, List.getElem_toArray, List.getElem_cons_succ, List.getElem_cons_zero, List.setIfInBounds_toArray, List.set_cons_zero, List.set_cons_succ]
          refine wpAnyH_take (i := 1) (v := .agg #[.int .i64 (i : Int), .bool false]) rfl (by kernel_rfl) (by kernel_rfl) (by kernel_rfl) (fun _ _ _ h => h) (Or.inl ⟨by kernel_rfl, ?_⟩) (by assumption) ?_
          · intro w hSw
            obtain ⟨hSa, hSb, hSc⟩ := hSw
            go_simp
          try simp only [Act.put, List.getElem_toArray, List.getElem_cons_succ, List.getElem_cons_zero, List.setIfInBounds_toArray, List.set_cons_zero, List.set_cons_succ]
          refine wpAnyH_take (i := 2) (v := .agg #[.int .i64 (i : Int), .bool false]) rfl (by kernel_rfl) (by kernel_rfl) (by kernel_rfl) (fun _ _ _ h => h) (Or.inl ⟨by kernel_rfl, ?_⟩) (by assumption) ?_
          · intro w hSw
            obtain ⟨hSa, hSb, hSc⟩ := hSw
            go_simp
          try simp only [Act.put, List.getElem_toArray, List.getElem_cons_succ, List.getElem_cons_zero, List.setIfInBounds_toArray, List.set_cons_zero, List.set_cons_succ]
          refine wpAnyH_ready (rs := [3]) (by kernel_rfl) (by simp) ?_
          refine AllReadyH.cons rfl (fun K hK => ?_) AllReadyH.nil
          rw [if_pos (by kernel_rfl)]
          go_simp
          refine (negation_any (i : Int) false _).mono ?_
          rintro e z1 ⟨rfl, hbz1⟩
          have hzz1 := HTR.out _ z1 hz0 hbz1
          obtain ⟨kz1, cz1⟩ := HC.out z1 hzz1
          go_wp2_with fail
          refine hK.out _ _ cz1 (fun hHeld => ?_)
          clear hK K
          try simp only [Act.put, List.getElem_toArray, List.getElem_cons_succ, List.getElem_cons_zero, List.setIfInBounds_toArray, List.set_cons_zero, List.set_cons_succ]
          refine wpAnyH_ready (rs := [4]) (by kernel_rfl) (by simp) ?_
          refine AllReadyH.cons rfl (fun K hK => ?_) AllReadyH.nil
          rw [if_pos (by kernel_rfl)]
          go_simp
          refine (imp_any tb (Cl.cl (Pa.plns cs) 8) (i : Int) false (i : Int) true true _ kz1.t i0 i4 i0 i4 HU1.out).mono ?_
          rintro e z2 ⟨rfl, hbz2⟩
          have hzz2 := HTR.out _ z2 hzz1 hbz2
          obtain ⟨kz2, cz2⟩ := HC.out z2 hzz2
          go_wp2_with fail
          refine hK.out _ _ cz2 (fun hHeld => ?_)
          clear hK K
          try simp only [Act.put, List.getElem_toArray, List.getElem_cons_succ, List.getElem_cons_zero, List.setIfInBounds_toArray, List.set_cons_zero, List.set_cons_succ]
          refine wpAnyH_take (i := 5) (v := .bool true) rfl (by kernel_rfl) (by kernel_rfl) (by kernel_rfl) (fun _ _ _ h => h) (Or.inl ⟨by kernel_rfl, ?_⟩) (by assumption) ?_
          · intro w hSw
            obtain ⟨hSa, hSb, hSc⟩ := hSw
            go_simp
          try simp only [Act.put, List.getElem_toArray, List.getElem_cons_succ, List.getElem_cons_zero, List.setIfInBounds_toArray, List.set_cons_zero, List.set_cons_succ]
          refine wpAnyH_take (i := 6) (v := .func (.func 13) #[] #[.pointer (some ⟨tb, 0, none⟩)]) rfl (by kernel_rfl) (by kernel_rfl) (by kernel_rfl) (fun _ _ _ h => h) (Or.inl ⟨by kernel_rfl, ?_⟩) (by assumption) ?_
          · intro w hSw
            obtain ⟨hSa, hSb, hSc⟩ := hSw
            go_simp
          try simp only [Act.put, List.getElem_toArray, List.getElem_cons_succ, List.getElem_cons_zero, List.setIfInBounds_toArray, List.set_cons_zero, List.set_cons_succ]
          refine wpAnyH_take (i := 7) (v := .agg #[.int .i64 (i : Int), .bool false]) rfl (by kernel_rfl) (by kernel_rfl) (by kernel_rfl) (fun _ _ _ h => h) (Or.inl ⟨by kernel_rfl, ?_⟩) (by assumption) ?_
          · intro w hSw
            obtain ⟨hSa, hSb, hSc⟩ := hSw
            go_simp
          try simp only [Act.put, List.getElem_toArray, List.getElem_cons_succ, List.getElem_cons_zero, List.setIfInBounds_toArray, List.set_cons_zero, List.set_cons_succ]
          refine wpAnyH_take (i := 9) (v := .agg #[.int .i64 (i : Int), .bool false]) rfl (by kernel_rfl) (by kernel_rfl) (by kernel_rfl) (fun _ _ _ h => h) (Or.inl ⟨by kernel_rfl, ?_⟩) (by assumption) ?_
          · intro w hSw
            obtain ⟨hSa, hSb, hSc⟩ := hSw
            go_simp
          try simp only [Act.put, List.getElem_toArray, List.getElem_cons_succ, List.getElem_cons_zero, List.setIfInBounds_toArray, List.set_cons_zero, List.set_cons_succ]
          refine wpAnyH_ready (rs := [8]) (by kernel_rfl) (by simp) ?_
          refine AllReadyH.cons rfl (fun K hK => ?_) AllReadyH.nil
          rw [if_pos (by kernel_rfl)]
          go_simp
          refine (negation_any (i : Int) false _).mono ?_
          rintro e z3 ⟨rfl, hbz3⟩
          have hzz3 := HTR.out _ z3 hzz2 hbz3
          obtain ⟨kz3, cz3⟩ := HC.out z3 hzz3
          go_wp2_with fail
          refine hK.out _ _ cz3 (fun hHeld => ?_)
          clear hK K
          try simp only [Act.put, List.getElem_toArray, List.getElem_cons_succ, List.getElem_cons_zero, List.setIfInBounds_toArray, List.set_cons_zero, List.set_cons_succ]
          refine wpAnyH_ready (rs := [10]) (by kernel_rfl) (by simp) ?_
          refine AllReadyH.cons rfl (fun K hK => ?_) AllReadyH.nil
          rw [if_pos (by kernel_rfl)]
          go_simp
          refine (imp_any tb (Cl.cl (Pa.plns cs) 8) (i : Int) true (i : Int) false true _ kz3.t i0 i4 i0 i4 HU2.out).mono ?_
          rintro e z4 ⟨rfl, hbz4⟩
          have hzz4 := HTR.out _ z4 hzz3 hbz4
          obtain ⟨kz4, cz4⟩ := HC.out z4 hzz4
          go_wp2_with fail
          refine hK.out _ _ cz4 (fun hHeld => ?_)
          clear hK K
          try simp only [Act.put, List.getElem_toArray, List.getElem_cons_succ, List.getElem_cons_zero, List.setIfInBounds_toArray, List.set_cons_zero, List.set_cons_succ]
          refine wpAnyH_take (i := 11) (v := .bool true) rfl (by kernel_rfl) (by kernel_rfl) (by kernel_rfl) (fun _ _ _ h => h) (Or.inl ⟨by kernel_rfl, ?_⟩) (by assumption) ?_
          · intro w hSw
            obtain ⟨hSa, hSb, hSc⟩ := hSw
            go_simp
          try simp only [Act.put, List.getElem_toArray, List.getElem_cons_succ, List.getElem_cons_zero, List.setIfInBounds_toArray, List.set_cons_zero, List.set_cons_succ]
          refine wpAnyH_done (by kernel_rfl) ?_ _
          have k5 := kz4
          have c5 := cz4
          have hfin : ∃ i, i < N ∧ Pa.cla cs i = true := ⟨i, hlt, HCA.out⟩
          have hbf := k5.b
          go_wp2
          go_ret2
          exact ⟨hbf, .inl ⟨hfin, rfl⟩⟩
    · obtain rfl : i = N := by omega
      have hh := hS.h
      have hb := hS.b
      have ho := hS.o
      rw [Pa.fill_all] at ho
      go_wp2
      go_ret2
      exact ⟨hb, .inr ⟨HCL.out, bi + 1, rfl, ho⟩⟩

end Go.Proofs.Ythalopmplekdoaa
