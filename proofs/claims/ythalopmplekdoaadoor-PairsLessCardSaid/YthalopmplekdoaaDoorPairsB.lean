/-
  Contracts of package pairs: implication (a table that is filled in place, and the closure that reads it).
-/
import Derived.Test.YthalopmplekdoaaDoorPairsA
import Derived.Test.YthalopmplekdoaaDoorArr
import Derived.Laws.EntriesVeiled
import Derived.Deep.RegionHeld3
import Derived.Deep.DeepCutAuto
namespace Go.Proofs.YthalopmplekdoaaDoor
open Go.RowKit Go.Shelf

attribute [local go_sem] Oper.semAt_some
set_option linter.unusedSimpArgs false
set_option linter.unusedVariables false

theorem pfalse64 : (List.replicate 64 false).map Value.bool = [.bool false, .bool false, .bool false, .bool false, .bool false, .bool false, .bool false, .bool false, .bool false, .bool false, .bool false, .bool false, .bool false, .bool false, .bool false, .bool false, .bool false, .bool false, .bool false, .bool false, .bool false, .bool false, .bool false, .bool false, .bool false, .bool false, .bool false, .bool false, .bool false, .bool false, .bool false, .bool false, .bool false, .bool false, .bool false, .bool false, .bool false, .bool false, .bool false, .bool false, .bool false, .bool false, .bool false, .bool false, .bool false, .bool false, .bool false, .bool false, .bool false, .bool false, .bool false, .bool false, .bool false, .bool false, .bool false, .bool false, .bool false, .bool false, .bool false, .bool false, .bool false, .bool false, .bool false, .bool false] := rfl

/-- block tb is the table r -/
def PtA (tb : Nat) (r : Nat → Nat → Bool) (wr : World) : Prop := ArB wr tb 69 (Cl.tbl r)
theorem PtA.past {tb : Nat} {r : Nat → Nat → Bool} {w w' : World} (h : PtA tb r w) (hb : Below w.heap.size w w') : PtA tb r w' := ArB.same h (hb.block tb (Array.getElem?_eq_some_iff.1 h).1)
theorem PtA.cell {tb : Nat} {r : Nat → Nat → Bool} {w : World} (h : PtA tb r w) {a b : Nat} (ha : a < 8) (hb : b < 8) : w.cell? ⟨tb, a * 8 + b, none⟩ = some (.bool (r a b)) := by
  rw [ArB.cell h (by rw [Cl.tbl_len]; omega), Cl.tbl_at r ha hb]

/-! ### the closure -/
/-- two names, as the closure's boxes hold them, and one place of the table -/
def ImS (s0 tb p : Nat) (a : Int) (s : Bool) (b : Int) (t v : Bool) (w' : World) : Prop :=
  w'.cell? ⟨s0, 0, none⟩ = some (.int .i64 a) ∧ w'.cell? ⟨s0, 1, none⟩ = some (.bool s) ∧ w'.cell? ⟨s0 + 1, 0, none⟩ = some (.int .i64 b) ∧ w'.cell? ⟨s0 + 1, 1, none⟩ = some (.bool t) ∧ w'.cell? ⟨tb, p, none⟩ = some (.bool v)
theorem ImS.past {s0 tb p : Nat} {a : Int} {s : Bool} {b : Int} {t v : Bool} {w w' : World} (h : ImS s0 tb p a s b t v w) (hb : Below w.heap.size w w') : ImS s0 tb p a s b t v w' := by
  obtain ⟨h1, h2, h3, h4, h5⟩ := h
  exact ⟨(hb.cell (p := ⟨s0, 0, none⟩) (World.block_lt_of_cell? w _ h1)).trans h1, (hb.cell (p := ⟨s0, 1, none⟩) (World.block_lt_of_cell? w _ h2)).trans h2, (hb.cell (p := ⟨s0 + 1, 0, none⟩) (World.block_lt_of_cell? w _ h3)).trans h3, (hb.cell (p := ⟨s0 + 1, 1, none⟩) (World.block_lt_of_cell? w _ h4)).trans h4, (hb.cell (p := ⟨tb, p, none⟩) (World.block_lt_of_cell? w _ h5)).trans h5⟩
theorem place_at (a : Int) (s : Bool) (p : Nat) (w : World) (h0 : 0 ≤ a) (h4 : a < 4) (hp : Pa.pl (a, s) = p) :
    Calls Tryd.prog 28 #[.agg #[.int .i64 a, .bool s]] w fun e w' => e = .returned (.int .i64 ((p : Nat) : Int)) ∧ Below w.heap.size w w' := by
  rw [← hp]; exact place_any a s w h0 h4

set_option maxRecDepth 100000 in
set_option maxHeartbeats 2000000 in
theorem imp_any (tb : Nat) (r : Nat → Nat → Bool) (a : Int) (s : Bool) (b : Int) (t v : Bool) (w : World) (hA : PtA tb r w) (ha0 : 0 ≤ a) (ha4 : a < 4) (hb0 : 0 ≤ b) (hb4 : b < 4) (hv : r (Pa.pl (a, s)) (Pa.pl (b, t)) = v) :
    Calls Tryd.prog 29 #[.agg #[.int .i64 a, .bool s], .agg #[.int .i64 b, .bool t], .pointer (some ⟨tb, 0, none⟩)] w fun e w' => e = .returned (.bool v) ∧ Below w.heap.size w w' := by
  obtain ⟨p, hp⟩ : ∃ p, Pa.pl (a, s) = p := ⟨_, rfl⟩
  obtain ⟨q, hq⟩ : ∃ q, Pa.pl (b, t) = q := ⟨_, rfl⟩
  have hp8 : p < 8 := by rw [← hp]; exact Pa.pl_lt (N := 4) (Nat.le_refl _) ⟨ha0, ha4⟩
  have hq8 : q < 8 := by rw [← hq]; exact Pa.pl_lt (N := 4) (Nat.le_refl _) ⟨hb0, hb4⟩
  rw [hp, hq] at hv
  obtain ⟨w1, hw1⟩ : ∃ w1, w1 = w.alloc (.cells #[.int .i64 a, .bool s] 41) := ⟨_, rfl⟩
  obtain ⟨w2, hw2⟩ : ∃ w2, w2 = w1.alloc (.cells #[.int .i64 b, .bool t] 41) := ⟨_, rfl⟩
  have b1 : Below w.heap.size w w1 := by rw [hw1]; exact (Below.refl _ _).alloc (Nat.le_refl _) _
  have b2 : Below w1.heap.size w1 w2 := by rw [hw2]; exact (Below.refl _ _).alloc (Nat.le_refl _) _
  have b12 : Below w.heap.size w w2 := b1.trans (b2.mono b1.size)
  have hs1 : w1.heap.size = w.heap.size + 1 := by rw [hw1, World.size_alloc]
  have hS : ImS w.heap.size tb (p * 8 + q) a s b t v w2 := by
    have hc := ((hA.past b1).past b2).cell hp8 hq8
    rw [hv] at hc
    have c0 : w1.cell? ⟨w.heap.size, 0, none⟩ = some (.int .i64 a) := by rw [hw1]; simp
    have c1 : w1.cell? ⟨w.heap.size, 1, none⟩ = some (.bool s) := by rw [hw1]; simp
    have c2 : w2.cell? ⟨w1.heap.size, 0, none⟩ = some (.int .i64 b) := by rw [hw2]; simp
    have c3 : w2.cell? ⟨w1.heap.size, 1, none⟩ = some (.bool t) := by rw [hw2]; simp
    rw [hs1] at c2 c3
    exact ⟨(b2.cell (p := ⟨w.heap.size, 0, none⟩) (by simp only; omega)).trans c0, (b2.cell (p := ⟨w.heap.size, 1, none⟩) (by simp only; omega)).trans c1, c2, c3, hc⟩
  have HB := Lib.hid b12
  have HP : Hid (Pa.pl (a, s) = p) := hp
  have HQ : Hid (Pa.pl (b, t) = q) := hq
  have HSZ := Lib.hid hs1
  have i1 : (0 : Int) ≤ (p : Int) := by omega
  have i2 : (p : Int) < 8 := by omega
  have i3 : (0 : Int) ≤ (q : Int) := by omega
  have i4 : (q : Int) < 8 := by omega
  have HW1 := Lib.hid hw1
  have HW2 := Lib.hid hw2
  clear b1 b2 b12 hp hq hA hv hs1 hw1 hw2
  go_enter Tryd.func29, Tryd.ntmps29
  go_wp2
  rw [← HW1.out, ← HW2.out]
  obtain ⟨s0, hs0⟩ : ∃ s0, s0 = w.heap.size := ⟨_, rfl⟩
  rw [← hs0] at hS ⊢
  have HS0 := Lib.hid hs0
  clear hs0
  obtain ⟨g0, g1, g2, g3, g4⟩ := hS
  have hK0 : ImS s0 tb (p * 8 + q) a s b t v w2.drew := ⟨g0, g1, g2, g3, g4⟩
  have hB0 : Below w.heap.size w w2.drew := HB.out.drew
  go_region_held3 (fun w' : World => w'.cell? ⟨s0, 0, none⟩ = some (.int .i64 a) ∧ w'.cell? ⟨s0, 1, none⟩ = some (.bool s) ∧ w'.cell? ⟨s0 + 1, 0, none⟩ = some (.int .i64 b) ∧ w'.cell? ⟨s0 + 1, 1, none⟩ = some (.bool t) ∧ w'.cell? ⟨tb, p * 8 + q, none⟩ = some (.bool v)) (first | assumption | exact hK0)
    (first
      | (go_at_call_of 28 (Value.agg #[Value.int IntKind.i64 a, Value.bool s]); refine (place_at a s p _ ha0 ha4 HP.out).mono ?_; rintro e w5 ⟨rfl, hb5⟩; have hk5 : ImS s0 tb (p * 8 + q) a s b t v w5 := ImS.past (by first | assumption | exact hK0) hb5; have hB5 : Below w.heap.size w w5 := Below.trans (by assumption) (hb5.mono (Below.size (by assumption))))
      | (go_at_call_of 28 (Value.agg #[Value.int IntKind.i64 b, Value.bool t]); refine (place_at b t q _ hb0 hb4 HQ.out).mono ?_; rintro e w5 ⟨rfl, hb5⟩; have hk5 : ImS s0 tb (p * 8 + q) a s b t v w5 := ImS.past (by first | assumption | exact hK0) hb5; have hB5 : Below w.heap.size w w5 := Below.trans (by assumption) (hb5.mono (Below.size (by assumption)))))
  all_goals
    go_wp2
    go_ret
    exact ⟨rfl, by assumption⟩

/-! ### the table -/
/-- in the midst of it -/
def PtI (w : World) (r : Nat → Nat → Bool) (wr : World) : Prop := PtA w.heap.size r wr ∧ Below w.heap.size w wr
theorem PtI.to {w wr : World} {r s : Nat → Nat → Bool} (h : PtI w r wr) (e : Cl.tbl r = Cl.tbl s) : PtI w s wr := ⟨by unfold PtA; rw [← e]; exact h.1, h.2⟩
theorem PtI.past {w w1 w2 : World} {r : Nat → Nat → Bool} (h : PtI w r w1) (hb : Below w1.heap.size w1 w2) : PtI w r w2 := ⟨h.1.past hb, h.2.trans (hb.mono h.2.size)⟩
theorem PtI.cell {w wr : World} {r : Nat → Nat → Bool} (h : PtI w r wr) {a b : Nat} (ha : a < 8) (hb : b < 8) : wr.cell? ⟨w.heap.size, a * 8 + b, none⟩ = some (.bool (r a b)) := h.1.cell ha hb
theorem PtI.set {w wr : World} {r s : Nat → Nat → Bool} (h : PtI w r wr) {a b : Nat} (e : (Cl.tbl r).set (a * 8 + b) true = Cl.tbl s) : PtI w s (wr.setCell ⟨w.heap.size, a * 8 + b, none⟩ (.bool true)) :=
  ⟨by unfold PtA; rw [← e]; exact ArB.store h.1 _ _, h.2.setCell (by simp) _⟩
/-- the box of an or beside it -/
def OrAt (g : Nat) (a : Int) (s : Bool) (b : Int) (t : Bool) (w' : World) : Prop :=
  w'.cell? ⟨g, 0, none⟩ = some (.int .i64 a) ∧ w'.cell? ⟨g, 1, none⟩ = some (.bool s) ∧ w'.cell? ⟨g, 2, none⟩ = some (.int .i64 b) ∧ w'.cell? ⟨g, 3, none⟩ = some (.bool t)
theorem OrAt.past {g : Nat} {a : Int} {s : Bool} {b : Int} {t : Bool} {w w' : World} (h : OrAt g a s b t w) (hb : Below w.heap.size w w') : OrAt g a s b t w' := by
  obtain ⟨h1, h2, h3, h4⟩ := h
  exact ⟨(hb.cell (p := ⟨g, 0, none⟩) (World.block_lt_of_cell? w _ h1)).trans h1, (hb.cell (p := ⟨g, 1, none⟩) (World.block_lt_of_cell? w _ h2)).trans h2, (hb.cell (p := ⟨g, 2, none⟩) (World.block_lt_of_cell? w _ h3)).trans h3, (hb.cell (p := ⟨g, 3, none⟩) (World.block_lt_of_cell? w _ h4)).trans h4⟩
theorem OrAt.other {g tb : Nat} {a : Int} {s : Bool} {b : Int} {t : Bool} {w : World} (h : OrAt g a s b t w) (hne : g ≠ tb) (i : Nat) (v : Value) : OrAt g a s b t (w.setCell ⟨tb, i, none⟩ v) := by
  have key : ∀ j, (w.setCell ⟨tb, i, none⟩ v).cell? ⟨g, j, none⟩ = w.cell? ⟨g, j, none⟩ := fun j => World.cell?_setCell_far w _ _ v (fun e => hne e.symm)
  exact ⟨(key 0).trans h.1, (key 1).trans h.2.1, (key 2).trans h.2.2.1, (key 3).trans h.2.2.2⟩
/-- both, and what the place of the table holds -/
structure PtK (w : World) (r : Nat → Nat → Bool) (g : Nat) (a : Int) (s : Bool) (b : Int) (t : Bool) (wr : World) : Prop where
  i : PtI w r wr
  o : OrAt g a s b t wr
theorem PtK.past {w w1 w2 : World} {r : Nat → Nat → Bool} {g : Nat} {a : Int} {s : Bool} {b : Int} {t : Bool} (h : PtK w r g a s b t w1) (hb : Below w1.heap.size w1 w2) : PtK w r g a s b t w2 := ⟨h.i.past hb, h.o.past hb⟩
/-- what an arm lays behind a call -/
def PtL (w : World) (r : Nat → Nat → Bool) (g : Nat) (a : Int) (s : Bool) (b : Int) (t : Bool) (i : Nat) (v : Bool) (w5 : World) : Prop :=
  PtK w r g a s b t w5 ∧ (w5.cell? ⟨g, 0, none⟩ = some (.int .i64 a) ∧ w5.cell? ⟨g, 1, none⟩ = some (.bool s) ∧ w5.cell? ⟨g, 2, none⟩ = some (.int .i64 b) ∧ w5.cell? ⟨g, 3, none⟩ = some (.bool t)) ∧ w5.cell? ⟨w.heap.size, i, none⟩ = some (.bool v) ∧ w5.frozen? ⟨w.heap.size, i, none⟩ = false
theorem PtK.lay {w w1 : World} {r : Nat → Nat → Bool} {g : Nat} {a : Int} {s : Bool} {b : Int} {t : Bool} (h : PtK w r g a s b t w1) {p q : Nat} (hp : p < 8) (hq : q < 8) : PtL w r g a s b t (p * 8 + q) (r p q) w1 := ⟨h, h.o, h.i.cell hp hq, ArB.frozen h.i.1 _⟩

set_option maxRecDepth 100000 in
set_option maxHeartbeats 4000000 in
theorem implication_any (N : Nat) (h4 : N ≤ 4) (A : Option Addr) (k c : Nat) (cs : List Or2) (w : World) (hr : RdO w w.heap.size A k c cs) (hg : ∀ c ∈ cs, Pa.Good N c) :
    Calls Tryd.prog 21 #[.slice A k c] w fun e w' => e = .returned (.func (.func 29) #[] #[.pointer (some ⟨w.heap.size, 0, none⟩)]) ∧ PtI w (Cl.cl (Pa.plns cs) 8) w' := by
  have HX := Lib.hid hr.len
  have HG := Lib.hid hg
  have HPL : Hid ((Pa.plns cs).length = 2 * k) := by show _ = _; rw [Pa.plns_len, HX.out]
  clear hg
  have hbig := hr.big
  obtain ⟨ls, hls⟩ : ∃ ls, ls = Pa.plns cs := ⟨_, rfl⟩
  rw [← hls] at HPL ⊢
  have HLS := Lib.hid hls
  clear hls
  have hmf : ∀ (fn : Fn) (first cap : Array Value) (w : World), (Instr.makeFunc fn first cap).run Tryd.prog w = .ok (.func fn first cap) w := fun _ _ _ _ => rfl
  go_enter Tryd.func21, Tryd.ntmps21
  go_wp2
  have H00 : PtI w (Cl.hasTo ls 0) _ := ⟨(by have := ArB.new w 69 (List.replicate 64 false); unfold PtA; rw [Cl.tbl_zero]; exact this), (Below.refl _ _).alloc (Nat.le_refl _) _⟩
  rw [pfalse64] at H00
  go_loopw [5, 11] (fun _ i wr => ∃ j : Nat, j ≤ k ∧ i = .int .i64 j ∧ PtI w (Cl.hasTo ls (2 * j)) wr) (fun _ i _ => k - (intOf i).toNat)
  case atStart => exact ⟨0, Nat.zero_le _, rfl, H00⟩
  case round =>
    clear H00
    obtain ⟨j, hj, rfl, H⟩ := hrel
    by_cases hlt : j < k
    · obtain ⟨b1, o1, rfl, hbb, hcc⟩ := hr.at_ (by omega)
      obtain ⟨x0, x1, x2, x3⟩ := hcc j hlt
      have g0 : wr.cell? ⟨b1, o1 + j * 4, none⟩ = some (.int .i64 (cs.getD j or0).1.1) := (H.2.cell (by exact hbb)).trans x0
      have g1 : wr.cell? ⟨b1, o1 + j * 4 + 1, none⟩ = some (.bool (cs.getD j or0).1.2) := (H.2.cell (by exact hbb)).trans x1
      have g2 : wr.cell? ⟨b1, o1 + j * 4 + 2, none⟩ = some (.int .i64 (cs.getD j or0).2.1) := (H.2.cell (by exact hbb)).trans x2
      have g3 : wr.cell? ⟨b1, o1 + j * 4 + 3, none⟩ = some (.bool (cs.getD j or0).2.2) := (H.2.cell (by exact hbb)).trans x3
      clear hcc x0 x1 x2 x3
      have hjl : j < cs.length := by rw [HX.out]; exact hlt
      have hmem : cs.getD j or0 ∈ cs := by simp [List.getD, hjl]
      have hgood := HG.out _ hmem
      have hat := Pa.plns_at hjl
      rw [← HLS.out] at hat
      obtain ⟨⟨⟨a, s⟩, ⟨b, t⟩⟩, hp⟩ : ∃ p, p = cs.getD j or0 := ⟨_, rfl⟩
      have hat' : ls.getD (2 * j) (0, 0) = (((Pa.pl (a, !s) : Nat) : Int), ((Pa.pl (b, t) : Nat) : Int)) ∧ ls.getD (2 * j + 1) (0, 0) = (((Pa.pl (b, !t) : Nat) : Int), ((Pa.pl (a, s) : Nat) : Int)) := by
        have e : cs.getD j ((0, false), (0, false)) = ((a, s), (b, t)) := hp.symm
        rw [e] at hat
        exact hat
      rw [← hp] at g0 g1 g2 g3 hgood
      unfold Pa.Good at hgood
      simp only at g0 g1 g2 g3 hgood
      obtain ⟨ha0, haN, hb0, hbN⟩ := hgood
      have ha4 : a < 4 := by omega
      have hb4 : b < 4 := by omega
      clear hat hp hmem haN hbN
      obtain ⟨p, hp⟩ : ∃ p, Pa.pl (a, !s) = p := ⟨_, rfl⟩
      obtain ⟨q, hq⟩ : ∃ q, Pa.pl (b, t) = q := ⟨_, rfl⟩
      obtain ⟨u, hu⟩ : ∃ u, Pa.pl (b, !t) = u := ⟨_, rfl⟩
      obtain ⟨v, hv⟩ : ∃ v, Pa.pl (a, s) = v := ⟨_, rfl⟩
      have hp8 : p < 8 := by rw [← hp]; exact Pa.pl_lt (N := 4) (Nat.le_refl _) ⟨ha0, ha4⟩
      have hq8 : q < 8 := by rw [← hq]; exact Pa.pl_lt (N := 4) (Nat.le_refl _) ⟨hb0, hb4⟩
      have hu8 : u < 8 := by rw [← hu]; exact Pa.pl_lt (N := 4) (Nat.le_refl _) ⟨hb0, hb4⟩
      have hv8 : v < 8 := by rw [← hv]; exact Pa.pl_lt (N := 4) (Nat.le_refl _) ⟨ha0, ha4⟩
      rw [hp, hq, hu, hv] at hat'
      have HN1 : Hid ((Cl.tbl (Cl.hasTo ls (2 * j))).set (p * 8 + q) true = Cl.tbl (Cl.hasTo ls (2 * j + 1))) := Cl.tbl_next (by rw [HPL.out]; omega) hat'.1.symm hp8 hq8
      have HN2 : Hid ((Cl.tbl (Cl.hasTo ls (2 * j + 1))).set (u * 8 + v) true = Cl.tbl (Cl.hasTo ls (2 * (j + 1)))) := Cl.tbl_next (by rw [HPL.out]; omega) hat'.2.symm hu8 hv8
      have HP : Hid (Pa.pl (a, !s) = p) := hp
      have HQ : Hid (Pa.pl (b, t) = q) := hq
      have HU : Hid (Pa.pl (b, !t) = u) := hu
      have HV : Hid (Pa.pl (a, s) = v) := hv
      have HHB := Lib.hid (show ∀ z : Nat, z < 8 → (0 : Int) ≤ (z : Int) ∧ (z : Int) < 8 from fun z hz => by omega)
      obtain ⟨i1, i2⟩ := HHB.out p hp8
      obtain ⟨i3, i4⟩ := HHB.out q hq8
      obtain ⟨i5, i6⟩ := HHB.out u hu8
      obtain ⟨i7, i8⟩ := HHB.out v hv8
      clear hat' hp hq hu hv HHB hjl
      obtain ⟨y, hy⟩ : ∃ y, y = wr.alloc (.cells #[.int .i64 a, .bool s, .int .i64 b, .bool t] 43) := ⟨_, rfl⟩
      have hyb : Below wr.heap.size wr y := by rw [hy]; exact (Below.refl _ _).alloc (Nat.le_refl _) _
      have hK0 : PtK w (Cl.hasTo ls (2 * j)) wr.heap.size a s b t y := ⟨H.past hyb, by rw [hy]; exact ⟨by simp, by simp, by simp, by simp⟩⟩
      have HNE : Hid (wr.heap.size ≠ w.heap.size) := by
        have h1 : w.heap.size < wr.heap.size := (Array.getElem?_eq_some_iff.1 H.1).1
        show _ ≠ _; omega
      clear hyb H
      go_wp2
      rw [← hy]
      have HY := Lib.hid hy
      clear hy g0 g1 g2 g3
      obtain ⟨g, hgn⟩ : ∃ g, g = wr.heap.size := ⟨_, rfl⟩
      rw [← hgn] at hK0 HNE ⊢
      have HGN := Lib.hid hgn
      clear hgn
      go_cut [] (fun wx => PtK w (Cl.hasTo ls (2 * j + 1)) g a s b t wx)
      case first =>
        have hK0d : PtK w (Cl.hasTo ls (2 * j)) g a s b t y.drew := ⟨⟨hK0.i.1, hK0.i.2.drew⟩, hK0.o⟩
        obtain ⟨c0, c1, c2, c3⟩ := hK0d.o
        have HLY : Hid (∀ w5, PtK w (Cl.hasTo ls (2 * j)) g a s b t w5 → PtL w (Cl.hasTo ls (2 * j)) g a s b t (p * 8 + q) ((Cl.hasTo ls (2 * j)) p q) w5) := fun w5 h => h.lay (by omega) (by omega)
        have HST : Hid (∀ w5 : World, PtK w (Cl.hasTo ls (2 * j)) g a s b t w5 → OrAt g a s b t (w5.setCell ⟨w.heap.size, p * 8 + q, none⟩ (.bool true))) := fun w5 h => h.o.other HNE.out _ _
        go_region_held3 (fun w' : World => w'.cell? ⟨g, 0, none⟩ = some (.int .i64 a) ∧ w'.cell? ⟨g, 1, none⟩ = some (.bool s) ∧ w'.cell? ⟨g, 2, none⟩ = some (.int .i64 b) ∧ w'.cell? ⟨g, 3, none⟩ = some (.bool t)) (first | assumption | exact ⟨c0, c1, c2, c3⟩ | exact HST.out _ (by assumption))
          (first
            | (go_at_call_of 23 (Value.agg #[Value.int IntKind.i64 a, Value.bool s]); refine (negation_any a s _).mono ?_; rintro e w5 ⟨rfl, hb5⟩; obtain ⟨k5, c5, d5, e5⟩ := HLY.out w5 (PtK.past (by assumption) hb5))
            | (go_at_call_of 28 (Value.agg #[Value.int IntKind.i64 a, Value.bool (!s)]); refine (place_at a (!s) p _ ha0 ha4 HP.out).mono ?_; rintro e w5 ⟨rfl, hb5⟩; obtain ⟨k5, c5, d5, e5⟩ := HLY.out w5 (PtK.past (by assumption) hb5))
            | (go_at_call_of 28 (Value.agg #[Value.int IntKind.i64 b, Value.bool t]); refine (place_at b t q _ hb0 hb4 HQ.out).mono ?_; rintro e w5 ⟨rfl, hb5⟩; obtain ⟨k5, c5, d5, e5⟩ := HLY.out w5 (PtK.past (by assumption) hb5)))
        all_goals
          go_wp2_with fail
          go_meet
          exact ⟨PtI.set (PtK.i (by assumption)) HN1.out, HST.out _ (by assumption)⟩
      case rest =>
      have hK1 := hcut
      clear hcut hK0
      go_wp2
      have hK1d : PtK w (Cl.hasTo ls (2 * j + 1)) g a s b t wc.drew := ⟨⟨hK1.i.1, hK1.i.2.drew⟩, hK1.o⟩
      obtain ⟨c0, c1, c2, c3⟩ := hK1d.o
      have HLY : Hid (∀ w5, PtK w (Cl.hasTo ls (2 * j + 1)) g a s b t w5 → PtL w (Cl.hasTo ls (2 * j + 1)) g a s b t (u * 8 + v) ((Cl.hasTo ls (2 * j + 1)) u v) w5) := fun w5 h => h.lay (by omega) (by omega)
      have HST : Hid (∀ w5 : World, PtK w (Cl.hasTo ls (2 * j + 1)) g a s b t w5 → OrAt g a s b t (w5.setCell ⟨w.heap.size, u * 8 + v, none⟩ (.bool true))) := fun w5 h => h.o.other HNE.out _ _
      go_region_held3 (fun w' : World => w'.cell? ⟨g, 0, none⟩ = some (.int .i64 a) ∧ w'.cell? ⟨g, 1, none⟩ = some (.bool s) ∧ w'.cell? ⟨g, 2, none⟩ = some (.int .i64 b) ∧ w'.cell? ⟨g, 3, none⟩ = some (.bool t)) (first | assumption | exact ⟨c0, c1, c2, c3⟩ | exact HST.out _ (by assumption))
        (first
          | (go_at_call_of 23 (Value.agg #[Value.int IntKind.i64 b, Value.bool t]); refine (negation_any b t _).mono ?_; rintro e w5 ⟨rfl, hb5⟩; obtain ⟨k5, c5, d5, e5⟩ := HLY.out w5 (PtK.past (by assumption) hb5))
          | (go_at_call_of 28 (Value.agg #[Value.int IntKind.i64 b, Value.bool (!t)]); refine (place_at b (!t) u _ hb0 hb4 HU.out).mono ?_; rintro e w5 ⟨rfl, hb5⟩; obtain ⟨k5, c5, d5, e5⟩ := HLY.out w5 (PtK.past (by assumption) hb5))
          | (go_at_call_of 28 (Value.agg #[Value.int IntKind.i64 a, Value.bool s]); refine (place_at a s v _ ha0 ha4 HV.out).mono ?_; rintro e w5 ⟨rfl, hb5⟩; obtain ⟨k5, c5, d5, e5⟩ := HLY.out w5 (PtK.past (by assumption) hb5)))
      all_goals
        have hfin : PtI w (Cl.hasTo ls (2 * (j + 1))) _ := PtI.set (PtK.i (by assumption)) HN2.out
        go_wp2
        go_roundw
        case rel => exact ⟨j + 1, by omega, by push_cast; rfl, hfin⟩
        case measure => simp [intOf]; omega
    · have H0 : PtI w (Cl.cl ls 0) wr := H.to (Cl.tbl_lines ls (by rw [HPL.out]; omega))
      clear H
      go_wp2
      go_loopw [6, 7, 8, 34] (fun _ _ _ i wr => ∃ t : Nat, t ≤ 8 ∧ i = .int .i64 t ∧ PtI w (Cl.cl ls t) wr) (fun _ _ _ i _ => 8 - (intOf i).toNat)
      case atStart => exact ⟨0, Nat.zero_le _, rfl, H0⟩
      case round =>
        clear H0
        obtain ⟨t, ht, rfl, H⟩ := hrel
        by_cases hlt2 : t < 8
        · have H1 : PtI w (Cl.mid ls t 0 0) wr := H.to (Cl.mid_start ls t).symm
          clear H
          go_wp2
          go_loopw [7, 8, 37] (fun _ _ i wr => ∃ a : Nat, a ≤ 8 ∧ i = .int .i64 a ∧ PtI w (Cl.mid ls t a 0) wr) (fun _ _ i _ => 8 - (intOf i).toNat)
          case atStart => exact ⟨0, Nat.zero_le _, rfl, H1⟩
          case round =>
            clear H1
            obtain ⟨a, ha, rfl, H⟩ := hrel
            by_cases hlt3 : a < 8
            · go_wp2
              go_loopw [8, 40] (fun _ i wr => ∃ b : Nat, b ≤ 8 ∧ i = .int .i64 b ∧ PtI w (Cl.mid ls t a b) wr) (fun _ i _ => 8 - (intOf i).toNat)
              case atStart => exact ⟨0, Nat.zero_le _, rfl, H⟩
              case round =>
                clear H
                obtain ⟨b, hb, rfl, H⟩ := hrel
                by_cases hlt4 : b < 8
                · have g1 := H.cell hlt3 hlt2
                  rw [Cl.mid_col] at g1
                  have g2 := H.cell hlt2 hlt4
                  rw [Cl.mid_row] at g2
                  have a1 : (0 : Int) ≤ (a : Int) := by omega
                  have a2 : (a : Int) < 8 := by omega
                  have b1 : (0 : Int) ≤ (b : Int) := by omega
                  have b2 : (b : Int) < 8 := by omega
                  have t1 : (0 : Int) ≤ (t : Int) := by omega
                  have t2 : (t : Int) < 8 := by omega
                  cases h1 : Cl.cl ls t a t
                  · have HN : PtI w (Cl.mid ls t a (b + 1)) wr := H.to (Cl.mid_no hlt3 hlt4 (by rw [h1]; rfl))
                    rw [h1] at g1
                    clear H h1 g2
                    go_wp2
                    go_roundw
                    case rel => exact ⟨b + 1, by omega, by push_cast; rfl, HN⟩
                    case measure => simp [intOf]; omega
                  · cases h2 : Cl.cl ls t t b
                    · have HN : PtI w (Cl.mid ls t a (b + 1)) wr := H.to (Cl.mid_no hlt3 hlt4 (by rw [h1, h2]; rfl))
                      rw [h1] at g1
                      rw [h2] at g2
                      clear H h1 h2
                      go_wp2
                      go_roundw
                      case rel => exact ⟨b + 1, by omega, by push_cast; rfl, HN⟩
                      case measure => simp [intOf]; omega
                    · have HN : PtI w (Cl.mid ls t a (b + 1)) (wr.setCell ⟨w.heap.size, a * 8 + b, none⟩ (.bool true)) := H.set (Cl.mid_yes hlt3 hlt4 h1 h2)
                      have hf := ArB.frozen H.1 (a * 8 + b)
                      have hce := H.cell hlt3 hlt4
                      rw [h1] at g1
                      rw [h2] at g2
                      clear H h1 h2
                      go_wp2
                      go_roundw
                      case rel => exact ⟨b + 1, by omega, by push_cast; rfl, HN⟩
                      case measure => simp [intOf]; omega
                · obtain rfl : b = 8 := by omega
                  have HN : PtI w (Cl.mid ls t (a + 1) 0) wr := H.to (Cl.mid_rowend ls t a)
                  clear H
                  go_wp2
                  go_roundw
                  case rel => exact ⟨a + 1, by omega, by push_cast; rfl, HN⟩
                  case measure => simp [intOf]; omega
            · obtain rfl : a = 8 := by omega
              have HN : PtI w (Cl.cl ls (t + 1)) wr := H.to (Cl.mid_end ls t)
              clear H
              go_wp2
              go_roundw
              case rel => exact ⟨t + 1, by omega, by push_cast; rfl, HN⟩
              case measure => simp [intOf]; omega
        · obtain rfl : t = 8 := by omega
          go_wp2
          go_ret
          exact ⟨rfl, H⟩

end Go.Proofs.YthalopmplekdoaaDoor
