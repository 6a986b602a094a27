/-
  Helpers: slices of integers in memory: a slice that reads as a list, a slice that the call owns, append onto an owned slice. No statement of the program is proved here; there is no condition.
  Helpers: a store into a slice of integers that the call owns; a slice that is filled from the left. No statement of the program is proved here; there is no condition.
  Helpers: slices of pairs of integers (two cells an element) in memory: a slice that reads as a list of pairs, a slice that the call owns, append onto an owned one, a store into one. No statement of the program is proved here; there is no condition.
  Helpers: slices of slices of integers in memory; a region that draws its order within the round of a range over a function. No statement of the program is proved here; there is no condition.
  Helpers: a slice of rows of integers that the call owns, rows and all; append of a row onto it. No statement of the program is proved here; there is no condition.
-/
import Derived.WalkKit
import Derived.Laws.AppendOwnNone
import Derived.Laws.OwnMore
import Derived.Maps.AppendAt
import Derived.Deep.AppendLies
import Derived.Deep.MidRow
import Derived.Deep.Draws
import Derived.Lib.Hide
import Derived.RangeFuncNested
import Derived.RangeFuncBound
import Derived.RangeFuncCalls
import Derived.RangeFuncLeaves
import Derived.RangeFuncBox
import Derived.Shelf.Abstract
import Derived.Shelf.RegionOpen
import Derived.OwnWalkIn
import Derived.TacticsInMore
import Derived.LoopNIn
import Derived.LoopIn
import Derived.Deep.RegionHeld
namespace Go.Proofs.YtojkjdccjomaaaaDoor
open Go.RowKit

/-- The slice value '.slice A n c' reads as the integers zs, and lies in a block below B. -/
def Rd (w : World) (B : Nat) (A : Option Addr) (n c : Nat) (zs : List Int) : Prop :=
  zs.length = n ∧ n ≤ c ∧ c ≤ 9223372036854775807 ∧ (A = none → c = 0) ∧
  (0 < n → ∃ b off, A = some ⟨b, off, none⟩ ∧ b < B ∧ ∀ k, k < n → w.cell? ⟨b, off + k, none⟩ = some (.int .i64 (zs.getD k 0)))

/-- The slice value v is one of the call's own (blocks from 'base' on), and holds zs. -/
def Own (w : World) (base e : Nat) (v : Value) (zs : List Int) : Prop := w.ownsRow base e 1 v zs.length (zs.map (Value.int .i64))

section
variable {w w' : World} {A : Option Addr} {B n c base e : Nat} {v : Value} {zs : List Int}

theorem Rd.len (h : Rd w B A n c zs) : zs.length = n := h.1
theorem Rd.le (h : Rd w B A n c zs) : n ≤ c := h.2.1
theorem Rd.cap (h : Rd w B A n c zs) : c ≤ 9223372036854775807 := h.2.2.1
theorem Rd.big (h : Rd w B A n c zs) : n ≤ 9223372036854775807 := Nat.le_trans h.2.1 h.2.2.1
theorem Rd.at_ (h : Rd w B A n c zs) (hn : 0 < n) : ∃ b off, A = some ⟨b, off, none⟩ ∧ b < B ∧ ∀ k, k < n → w.cell? ⟨b, off + k, none⟩ = some (.int .i64 (zs.getD k 0)) := h.2.2.2.2 hn

theorem Rd.nil (w : World) (B : Nat) : Rd w B none 0 0 [] := ⟨rfl, Nat.le_refl _, by omega, fun _ => rfl, fun h => by omega⟩

theorem Rd.keep {B' : Nat} (h : Rd w B A n c zs) (hs : B ≤ B') (hk : ∀ p : Addr, p.block < B → w'.cell? p = w.cell? p) : Rd w' B' A n c zs := by
  obtain ⟨h1, h2, h3, h4, h5⟩ := h
  refine ⟨h1, h2, h3, h4, fun hn => ?_⟩
  obtain ⟨b, off, rfl, hb, hc⟩ := h5 hn
  exact ⟨b, off, rfl, by omega, fun k hkn => (hk _ hb).trans (hc k hkn)⟩
theorem Rd.more {B' : Nat} (h : Rd w B A n c zs) (hs : B ≤ B') : Rd w B' A n c zs := h.keep hs fun _ _ => rfl
theorem Rd.below (h : Rd w B A n c zs) (hb : Below B w w') : Rd w' B A n c zs := h.keep (Nat.le_refl _) fun _ hp => hb.cell hp
/-- behind a call that has changed nothing that was there -/
theorem Rd.past (h : Rd w w.heap.size A n c zs) (hb : Below w.heap.size w w') : Rd w' w'.heap.size A n c zs := (h.below hb).more hb.size
theorem Rd.drewN (h : Rd w B A n c zs) (k : Nat) : Rd (w.drewN k) B A n c zs := h
theorem Rd.drew (h : Rd w B A n c zs) : Rd w.drew B A n c zs := h
theorem Rd.alloc (h : Rd w B A n c zs) (hB : B ≤ w.heap.size) (o : Obj) : Rd (w.alloc o) B A n c zs := h.below ((Below.refl _ _).alloc hB _)

theorem getD_drop (zs : List Int) (k j : Nat) : (zs.drop k).getD j 0 = zs.getD (k + j) 0 := by simp [List.getD, List.getElem?_drop]
theorem getD_take (zs : List Int) (k j : Nat) (h : j < k) : (zs.take k).getD j 0 = zs.getD j 0 := by simp [List.getD, h]

/-- 's[k:]' -/
theorem Rd.drop (h : Rd w B A n c zs) {k : Nat} (hk : k ≤ n) : Rd w B (if c = k then A else A.map (·.add k)) (n - k) (c - k) (zs.drop k) := by
  obtain ⟨h1, h2, h3, h4, h5⟩ := h
  refine ⟨by simp; omega, by omega, by omega, ?_, fun hn => ?_⟩
  · intro hA
    split at hA
    · omega
    · cases A with
      | none => have := h4 rfl; omega
      | some a => simp at hA
  · obtain ⟨b, off, rfl, hb, hc⟩ := h5 (by omega)
    rw [if_neg (by omega)]
    refine ⟨b, off + k, by simp [Addr.add_mid], hb, fun j hj => ?_⟩
    rw [Nat.add_assoc, hc (k + j) (by omega), getD_drop]
theorem Rd.drop_all {k : Nat} (h : Rd w B A n c zs) (hk : k ≤ n) (hc : c = k) : Rd w B A (n - k) 0 (zs.drop k) := by
  subst hc
  have := h.drop hk
  simpa using this
theorem Rd.drop_map {k : Nat} (h : Rd w B A n c zs) (hk : k ≤ n) (hc : ¬ c = k) : Rd w B (A.map (fun x => x.add k)) (n - k) (c - k) (zs.drop k) := by
  have := h.drop hk
  rwa [if_neg hc] at this
theorem Rd.drop_lit {k b off : Nat} (h : Rd w B (some ⟨b, off, none⟩) n c zs) (hk : k ≤ n) (hc : ¬ c = k) : Rd w B (some ⟨b, off + k, none⟩) (n - k) (c - k) (zs.drop k) := by
  have := h.drop_map hk hc
  simpa [Addr.add_mid] using this
/-- 's[:k]' -/
theorem Rd.take (h : Rd w B A n c zs) {k : Nat} (hk : k ≤ n) : Rd w B A k c (zs.take k) := by
  obtain ⟨h1, h2, h3, h4, h5⟩ := h
  refine ⟨by simp; omega, by omega, by omega, h4, fun hn => ?_⟩
  obtain ⟨b, off, rfl, hb, hc⟩ := h5 (by omega)
  exact ⟨b, off, rfl, hb, fun j hj => by rw [hc j (by omega), getD_take _ _ _ hj]⟩

/-- 's[1:]', written out -/
theorem Rd.tail {b off : Nat} (h : Rd w B (some ⟨b, off, none⟩) n c zs) (hn : 1 ≤ n) (hc : c ≠ 1) : Rd w B (some ⟨b, off + 1, none⟩) (n - 1) (c - 1) zs.tail := by
  have := h.drop hn
  rw [if_neg hc] at this
  simpa [Addr.add_mid] using this
theorem Rd.empty (w : World) (B : Nat) (a : Addr) (n c : Nat) (zs : List Int) (hz : zs.length = n) (hn : n = 0) (hc : c ≤ 9223372036854775807) : Rd w B (some a) n c zs :=
  ⟨hz, by omega, hc, fun h => (by cases h), fun h => by omega⟩

/-- a slice of one element that has just been made -/
theorem Rd.one (w : World) (x : Int) (t : TypeId) : Rd (w.alloc (.cells #[.int .i64 x] t)) (w.heap.size + 1) (some ⟨w.heap.size, 0, none⟩) 1 1 [x] := by
  refine ⟨rfl, Nat.le_refl _, by omega, fun h => (by cases h), fun _ => ⟨w.heap.size, 0, rfl, by omega, fun k hk => ?_⟩⟩
  obtain rfl : k = 0 := by omega
  simp

/-- the integers that have just been laid in a new block -/
theorem Rd.new (w : World) (zs : List Int) (t : TypeId) (n : Nat) (hn : zs.length = n) (hb : n ≤ 9223372036854775807) : Rd (w.alloc (.cells (zs.map (Value.int .i64)).toArray t)) (w.heap.size + 1) (some ⟨w.heap.size, 0, none⟩) n n zs := by
  refine ⟨hn, Nat.le_refl _, hb, fun h => (by cases h), fun _ => ⟨w.heap.size, 0, rfl, by omega, fun k hk => ?_⟩⟩
  have hk' : k < zs.length := by omega
  rw [cell_of_row (w.alloc _) w.heap.size (0 + k) _ t (0, 0) (heap_alloc_new w _)]
  simp [hk']

/-- a slice that came in, as the form's reading opens it -/
theorem Rd.opened {x : Addr} {zs : List Int} (hl : n ≤ c) (hm : c ≤ maxLen) (hz : zs.length = c) (hcell : ∀ i, i < zs.length → w.cell? (x.add i) = some (.int .i64 (zs.getD i 0))) : Rd w w.heap.size (some x) n c (zs.take n) := by
  refine ⟨by simp; omega, hl, by simpa [maxLen] using hm, fun h => (by cases h), fun hn => ?_⟩
  obtain ⟨b, off, spot⟩ := x
  have h0 := hcell 0 (by omega)
  have hs : spot = none := by simpa [Addr.add] using World.cell?_spot h0
  subst hs
  have hb : b < w.heap.size := by simpa [Addr.add] using World.block_lt_of_cell? w _ h0
  refine ⟨b, off, rfl, hb, fun k hk => ?_⟩
  rw [← Addr.add_mid, hcell k (by omega), getD_take _ _ _ hk]

theorem Own.nil (w : World) (base e : Nat) : Own w base e (.slice none 0 0) [] := World.ownsRow_nil w base e 1

/-- a slice of one element that has just been made -/
theorem Own.one (w : World) (base e : Nat) (x : Int) (hb : base ≤ w.heap.size) : Own (w.alloc (.cells #[.int .i64 x] e)) base e (.slice (some ⟨w.heap.size, 0, none⟩) 1 1) [x] :=
  World.ownsRow_lit w #[.int .i64 x] 1 hb (by simp [maxLen]) (by simp)
theorem Own.rd (h : Own w base e v zs) : ∃ A c, v = .slice A zs.length c ∧ Rd w w.heap.size A zs.length c zs := by
  rcases h.2 with ⟨rfl, h0⟩ | ⟨g, cap, cur, rfl, hb, hg, hnc, hcm, hcs, htake⟩
  · have hz : zs = [] := List.eq_nil_of_length_eq_zero h0
    subst hz
    exact ⟨none, 0, rfl, Rd.nil w _⟩
  · refine ⟨some ⟨g, 0, none⟩, cap, rfl, rfl, hnc, by simpa [maxLen] using hcm, fun h => (by cases h), fun _ => ⟨g, 0, rfl, (Array.getElem?_eq_some_iff.1 hg).1, fun k hk => ?_⟩⟩
    have := World.ownsRow.cellAt (w := w) h k (by omega)
    rw [Nat.zero_add, this]
    simp [hk]

theorem Own.len (h : Own w base e (.slice A n c) zs) : n = zs.length := by
  obtain ⟨A', c', he, _⟩ := h.rd
  simp only [Value.slice.injEq] at he
  exact he.2.1
theorem Own.rd' (h : Own w base e (.slice A n c) zs) : Rd w w.heap.size A n c zs := by
  obtain ⟨A', c', he, hr⟩ := h.rd
  simp only [Value.slice.injEq] at he
  obtain ⟨rfl, rfl, rfl⟩ := he
  exact hr

theorem grown_of_below (hb : Below w.heap.size w w') (row : Option Nat) : w.grownBy w' row := ⟨hb.os, hb.tape, hb.output, hb.size, fun k hk _ => hb.block k hk⟩
theorem Own.below (h : Own w base e v zs) (hb : Below w.heap.size w w') : Own w' base e v zs :=
  World.ownsRow.kept h (grown_of_below hb none) (by cases v.ownBlock <;> simp)
theorem Own.mono {base' : Nat} (h : Own w base e v zs) (hb : base' ≤ base) : Own w base' e v zs := by
  refine ⟨h.1, ?_⟩
  rcases h.2 with h2 | ⟨g, cap, cur, hv, hg, r⟩
  · exact .inl h2
  · exact .inr ⟨g, cap, cur, hv, by omega, r⟩
theorem Own.grown {row : Option Nat} (h : Own w base e v zs) (hg : w.grownBy w' row) (hne : ∀ k, v.ownBlock = some k → row ≠ some k) : Own w' base e v zs :=
  World.ownsRow.kept h hg (by
    cases hv : v.ownBlock with
    | none => exact .inl rfl
    | some k => exact .inr (fun e => hne k hv e.symm))
theorem Own.at_base (h : Own w base e v zs) : ∀ k, v.ownBlock = some k → base ≤ k := fun k hk => (World.ownsRow.lt h k hk).1
theorem Own.lt (h : Own w base e v zs) : ∀ k, v.ownBlock = some k → k < w.heap.size := fun k hk => (World.ownsRow.lt h k hk).2
theorem Own.drewN (h : Own w base e v zs) (k : Nat) : Own (w.drewN k) base e v zs := h
/-- zeros that make has laid -/
theorem Own.made {n : Nat} (h : w.ownsRow base e 1 v n (madeCells (Value.int .i64 0).cells (n * 1)).toList) : Own w base e v (List.replicate n 0) := by
  have : (madeCells (Value.int .i64 0).cells (n * 1)).toList = (List.replicate n (0 : Int)).map (Value.int .i64) := by
    rw [Nat.mul_one, show (Value.int .i64 0).cells = #[Value.int .i64 0] from rfl, toList_madeCells_one, List.map_replicate]
  rw [this] at h
  unfold Own
  rw [List.length_replicate]
  exact h
end

theorem Below.drewN' (B : Nat) (w : World) (n : Nat) : Below B w (w.drewN n) := ⟨rfl, rfl, rfl, Nat.le_refl _, fun _ _ => rfl⟩

/-! ### append onto a slice of the call's own -/
section
variable {P : Program} (w : World)

theorem run_app {B : Nat} (base : Nat) (t ty e : TypeId) (ht : P.underlying t = some (.slice e)) (hinfo : (P.info? e).map (fun i => (i.zero, i.size, i.bytes)) = some (some (.int .i64 0), 1, 8))
    (v : Value) (zs : List Int) (hown : Own w base e v zs) (A : Option Addr) (m c : Nat) (ys : List Int) (hr : Rd w B A m c ys) (hroom : zs.length + m ≤ 17592186044416) (hbase : base ≤ w.heap.size) :
    ∃ v' w', (Builtin.append_ #[t, t] ty #[v, .slice A m c]).run P w = .ok v' w' ∧ Own w' base e v' (zs ++ ys) ∧ w.grownBy w' v.ownBlock ∧ (v'.ownBlock = v.ownBlock ∨ v'.ownBlock = some w.heap.size) := by
  obtain ⟨i, hi, hz0, hz1, hz2⟩ := info_parts hinfo
  obtain ⟨r1, r2, r3, r4, r5⟩ := hr
  cases A with
  | none =>
    obtain rfl : c = 0 := r4 rfl
    obtain rfl : m = 0 := by omega
    have hy : ys = [] := List.eq_nil_of_length_eq_zero r1
    subst hy
    refine ⟨v, w, run_append_owned_none w base t ty e i 1 ht hi v _ _ hown, ?_, World.grownBy.refl w _, .inl rfl⟩
    rw [List.append_nil]; exact hown
  | some a =>
    obtain ⟨v', w', hrun, h2, h3, _, h5⟩ := run_append_own_at (P := P) w base t ty e i (.int .i64 0) 1 8 ht hi hz0 hz1 hz2 rfl (by omega) v zs.length (zs.map (Value.int .i64)) hown a m c (ys.map (Value.int .i64))
      (by simp [r1]) (by
        intro j u hu
        have hj : j < ys.length := by
          rcases Nat.lt_or_ge j ys.length with h | h
          · exact h
          · rw [List.getElem?_eq_none (by simpa using h)] at hu; cases hu
        obtain ⟨b, off, he, hb, hc⟩ := r5 (by omega)
        simp only [Option.some.injEq] at he
        subst he
        rw [Addr.add_mid, hc j (by omega), ← hu]
        simp [hj])
      (ints_oneCell _ _) (by simp only [maxLen]; omega) (by omega) hbase
    refine ⟨v', w', hrun, ?_, h3, h5⟩
    unfold Own
    rw [List.length_append, List.map_append, r1]
    exact h2

theorem wp_app {B : Nat} {o : Oper} {a : Act} {K : Act → World → Prop} {Q : Exit → Act → World → Prop} (s x : Operand) (t : TypeId)
    (ho : o.op = .call { callee := .builtin .append, args := #[s, x], argTypes := #[t, t] })
    (base : Nat) (e : TypeId) (ht : P.underlying t = some (.slice e)) (hinfo : (P.info? e).map (fun i => (i.zero, i.size, i.bytes)) = some (some (.int .i64 0), 1, 8))
    (v : Value) (zs : List Int) (hs : a.eval s = v) (hown : Own w base e v zs) (A : Option Addr) (m c : Nat) (ys : List Int) (hx : a.eval x = .slice A m c) (hr : Rd w B A m c ys)
    (hroom : zs.length + m ≤ 17592186044416) (hbase : base ≤ w.heap.size)
    (h : ∀ v' w', Own w' base e v' (zs ++ ys) → w.grownBy w' v.ownBlock → (v'.ownBlock = v.ownBlock ∨ v'.ownBlock = some w.heap.size) → K (a.put o.dst v') w') : o.wp P a w K Q := by
  obtain ⟨v', w', hrun, h2, h3, h4⟩ := run_app (P := P) w base t o.type e ht hinfo v zs hown A m c ys hr hroom hbase
  unfold Oper.wp execOp
  simp only [ho, resolve, invoke, builtin, Sem.run_bind, Sem.run_pure, Result.andThen_ok, List.map_toArray, List.map_cons, List.map_nil, hs, hx, hrun]
  exact h v' w' h2 h3 h4

theorem step_app {B : Nat} {ops : Array Oper} {o : Oper} {a : Act} {K : Act → World → Prop} {Q : Exit → Act → World → Prop} {E : Prop} (hgd : o.guard = none) (s x : Operand) (t : TypeId)
    (ho : o.op = .call { callee := .builtin .append, args := #[s, x], argTypes := #[t, t] })
    (base : Nat) (e : TypeId) (ht : P.underlying t = some (.slice e)) (hinfo : (P.info? e).map (fun i => (i.zero, i.size, i.bytes)) = some (some (.int .i64 0), 1, 8))
    (v : Value) (zs : List Int) (hs : a.eval s = v) (hown : Own w base e v zs) (A : Option Addr) (m c : Nat) (ys : List Int) (hx : a.eval x = .slice A m c) (hr : Rd w B A m c ys)
    (hroom : zs.length + m ≤ 17592186044416) (hbase : base ≤ w.heap.size)
    (h : ∀ v' w', Own w' base e v' (zs ++ ys) → w.grownBy w' v.ownBlock → (v'.ownBlock = v.ownBlock ∨ v'.ownBlock = some w.heap.size) → K (a.put o.dst v') w') :
    if Region.wanted o (yielded ops a.tmps) = true then Oper.wp P o a w K Q else E := by
  have hw : Region.wanted o (yielded ops a.tmps) = true := by simp [Region.wanted, hgd]
  rw [if_pos hw]
  exact wp_app w s x t ho base e ht hinfo v zs hs hown A m c ys hx hr hroom hbase h

theorem wpList_app {B : Nat} {ops : Array Oper} {rest : List Oper} {o : Oper} {a : Act} {Q : Exit → Act → World → Prop} (hgd : o.guard = none) (s x : Operand) (t : TypeId)
    (ho : o.op = .call { callee := .builtin .append, args := #[s, x], argTypes := #[t, t] })
    (base : Nat) (e : TypeId) (ht : P.underlying t = some (.slice e)) (hinfo : (P.info? e).map (fun i => (i.zero, i.size, i.bytes)) = some (some (.int .i64 0), 1, 8))
    (v : Value) (zs : List Int) (hs : a.eval s = v) (hown : Own w base e v zs) (A : Option Addr) (m c : Nat) (ys : List Int) (hx : a.eval x = .slice A m c) (hr : Rd w B A m c ys)
    (hroom : zs.length + m ≤ 17592186044416) (hbase : base ≤ w.heap.size)
    (h : ∀ v' w', Own w' base e v' (zs ++ ys) → w.grownBy w' v.ownBlock → (v'.ownBlock = v.ownBlock ∨ v'.ownBlock = some w.heap.size) → wpList P ops Q rest (a.put o.dst v') w') : wpList P ops Q (o :: rest) a w :=
  wpList_plain hgd fun _ hK => wp_app w s x t ho base e ht hinfo v zs hs hown A m c ys hx hr hroom hbase fun v' w' h2 h3 h4 => hK _ _ (h v' w' h2 h3 h4)
end

/-- behind an append onto an owned slice nothing below the base has changed -/
theorem below_app {w0 w w' : World} {base e : Nat} {v : Value} {zs : List Int} (hb : Below base w0 w) (hown : Own w base e v zs) (hg : w.grownBy w' v.ownBlock) (hbase : base ≤ w.heap.size) : Below base w0 w' :=
  hb.grown hg hbase hown.at_base

end Go.Proofs.YtojkjdccjomaaaaDoor

namespace Go.Proofs.YtojkjdccjomaaaaDoor
open Go.RowKit

theorem Own.store {w : World} {base e g n cap : Nat} {zs : List Int} (h : Own w base e (.slice (some ⟨g, 0, none⟩) n cap) zs) (j : Nat) (x : Int) :
    Own (w.setCell ⟨g, j, none⟩ (.int .i64 x)) base e (.slice (some ⟨g, 0, none⟩) n cap) (zs.set j x) ∧ w.grownBy (w.setCell ⟨g, j, none⟩ (.int .i64 x)) (some g) := by
  have hn := h.len
  subst hn
  obtain ⟨h1, h2⟩ := World.ownsRow.stored h j (.int .i64 x)
  refine ⟨?_, h2⟩
  unfold Own
  rw [List.length_set, List.map_set]
  exact h1
theorem Own.cell {w : World} {base e g n cap : Nat} {zs : List Int} (h : Own w base e (.slice (some ⟨g, 0, none⟩) n cap) zs) (j : Nat) (hj : j < n) : w.cell? ⟨g, j, none⟩ = some (.int .i64 (zs.getD j 0)) := by
  have hn := h.len
  subst hn
  rw [World.ownsRow.cellAt h j (by omega)]
  simp [hj]
theorem Own.frozen {w : World} {base e g n cap : Nat} {zs : List Int} (h : Own w base e (.slice (some ⟨g, 0, none⟩) n cap) zs) (j : Nat) : w.frozen? ⟨g, j, none⟩ = false := by
  have hn := h.len
  subst hn
  exact World.ownsRow.frozenAt h j
theorem Own.base_le {w : World} {base e g n cap : Nat} {zs : List Int} (h : Own w base e (.slice (some ⟨g, 0, none⟩) n cap) zs) : base ≤ g := h.at_base g rfl

/-- the first k are there, the others are 0 yet -/
def fillTo (zs : List Int) (k : Nat) : List Int := zs.take k ++ List.replicate (zs.length - k) 0
theorem fillTo_zero (zs : List Int) : fillTo zs 0 = List.replicate zs.length 0 := by simp [fillTo]
theorem fillTo_len (zs : List Int) {k : Nat} (hk : k ≤ zs.length) : (fillTo zs k).length = zs.length := by simp [fillTo]; omega
theorem fillTo_all (zs : List Int) : fillTo zs zs.length = zs := by simp [fillTo]
theorem fillTo_succ {zs : List Int} {k : Nat} (hk : k < zs.length) : (fillTo zs k).set k (zs.getD k 0) = fillTo zs (k + 1) := by
  unfold fillTo
  rw [List.set_append_right _ _ (by simp; omega), List.take_succ_eq_append_getElem hk, List.append_assoc]
  congr 1
  rw [List.length_take, Nat.min_eq_left (by omega), Nat.sub_self, show zs.length - k = (zs.length - (k + 1)) + 1 by omega, List.replicate_succ]
  simp [List.getD, hk]

end Go.Proofs.YtojkjdccjomaaaaDoor

namespace Go.Proofs.YtojkjdccjomaaaaDoor
open Go.RowKit

/-- the cells of pairs -/
def pcells : List (Int × Int) → List Value
  | [] => []
  | p :: ps => .int .i64 p.1 :: .int .i64 p.2 :: pcells ps
theorem pcells_len : ∀ ps : List (Int × Int), (pcells ps).length = ps.length * 2 := by
  intro ps
  induction ps with
  | nil => rfl
  | cons p ps ih => simp [pcells, ih]; omega
theorem pcells_app (qs : List (Int × Int)) : ∀ ps : List (Int × Int), pcells (ps ++ qs) = pcells ps ++ pcells qs := by
  intro ps
  induction ps with
  | nil => rfl
  | cons p ps ih => simp [pcells, ih]
theorem pcells_one : ∀ ps : List (Int × Int), ∀ u ∈ pcells ps, u.oneCell' = true := by
  intro ps
  induction ps with
  | nil => intro u hu; cases hu
  | cons p ps ih =>
    intro u hu
    simp only [pcells, List.mem_cons] at hu
    rcases hu with rfl | rfl | hu
    · rfl
    · rfl
    · exact ih u hu
theorem pcells_fst : ∀ (ps : List (Int × Int)) (k : Nat), k < ps.length → (pcells ps)[k * 2]? = some (.int .i64 (ps.getD k (0, 0)).1) := by
  intro ps
  induction ps with
  | nil => intro k h; simp at h
  | cons p ps ih =>
    intro k h
    cases k with
    | zero => simp [pcells]
    | succ k =>
      rw [pcells, show (k + 1) * 2 = k * 2 + 1 + 1 by omega]
      simpa using ih k (by simpa using h)
theorem pcells_snd : ∀ (ps : List (Int × Int)) (k : Nat), k < ps.length → (pcells ps)[k * 2 + 1]? = some (.int .i64 (ps.getD k (0, 0)).2) := by
  intro ps
  induction ps with
  | nil => intro k h; simp at h
  | cons p ps ih =>
    intro k h
    cases k with
    | zero => simp [pcells]
    | succ k =>
      rw [pcells, show (k + 1) * 2 + 1 = k * 2 + 1 + 1 + 1 by omega]
      simpa using ih k (by simpa using h)
theorem pcells_set (a c d : Int) : ∀ (ps : List (Int × Int)), (pcells (ps ++ [(a, c)])).set (ps.length * 2 + 1) (.int .i64 d) = pcells (ps ++ [(a, d)]) := by
  intro ps
  induction ps with
  | nil => rfl
  | cons p ps ih =>
    rw [List.cons_append, pcells, List.length_cons, show (ps.length + 1) * 2 + 1 = ps.length * 2 + 1 + 1 + 1 by omega]
    simp only [List.set_cons_succ]
    rw [ih]
    rfl

/-- the slice value '.slice A n c' reads as the pairs ps, in a block below B -/
def RdP (w : World) (B : Nat) (A : Option Addr) (n c : Nat) (ps : List (Int × Int)) : Prop :=
  ps.length = n ∧ n ≤ c ∧ c ≤ 9223372036854775807 ∧ (A = none → c = 0) ∧
  (0 < n → ∃ b off, A = some ⟨b, off, none⟩ ∧ b < B ∧ ∀ k, k < n → w.cell? ⟨b, off + k * 2, none⟩ = some (.int .i64 (ps.getD k (0, 0)).1) ∧ w.cell? ⟨b, off + k * 2 + 1, none⟩ = some (.int .i64 (ps.getD k (0, 0)).2))

/-- the slice value v is one of the call's own (blocks from 'base' on), and holds ps -/
def OwnP (w : World) (base e : Nat) (v : Value) (ps : List (Int × Int)) : Prop := w.ownsRow base e 2 v ps.length (pcells ps)

section
variable {w w' : World} {A : Option Addr} {B n c base e : Nat} {v : Value} {ps : List (Int × Int)}

theorem RdP.len (h : RdP w B A n c ps) : ps.length = n := h.1
theorem RdP.le (h : RdP w B A n c ps) : n ≤ c := h.2.1
theorem RdP.cap (h : RdP w B A n c ps) : c ≤ 9223372036854775807 := h.2.2.1
theorem RdP.big (h : RdP w B A n c ps) : n ≤ 9223372036854775807 := Nat.le_trans h.2.1 h.2.2.1
theorem RdP.at_ (h : RdP w B A n c ps) (hn : 0 < n) : ∃ b off, A = some ⟨b, off, none⟩ ∧ b < B ∧ ∀ k, k < n → w.cell? ⟨b, off + k * 2, none⟩ = some (.int .i64 (ps.getD k (0, 0)).1) ∧ w.cell? ⟨b, off + k * 2 + 1, none⟩ = some (.int .i64 (ps.getD k (0, 0)).2) := h.2.2.2.2 hn
theorem RdP.nil (w : World) (B : Nat) : RdP w B none 0 0 [] := ⟨rfl, Nat.le_refl _, by omega, fun _ => rfl, fun h => by omega⟩
theorem RdP.keep {B' : Nat} (h : RdP w B A n c ps) (hs : B ≤ B') (hk : ∀ p : Addr, p.block < B → w'.cell? p = w.cell? p) : RdP w' B' A n c ps := by
  obtain ⟨h1, h2, h3, h4, h5⟩ := h
  refine ⟨h1, h2, h3, h4, fun hn => ?_⟩
  obtain ⟨b, off, rfl, hb, hc⟩ := h5 hn
  exact ⟨b, off, rfl, by omega, fun k hkn => ⟨(hk _ hb).trans (hc k hkn).1, (hk _ hb).trans (hc k hkn).2⟩⟩
theorem RdP.more {B' : Nat} (h : RdP w B A n c ps) (hs : B ≤ B') : RdP w B' A n c ps := h.keep hs fun _ _ => rfl
theorem RdP.below (h : RdP w B A n c ps) (hb : Below B w w') : RdP w' B A n c ps := h.keep (Nat.le_refl _) fun _ hp => hb.cell hp
theorem RdP.past (h : RdP w w.heap.size A n c ps) (hb : Below w.heap.size w w') : RdP w' w'.heap.size A n c ps := (h.below hb).more hb.size
theorem RdP.drewN (h : RdP w B A n c ps) (k : Nat) : RdP (w.drewN k) B A n c ps := h
theorem RdP.alloc (h : RdP w B A n c ps) (hB : B ≤ w.heap.size) (o : Obj) : RdP (w.alloc o) B A n c ps := h.below ((Below.refl _ _).alloc hB _)

/-- a slice of one pair that has just been made -/
theorem RdP.one (w : World) (p : Int × Int) (t : TypeId) : RdP (w.alloc (.cells #[.int .i64 p.1, .int .i64 p.2] t)) (w.heap.size + 1) (some ⟨w.heap.size, 0, none⟩) 1 1 [p] := by
  refine ⟨rfl, Nat.le_refl _, by omega, fun h => (by cases h), fun _ => ⟨w.heap.size, 0, rfl, by omega, fun k hk => ?_⟩⟩
  obtain rfl : k = 0 := by omega
  simp

theorem OwnP.nil (w : World) (base e : Nat) : OwnP w base e (.slice none 0 0) [] := World.ownsRow_nil w base e 2
theorem OwnP.rd (h : OwnP w base e v ps) : ∃ A c, v = .slice A ps.length c ∧ RdP w w.heap.size A ps.length c ps := by
  rcases h.2 with ⟨rfl, h0⟩ | ⟨g, cap, cur, rfl, hb, hg, hnc, hcm, hcs, htake⟩
  · have hz : ps = [] := List.eq_nil_of_length_eq_zero h0
    subst hz
    exact ⟨none, 0, rfl, RdP.nil w _⟩
  · refine ⟨some ⟨g, 0, none⟩, cap, rfl, rfl, hnc, by simpa [maxLen] using hcm, fun h => (by cases h), fun _ => ⟨g, 0, rfl, (Array.getElem?_eq_some_iff.1 hg).1, fun k hk => ⟨?_, ?_⟩⟩⟩
    · have := World.ownsRow.cellAt (w := w) h (k * 2) (by omega)
      rw [Nat.zero_add, this, pcells_fst ps k hk]
    · have := World.ownsRow.cellAt (w := w) h (k * 2 + 1) (by omega)
      rw [Nat.zero_add, this, pcells_snd ps k hk]
theorem OwnP.len (h : OwnP w base e (.slice A n c) ps) : n = ps.length := by
  obtain ⟨A', c', he, _⟩ := h.rd
  simp only [Value.slice.injEq] at he
  exact he.2.1
theorem OwnP.below (h : OwnP w base e v ps) (hb : Below w.heap.size w w') : OwnP w' base e v ps :=
  World.ownsRow.kept h (grown_of_below hb none) (by cases v.ownBlock <;> simp)
theorem OwnP.mono {base' : Nat} (h : OwnP w base e v ps) (hb : base' ≤ base) : OwnP w base' e v ps := by
  refine ⟨h.1, ?_⟩
  rcases h.2 with h2 | ⟨g, cap, cur, hv, hg, r⟩
  · exact .inl h2
  · exact .inr ⟨g, cap, cur, hv, by omega, r⟩
theorem OwnP.grown {row : Option Nat} (h : OwnP w base e v ps) (hg : w.grownBy w' row) (hne : ∀ k, v.ownBlock = some k → row ≠ some k) : OwnP w' base e v ps :=
  World.ownsRow.kept h hg (by
    cases hv : v.ownBlock with
    | none => exact .inl rfl
    | some k => exact .inr (fun e => hne k hv e.symm))
theorem OwnP.at_base (h : OwnP w base e v ps) : ∀ k, v.ownBlock = some k → base ≤ k := fun k hk => (World.ownsRow.lt h k hk).1
theorem OwnP.lt (h : OwnP w base e v ps) : ∀ k, v.ownBlock = some k → k < w.heap.size := fun k hk => (World.ownsRow.lt h k hk).2
theorem OwnP.drewN (h : OwnP w base e v ps) (k : Nat) : OwnP (w.drewN k) base e v ps := h

/-- the last pair of an owned slice: where it lies, and a new second part of it -/
theorem OwnP.last {front : List (Int × Int)} {a x : Int} (h : OwnP w base e v (front ++ [(a, x)])) :
    ∃ g cap, v = .slice (some ⟨g, 0, none⟩) (front.length + 1) cap ∧ base ≤ g ∧ g < w.heap.size ∧ front.length + 1 ≤ cap ∧ cap ≤ 9223372036854775807 ∧
      w.cell? ⟨g, front.length * 2, none⟩ = some (.int .i64 a) ∧ w.cell? ⟨g, front.length * 2 + 1, none⟩ = some (.int .i64 x) ∧ w.frozen? ⟨g, front.length * 2 + 1, none⟩ = false ∧
      ∀ y : Int, OwnP (w.setCell ⟨g, front.length * 2 + 1, none⟩ (.int .i64 y)) base e v (front ++ [(a, y)]) ∧ w.grownBy (w.setCell ⟨g, front.length * 2 + 1, none⟩ (.int .i64 y)) (some g) := by
  have hl : (front ++ [(a, x)]).length = front.length + 1 := by simp
  rcases h.2 with ⟨_, h0⟩ | ⟨g, cap, cur, hv, hb, hg, hnc, hcm, hcs, htake⟩
  · rw [hl] at h0; omega
  · rw [hl] at hv hnc
    subst hv
    have h' : w.ownsRow base e 2 (.slice (some ⟨g, 0, none⟩) (front.length + 1) cap) (front.length + 1) (pcells (front ++ [(a, x)])) := by
      have := h
      unfold OwnP at this
      rwa [hl] at this
    have hf := pcells_fst (front ++ [(a, x)]) front.length (by simp)
    have hs := pcells_snd (front ++ [(a, x)]) front.length (by simp)
    simp only [List.getD, List.getElem?_concat_length, Option.getD_some] at hf hs
    refine ⟨g, cap, rfl, hb, (Array.getElem?_eq_some_iff.1 hg).1, hnc, by simpa [maxLen] using hcm, ?_, ?_, h'.frozenAt _, fun y => ?_⟩
    · rw [h'.cellAt _ (by omega), hf]
    · rw [h'.cellAt _ (by omega), hs]
    · obtain ⟨s1, s2⟩ := h'.stored (front.length * 2 + 1) (.int .i64 y)
      rw [pcells_set] at s1
      refine ⟨?_, s2⟩
      unfold OwnP
      simpa using s1
end

/-- lines that came in, as the form's reading opens them -/
theorem RdP.opened {w : World} {n c : Nat} {x : Addr} (hl : n ≤ c) (hm : c ≤ maxLen) (hcell : ∀ i, i < c → ∃ a b : Int, w.cell? (x.add (i * 2)) = some (.int .i64 a) ∧ w.cell? (x.add (i * 2 + 1)) = some (.int .i64 b)) : ∃ ps, RdP w w.heap.size (some x) n c ps := by
  have each : ∀ i, ∃ p : Int × Int, i < c → w.cell? (x.add (i * 2)) = some (.int .i64 p.1) ∧ w.cell? (x.add (i * 2 + 1)) = some (.int .i64 p.2) := by
    intro i
    by_cases h : i < c
    · obtain ⟨a, b, h1, h2⟩ := hcell i h
      exact ⟨(a, b), fun _ => ⟨h1, h2⟩⟩
    · exact ⟨(0, 0), fun h' => absurd h' h⟩
  refine ⟨(List.range n).map fun i => Classical.choose (each i), by simp, hl, by simpa [maxLen] using hm, fun h => (by cases h), fun hn => ?_⟩
  obtain ⟨b, off, spot⟩ := x
  have h0 := (Classical.choose_spec (each 0) (by omega)).1
  have hs : spot = none := by simpa [Addr.add] using World.cell?_spot h0
  subst hs
  have hb : b < w.heap.size := by simpa [Addr.add] using World.block_lt_of_cell? w _ h0
  refine ⟨b, off, rfl, hb, fun k hk => ?_⟩
  have hk1 := Classical.choose_spec (each k) (by omega)
  have hg : ((List.range n).map fun i => Classical.choose (each i)).getD k (0, 0) = Classical.choose (each k) := by simp [List.getD, hk]
  rw [hg]
  simpa [Addr.add_mid, Nat.add_assoc] using hk1

/-! ### append onto a slice of the call's own -/
section
variable {P : Program} (w : World)

theorem run_appP {B : Nat} (base : Nat) (t ty e : TypeId) (ht : P.underlying t = some (.slice e)) (hinfo : (P.info? e).map (fun i => (i.zero, i.size, i.bytes)) = some (some (.agg #[.int .i64 0, .int .i64 0]), 2, 16))
    (v : Value) (ps : List (Int × Int)) (hown : OwnP w base e v ps) (A : Option Addr) (m c : Nat) (qs : List (Int × Int)) (hr : RdP w B A m c qs) (hroom : ps.length + m ≤ 8796093022208) (hbase : base ≤ w.heap.size) :
    ∃ v' w', (Builtin.append_ #[t, t] ty #[v, .slice A m c]).run P w = .ok v' w' ∧ OwnP w' base e v' (ps ++ qs) ∧ w.grownBy w' v.ownBlock ∧ (v'.ownBlock = v.ownBlock ∨ v'.ownBlock = some w.heap.size) := by
  obtain ⟨i, hi, hz0, hz1, hz2⟩ := info_parts hinfo
  obtain ⟨r1, r2, r3, r4, r5⟩ := hr
  cases A with
  | none =>
    obtain rfl : c = 0 := r4 rfl
    obtain rfl : m = 0 := by omega
    have hy : qs = [] := List.eq_nil_of_length_eq_zero r1
    subst hy
    refine ⟨v, w, run_append_owned_none w base t ty e i 2 ht hi v _ _ hown, ?_, World.grownBy.refl w _, .inl rfl⟩
    rw [List.append_nil]; exact hown
  | some a =>
    obtain ⟨v', w', hrun, h2, h3, _, h5⟩ := run_append_own_at (P := P) w base t ty e i (.agg #[.int .i64 0, .int .i64 0]) 2 16 ht hi hz0 hz1 hz2 rfl (by omega) v ps.length (pcells ps) hown a m c (pcells qs)
      (by rw [pcells_len, r1]) (by
        intro j u hu
        have hj : j < qs.length * 2 := by
          rcases Nat.lt_or_ge j (pcells qs).length with h | h
          · rwa [pcells_len] at h
          · rw [List.getElem?_eq_none h] at hu; cases hu
        obtain ⟨b, off, he, hb, hc⟩ := r5 (by omega)
        simp only [Option.some.injEq] at he
        subst he
        obtain ⟨k, hk⟩ : ∃ k, k = j / 2 := ⟨_, rfl⟩
        have hkl : k < qs.length := by omega
        obtain ⟨c1, c2⟩ := hc k (by omega)
        rw [Addr.add_mid, ← hu]
        rcases Nat.mod_two_eq_zero_or_one j with hm | hm
        · obtain rfl : j = k * 2 := by omega
          rw [c1, pcells_fst qs k hkl]
        · obtain rfl : j = k * 2 + 1 := by omega
          rw [← Nat.add_assoc, c2, pcells_snd qs k hkl])
      (pcells_one _) (by simp only [maxLen]; omega) (by omega) hbase
    refine ⟨v', w', hrun, ?_, h3, h5⟩
    unfold OwnP
    rw [List.length_append, pcells_app, r1]
    exact h2

theorem wp_appP {B : Nat} {o : Oper} {a : Act} {K : Act → World → Prop} {Q : Exit → Act → World → Prop} (s x : Operand) (t : TypeId)
    (ho : o.op = .call { callee := .builtin .append, args := #[s, x], argTypes := #[t, t] })
    (base : Nat) (e : TypeId) (ht : P.underlying t = some (.slice e)) (hinfo : (P.info? e).map (fun i => (i.zero, i.size, i.bytes)) = some (some (.agg #[.int .i64 0, .int .i64 0]), 2, 16))
    (v : Value) (ps : List (Int × Int)) (hs : a.eval s = v) (hown : OwnP w base e v ps) (A : Option Addr) (m c : Nat) (qs : List (Int × Int)) (hx : a.eval x = .slice A m c) (hr : RdP w B A m c qs)
    (hroom : ps.length + m ≤ 8796093022208) (hbase : base ≤ w.heap.size)
    (h : ∀ v' w', OwnP w' base e v' (ps ++ qs) → w.grownBy w' v.ownBlock → (v'.ownBlock = v.ownBlock ∨ v'.ownBlock = some w.heap.size) → K (a.put o.dst v') w') : o.wp P a w K Q := by
  obtain ⟨v', w', hrun, h2, h3, h4⟩ := run_appP (P := P) w base t o.type e ht hinfo v ps hown A m c qs hr hroom hbase
  unfold Oper.wp execOp
  simp only [ho, resolve, invoke, builtin, Sem.run_bind, Sem.run_pure, Result.andThen_ok, List.map_toArray, List.map_cons, List.map_nil, hs, hx, hrun]
  exact h v' w' h2 h3 h4

theorem step_appP {B : Nat} {ops : Array Oper} {o : Oper} {a : Act} {K : Act → World → Prop} {Q : Exit → Act → World → Prop} {E : Prop} (hgd : o.guard = none) (s x : Operand) (t : TypeId)
    (ho : o.op = .call { callee := .builtin .append, args := #[s, x], argTypes := #[t, t] })
    (base : Nat) (e : TypeId) (ht : P.underlying t = some (.slice e)) (hinfo : (P.info? e).map (fun i => (i.zero, i.size, i.bytes)) = some (some (.agg #[.int .i64 0, .int .i64 0]), 2, 16))
    (v : Value) (ps : List (Int × Int)) (hs : a.eval s = v) (hown : OwnP w base e v ps) (A : Option Addr) (m c : Nat) (qs : List (Int × Int)) (hx : a.eval x = .slice A m c) (hr : RdP w B A m c qs)
    (hroom : ps.length + m ≤ 8796093022208) (hbase : base ≤ w.heap.size)
    (h : ∀ v' w', OwnP w' base e v' (ps ++ qs) → w.grownBy w' v.ownBlock → (v'.ownBlock = v.ownBlock ∨ v'.ownBlock = some w.heap.size) → K (a.put o.dst v') w') :
    if Region.wanted o (yielded ops a.tmps) = true then Oper.wp P o a w K Q else E := by
  have hw : Region.wanted o (yielded ops a.tmps) = true := by simp [Region.wanted, hgd]
  rw [if_pos hw]
  exact wp_appP w s x t ho base e ht hinfo v ps hs hown A m c qs hx hr hroom hbase h

theorem wpList_appP {B : Nat} {ops : Array Oper} {rest : List Oper} {o : Oper} {a : Act} {Q : Exit → Act → World → Prop} (hgd : o.guard = none) (s x : Operand) (t : TypeId)
    (ho : o.op = .call { callee := .builtin .append, args := #[s, x], argTypes := #[t, t] })
    (base : Nat) (e : TypeId) (ht : P.underlying t = some (.slice e)) (hinfo : (P.info? e).map (fun i => (i.zero, i.size, i.bytes)) = some (some (.agg #[.int .i64 0, .int .i64 0]), 2, 16))
    (v : Value) (ps : List (Int × Int)) (hs : a.eval s = v) (hown : OwnP w base e v ps) (A : Option Addr) (m c : Nat) (qs : List (Int × Int)) (hx : a.eval x = .slice A m c) (hr : RdP w B A m c qs)
    (hroom : ps.length + m ≤ 8796093022208) (hbase : base ≤ w.heap.size)
    (h : ∀ v' w', OwnP w' base e v' (ps ++ qs) → w.grownBy w' v.ownBlock → (v'.ownBlock = v.ownBlock ∨ v'.ownBlock = some w.heap.size) → wpList P ops Q rest (a.put o.dst v') w') : wpList P ops Q (o :: rest) a w :=
  wpList_plain hgd fun _ hK => wp_appP w s x t ho base e ht hinfo v ps hs hown A m c qs hx hr hroom hbase fun v' w' h2 h3 h4 => hK _ _ (h v' w' h2 h3 h4)
end

/-- behind an append onto an owned slice, or a store into it, nothing below the base has changed -/
theorem below_appP {w0 w w' : World} {base e : Nat} {v : Value} {ps : List (Int × Int)} (hb : Below base w0 w) (hown : OwnP w base e v ps) (hg : w.grownBy w' v.ownBlock) (hbase : base ≤ w.heap.size) : Below base w0 w' :=
  hb.grown hg hbase hown.at_base

end Go.Proofs.YtojkjdccjomaaaaDoor

namespace Go.Proofs.YtojkjdccjomaaaaDoor
open Go.RowKit Go.Shelf

/-- the slice value '.slice A n c' reads as the rows, in blocks below B -/
def RdR (w : World) (B : Nat) (A : Option Addr) (n c : Nat) (rows : List (List Int)) : Prop :=
  rows.length = n ∧ n ≤ c ∧ c ≤ 9223372036854775807 ∧ (A = none → c = 0) ∧
  (0 < n → ∃ b off, A = some ⟨b, off, none⟩ ∧ b < B ∧ ∀ k, k < n → ∃ A' c', w.cell? ⟨b, off + k, none⟩ = some (.slice A' (rows.getD k []).length c') ∧ Rd w B A' (rows.getD k []).length c' (rows.getD k []))

section
variable {w w' : World} {A : Option Addr} {B n c : Nat} {rows : List (List Int)}
theorem RdR.len (h : RdR w B A n c rows) : rows.length = n := h.1
theorem RdR.big (h : RdR w B A n c rows) : n ≤ 9223372036854775807 := Nat.le_trans h.2.1 h.2.2.1
theorem RdR.at_ (h : RdR w B A n c rows) (hn : 0 < n) : ∃ b off, A = some ⟨b, off, none⟩ ∧ b < B ∧ ∀ k, k < n → ∃ A' c', w.cell? ⟨b, off + k, none⟩ = some (.slice A' (rows.getD k []).length c') ∧ Rd w B A' (rows.getD k []).length c' (rows.getD k []) := h.2.2.2.2 hn
theorem RdR.keep {B' : Nat} (h : RdR w B A n c rows) (hs : B ≤ B') (hk : ∀ p : Addr, p.block < B → w'.cell? p = w.cell? p) : RdR w' B' A n c rows := by
  obtain ⟨h1, h2, h3, h4, h5⟩ := h
  refine ⟨h1, h2, h3, h4, fun hn => ?_⟩
  obtain ⟨b, off, rfl, hb, hc⟩ := h5 hn
  refine ⟨b, off, rfl, by omega, fun k hkn => ?_⟩
  obtain ⟨A', c', hx, hr⟩ := hc k hkn
  exact ⟨A', c', (hk _ hb).trans hx, hr.keep hs hk⟩
theorem RdR.below (h : RdR w B A n c rows) (hb : Below B w w') : RdR w' B A n c rows := h.keep (Nat.le_refl _) fun _ hp => hb.cell hp
theorem RdR.past (h : RdR w w.heap.size A n c rows) (hb : Below w.heap.size w w') : RdR w' w'.heap.size A n c rows := h.keep hb.size fun _ hp => hb.cell hp
theorem RdR.more {B' : Nat} (h : RdR w B A n c rows) (hs : B ≤ B') : RdR w B' A n c rows := h.keep hs fun _ _ => rfl
theorem RdR.drewN (h : RdR w B A n c rows) (k : Nat) : RdR (w.drewN k) B A n c rows := h
end

theorem ownsRow_same {w w' : World} {base e size n : Nat} {v : Value} {xs : List Value} (h : w.ownsRow base e size v n xs) (hs : ∀ k, v.ownBlock = some k → w'.heap[k]? = w.heap[k]?) : w'.ownsRow base e size v n xs := by
  refine ⟨h.1, ?_⟩
  rcases h.2 with h2 | ⟨g, cap, cur, rfl, hb, hg, rest⟩
  · exact .inl h2
  · exact .inr ⟨g, cap, cur, rfl, hb, (hs g rfl).trans hg, rest⟩
theorem Own.same {w w' : World} {base e : Nat} {v : Value} {zs : List Int} (h : Own w base e v zs) (hs : ∀ k, v.ownBlock = some k → w'.heap[k]? = w.heap[k]?) : Own w' base e v zs := ownsRow_same h hs

theorem Own.keptNC {W W' : World} {base e : Nat} {v : Value} {zs : List Int} {row : Option Nat} (h : Own W base e v zs) (hg : W.grownBy W' row) (hr : ∀ r, row = some r → ∃ o : Obj, W.heap[r]? = some o ∧ o.isCells = false) : Own W' base e v zs := by
  refine Own.grown h hg (fun k hk e' => ?_)
  rcases h.2 with ⟨rfl, _⟩ | ⟨g, cap, cur, rfl, _, hgb, _⟩
  · cases hk
  · obtain ⟨o, ho, hc⟩ := hr k e'
    obtain rfl : g = k := by simpa [Value.ownBlock] using hk
    rw [hgb] at ho
    cases ho
    cases hc

/-- 'make([]T, n)' inside a fence -/
theorem wpListIn_mk {F : Fence} {n : Nat} {P : Program} (w : World) {ops : Array Oper} {rest : List Oper} {o : Oper} {a : Act} {Q : Exit → Act → World → Prop}
    (hg : o.guard = none) (l c : Operand) (t : TypeId) (hop : o.op = Op.makeSlice t l c)
    (base : Nat) (e : TypeId) (i : TypeInfo) (z : Value) (size : Nat) (h1 : P.underlying t = some (.slice e)) (h2 : P.info? e = some i) (h3 : i.zero = some z) (h4 : i.size = size)
    (kl kc : IntKind) (m : Nat) (hl : a.eval l = .int kl (m : Int)) (hc : a.eval c = .int kc (m : Int)) (b2 : i.bytes * m ≤ 281474976710656) (b3 : m ≤ maxLen) (b4 : base ≤ w.heap.size)
    (hK : ∀ w', w'.ownsRow base e size (.slice (some ⟨w.heap.size, 0, none⟩) m m) m (madeCells z.cells (m * size)).toList → w.grownBy w' none → w'.heap.size = w.heap.size + 1 → wpListIn F n P ops Q rest (a.put o.dst (.slice (some ⟨w.heap.size, 0, none⟩) m m)) w') :
    wpListIn F n P ops Q (o :: rest) a w := by
  refine wpListIn_plain hg fun K hK' => ?_
  have hr := run_make (P := P) w t e i z h1 h2 h3 kl kc m m (by omega) (Int.le_refl _) (by rw [← Int.natCast_mul]; omega) (by have := b3; simp only [maxLen] at this; omega)
  simp only [Int.toNat_natCast] at hr
  unfold Oper.wpIn
  refine ⟨?_, ?_⟩
  · simp [Oper.about, hop]
  · rw [Oper.semAt_plain F _ _ (by rw [hop]; intro c hc'; cases hc')]
    simp only [execOp, hop, hl, hc, Sem.run_bind, hr, Result.andThen_ok, Sem.run_pure]
    refine hK' _ _ (hK _ ?_ (World.grownBy_alloc w _ none) (by simp))
    subst h4
    exact World.ownsRow_lit w _ m b4 b3 (size_madeCells _ _)

/-! ### a region that draws its order, within a round -/
theorem Oper.wpIn_of_wp {l n : Nat} {P : Program} {o : Oper} {a : Act} {w : World} {K : Act → World → Prop} {Q : Exit → Act → World → Prop} (hd : ∀ c, o.op ≠ .defer c) (h : o.wp P a w K Q) : o.wpIn (Fence.wide.inRound l) n P a w K Q := by
  unfold Oper.wpIn
  refine ⟨fun _ _ => trivial, ?_⟩
  rw [Oper.semAt_eq _ _ _ hd]
  unfold Oper.wp at h
  generalize (execOp a.eval o).run P w = r at *
  cases r with
  | ok x w' =>
    cases x
    case value v => exact h
    case skip => exact h
    case defer d => exact h
    case enter f args => exact ⟨fun e => (by cases e), CallsIn.inRound l (callsIn_wide.2 h)⟩
    case row row args =>
      refine ⟨fun e => (by cases e), fun c cs _ => ?_⟩
      obtain ⟨v, w2, r, s⟩ := h c cs
      exact ⟨v, w2, r, stepsIn_wide.2 s⟩
    all_goals exact h.elim
  | halt x w' => cases x <;> exact h

theorem opIn_of_op {l n : Nat} {P : Program} {ops : Array Oper} {i : Nat} {a : Act} {w : World} {K K' : Act → World → Prop} {Q : Exit → Act → World → Prop} (hnd : ∀ (j : Nat) (o : Oper), ops[j]? = some o → ∀ c, o.op ≠ .defer c) (hno : ¬ LetsOut Q)
    (hk : ∀ a w, K a w → K' a w) (h : wpOp P ops Q i K a w) : wpOpIn (Fence.wide.inRound l) n P ops Q i K' a w := by
  unfold wpOp at h
  unfold wpOpIn
  cases ho : ops[i]? with
  | none => rw [ho] at h; exact hk _ _ h
  | some o =>
    rw [ho] at h
    simp only at h ⊢
    split
    · rename_i hw
      rw [if_pos hw] at h
      rcases h with h | ⟨_, h⟩
      · exact Oper.wpIn_of_wp (hnd i o ho) (Oper.wp_mono hk h)
      · exact (hno h).elim
    · rename_i hw
      rw [if_neg hw] at h
      exact ⟨fun _ _ => trivial, hk _ _ h⟩

theorem anyIn_of_any {l n : Nat} {P : Program} {md : Region.Mode} {ops : Array Oper} {Q : Exit → Act → World → Prop} (hnd : ∀ (j : Nat) (o : Oper), ops[j]? = some o → ∀ c, o.op ≠ .defer c) (hno : ¬ LetsOut Q) :
    ∀ (fuel : Nat) (listed : Array Bool) (a : Act) (w : World), wpAny P md ops Q fuel listed a w → wpAnyIn (Fence.wide.inRound l) n P md ops Q fuel listed a w
  | 0, _, _, _, h => h
  | fuel + 1, _, _, _, h => ⟨h.1, fun i hi => opIn_of_op hnd hno (fun a w h' => anyIn_of_any hnd hno fuel _ a w h') (h.2 i hi)⟩

/-- the beginning: S is shown of the world behind the draw, once, and handed on -/
theorem wpIn_round_held {l n : Nat} {P : Program} {id : Nat} {ops : Array Oper} {Q : Exit → Act → World → Prop} {S : World → Prop} {a : Act} {w : World} (hm : P.follows .mixedOrders = true) (hnd : ∀ (j : Nat) (o : Oper), ops[j]? = some o → ∀ c, o.op ≠ .defer c) (hno : ¬ LetsOut Q) (hS : S w.drew)
    (h : S w.drew → wpAnyH P .any ops Q S ops.size (Array.replicate ops.size false) a w.drew) : (Code.region id ops true).wpIn (Fence.wide.inRound l) n P Q a w :=
  wpIn_region_any hm (anyIn_of_any hnd hno _ _ _ _ (wpAny_of_held _ _ _ _ (h hS)))

end Go.Proofs.YtojkjdccjomaaaaDoor

namespace Go.Proofs.YtojkjdccjomaaaaDoor
open Go.RowKit

/-- two owned slices of other element types share no block -/
theorem own_ne {w : World} {base base' e e' size size' n n' : Nat} {v v' : Value} {xs xs' : List Value} (he : e ≠ e') (h : w.ownsRow base e size v n xs) (h' : w.ownsRow base' e' size' v' n' xs') : ∀ k, v.ownBlock = some k → v'.ownBlock ≠ some k := by
  intro k hk hk'
  rcases h.2 with ⟨rfl, _⟩ | ⟨g, cap, cur, rfl, _, hg, _⟩
  · cases hk
  · rcases h'.2 with ⟨rfl, _⟩ | ⟨g', cap', cur', rfl, _, hg', _⟩
    · cases hk'
    · obtain rfl : g = k := by simpa [Value.ownBlock] using hk
      obtain rfl : g' = g := by simpa [Value.ownBlock] using hk'
      rw [hg] at hg'
      simp at hg'
      exact he hg'.2

/-- the slice value v is one of the call's own, and so are its rows -/
def OwnR (w : World) (base e ei : Nat) (v : Value) (rows : List (List Int)) : Prop :=
  ∃ vs : List Value, w.ownsRow base e 1 v rows.length vs ∧ vs.length = rows.length ∧ ∀ k, k < rows.length → Own w base ei (vs.getD k undef) (rows.getD k [])

section
variable {w w' : World} {base e ei : Nat} {v : Value} {rows : List (List Int)}
theorem OwnR.nil (w : World) (base e ei : Nat) : OwnR w base e ei (.slice none 0 0) [] := ⟨[], World.ownsRow_nil w base e 1, rfl, fun k h => by simp at h⟩
theorem OwnR.below (h : OwnR w base e ei v rows) (hb : Below w.heap.size w w') : OwnR w' base e ei v rows := by
  obtain ⟨vs, h1, h2, h3⟩ := h
  exact ⟨vs, World.ownsRow.kept h1 (grown_of_below hb none) (by cases v.ownBlock <;> simp), h2, fun k hk => (h3 k hk).below hb⟩
/-- an owned slice of another element type has grown -/
theorem OwnR.grown {base' e' size' n' : Nat} {u : Value} {xs' : List Value} (h : OwnR w base e ei v rows) (hu : w.ownsRow base' e' size' u n' xs') (h1 : e ≠ e') (h2 : ei ≠ e') (hg : w.grownBy w' u.ownBlock) : OwnR w' base e ei v rows := by
  obtain ⟨vs, a1, a2, a3⟩ := h
  refine ⟨vs, World.ownsRow.kept a1 hg ?_, a2, fun k hk => (a3 k hk).grown hg (fun q hq => own_ne h2 (a3 k hk) hu q hq)⟩
  cases hv : v.ownBlock with
  | none => exact .inl rfl
  | some k => exact .inr (fun e => own_ne h1 a1 hu k hv e.symm)
theorem OwnR.rd (h : OwnR w base e ei v rows) : ∃ A c, v = .slice A rows.length c ∧ RdR w w.heap.size A rows.length c rows := by
  obtain ⟨vs, a1, a2, a3⟩ := h
  rcases a1.2 with ⟨rfl, h0⟩ | ⟨g, cap, cur, rfl, hb, hg, hnc, hcm, hcs, htake⟩
  · have hz : rows = [] := List.eq_nil_of_length_eq_zero h0
    subst hz
    exact ⟨none, 0, rfl, rfl, Nat.le_refl _, by omega, fun _ => rfl, fun h => by simp at h⟩
  · refine ⟨some ⟨g, 0, none⟩, cap, rfl, rfl, hnc, by simpa [maxLen] using hcm, fun h => (by cases h), fun _ => ⟨g, 0, rfl, (Array.getElem?_eq_some_iff.1 hg).1, fun k hk => ?_⟩⟩
    obtain ⟨A', c', he, hr⟩ := (a3 k hk).rd
    refine ⟨A', c', ?_, hr⟩
    have := World.ownsRow.cellAt (w := w) a1 k (by omega)
    rw [Nat.zero_add, this, ← he]
    simp [List.getD, a2, hk]
theorem RdR.nil (w : World) (B : Nat) : RdR w B none 0 0 [] := ⟨rfl, Nat.le_refl _, by omega, fun _ => rfl, fun h => by omega⟩
end

section
variable {P : Program} (w : World)
/-- append of one row onto an owned slice of rows -/
theorem wpList_appR {ops : Array Oper} {rest : List Oper} {o : Oper} {a : Act} {Q : Exit → Act → World → Prop} (hgd : o.guard = none) (s x : Operand) (t : TypeId)
    (ho : o.op = .call { callee := .builtin .append, args := #[s, x], argTypes := #[t, t] })
    (base : Nat) (e ei : TypeId) (hei : ei ≠ e) (ht : P.underlying t = some (.slice e)) (hinfo : (P.info? e).map (fun i => (i.zero, i.size, i.bytes)) = some (some (.slice none 0 0), 1, 24))
    (v : Value) (rows : List (List Int)) (hs : a.eval s = v) (hown : OwnR w base e ei v rows) (b : Nat) (u : Value) (zs : List Int) (hx : a.eval x = .slice (some ⟨b, 0, none⟩) 1 1) (hc : w.cell? ⟨b, 0, none⟩ = some u) (hu : Own w base ei u zs)
    (hroom : rows.length + 1 ≤ 1000000) (hbase : base ≤ w.heap.size)
    (h : ∀ v' w', OwnR w' base e ei v' (rows ++ [zs]) → w.grownBy w' v.ownBlock → (∃ n xs, w.ownsRow base e 1 v n xs) → wpList P ops Q rest (a.put o.dst v') w') : wpList P ops Q (o :: rest) a w := by
  refine wpList_plain hgd fun _ hK => ?_
  obtain ⟨i, hi, hz0, hz1, hz2⟩ := info_parts hinfo
  obtain ⟨vs, a1, a2, a3⟩ := hown
  obtain ⟨A', c', hue, _⟩ := hu.rd
  obtain ⟨v', w', hrun, h2, h3, _, h5⟩ := run_append_own_at (P := P) w base t o.type e i (.slice none 0 0) 1 24 ht hi hz0 hz1 hz2 rfl (by omega) v rows.length vs a1 ⟨b, 0, none⟩ 1 1 [u]
    (by simp) (by
      intro j y hy
      match j, hy with
      | 0, hy =>
        simp at hy
        subst hy
        simpa [Addr.add] using hc)
    (by intro y hy; simp at hy; subst hy; rw [hue]; rfl) (by simp only [maxLen]; omega) (by omega) hbase
  unfold Oper.wp execOp
  simp only [ho, resolve, invoke, builtin, Sem.run_bind, Sem.run_pure, Result.andThen_ok, List.map_toArray, List.map_cons, List.map_nil, hs, hx, hrun]
  refine hK _ _ (h v' w' ⟨vs ++ [u], by simpa using h2, by simp [a2], fun k hk => ?_⟩ h3 ⟨_, _, a1⟩)
  rw [List.length_append, List.length_cons, List.length_nil] at hk
  have key : ∀ y ys, Own w base ei y ys → Own w' base ei y ys := fun y ys hy => hy.grown h3 (fun q hq => own_ne hei hy a1 q hq)
  by_cases hkl : k < rows.length
  · have e1 : (vs ++ [u]).getD k undef = vs.getD k undef := by simp [List.getD, List.getElem?_append, a2, hkl]
    have e2 : (rows ++ [zs]).getD k [] = rows.getD k [] := by simp [List.getD, List.getElem?_append, hkl]
    rw [e1, e2]
    exact key _ _ (a3 k hkl)
  · obtain rfl : k = rows.length := by omega
    have e1 : (vs ++ [u]).getD rows.length undef = u := by simp [List.getD, ← a2]
    have e2 : (rows ++ [zs]).getD rows.length [] = zs := by simp [List.getD]
    rw [e1, e2]
    exact key _ _ hu
end

end Go.Proofs.YtojkjdccjomaaaaDoor
