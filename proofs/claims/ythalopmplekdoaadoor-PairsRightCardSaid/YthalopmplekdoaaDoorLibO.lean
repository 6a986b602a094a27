/-
  Helpers: slices of ors of two (four cells an element: a name, is it the contrary, and both again) in memory: a slice that reads as a list of ors, a slice that the call owns, append onto an owned one; how the form's reading opens such a slice. No statement of the program is proved here; there is no condition.
-/
import Derived.Test.YthalopmplekdoaaDoorLibR
import Derived.Test.YthalopmplekdoaaDoorPairsN
import Derived.Deep.Slices
import Derived.ChangeSame
namespace Go.Proofs.YthalopmplekdoaaDoor
open Go.RowKit

abbrev Or2 : Type := Pa.Or2
/-- no or -/
abbrev or0 : Or2 := ((0, false), (0, false))
/-- the cells of an or -/
def ocell (p : Or2) : List Value := [.int .i64 p.1.1, .bool p.1.2, .int .i64 p.2.1, .bool p.2.2]
/-- the cells of ors -/
def ocells : List Or2 → List Value
  | [] => []
  | p :: ps => .int .i64 p.1.1 :: .bool p.1.2 :: .int .i64 p.2.1 :: .bool p.2.2 :: ocells ps
theorem ocells_len : ∀ ps : List Or2, (ocells ps).length = ps.length * 4 := by
  intro ps
  induction ps with
  | nil => rfl
  | cons p ps ih => simp [ocells, ih]; omega
theorem ocells_app (qs : List Or2) : ∀ ps : List Or2, ocells (ps ++ qs) = ocells ps ++ ocells qs := by
  intro ps
  induction ps with
  | nil => rfl
  | cons p ps ih => simp [ocells, ih]
theorem ocells_one : ∀ ps : List Or2, ∀ u ∈ ocells ps, u.oneCell' = true := by
  intro ps
  induction ps with
  | nil => intro u hu; cases hu
  | cons p ps ih =>
    intro u hu
    simp only [ocells, List.mem_cons] at hu
    rcases hu with rfl | rfl | rfl | rfl | hu
    · rfl
    · rfl
    · rfl
    · rfl
    · exact ih u hu
theorem ocells_0 : ∀ (ps : List Or2) (k : Nat), k < ps.length → (ocells ps)[k * 4]? = some (.int .i64 (ps.getD k or0).1.1) := by
  intro ps
  induction ps with
  | nil => intro k h; simp at h
  | cons p ps ih =>
    intro k h
    cases k with
    | zero => simp [ocells]
    | succ k =>
      rw [ocells, show (k + 1) * 4 = k * 4 + 1 + 1 + 1 + 1 by omega]
      simpa using ih k (by simpa using h)
theorem ocells_1 : ∀ (ps : List Or2) (k : Nat), k < ps.length → (ocells ps)[k * 4 + 1]? = some (.bool (ps.getD k or0).1.2) := by
  intro ps
  induction ps with
  | nil => intro k h; simp at h
  | cons p ps ih =>
    intro k h
    cases k with
    | zero => simp [ocells]
    | succ k =>
      rw [ocells, show (k + 1) * 4 + 1 = k * 4 + 1 + 1 + 1 + 1 + 1 by omega]
      simpa using ih k (by simpa using h)
theorem ocells_2 : ∀ (ps : List Or2) (k : Nat), k < ps.length → (ocells ps)[k * 4 + 2]? = some (.int .i64 (ps.getD k or0).2.1) := by
  intro ps
  induction ps with
  | nil => intro k h; simp at h
  | cons p ps ih =>
    intro k h
    cases k with
    | zero => simp [ocells]
    | succ k =>
      rw [ocells, show (k + 1) * 4 + 2 = k * 4 + 2 + 1 + 1 + 1 + 1 by omega]
      simpa using ih k (by simpa using h)
theorem ocells_3 : ∀ (ps : List Or2) (k : Nat), k < ps.length → (ocells ps)[k * 4 + 3]? = some (.bool (ps.getD k or0).2.2) := by
  intro ps
  induction ps with
  | nil => intro k h; simp at h
  | cons p ps ih =>
    intro k h
    cases k with
    | zero => simp [ocells]
    | succ k =>
      rw [ocells, show (k + 1) * 4 + 3 = k * 4 + 3 + 1 + 1 + 1 + 1 by omega]
      simpa using ih k (by simpa using h)

/-- the slice value '.slice A n c' reads as the ors ps, in a block below B -/
def RdO (w : World) (B : Nat) (A : Option Addr) (n c : Nat) (ps : List Or2) : Prop :=
  ps.length = n ∧ n ≤ c ∧ c ≤ 9223372036854775807 ∧ (A = none → c = 0) ∧
  (0 < n → ∃ b off, A = some ⟨b, off, none⟩ ∧ b < B ∧ ∀ k, k < n → w.cell? ⟨b, off + k * 4, none⟩ = some (.int .i64 (ps.getD k or0).1.1) ∧ w.cell? ⟨b, off + k * 4 + 1, none⟩ = some (.bool (ps.getD k or0).1.2) ∧
    w.cell? ⟨b, off + k * 4 + 2, none⟩ = some (.int .i64 (ps.getD k or0).2.1) ∧ w.cell? ⟨b, off + k * 4 + 3, none⟩ = some (.bool (ps.getD k or0).2.2))

/-- the slice value v is one of the call's own (blocks from 'base' on), and holds ps -/
def OwnO (w : World) (base e : Nat) (v : Value) (ps : List Or2) : Prop := w.ownsRow base e 4 v ps.length (ocells ps)

section
variable {w w' : World} {A : Option Addr} {B n c base e : Nat} {v : Value} {ps : List Or2}

theorem RdO.len (h : RdO w B A n c ps) : ps.length = n := h.1
theorem RdO.le (h : RdO w B A n c ps) : n ≤ c := h.2.1
theorem RdO.cap (h : RdO w B A n c ps) : c ≤ 9223372036854775807 := h.2.2.1
theorem RdO.big (h : RdO w B A n c ps) : n ≤ 9223372036854775807 := Nat.le_trans h.2.1 h.2.2.1
theorem RdO.at_ (h : RdO w B A n c ps) (hn : 0 < n) : ∃ b off, A = some ⟨b, off, none⟩ ∧ b < B ∧ ∀ k, k < n → w.cell? ⟨b, off + k * 4, none⟩ = some (.int .i64 (ps.getD k or0).1.1) ∧ w.cell? ⟨b, off + k * 4 + 1, none⟩ = some (.bool (ps.getD k or0).1.2) ∧
    w.cell? ⟨b, off + k * 4 + 2, none⟩ = some (.int .i64 (ps.getD k or0).2.1) ∧ w.cell? ⟨b, off + k * 4 + 3, none⟩ = some (.bool (ps.getD k or0).2.2) := h.2.2.2.2 hn
theorem RdO.nil (w : World) (B : Nat) : RdO w B none 0 0 [] := ⟨rfl, Nat.le_refl _, by omega, fun _ => rfl, fun h => by omega⟩
theorem RdO.keep {B' : Nat} (h : RdO w B A n c ps) (hs : B ≤ B') (hk : ∀ p : Addr, p.block < B → w'.cell? p = w.cell? p) : RdO w' B' A n c ps := by
  obtain ⟨h1, h2, h3, h4, h5⟩ := h
  refine ⟨h1, h2, h3, h4, fun hn => ?_⟩
  obtain ⟨b, off, rfl, hb, hc⟩ := h5 hn
  exact ⟨b, off, rfl, by omega, fun k hkn => ⟨(hk _ hb).trans (hc k hkn).1, (hk _ hb).trans (hc k hkn).2.1, (hk _ hb).trans (hc k hkn).2.2.1, (hk _ hb).trans (hc k hkn).2.2.2⟩⟩
theorem RdO.more {B' : Nat} (h : RdO w B A n c ps) (hs : B ≤ B') : RdO w B' A n c ps := h.keep hs fun _ _ => rfl
theorem RdO.below (h : RdO w B A n c ps) (hb : Below B w w') : RdO w' B A n c ps := h.keep (Nat.le_refl _) fun _ hp => hb.cell hp
theorem RdO.past (h : RdO w w.heap.size A n c ps) (hb : Below w.heap.size w w') : RdO w' w'.heap.size A n c ps := (h.below hb).more hb.size
theorem RdO.drewN (h : RdO w B A n c ps) (k : Nat) : RdO (w.drewN k) B A n c ps := h
theorem RdO.alloc (h : RdO w B A n c ps) (hB : B ≤ w.heap.size) (o : Obj) : RdO (w.alloc o) B A n c ps := h.below ((Below.refl _ _).alloc hB _)
theorem getD_takeO (ps : List Or2) (k j : Nat) (h : j < k) : (ps.take k).getD j or0 = ps.getD j or0 := by simp [List.getD, h]
theorem getD_dropO (ps : List Or2) (k j : Nat) : (ps.drop k).getD j or0 = ps.getD (k + j) or0 := by simp [List.getD, List.getElem?_drop]
/-- 's[:k]' -/
theorem RdO.take (h : RdO w B A n c ps) {k : Nat} (hk : k ≤ n) : RdO w B A k c (ps.take k) := by
  have hl := h.len
  refine ⟨by simp; omega, Nat.le_trans hk h.le, h.cap, h.2.2.2.1, fun h0 => ?_⟩
  obtain ⟨b, o, hA, hb, hc⟩ := h.at_ (by omega)
  refine ⟨b, o, hA, hb, fun j hj => ?_⟩
  rw [getD_takeO ps k j hj]
  exact hc j (by omega)
/-- 's[k:]' -/
theorem RdO.drop {b o : Nat} (h : RdO w B (some ⟨b, o, none⟩) n c ps) {k : Nat} (hk : k ≤ n) : RdO w B (some ⟨b, o + k * 4, none⟩) (n - k) (c - k) (ps.drop k) := by
  have hl := h.len
  have h1 := h.le
  have h2 := h.cap
  refine ⟨by simp; omega, by omega, by omega, fun e => (by cases e), fun h0 => ?_⟩
  obtain ⟨b', o', hA, hb, hc⟩ := h.at_ (by omega)
  cases hA
  refine ⟨b, o + k * 4, rfl, hb, fun j hj => ?_⟩
  rw [getD_dropO ps k j]
  have := hc (k + j) (by omega)
  rw [Nat.add_mul, ← Nat.add_assoc] at this
  exact this
theorem RdO.none_left (h : RdO w B A n c ps) {k : Nat} (hk : n = k) : RdO w B A (n - k) 0 (ps.drop k) := by
  have hl := h.len
  subst hk
  refine ⟨by simp; omega, by omega, by omega, fun _ => rfl, fun h0 => by omega⟩

/-- a slice of one or that has just been made -/
theorem RdO.one (w : World) (p : Or2) (t : TypeId) : RdO (w.alloc (.cells #[.int .i64 p.1.1, .bool p.1.2, .int .i64 p.2.1, .bool p.2.2] t)) (w.heap.size + 1) (some ⟨w.heap.size, 0, none⟩) 1 1 [p] := by
  refine ⟨rfl, Nat.le_refl _, by omega, fun h => (by cases h), fun _ => ⟨w.heap.size, 0, rfl, by omega, fun k hk => ?_⟩⟩
  obtain rfl : k = 0 := by omega
  simp

theorem OwnO.nil (w : World) (base e : Nat) : OwnO w base e (.slice none 0 0) [] := World.ownsRow_nil w base e 4
theorem OwnO.rd (h : OwnO w base e v ps) : ∃ A c, v = .slice A ps.length c ∧ RdO w w.heap.size A ps.length c ps := by
  rcases h.2 with ⟨rfl, h0⟩ | ⟨g, cap, cur, rfl, hb, hg, hnc, hcm, hcs, htake⟩
  · have hz : ps = [] := List.eq_nil_of_length_eq_zero h0
    subst hz
    exact ⟨none, 0, rfl, RdO.nil w _⟩
  · refine ⟨some ⟨g, 0, none⟩, cap, rfl, rfl, hnc, by simpa [maxLen] using hcm, fun h => (by cases h), fun _ => ⟨g, 0, rfl, (Array.getElem?_eq_some_iff.1 hg).1, fun k hk => ⟨?_, ?_, ?_, ?_⟩⟩⟩
    · have := World.ownsRow.cellAt (w := w) h (k * 4) (by omega)
      rw [Nat.zero_add, this, ocells_0 ps k hk]
    · have := World.ownsRow.cellAt (w := w) h (k * 4 + 1) (by omega)
      rw [Nat.zero_add, this, ocells_1 ps k hk]
    · have := World.ownsRow.cellAt (w := w) h (k * 4 + 2) (by omega)
      rw [Nat.zero_add, this, ocells_2 ps k hk]
    · have := World.ownsRow.cellAt (w := w) h (k * 4 + 3) (by omega)
      rw [Nat.zero_add, this, ocells_3 ps k hk]
theorem OwnO.len (h : OwnO w base e (.slice A n c) ps) : n = ps.length := by
  obtain ⟨A', c', he, _⟩ := h.rd
  simp only [Value.slice.injEq] at he
  exact he.2.1
theorem OwnO.below (h : OwnO w base e v ps) (hb : Below w.heap.size w w') : OwnO w' base e v ps :=
  World.ownsRow.kept h (grown_of_below hb none) (by cases v.ownBlock <;> simp)
theorem OwnO.mono {base' : Nat} (h : OwnO w base e v ps) (hb : base' ≤ base) : OwnO w base' e v ps := by
  refine ⟨h.1, ?_⟩
  rcases h.2 with h2 | ⟨g, cap, cur, hv, hg, r⟩
  · exact .inl h2
  · exact .inr ⟨g, cap, cur, hv, by omega, r⟩
theorem OwnO.grown {row : Option Nat} (h : OwnO w base e v ps) (hg : w.grownBy w' row) (hne : ∀ k, v.ownBlock = some k → row ≠ some k) : OwnO w' base e v ps :=
  World.ownsRow.kept h hg (by
    cases hv : v.ownBlock with
    | none => exact .inl rfl
    | some k => exact .inr (fun e => hne k hv e.symm))
theorem OwnO.at_base (h : OwnO w base e v ps) : ∀ k, v.ownBlock = some k → base ≤ k := fun k hk => (World.ownsRow.lt h k hk).1
theorem OwnO.lt (h : OwnO w base e v ps) : ∀ k, v.ownBlock = some k → k < w.heap.size := fun k hk => (World.ownsRow.lt h k hk).2
theorem OwnO.drewN (h : OwnO w base e v ps) (k : Nat) : OwnO (w.drewN k) base e v ps := h
end

/-- ors that came in, as the form's reading opens them -/
theorem RdO.opened {w : World} {n c : Nat} {x : Addr} (hl : n ≤ c) (hm : c ≤ maxLen) (hcell : ∀ i, i < c → ∃ p : Or2, w.cell? (x.add (i * 4)) = some (.int .i64 p.1.1) ∧ w.cell? (x.add (i * 4 + 1)) = some (.bool p.1.2) ∧ w.cell? (x.add (i * 4 + 2)) = some (.int .i64 p.2.1) ∧ w.cell? (x.add (i * 4 + 3)) = some (.bool p.2.2)) : ∃ ps, RdO w w.heap.size (some x) n c ps := by
  have each : ∀ i, ∃ p : Or2, i < c → w.cell? (x.add (i * 4)) = some (.int .i64 p.1.1) ∧ w.cell? (x.add (i * 4 + 1)) = some (.bool p.1.2) ∧ w.cell? (x.add (i * 4 + 2)) = some (.int .i64 p.2.1) ∧ w.cell? (x.add (i * 4 + 3)) = some (.bool p.2.2) := by
    intro i
    by_cases h : i < c
    · obtain ⟨p, h1⟩ := hcell i h
      exact ⟨p, fun _ => h1⟩
    · exact ⟨or0, fun h' => absurd h' h⟩
  refine ⟨(List.range n).map fun i => Classical.choose (each i), by simp, hl, by simpa [maxLen] using hm, fun h => (by cases h), fun hn => ?_⟩
  obtain ⟨b, off, spot⟩ := x
  have h0 := (Classical.choose_spec (each 0) (by omega)).1
  have hs : spot = none := by simpa [Addr.add] using World.cell?_spot h0
  subst hs
  have hb : b < w.heap.size := by simpa [Addr.add] using World.block_lt_of_cell? w _ h0
  refine ⟨b, off, rfl, hb, fun k hk => ?_⟩
  have hk1 := Classical.choose_spec (each k) (by omega)
  have hg : ((List.range n).map fun i => Classical.choose (each i)).getD k or0 = Classical.choose (each k) := by simp [List.getD, hk]
  rw [hg]
  simpa [Addr.add_mid, Nat.add_assoc] using hk1

/-! ### append onto a slice of the call's own -/
section
variable {P : Program} (w : World)

theorem run_appO {B : Nat} (base : Nat) (t ty e : TypeId) (ht : P.underlying t = some (.slice e)) (hinfo : (P.info? e).map (fun i => (i.zero, i.size, i.bytes)) = some (some (.agg #[.int .i64 0, .bool false, .int .i64 0, .bool false]), 4, 32))
    (v : Value) (ps : List Or2) (hown : OwnO w base e v ps) (A : Option Addr) (m c : Nat) (qs : List Or2) (hr : RdO w B A m c qs) (hroom : ps.length + m ≤ 4398046511104) (hbase : base ≤ w.heap.size) :
    ∃ v' w', (Builtin.append_ #[t, t] ty #[v, .slice A m c]).run P w = .ok v' w' ∧ OwnO w' base e v' (ps ++ qs) ∧ w.grownBy w' v.ownBlock ∧ (v'.ownBlock = v.ownBlock ∨ v'.ownBlock = some w.heap.size) := by
  obtain ⟨i, hi, hz0, hz1, hz2⟩ := info_parts hinfo
  obtain ⟨r1, r2, r3, r4, r5⟩ := hr
  cases A with
  | none =>
    obtain rfl : c = 0 := r4 rfl
    obtain rfl : m = 0 := by omega
    have hy : qs = [] := List.eq_nil_of_length_eq_zero r1
    subst hy
    refine ⟨v, w, run_append_owned_none w base t ty e i 4 ht hi v _ _ hown, ?_, World.grownBy.refl w _, .inl rfl⟩
    rw [List.append_nil]; exact hown
  | some a =>
    obtain ⟨v', w', hrun, h2, h3, _, h5⟩ := run_append_own_at (P := P) w base t ty e i (.agg #[.int .i64 0, .bool false, .int .i64 0, .bool false]) 4 32 ht hi hz0 hz1 hz2 rfl (by omega) v ps.length (ocells ps) hown a m c (ocells qs)
      (by rw [ocells_len, r1]) (by
        intro j u hu
        have hj : j < qs.length * 4 := by
          rcases Nat.lt_or_ge j (ocells qs).length with h | h
          · rwa [ocells_len] at h
          · rw [List.getElem?_eq_none h] at hu; cases hu
        obtain ⟨b, off, he, hb, hc⟩ := r5 (by omega)
        simp only [Option.some.injEq] at he
        subst he
        obtain ⟨k, hk⟩ : ∃ k, k = j / 4 := ⟨_, rfl⟩
        have hkl : k < qs.length := by omega
        obtain ⟨c1, c2, c3, c4⟩ := hc k (by omega)
        rw [Addr.add_mid, ← hu]
        have hm : j = k * 4 ∨ j = k * 4 + 1 ∨ j = k * 4 + 2 ∨ j = k * 4 + 3 := by omega
        rcases hm with rfl | rfl | rfl | rfl
        · rw [c1, ocells_0 qs k hkl]
        · rw [← Nat.add_assoc, c2, ocells_1 qs k hkl]
        · rw [← Nat.add_assoc, c3, ocells_2 qs k hkl]
        · rw [← Nat.add_assoc, c4, ocells_3 qs k hkl])
      (ocells_one _) (by simp only [maxLen]; omega) (by omega) hbase
    refine ⟨v', w', hrun, ?_, h3, h5⟩
    unfold OwnO
    rw [List.length_append, ocells_app, r1]
    exact h2

theorem wp_appO {B : Nat} {o : Oper} {a : Act} {K : Act → World → Prop} {Q : Exit → Act → World → Prop} (s x : Operand) (t : TypeId)
    (ho : o.op = .call { callee := .builtin .append, args := #[s, x], argTypes := #[t, t] })
    (base : Nat) (e : TypeId) (ht : P.underlying t = some (.slice e)) (hinfo : (P.info? e).map (fun i => (i.zero, i.size, i.bytes)) = some (some (.agg #[.int .i64 0, .bool false, .int .i64 0, .bool false]), 4, 32))
    (v : Value) (ps : List Or2) (hs : a.eval s = v) (hown : OwnO w base e v ps) (A : Option Addr) (m c : Nat) (qs : List Or2) (hx : a.eval x = .slice A m c) (hr : RdO w B A m c qs)
    (hroom : ps.length + m ≤ 4398046511104) (hbase : base ≤ w.heap.size)
    (h : ∀ v' w', OwnO w' base e v' (ps ++ qs) → w.grownBy w' v.ownBlock → (v'.ownBlock = v.ownBlock ∨ v'.ownBlock = some w.heap.size) → K (a.put o.dst v') w') : o.wp P a w K Q := by
  obtain ⟨v', w', hrun, h2, h3, h4⟩ := run_appO (P := P) w base t o.type e ht hinfo v ps hown A m c qs hr hroom hbase
  unfold Oper.wp execOp
  simp only [ho, resolve, invoke, builtin, Sem.run_bind, Sem.run_pure, Result.andThen_ok, List.map_toArray, List.map_cons, List.map_nil, hs, hx, hrun]
  exact h v' w' h2 h3 h4

theorem step_appO {B : Nat} {ops : Array Oper} {o : Oper} {a : Act} {K : Act → World → Prop} {Q : Exit → Act → World → Prop} {E : Prop} (hgd : o.guard = none) (s x : Operand) (t : TypeId)
    (ho : o.op = .call { callee := .builtin .append, args := #[s, x], argTypes := #[t, t] })
    (base : Nat) (e : TypeId) (ht : P.underlying t = some (.slice e)) (hinfo : (P.info? e).map (fun i => (i.zero, i.size, i.bytes)) = some (some (.agg #[.int .i64 0, .bool false, .int .i64 0, .bool false]), 4, 32))
    (v : Value) (ps : List Or2) (hs : a.eval s = v) (hown : OwnO w base e v ps) (A : Option Addr) (m c : Nat) (qs : List Or2) (hx : a.eval x = .slice A m c) (hr : RdO w B A m c qs)
    (hroom : ps.length + m ≤ 4398046511104) (hbase : base ≤ w.heap.size)
    (h : ∀ v' w', OwnO w' base e v' (ps ++ qs) → w.grownBy w' v.ownBlock → (v'.ownBlock = v.ownBlock ∨ v'.ownBlock = some w.heap.size) → K (a.put o.dst v') w') :
    if Region.wanted o (yielded ops a.tmps) = true then Oper.wp P o a w K Q else E := by
  have hw : Region.wanted o (yielded ops a.tmps) = true := by simp [Region.wanted, hgd]
  rw [if_pos hw]
  exact wp_appO w s x t ho base e ht hinfo v ps hs hown A m c qs hx hr hroom hbase h

theorem wpList_appO {B : Nat} {ops : Array Oper} {rest : List Oper} {o : Oper} {a : Act} {Q : Exit → Act → World → Prop} (hgd : o.guard = none) (s x : Operand) (t : TypeId)
    (ho : o.op = .call { callee := .builtin .append, args := #[s, x], argTypes := #[t, t] })
    (base : Nat) (e : TypeId) (ht : P.underlying t = some (.slice e)) (hinfo : (P.info? e).map (fun i => (i.zero, i.size, i.bytes)) = some (some (.agg #[.int .i64 0, .bool false, .int .i64 0, .bool false]), 4, 32))
    (v : Value) (ps : List Or2) (hs : a.eval s = v) (hown : OwnO w base e v ps) (A : Option Addr) (m c : Nat) (qs : List Or2) (hx : a.eval x = .slice A m c) (hr : RdO w B A m c qs)
    (hroom : ps.length + m ≤ 4398046511104) (hbase : base ≤ w.heap.size)
    (h : ∀ v' w', OwnO w' base e v' (ps ++ qs) → w.grownBy w' v.ownBlock → (v'.ownBlock = v.ownBlock ∨ v'.ownBlock = some w.heap.size) → wpList P ops Q rest (a.put o.dst v') w') : wpList P ops Q (o :: rest) a w :=
  wpList_plain hgd fun _ hK => wp_appO w s x t ho base e ht hinfo v ps hs hown A m c qs hx hr hroom hbase fun v' w' h2 h3 h4 => hK _ _ (h v' w' h2 h3 h4)
end

/-- behind an append onto an owned slice, or a store into it, nothing below the base has changed -/
theorem below_appO {w0 w w' : World} {base e : Nat} {v : Value} {ps : List Or2} (hb : Below base w0 w) (hown : OwnO w base e v ps) (hg : w.grownBy w' v.ownBlock) (hbase : base ≤ w.heap.size) : Below base w0 w' :=
  hb.grown hg hbase hown.at_base

/-! ### how the form's reading opens such a slice -/
section
open Go.ChangeShapes Go.WideShapes Go.Deep
variable {H : Type} {enc : TypeId × Value → H} {P : Program} {w : World} {base : Nat} {spare : Nat → Bool} {held : Bool}

theorem open_slice_ors {t e s : TypeId} {f0 f1 g0 g1 : Field} {fuel : Nat} {cs : List Value} {x : DataW H × List MemPlace} (ht : P.underlying t = some (.slice e)) (he : P.underlying e = some (.struct #[f0, f1])) (hs : P.underlying s = some (.struct #[g0, g1]))
    (t0 : f0.type = s) (t1 : f1.type = s) (ce : P.cellsOf e = 4) (cs2 : P.cellsOf s = 2) (o0 : f0.offset = 0) (o1 : f1.offset = 2) (p0 : g0.offset = 0) (p1 : g1.offset = 1) (c0 : P.cellsOf g0.type = 1) (c1 : P.cellsOf g1.type = 1)
    (h : DataW.trod enc P w base spare held fuel t cs = some x) :
    (cs = [.slice none 0 0] ∧ x = (.nil, [])) ∨
    ∃ (a : Addr) (len cap m : Nat) (D : Nat → DataW H) (Pl : Nat → List MemPlace), cs = [.slice (some a) len cap] ∧ base ≤ a.block ∧ len ≤ cap ∧ cap ≤ maxLen ∧ m = (if spare a.block then cap else len) ∧
      x = (.slice ((List.range len).map D) ((List.range (m - len)).map fun j => D (len + j)), MemPlace.row a (m * 4) ++ (List.range m).flatMap Pl) ∧
      ∀ i, i < m → ∃ (n : Nat) (v0 v1 v2 v3 : Value) (y0 y1 y2 y3 : DataW H × List MemPlace), w.cell? (a.add (i * 4)) = some v0 ∧ w.cell? (a.add (i * 4 + 1)) = some v1 ∧ w.cell? (a.add (i * 4 + 2)) = some v2 ∧ w.cell? (a.add (i * 4 + 3)) = some v3 ∧
        DataW.trod enc P w base spare held n g0.type [v0] = some y0 ∧ DataW.trod enc P w base spare held n g1.type [v1] = some y1 ∧ DataW.trod enc P w base spare held n g0.type [v2] = some y2 ∧ DataW.trod enc P w base spare held n g1.type [v3] = some y3 := by
  rcases open_slice ht h with h0 | ⟨a, len, cap, m, n, D, Pl, rfl, hb, hl, hm, hmm, rfl, hx⟩
  · exact Or.inl h0
  right
  refine ⟨a, len, cap, m, D, Pl, rfl, hb, hl, hm, hmm, by rw [ce], fun i hi => ?_⟩
  obtain ⟨cs', h1, h2⟩ := hx i hi
  rw [ce] at h1
  obtain ⟨_, hlen, hcell⟩ := World.cells?_some h1
  obtain ⟨xs, k, hk, hxy, _, hxl, hf⟩ := DataW.trod_struct he h2
  match xs, hxl, cs', hlen with
  | [z0, z1], _, [v0, v1, v2, v3], _ =>
    have u0 := hf 0 f0 rfl
    have u1 := hf 1 f1 rfl
    rw [t0] at u0
    rw [t1] at u1
    simp [o0, o1, cs2] at u0 u1
    obtain ⟨ys, k2, hk2, hyy, _, hyl, hg⟩ := DataW.trod_struct hs u0
    obtain ⟨ys', k3, hk3, hyy', _, hyl', hg'⟩ := DataW.trod_struct hs u1
    have hk23 : k3 = k2 := by omega
    subst hk23
    match ys, hyl, ys', hyl' with
    | [q0, q1], _, [q2, q3], _ =>
      have r0 := hg 0 g0 rfl
      have r1 := hg 1 g1 rfl
      have r2 := hg' 0 g0 rfl
      have r3 := hg' 1 g1 rfl
      simp [p0, p1, c0, c1] at r0 r1 r2 r3
      have e0 := hcell 0 (by omega)
      have e1 := hcell 1 (by omega)
      have e2 := hcell 2 (by omega)
      have e3 := hcell 3 (by omega)
      rw [add_add] at e0 e1 e2 e3
      exact ⟨k3, v0, v1, v2, v3, q0, q1, q2, q3, by simpa using e0, by simpa using e1, by simpa using e2, by simpa using e3, r0, r1, r2, r3⟩
end

end Go.Proofs.YthalopmplekdoaaDoor
