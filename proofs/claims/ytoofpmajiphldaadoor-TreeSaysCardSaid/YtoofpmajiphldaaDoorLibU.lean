/-
  Helpers: slices of texts in memory: a slice that reads as a list, a slice that the call owns, append onto an owned slice, stores. No statement of the program is proved here; there is no condition.
-/
import Derived.Test.YtoofpmajiphldaaDoorLibR
namespace Go.Proofs.YtoofpmajiphldaaDoor
open Go.RowKit

/-- The slice value '.slice A n c' reads as the texts zs, and lies in a block below B. -/
def RdT (w : World) (B : Nat) (A : Option Addr) (n c : Nat) (zs : List ByteArray) : Prop :=
  zs.length = n ∧ n ≤ c ∧ c ≤ 9223372036854775807 ∧ (A = none → c = 0) ∧
  (0 < n → ∃ b off, A = some ⟨b, off, none⟩ ∧ b < B ∧ ∀ k, k < n → w.cell? ⟨b, off + k, none⟩ = some (.string (zs.getD k ⟨#[]⟩)))

/-- The slice value v is one of the call's own (blocks from 'base' on), and holds zs. -/
def OwnT (w : World) (base e : Nat) (v : Value) (zs : List ByteArray) : Prop := w.ownsRow base e 1 v zs.length (zs.map (Value.string))

section
variable {w w' : World} {A : Option Addr} {B n c base e : Nat} {v : Value} {zs : List ByteArray}

theorem RdT.len (h : RdT w B A n c zs) : zs.length = n := h.1
theorem RdT.le (h : RdT w B A n c zs) : n ≤ c := h.2.1
theorem RdT.cap (h : RdT w B A n c zs) : c ≤ 9223372036854775807 := h.2.2.1
theorem RdT.big (h : RdT w B A n c zs) : n ≤ 9223372036854775807 := Nat.le_trans h.2.1 h.2.2.1
theorem RdT.at_ (h : RdT w B A n c zs) (hn : 0 < n) : ∃ b off, A = some ⟨b, off, none⟩ ∧ b < B ∧ ∀ k, k < n → w.cell? ⟨b, off + k, none⟩ = some (.string (zs.getD k ⟨#[]⟩)) := h.2.2.2.2 hn

theorem RdT.nil (w : World) (B : Nat) : RdT w B none 0 0 [] := ⟨rfl, Nat.le_refl _, by omega, fun _ => rfl, fun h => by omega⟩

theorem RdT.keep {B' : Nat} (h : RdT w B A n c zs) (hs : B ≤ B') (hk : ∀ p : Addr, p.block < B → w'.cell? p = w.cell? p) : RdT w' B' A n c zs := by
  obtain ⟨h1, h2, h3, h4, h5⟩ := h
  refine ⟨h1, h2, h3, h4, fun hn => ?_⟩
  obtain ⟨b, off, rfl, hb, hc⟩ := h5 hn
  exact ⟨b, off, rfl, by omega, fun k hkn => (hk _ hb).trans (hc k hkn)⟩
theorem RdT.more {B' : Nat} (h : RdT w B A n c zs) (hs : B ≤ B') : RdT w B' A n c zs := h.keep hs fun _ _ => rfl
theorem RdT.below (h : RdT w B A n c zs) (hb : Below B w w') : RdT w' B A n c zs := h.keep (Nat.le_refl _) fun _ hp => hb.cell hp
/-- behind a call that has changed nothing that was there -/
theorem RdT.past (h : RdT w w.heap.size A n c zs) (hb : Below w.heap.size w w') : RdT w' w'.heap.size A n c zs := (h.below hb).more hb.size
theorem RdT.drewN (h : RdT w B A n c zs) (k : Nat) : RdT (w.drewN k) B A n c zs := h
theorem RdT.drew (h : RdT w B A n c zs) : RdT w.drew B A n c zs := h
theorem RdT.alloc (h : RdT w B A n c zs) (hB : B ≤ w.heap.size) (o : Obj) : RdT (w.alloc o) B A n c zs := h.below ((Below.refl _ _).alloc hB _)

theorem getD_dropT (zs : List ByteArray) (k j : Nat) : (zs.drop k).getD j ⟨#[]⟩ = zs.getD (k + j) ⟨#[]⟩ := by simp [List.getD, List.getElem?_drop]
theorem getD_takeT (zs : List ByteArray) (k j : Nat) (h : j < k) : (zs.take k).getD j ⟨#[]⟩ = zs.getD j ⟨#[]⟩ := by simp [List.getD, h]

/-- 's[k:]' -/
theorem RdT.drop (h : RdT w B A n c zs) {k : Nat} (hk : k ≤ n) : RdT w B (if c = k then A else A.map (·.add k)) (n - k) (c - k) (zs.drop k) := by
  obtain ⟨h1, h2, h3, h4, h5⟩ := h
  refine ⟨by simp; omega, by omega, by omega, ?_, fun hn => ?_⟩
  · intro hA
    split at hA
    · omega
    · cases A with
      | none => have := h4 rfl; omega
      | some a => simp at hA
  · obtain ⟨b, off, rfl, hb, hc⟩ := h5 (by omega)
    rw [if_neg (by omega)]
    refine ⟨b, off + k, by simp [Addr.add_mid], hb, fun j hj => ?_⟩
    rw [Nat.add_assoc, hc (k + j) (by omega), getD_dropT]
theorem RdT.drop_all {k : Nat} (h : RdT w B A n c zs) (hk : k ≤ n) (hc : c = k) : RdT w B A (n - k) 0 (zs.drop k) := by
  subst hc
  have := h.drop hk
  simpa using this
theorem RdT.drop_map {k : Nat} (h : RdT w B A n c zs) (hk : k ≤ n) (hc : ¬ c = k) : RdT w B (A.map (fun x => x.add k)) (n - k) (c - k) (zs.drop k) := by
  have := h.drop hk
  rwa [if_neg hc] at this
theorem RdT.drop_lit {k b off : Nat} (h : RdT w B (some ⟨b, off, none⟩) n c zs) (hk : k ≤ n) (hc : ¬ c = k) : RdT w B (some ⟨b, off + k, none⟩) (n - k) (c - k) (zs.drop k) := by
  have := h.drop_map hk hc
  simpa [Addr.add_mid] using this
/-- 's[:k]' -/
theorem RdT.take (h : RdT w B A n c zs) {k : Nat} (hk : k ≤ n) : RdT w B A k c (zs.take k) := by
  obtain ⟨h1, h2, h3, h4, h5⟩ := h
  refine ⟨by simp; omega, by omega, by omega, h4, fun hn => ?_⟩
  obtain ⟨b, off, rfl, hb, hc⟩ := h5 (by omega)
  exact ⟨b, off, rfl, hb, fun j hj => by rw [hc j (by omega), getD_takeT _ _ _ hj]⟩

/-- 's[1:]', written out -/
theorem RdT.tail {b off : Nat} (h : RdT w B (some ⟨b, off, none⟩) n c zs) (hn : 1 ≤ n) (hc : c ≠ 1) : RdT w B (some ⟨b, off + 1, none⟩) (n - 1) (c - 1) zs.tail := by
  have := h.drop hn
  rw [if_neg hc] at this
  simpa [Addr.add_mid] using this
theorem RdT.empty (w : World) (B : Nat) (a : Addr) (n c : Nat) (zs : List ByteArray) (hz : zs.length = n) (hn : n = 0) (hc : c ≤ 9223372036854775807) : RdT w B (some a) n c zs :=
  ⟨hz, by omega, hc, fun h => (by cases h), fun h => by omega⟩

/-- a slice of one element that has just been made -/
theorem RdT.one (w : World) (x : ByteArray) (t : TypeId) : RdT (w.alloc (.cells #[.string x] t)) (w.heap.size + 1) (some ⟨w.heap.size, 0, none⟩) 1 1 [x] := by
  refine ⟨rfl, Nat.le_refl _, by omega, fun h => (by cases h), fun _ => ⟨w.heap.size, 0, rfl, by omega, fun k hk => ?_⟩⟩
  obtain rfl : k = 0 := by omega
  simp

/-- the integers that have just been laid in a new block -/
theorem RdT.new (w : World) (zs : List ByteArray) (t : TypeId) (n : Nat) (hn : zs.length = n) (hb : n ≤ 9223372036854775807) : RdT (w.alloc (.cells (zs.map (Value.string)).toArray t)) (w.heap.size + 1) (some ⟨w.heap.size, 0, none⟩) n n zs := by
  refine ⟨hn, Nat.le_refl _, hb, fun h => (by cases h), fun _ => ⟨w.heap.size, 0, rfl, by omega, fun k hk => ?_⟩⟩
  have hk' : k < zs.length := by omega
  rw [cell_of_row (w.alloc _) w.heap.size (0 + k) _ t (0, 0) (heap_alloc_new w _)]
  simp [hk']

/-- a slice that came in, as the form's reading opens it -/
theorem RdT.opened {x : Addr} {zs : List ByteArray} (hl : n ≤ c) (hm : c ≤ maxLen) (hz : zs.length = c) (hcell : ∀ i, i < zs.length → w.cell? (x.add i) = some (.string (zs.getD i ⟨#[]⟩))) : RdT w w.heap.size (some x) n c (zs.take n) := by
  refine ⟨by simp; omega, hl, by simpa [maxLen] using hm, fun h => (by cases h), fun hn => ?_⟩
  obtain ⟨b, off, spot⟩ := x
  have h0 := hcell 0 (by omega)
  have hs : spot = none := by simpa [Addr.add] using World.cell?_spot h0
  subst hs
  have hb : b < w.heap.size := by simpa [Addr.add] using World.block_lt_of_cell? w _ h0
  refine ⟨b, off, rfl, hb, fun k hk => ?_⟩
  rw [← Addr.add_mid, hcell k (by omega), getD_takeT _ _ _ hk]

theorem OwnT.nil (w : World) (base e : Nat) : OwnT w base e (.slice none 0 0) [] := World.ownsRow_nil w base e 1

/-- a slice of one element that has just been made -/
theorem OwnT.one (w : World) (base e : Nat) (x : ByteArray) (hb : base ≤ w.heap.size) : OwnT (w.alloc (.cells #[.string x] e)) base e (.slice (some ⟨w.heap.size, 0, none⟩) 1 1) [x] :=
  World.ownsRow_lit w #[.string x] 1 hb (by simp [maxLen]) (by simp)
theorem OwnT.rd (h : OwnT w base e v zs) : ∃ A c, v = .slice A zs.length c ∧ RdT w w.heap.size A zs.length c zs := by
  rcases h.2 with ⟨rfl, h0⟩ | ⟨g, cap, cur, rfl, hb, hg, hnc, hcm, hcs, htake⟩
  · have hz : zs = [] := List.eq_nil_of_length_eq_zero h0
    subst hz
    exact ⟨none, 0, rfl, RdT.nil w _⟩
  · refine ⟨some ⟨g, 0, none⟩, cap, rfl, rfl, hnc, by simpa [maxLen] using hcm, fun h => (by cases h), fun _ => ⟨g, 0, rfl, (Array.getElem?_eq_some_iff.1 hg).1, fun k hk => ?_⟩⟩
    have := World.ownsRow.cellAt (w := w) h k (by omega)
    rw [Nat.zero_add, this]
    simp [hk]

theorem OwnT.len (h : OwnT w base e (.slice A n c) zs) : n = zs.length := by
  obtain ⟨A', c', he, _⟩ := h.rd
  simp only [Value.slice.injEq] at he
  exact he.2.1
theorem OwnT.rd' (h : OwnT w base e (.slice A n c) zs) : RdT w w.heap.size A n c zs := by
  obtain ⟨A', c', he, hr⟩ := h.rd
  simp only [Value.slice.injEq] at he
  obtain ⟨rfl, rfl, rfl⟩ := he
  exact hr

theorem OwnT.below (h : OwnT w base e v zs) (hb : Below w.heap.size w w') : OwnT w' base e v zs :=
  World.ownsRow.kept h (grown_of_below hb none) (by cases v.ownBlock <;> simp)
theorem OwnT.mono {base' : Nat} (h : OwnT w base e v zs) (hb : base' ≤ base) : OwnT w base' e v zs := by
  refine ⟨h.1, ?_⟩
  rcases h.2 with h2 | ⟨g, cap, cur, hv, hg, r⟩
  · exact .inl h2
  · exact .inr ⟨g, cap, cur, hv, by omega, r⟩
theorem OwnT.grown {row : Option Nat} (h : OwnT w base e v zs) (hg : w.grownBy w' row) (hne : ∀ k, v.ownBlock = some k → row ≠ some k) : OwnT w' base e v zs :=
  World.ownsRow.kept h hg (by
    cases hv : v.ownBlock with
    | none => exact .inl rfl
    | some k => exact .inr (fun e => hne k hv e.symm))
theorem OwnT.at_base (h : OwnT w base e v zs) : ∀ k, v.ownBlock = some k → base ≤ k := fun k hk => (World.ownsRow.lt h k hk).1
theorem OwnT.lt (h : OwnT w base e v zs) : ∀ k, v.ownBlock = some k → k < w.heap.size := fun k hk => (World.ownsRow.lt h k hk).2
theorem OwnT.drewN (h : OwnT w base e v zs) (k : Nat) : OwnT (w.drewN k) base e v zs := h
/-- zeros that make has laid -/
theorem OwnT.made {n : Nat} (h : w.ownsRow base e 1 v n (madeCells (Value.string ⟨#[]⟩).cells (n * 1)).toList) : OwnT w base e v (List.replicate n ⟨#[]⟩) := by
  have : (madeCells (Value.string ⟨#[]⟩).cells (n * 1)).toList = (List.replicate n ⟨#[]⟩).map (Value.string) := by
    rw [Nat.mul_one, show (Value.string ⟨#[]⟩).cells = #[Value.string ⟨#[]⟩] from rfl, toList_madeCells_one, List.map_replicate]
  rw [this] at h
  unfold OwnT
  rw [List.length_replicate]
  exact h
end

/-! ### append onto a slice of the call's own -/
section
variable {P : Program} (w : World)

theorem run_appT {B : Nat} (base : Nat) (t ty e : TypeId) (ht : P.underlying t = some (.slice e)) (hinfo : (P.info? e).map (fun i => (i.zero, i.size, i.bytes)) = some (some (.string ⟨#[]⟩), 1, 16))
    (v : Value) (zs : List ByteArray) (hown : OwnT w base e v zs) (A : Option Addr) (m c : Nat) (ys : List ByteArray) (hr : RdT w B A m c ys) (hroom : zs.length + m ≤ 1000000) (hbase : base ≤ w.heap.size) :
    ∃ v' w', (Builtin.append_ #[t, t] ty #[v, .slice A m c]).run P w = .ok v' w' ∧ OwnT w' base e v' (zs ++ ys) ∧ w.grownBy w' v.ownBlock ∧ (v'.ownBlock = v.ownBlock ∨ v'.ownBlock = some w.heap.size) := by
  obtain ⟨i, hi, hz0, hz1, hz2⟩ := info_parts hinfo
  obtain ⟨r1, r2, r3, r4, r5⟩ := hr
  cases A with
  | none =>
    obtain rfl : c = 0 := r4 rfl
    obtain rfl : m = 0 := by omega
    have hy : ys = [] := List.eq_nil_of_length_eq_zero r1
    subst hy
    refine ⟨v, w, run_append_owned_none w base t ty e i 1 ht hi v _ _ hown, ?_, World.grownBy.refl w _, .inl rfl⟩
    rw [List.append_nil]; exact hown
  | some a =>
    obtain ⟨v', w', hrun, h2, h3, _, h5⟩ := run_append_own_at (P := P) w base t ty e i (.string ⟨#[]⟩) 1 16 ht hi hz0 hz1 hz2 rfl (by omega) v zs.length (zs.map (Value.string)) hown a m c (ys.map (Value.string))
      (by simp [r1]) (by
        intro j u hu
        have hj : j < ys.length := by
          rcases Nat.lt_or_ge j ys.length with h | h
          · exact h
          · rw [List.getElem?_eq_none (by simpa using h)] at hu; cases hu
        obtain ⟨b, off, he, hb, hc⟩ := r5 (by omega)
        simp only [Option.some.injEq] at he
        subst he
        rw [Addr.add_mid, hc j (by omega), ← hu]
        simp [hj])
      (by intro u hu; obtain ⟨b, _, rfl⟩ := List.mem_map.1 hu; rfl) (by simp only [maxLen]; omega) (by omega) hbase
    refine ⟨v', w', hrun, ?_, h3, h5⟩
    unfold OwnT
    rw [List.length_append, List.map_append, r1]
    exact h2

theorem wp_appT {B : Nat} {o : Oper} {a : Act} {K : Act → World → Prop} {Q : Exit → Act → World → Prop} (s x : Operand) (t : TypeId)
    (ho : o.op = .call { callee := .builtin .append, args := #[s, x], argTypes := #[t, t] })
    (base : Nat) (e : TypeId) (ht : P.underlying t = some (.slice e)) (hinfo : (P.info? e).map (fun i => (i.zero, i.size, i.bytes)) = some (some (.string ⟨#[]⟩), 1, 16))
    (v : Value) (zs : List ByteArray) (hs : a.eval s = v) (hown : OwnT w base e v zs) (A : Option Addr) (m c : Nat) (ys : List ByteArray) (hx : a.eval x = .slice A m c) (hr : RdT w B A m c ys)
    (hroom : zs.length + m ≤ 1000000) (hbase : base ≤ w.heap.size)
    (h : ∀ v' w', OwnT w' base e v' (zs ++ ys) → w.grownBy w' v.ownBlock → (v'.ownBlock = v.ownBlock ∨ v'.ownBlock = some w.heap.size) → K (a.put o.dst v') w') : o.wp P a w K Q := by
  obtain ⟨v', w', hrun, h2, h3, h4⟩ := run_appT (P := P) w base t o.type e ht hinfo v zs hown A m c ys hr hroom hbase
  unfold Oper.wp execOp
  simp only [ho, resolve, invoke, builtin, Sem.run_bind, Sem.run_pure, Result.andThen_ok, List.map_toArray, List.map_cons, List.map_nil, hs, hx, hrun]
  exact h v' w' h2 h3 h4

theorem step_appT {B : Nat} {ops : Array Oper} {o : Oper} {a : Act} {K : Act → World → Prop} {Q : Exit → Act → World → Prop} {E : Prop} (hgd : o.guard = none) (s x : Operand) (t : TypeId)
    (ho : o.op = .call { callee := .builtin .append, args := #[s, x], argTypes := #[t, t] })
    (base : Nat) (e : TypeId) (ht : P.underlying t = some (.slice e)) (hinfo : (P.info? e).map (fun i => (i.zero, i.size, i.bytes)) = some (some (.string ⟨#[]⟩), 1, 16))
    (v : Value) (zs : List ByteArray) (hs : a.eval s = v) (hown : OwnT w base e v zs) (A : Option Addr) (m c : Nat) (ys : List ByteArray) (hx : a.eval x = .slice A m c) (hr : RdT w B A m c ys)
    (hroom : zs.length + m ≤ 1000000) (hbase : base ≤ w.heap.size)
    (h : ∀ v' w', OwnT w' base e v' (zs ++ ys) → w.grownBy w' v.ownBlock → (v'.ownBlock = v.ownBlock ∨ v'.ownBlock = some w.heap.size) → K (a.put o.dst v') w') :
    if Region.wanted o (yielded ops a.tmps) = true then Oper.wp P o a w K Q else E := by
  have hw : Region.wanted o (yielded ops a.tmps) = true := by simp [Region.wanted, hgd]
  rw [if_pos hw]
  exact wp_appT w s x t ho base e ht hinfo v zs hs hown A m c ys hx hr hroom hbase h

theorem wpList_appT {B : Nat} {ops : Array Oper} {rest : List Oper} {o : Oper} {a : Act} {Q : Exit → Act → World → Prop} (hgd : o.guard = none) (s x : Operand) (t : TypeId)
    (ho : o.op = .call { callee := .builtin .append, args := #[s, x], argTypes := #[t, t] })
    (base : Nat) (e : TypeId) (ht : P.underlying t = some (.slice e)) (hinfo : (P.info? e).map (fun i => (i.zero, i.size, i.bytes)) = some (some (.string ⟨#[]⟩), 1, 16))
    (v : Value) (zs : List ByteArray) (hs : a.eval s = v) (hown : OwnT w base e v zs) (A : Option Addr) (m c : Nat) (ys : List ByteArray) (hx : a.eval x = .slice A m c) (hr : RdT w B A m c ys)
    (hroom : zs.length + m ≤ 1000000) (hbase : base ≤ w.heap.size)
    (h : ∀ v' w', OwnT w' base e v' (zs ++ ys) → w.grownBy w' v.ownBlock → (v'.ownBlock = v.ownBlock ∨ v'.ownBlock = some w.heap.size) → wpList P ops Q rest (a.put o.dst v') w') : wpList P ops Q (o :: rest) a w :=
  wpList_plain hgd fun _ hK => wp_appT w s x t ho base e ht hinfo v zs hs hown A m c ys hx hr hroom hbase fun v' w' h2 h3 h4 => hK _ _ (h v' w' h2 h3 h4)
end

/-- behind an append onto an owned slice nothing below the base has changed -/
theorem below_appT {w0 w w' : World} {base e : Nat} {v : Value} {zs : List ByteArray} (hb : Below base w0 w) (hown : OwnT w base e v zs) (hg : w.grownBy w' v.ownBlock) (hbase : base ≤ w.heap.size) : Below base w0 w' :=
  hb.grown hg hbase hown.at_base


theorem OwnT.store {w : World} {base e g n cap : Nat} {zs : List ByteArray} (h : OwnT w base e (.slice (some ⟨g, 0, none⟩) n cap) zs) (j : Nat) (x : ByteArray) :
    OwnT (w.setCell ⟨g, j, none⟩ (.string x)) base e (.slice (some ⟨g, 0, none⟩) n cap) (zs.set j x) ∧ w.grownBy (w.setCell ⟨g, j, none⟩ (.string x)) (some g) := by
  have hn := h.len
  subst hn
  obtain ⟨h1, h2⟩ := World.ownsRow.stored h j (.string x)
  refine ⟨?_, h2⟩
  unfold OwnT
  rw [List.length_set, List.map_set]
  exact h1
theorem OwnT.cell {w : World} {base e g n cap : Nat} {zs : List ByteArray} (h : OwnT w base e (.slice (some ⟨g, 0, none⟩) n cap) zs) (j : Nat) (hj : j < n) : w.cell? ⟨g, j, none⟩ = some (.string (zs.getD j ⟨#[]⟩)) := by
  have hn := h.len
  subst hn
  rw [World.ownsRow.cellAt h j (by omega)]
  simp [hj]
theorem OwnT.frozen {w : World} {base e g n cap : Nat} {zs : List ByteArray} (h : OwnT w base e (.slice (some ⟨g, 0, none⟩) n cap) zs) (j : Nat) : w.frozen? ⟨g, j, none⟩ = false := by
  have hn := h.len
  subst hn
  exact World.ownsRow.frozenAt h j
theorem OwnT.base_le {w : World} {base e g n cap : Nat} {zs : List ByteArray} (h : OwnT w base e (.slice (some ⟨g, 0, none⟩) n cap) zs) : base ≤ g := h.at_base g rfl

theorem OwnT.same {w w' : World} {base e : Nat} {v : Value} {zs : List ByteArray} (h : OwnT w base e v zs) (hs : ∀ k, v.ownBlock = some k → w'.heap[k]? = w.heap[k]?) : OwnT w' base e v zs := ownsRow_same h hs
theorem OwnT.addr {w : World} {base e : Nat} {A : Option Addr} {n c : Nat} {zs : List ByteArray} (h : OwnT w base e (.slice A n c) zs) (hn : 0 < n) : ∃ g, A = some ⟨g, 0, none⟩ ∧ base ≤ g ∧ g < w.heap.size := by
  have hl := h.len
  rcases h.2 with ⟨h2, h0⟩ | ⟨g, cap, cur, h2, hb, hg, _⟩
  · omega
  · simp only [Value.slice.injEq] at h2
    exact ⟨g, h2.1, hb, (Array.getElem?_eq_some_iff.1 hg).1⟩

end Go.Proofs.YtoofpmajiphldaaDoor
