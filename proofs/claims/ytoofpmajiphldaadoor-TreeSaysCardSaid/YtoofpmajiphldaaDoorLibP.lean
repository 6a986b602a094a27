/-
  Helpers: slices of pairs of integers (two cells an element) in memory: a slice that reads as a list of pairs, a slice that the call owns, append onto an owned one, a store into one. No statement of the program is proved here; there is no condition.
-/
import Derived.Test.YtoofpmajiphldaaDoorLib
namespace Go.Proofs.YtoofpmajiphldaaDoor
open Go.RowKit

/-- the cells of pairs -/
def pcells : List (Int × Int) → List Value
  | [] => []
  | p :: ps => .int .i64 p.1 :: .int .i64 p.2 :: pcells ps
theorem pcells_len : ∀ ps : List (Int × Int), (pcells ps).length = ps.length * 2 := by
  intro ps
  induction ps with
  | nil => rfl
  | cons p ps ih => simp [pcells, ih]; omega
theorem pcells_app (qs : List (Int × Int)) : ∀ ps : List (Int × Int), pcells (ps ++ qs) = pcells ps ++ pcells qs := by
  intro ps
  induction ps with
  | nil => rfl
  | cons p ps ih => simp [pcells, ih]
theorem pcells_one : ∀ ps : List (Int × Int), ∀ u ∈ pcells ps, u.oneCell' = true := by
  intro ps
  induction ps with
  | nil => intro u hu; cases hu
  | cons p ps ih =>
    intro u hu
    simp only [pcells, List.mem_cons] at hu
    rcases hu with rfl | rfl | hu
    · rfl
    · rfl
    · exact ih u hu
theorem pcells_fst : ∀ (ps : List (Int × Int)) (k : Nat), k < ps.length → (pcells ps)[k * 2]? = some (.int .i64 (ps.getD k (0, 0)).1) := by
  intro ps
  induction ps with
  | nil => intro k h; simp at h
  | cons p ps ih =>
    intro k h
    cases k with
    | zero => simp [pcells]
    | succ k =>
      rw [pcells, show (k + 1) * 2 = k * 2 + 1 + 1 by omega]
      simpa using ih k (by simpa using h)
theorem pcells_snd : ∀ (ps : List (Int × Int)) (k : Nat), k < ps.length → (pcells ps)[k * 2 + 1]? = some (.int .i64 (ps.getD k (0, 0)).2) := by
  intro ps
  induction ps with
  | nil => intro k h; simp at h
  | cons p ps ih =>
    intro k h
    cases k with
    | zero => simp [pcells]
    | succ k =>
      rw [pcells, show (k + 1) * 2 + 1 = k * 2 + 1 + 1 + 1 by omega]
      simpa using ih k (by simpa using h)
theorem pcells_set (a c d : Int) : ∀ (ps : List (Int × Int)), (pcells (ps ++ [(a, c)])).set (ps.length * 2 + 1) (.int .i64 d) = pcells (ps ++ [(a, d)]) := by
  intro ps
  induction ps with
  | nil => rfl
  | cons p ps ih =>
    rw [List.cons_append, pcells, List.length_cons, show (ps.length + 1) * 2 + 1 = ps.length * 2 + 1 + 1 + 1 by omega]
    simp only [List.set_cons_succ]
    rw [ih]
    rfl

/-- the slice value '.slice A n c' reads as the pairs ps, in a block below B -/
def RdP (w : World) (B : Nat) (A : Option Addr) (n c : Nat) (ps : List (Int × Int)) : Prop :=
  ps.length = n ∧ n ≤ c ∧ c ≤ 9223372036854775807 ∧ (A = none → c = 0) ∧
  (0 < n → ∃ b off, A = some ⟨b, off, none⟩ ∧ b < B ∧ ∀ k, k < n → w.cell? ⟨b, off + k * 2, none⟩ = some (.int .i64 (ps.getD k (0, 0)).1) ∧ w.cell? ⟨b, off + k * 2 + 1, none⟩ = some (.int .i64 (ps.getD k (0, 0)).2))

/-- the slice value v is one of the call's own (blocks from 'base' on), and holds ps -/
def OwnP (w : World) (base e : Nat) (v : Value) (ps : List (Int × Int)) : Prop := w.ownsRow base e 2 v ps.length (pcells ps)

section
variable {w w' : World} {A : Option Addr} {B n c base e : Nat} {v : Value} {ps : List (Int × Int)}

theorem RdP.len (h : RdP w B A n c ps) : ps.length = n := h.1
theorem RdP.le (h : RdP w B A n c ps) : n ≤ c := h.2.1
theorem RdP.cap (h : RdP w B A n c ps) : c ≤ 9223372036854775807 := h.2.2.1
theorem RdP.big (h : RdP w B A n c ps) : n ≤ 9223372036854775807 := Nat.le_trans h.2.1 h.2.2.1
theorem RdP.at_ (h : RdP w B A n c ps) (hn : 0 < n) : ∃ b off, A = some ⟨b, off, none⟩ ∧ b < B ∧ ∀ k, k < n → w.cell? ⟨b, off + k * 2, none⟩ = some (.int .i64 (ps.getD k (0, 0)).1) ∧ w.cell? ⟨b, off + k * 2 + 1, none⟩ = some (.int .i64 (ps.getD k (0, 0)).2) := h.2.2.2.2 hn
theorem RdP.nil (w : World) (B : Nat) : RdP w B none 0 0 [] := ⟨rfl, Nat.le_refl _, by omega, fun _ => rfl, fun h => by omega⟩
theorem RdP.keep {B' : Nat} (h : RdP w B A n c ps) (hs : B ≤ B') (hk : ∀ p : Addr, p.block < B → w'.cell? p = w.cell? p) : RdP w' B' A n c ps := by
  obtain ⟨h1, h2, h3, h4, h5⟩ := h
  refine ⟨h1, h2, h3, h4, fun hn => ?_⟩
  obtain ⟨b, off, rfl, hb, hc⟩ := h5 hn
  exact ⟨b, off, rfl, by omega, fun k hkn => ⟨(hk _ hb).trans (hc k hkn).1, (hk _ hb).trans (hc k hkn).2⟩⟩
theorem RdP.more {B' : Nat} (h : RdP w B A n c ps) (hs : B ≤ B') : RdP w B' A n c ps := h.keep hs fun _ _ => rfl
theorem RdP.below (h : RdP w B A n c ps) (hb : Below B w w') : RdP w' B A n c ps := h.keep (Nat.le_refl _) fun _ hp => hb.cell hp
theorem RdP.past (h : RdP w w.heap.size A n c ps) (hb : Below w.heap.size w w') : RdP w' w'.heap.size A n c ps := (h.below hb).more hb.size
theorem RdP.drewN (h : RdP w B A n c ps) (k : Nat) : RdP (w.drewN k) B A n c ps := h
theorem RdP.alloc (h : RdP w B A n c ps) (hB : B ≤ w.heap.size) (o : Obj) : RdP (w.alloc o) B A n c ps := h.below ((Below.refl _ _).alloc hB _)

/-- a slice of one pair that has just been made -/
theorem RdP.one (w : World) (p : Int × Int) (t : TypeId) : RdP (w.alloc (.cells #[.int .i64 p.1, .int .i64 p.2] t)) (w.heap.size + 1) (some ⟨w.heap.size, 0, none⟩) 1 1 [p] := by
  refine ⟨rfl, Nat.le_refl _, by omega, fun h => (by cases h), fun _ => ⟨w.heap.size, 0, rfl, by omega, fun k hk => ?_⟩⟩
  obtain rfl : k = 0 := by omega
  simp

theorem OwnP.nil (w : World) (base e : Nat) : OwnP w base e (.slice none 0 0) [] := World.ownsRow_nil w base e 2
theorem OwnP.rd (h : OwnP w base e v ps) : ∃ A c, v = .slice A ps.length c ∧ RdP w w.heap.size A ps.length c ps := by
  rcases h.2 with ⟨rfl, h0⟩ | ⟨g, cap, cur, rfl, hb, hg, hnc, hcm, hcs, htake⟩
  · have hz : ps = [] := List.eq_nil_of_length_eq_zero h0
    subst hz
    exact ⟨none, 0, rfl, RdP.nil w _⟩
  · refine ⟨some ⟨g, 0, none⟩, cap, rfl, rfl, hnc, by simpa [maxLen] using hcm, fun h => (by cases h), fun _ => ⟨g, 0, rfl, (Array.getElem?_eq_some_iff.1 hg).1, fun k hk => ⟨?_, ?_⟩⟩⟩
    · have := World.ownsRow.cellAt (w := w) h (k * 2) (by omega)
      rw [Nat.zero_add, this, pcells_fst ps k hk]
    · have := World.ownsRow.cellAt (w := w) h (k * 2 + 1) (by omega)
      rw [Nat.zero_add, this, pcells_snd ps k hk]
theorem OwnP.len (h : OwnP w base e (.slice A n c) ps) : n = ps.length := by
  obtain ⟨A', c', he, _⟩ := h.rd
  simp only [Value.slice.injEq] at he
  exact he.2.1
theorem OwnP.below (h : OwnP w base e v ps) (hb : Below w.heap.size w w') : OwnP w' base e v ps :=
  World.ownsRow.kept h (grown_of_below hb none) (by cases v.ownBlock <;> simp)
theorem OwnP.mono {base' : Nat} (h : OwnP w base e v ps) (hb : base' ≤ base) : OwnP w base' e v ps := by
  refine ⟨h.1, ?_⟩
  rcases h.2 with h2 | ⟨g, cap, cur, hv, hg, r⟩
  · exact .inl h2
  · exact .inr ⟨g, cap, cur, hv, by omega, r⟩
theorem OwnP.grown {row : Option Nat} (h : OwnP w base e v ps) (hg : w.grownBy w' row) (hne : ∀ k, v.ownBlock = some k → row ≠ some k) : OwnP w' base e v ps :=
  World.ownsRow.kept h hg (by
    cases hv : v.ownBlock with
    | none => exact .inl rfl
    | some k => exact .inr (fun e => hne k hv e.symm))
theorem OwnP.at_base (h : OwnP w base e v ps) : ∀ k, v.ownBlock = some k → base ≤ k := fun k hk => (World.ownsRow.lt h k hk).1
theorem OwnP.lt (h : OwnP w base e v ps) : ∀ k, v.ownBlock = some k → k < w.heap.size := fun k hk => (World.ownsRow.lt h k hk).2
theorem OwnP.drewN (h : OwnP w base e v ps) (k : Nat) : OwnP (w.drewN k) base e v ps := h

/-- the last pair of an owned slice: where it lies, and a new second part of it -/
theorem OwnP.last {front : List (Int × Int)} {a x : Int} (h : OwnP w base e v (front ++ [(a, x)])) :
    ∃ g cap, v = .slice (some ⟨g, 0, none⟩) (front.length + 1) cap ∧ base ≤ g ∧ g < w.heap.size ∧ front.length + 1 ≤ cap ∧ cap ≤ 9223372036854775807 ∧
      w.cell? ⟨g, front.length * 2, none⟩ = some (.int .i64 a) ∧ w.cell? ⟨g, front.length * 2 + 1, none⟩ = some (.int .i64 x) ∧ w.frozen? ⟨g, front.length * 2 + 1, none⟩ = false ∧
      ∀ y : Int, OwnP (w.setCell ⟨g, front.length * 2 + 1, none⟩ (.int .i64 y)) base e v (front ++ [(a, y)]) ∧ w.grownBy (w.setCell ⟨g, front.length * 2 + 1, none⟩ (.int .i64 y)) (some g) := by
  have hl : (front ++ [(a, x)]).length = front.length + 1 := by simp
  rcases h.2 with ⟨_, h0⟩ | ⟨g, cap, cur, hv, hb, hg, hnc, hcm, hcs, htake⟩
  · rw [hl] at h0; omega
  · rw [hl] at hv hnc
    subst hv
    have h' : w.ownsRow base e 2 (.slice (some ⟨g, 0, none⟩) (front.length + 1) cap) (front.length + 1) (pcells (front ++ [(a, x)])) := by
      have := h
      unfold OwnP at this
      rwa [hl] at this
    have hf := pcells_fst (front ++ [(a, x)]) front.length (by simp)
    have hs := pcells_snd (front ++ [(a, x)]) front.length (by simp)
    simp only [List.getD, List.getElem?_concat_length, Option.getD_some] at hf hs
    refine ⟨g, cap, rfl, hb, (Array.getElem?_eq_some_iff.1 hg).1, hnc, by simpa [maxLen] using hcm, ?_, ?_, h'.frozenAt _, fun y => ?_⟩
    · rw [h'.cellAt _ (by omega), hf]
    · rw [h'.cellAt _ (by omega), hs]
    · obtain ⟨s1, s2⟩ := h'.stored (front.length * 2 + 1) (.int .i64 y)
      rw [pcells_set] at s1
      refine ⟨?_, s2⟩
      unfold OwnP
      simpa using s1
end

/-- lines that came in, as the form's reading opens them -/
theorem RdP.opened {w : World} {n c : Nat} {x : Addr} (hl : n ≤ c) (hm : c ≤ maxLen) (hcell : ∀ i, i < c → ∃ a b : Int, w.cell? (x.add (i * 2)) = some (.int .i64 a) ∧ w.cell? (x.add (i * 2 + 1)) = some (.int .i64 b)) : ∃ ps, RdP w w.heap.size (some x) n c ps := by
  have each : ∀ i, ∃ p : Int × Int, i < c → w.cell? (x.add (i * 2)) = some (.int .i64 p.1) ∧ w.cell? (x.add (i * 2 + 1)) = some (.int .i64 p.2) := by
    intro i
    by_cases h : i < c
    · obtain ⟨a, b, h1, h2⟩ := hcell i h
      exact ⟨(a, b), fun _ => ⟨h1, h2⟩⟩
    · exact ⟨(0, 0), fun h' => absurd h' h⟩
  refine ⟨(List.range n).map fun i => Classical.choose (each i), by simp, hl, by simpa [maxLen] using hm, fun h => (by cases h), fun hn => ?_⟩
  obtain ⟨b, off, spot⟩ := x
  have h0 := (Classical.choose_spec (each 0) (by omega)).1
  have hs : spot = none := by simpa [Addr.add] using World.cell?_spot h0
  subst hs
  have hb : b < w.heap.size := by simpa [Addr.add] using World.block_lt_of_cell? w _ h0
  refine ⟨b, off, rfl, hb, fun k hk => ?_⟩
  have hk1 := Classical.choose_spec (each k) (by omega)
  have hg : ((List.range n).map fun i => Classical.choose (each i)).getD k (0, 0) = Classical.choose (each k) := by simp [List.getD, hk]
  rw [hg]
  simpa [Addr.add_mid, Nat.add_assoc] using hk1

/-! ### append onto a slice of the call's own -/
section
variable {P : Program} (w : World)

theorem run_appP {B : Nat} (base : Nat) (t ty e : TypeId) (ht : P.underlying t = some (.slice e)) (hinfo : (P.info? e).map (fun i => (i.zero, i.size, i.bytes)) = some (some (.agg #[.int .i64 0, .int .i64 0]), 2, 16))
    (v : Value) (ps : List (Int × Int)) (hown : OwnP w base e v ps) (A : Option Addr) (m c : Nat) (qs : List (Int × Int)) (hr : RdP w B A m c qs) (hroom : ps.length + m ≤ 8796093022208) (hbase : base ≤ w.heap.size) :
    ∃ v' w', (Builtin.append_ #[t, t] ty #[v, .slice A m c]).run P w = .ok v' w' ∧ OwnP w' base e v' (ps ++ qs) ∧ w.grownBy w' v.ownBlock ∧ (v'.ownBlock = v.ownBlock ∨ v'.ownBlock = some w.heap.size) := by
  obtain ⟨i, hi, hz0, hz1, hz2⟩ := info_parts hinfo
  obtain ⟨r1, r2, r3, r4, r5⟩ := hr
  cases A with
  | none =>
    obtain rfl : c = 0 := r4 rfl
    obtain rfl : m = 0 := by omega
    have hy : qs = [] := List.eq_nil_of_length_eq_zero r1
    subst hy
    refine ⟨v, w, run_append_owned_none w base t ty e i 2 ht hi v _ _ hown, ?_, World.grownBy.refl w _, .inl rfl⟩
    rw [List.append_nil]; exact hown
  | some a =>
    obtain ⟨v', w', hrun, h2, h3, _, h5⟩ := run_append_own_at (P := P) w base t ty e i (.agg #[.int .i64 0, .int .i64 0]) 2 16 ht hi hz0 hz1 hz2 rfl (by omega) v ps.length (pcells ps) hown a m c (pcells qs)
      (by rw [pcells_len, r1]) (by
        intro j u hu
        have hj : j < qs.length * 2 := by
          rcases Nat.lt_or_ge j (pcells qs).length with h | h
          · rwa [pcells_len] at h
          · rw [List.getElem?_eq_none h] at hu; cases hu
        obtain ⟨b, off, he, hb, hc⟩ := r5 (by omega)
        simp only [Option.some.injEq] at he
        subst he
        obtain ⟨k, hk⟩ : ∃ k, k = j / 2 := ⟨_, rfl⟩
        have hkl : k < qs.length := by omega
        obtain ⟨c1, c2⟩ := hc k (by omega)
        rw [Addr.add_mid, ← hu]
        rcases Nat.mod_two_eq_zero_or_one j with hm | hm
        · obtain rfl : j = k * 2 := by omega
          rw [c1, pcells_fst qs k hkl]
        · obtain rfl : j = k * 2 + 1 := by omega
          rw [← Nat.add_assoc, c2, pcells_snd qs k hkl])
      (pcells_one _) (by simp only [maxLen]; omega) (by omega) hbase
    refine ⟨v', w', hrun, ?_, h3, h5⟩
    unfold OwnP
    rw [List.length_append, pcells_app, r1]
    exact h2

theorem wp_appP {B : Nat} {o : Oper} {a : Act} {K : Act → World → Prop} {Q : Exit → Act → World → Prop} (s x : Operand) (t : TypeId)
    (ho : o.op = .call { callee := .builtin .append, args := #[s, x], argTypes := #[t, t] })
    (base : Nat) (e : TypeId) (ht : P.underlying t = some (.slice e)) (hinfo : (P.info? e).map (fun i => (i.zero, i.size, i.bytes)) = some (some (.agg #[.int .i64 0, .int .i64 0]), 2, 16))
    (v : Value) (ps : List (Int × Int)) (hs : a.eval s = v) (hown : OwnP w base e v ps) (A : Option Addr) (m c : Nat) (qs : List (Int × Int)) (hx : a.eval x = .slice A m c) (hr : RdP w B A m c qs)
    (hroom : ps.length + m ≤ 8796093022208) (hbase : base ≤ w.heap.size)
    (h : ∀ v' w', OwnP w' base e v' (ps ++ qs) → w.grownBy w' v.ownBlock → (v'.ownBlock = v.ownBlock ∨ v'.ownBlock = some w.heap.size) → K (a.put o.dst v') w') : o.wp P a w K Q := by
  obtain ⟨v', w', hrun, h2, h3, h4⟩ := run_appP (P := P) w base t o.type e ht hinfo v ps hown A m c qs hr hroom hbase
  unfold Oper.wp execOp
  simp only [ho, resolve, invoke, builtin, Sem.run_bind, Sem.run_pure, Result.andThen_ok, List.map_toArray, List.map_cons, List.map_nil, hs, hx, hrun]
  exact h v' w' h2 h3 h4

theorem step_appP {B : Nat} {ops : Array Oper} {o : Oper} {a : Act} {K : Act → World → Prop} {Q : Exit → Act → World → Prop} {E : Prop} (hgd : o.guard = none) (s x : Operand) (t : TypeId)
    (ho : o.op = .call { callee := .builtin .append, args := #[s, x], argTypes := #[t, t] })
    (base : Nat) (e : TypeId) (ht : P.underlying t = some (.slice e)) (hinfo : (P.info? e).map (fun i => (i.zero, i.size, i.bytes)) = some (some (.agg #[.int .i64 0, .int .i64 0]), 2, 16))
    (v : Value) (ps : List (Int × Int)) (hs : a.eval s = v) (hown : OwnP w base e v ps) (A : Option Addr) (m c : Nat) (qs : List (Int × Int)) (hx : a.eval x = .slice A m c) (hr : RdP w B A m c qs)
    (hroom : ps.length + m ≤ 8796093022208) (hbase : base ≤ w.heap.size)
    (h : ∀ v' w', OwnP w' base e v' (ps ++ qs) → w.grownBy w' v.ownBlock → (v'.ownBlock = v.ownBlock ∨ v'.ownBlock = some w.heap.size) → K (a.put o.dst v') w') :
    if Region.wanted o (yielded ops a.tmps) = true then Oper.wp P o a w K Q else E := by
  have hw : Region.wanted o (yielded ops a.tmps) = true := by simp [Region.wanted, hgd]
  rw [if_pos hw]
  exact wp_appP w s x t ho base e ht hinfo v ps hs hown A m c qs hx hr hroom hbase h

theorem wpList_appP {B : Nat} {ops : Array Oper} {rest : List Oper} {o : Oper} {a : Act} {Q : Exit → Act → World → Prop} (hgd : o.guard = none) (s x : Operand) (t : TypeId)
    (ho : o.op = .call { callee := .builtin .append, args := #[s, x], argTypes := #[t, t] })
    (base : Nat) (e : TypeId) (ht : P.underlying t = some (.slice e)) (hinfo : (P.info? e).map (fun i => (i.zero, i.size, i.bytes)) = some (some (.agg #[.int .i64 0, .int .i64 0]), 2, 16))
    (v : Value) (ps : List (Int × Int)) (hs : a.eval s = v) (hown : OwnP w base e v ps) (A : Option Addr) (m c : Nat) (qs : List (Int × Int)) (hx : a.eval x = .slice A m c) (hr : RdP w B A m c qs)
    (hroom : ps.length + m ≤ 8796093022208) (hbase : base ≤ w.heap.size)
    (h : ∀ v' w', OwnP w' base e v' (ps ++ qs) → w.grownBy w' v.ownBlock → (v'.ownBlock = v.ownBlock ∨ v'.ownBlock = some w.heap.size) → wpList P ops Q rest (a.put o.dst v') w') : wpList P ops Q (o :: rest) a w :=
  wpList_plain hgd fun _ hK => wp_appP w s x t ho base e ht hinfo v ps hs hown A m c qs hx hr hroom hbase fun v' w' h2 h3 h4 => hK _ _ (h v' w' h2 h3 h4)
end

/-- behind an append onto an owned slice, or a store into it, nothing below the base has changed -/
theorem below_appP {w0 w w' : World} {base e : Nat} {v : Value} {ps : List (Int × Int)} (hb : Below base w0 w) (hown : OwnP w base e v ps) (hg : w.grownBy w' v.ownBlock) (hbase : base ≤ w.heap.size) : Below base w0 w' :=
  hb.grown hg hbase hown.at_base

end Go.Proofs.YtoofpmajiphldaaDoor
