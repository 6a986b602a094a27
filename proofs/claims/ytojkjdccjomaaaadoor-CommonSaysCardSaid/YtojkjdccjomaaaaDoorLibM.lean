/-
  Helpers: a slice of rows of numbers that the call owns, each row in a block of its own, all as long: append of a row, a store into one place. No statement of the program is proved here; there is no condition.
-/
import Derived.Test.YtojkjdccjomaaaaDoorLibS
namespace Go.Proofs.YtojkjdccjomaaaaDoor
open Go.RowKit
set_option linter.unusedVariables false

/-- append of one slice onto an owned slice of slices -/
theorem wpList_appV {P : Program} (w : World) {ops : Array Oper} {rest : List Oper} {o : Oper} {a : Act} {Q : Exit → Act → World → Prop} (hgd : o.guard = none) (s x : Operand) (t : TypeId)
    (ho : o.op = .call { callee := .builtin .append, args := #[s, x], argTypes := #[t, t] })
    (base : Nat) (e : TypeId) (ht : P.underlying t = some (.slice e)) (hinfo : (P.info? e).map (fun i => (i.zero, i.size, i.bytes)) = some (some (.slice none 0 0), 1, 24))
    (v : Value) (n : Nat) (vs : List Value) (hs : a.eval s = v) (hown : w.ownsRow base e 1 v n vs) (b : Nat) (u : Value) (hx : a.eval x = .slice (some ⟨b, 0, none⟩) 1 1) (hc : w.cell? ⟨b, 0, none⟩ = some u) (hu : u.oneCell' = true)
    (hroom : n + 1 ≤ 1000000) (hbase : base ≤ w.heap.size)
    (h : ∀ v' w', w'.ownsRow base e 1 v' (n + 1) (vs ++ [u]) → w.grownBy w' v.ownBlock → wpList P ops Q rest (a.put o.dst v') w') : wpList P ops Q (o :: rest) a w := by
  refine wpList_plain hgd fun _ hK => ?_
  obtain ⟨i, hi, hz0, hz1, hz2⟩ := info_parts hinfo
  obtain ⟨v', w', hrun, h2, h3, _, h5⟩ := run_append_own_at (P := P) w base t o.type e i (.slice none 0 0) 1 24 ht hi hz0 hz1 hz2 rfl (by omega) v n vs hown ⟨b, 0, none⟩ 1 1 [u]
    (by simp) (by
      intro j y hy
      match j, hy with
      | 0, hy =>
        simp at hy
        subst hy
        simpa [Addr.add] using hc)
    (by intro y hy; simp at hy; subst hy; exact hu) (by simp only [maxLen]; omega) (by omega) hbase
  unfold Oper.wp execOp
  simp only [ho, resolve, invoke, builtin, Sem.run_bind, Sem.run_pure, Result.andThen_ok, List.map_toArray, List.map_cons, List.map_nil, hs, hx, hrun]
  exact hK _ _ (h v' w' (by simpa using h2) h3)

/-- a row as a list -/
def rowF (m : Nat) (F : Nat → Nat → Int) (i : Nat) : List Int := (List.range m).map (F i)
def matF (m a : Nat) (F : Nat → Nat → Int) : List (List Int) := (List.range a).map (rowF m F)
theorem rowF_len (m : Nat) (F : Nat → Nat → Int) (i : Nat) : (rowF m F i).length = m := by simp [rowF]
theorem rowF_at {m : Nat} (F : Nat → Nat → Int) (i : Nat) {j : Nat} (hj : j < m) : (rowF m F i).getD j 0 = F i j := by simp [rowF, List.getD, hj]
theorem matF_len (m a : Nat) (F : Nat → Nat → Int) : (matF m a F).length = a := by simp [matF]
theorem matF_at {m a : Nat} (F : Nat → Nat → Int) {i : Nat} (hi : i < a) : (matF m a F).getD i [] = rowF m F i := by simp [matF, List.getD, hi]
theorem rowF_congr {m : Nat} {F F' : Nat → Nat → Int} {i : Nat} (h : ∀ j, j < m → F i j = F' i j) : rowF m F i = rowF m F' i := by
  unfold rowF
  exact List.map_congr_left fun j hj => h j (by simpa using hj)
theorem rowF_set {m : Nat} {F F' : Nat → Nat → Int} {i j : Nat} (hj : j < m) {x : Int} (hx : F' i j = x) (h : ∀ k, k < m → k ≠ j → F' i k = F i k) : (rowF m F i).set j x = rowF m F' i := by
  apply List.ext_getElem
  · simp [rowF]
  · intro k h1 h2
    have hk : k < m := by simpa [rowF] using h2
    rw [List.getElem_set]
    by_cases e : j = k
    · subst e
      simp [rowF, hx]
    · rw [if_neg e]
      simp [rowF, h k hk (fun e' => e e'.symm)]

def mrow (G : Nat → Nat) (m a : Nat) : List Value := (List.range a).map fun i => .slice (some ⟨G i, 0, none⟩) m m
theorem mrow_at {G : Nat → Nat} {m a i : Nat} (hi : i < a) : (mrow G m a)[i]? = some (.slice (some ⟨G i, 0, none⟩) m m) := by simp [mrow, hi]

/-- the slice value v is the call's own, and holds a rows of m numbers, each in a block of its own -/
def OwnM (w : World) (base : Nat) (v : Value) (m : Nat) (G : Nat → Nat) (a : Nat) (F : Nat → Nat → Int) : Prop :=
  w.ownsRow base 25 1 v a (mrow G m a) ∧ (∀ i j, i < a → j < a → G i = G j → i = j) ∧ ∀ i, i < a → Own w base 3 (.slice (some ⟨G i, 0, none⟩) m m) (rowF m F i)

section
variable {w w' : World} {base m a : Nat} {v : Value} {G : Nat → Nat} {F F' : Nat → Nat → Int}
theorem OwnM.nil (w : World) (base m : Nat) (G : Nat → Nat) (F : Nat → Nat → Int) : OwnM w base (.slice none 0 0) m G 0 F := ⟨World.ownsRow_nil w base _ 1, fun i j h => by omega, fun i h => by omega⟩
theorem OwnM.below (h : OwnM w base v m G a F) (hb : Below w.heap.size w w') : OwnM w' base v m G a F :=
  ⟨World.ownsRow.kept h.1 (grown_of_below hb none) (by cases v.ownBlock <;> simp), h.2.1, fun i hi => (h.2.2 i hi).below hb⟩
theorem OwnM.drewN (h : OwnM w base v m G a F) (n : Nat) : OwnM (w.drewN n) base v m G a F := h
theorem OwnM.congr (h : OwnM w base v m G a F) (he : ∀ i j, i < a → j < m → F i j = F' i j) : OwnM w base v m G a F' := by
  refine ⟨h.1, h.2.1, fun i hi => ?_⟩
  rw [← rowF_congr (fun j hj => he i j hi hj)]
  exact h.2.2 i hi
theorem OwnM.lt (h : OwnM w base v m G a F) : ∀ i, i < a → G i < w.heap.size := fun i hi => (h.2.2 i hi).lt _ rfl
theorem OwnM.base_le (h : OwnM w base v m G a F) : ∀ i, i < a → base ≤ G i := fun i hi => (h.2.2 i hi).at_base _ rfl
/-- an owned slice of numbers in another block has changed -/
theorem OwnM.grown {g n c : Nat} {zs : List Int} (h : OwnM w base v m G a F) (hu : Own w base 3 (.slice (some ⟨g, 0, none⟩) n c) zs) (hne : ∀ i, i < a → G i ≠ g) (hg : w.grownBy w' (some g)) : OwnM w' base v m G a F := by
  refine ⟨World.ownsRow.kept h.1 hg ?_, h.2.1, fun i hi => (h.2.2 i hi).grown hg (fun k hk e => ?_)⟩
  · cases hv : v.ownBlock with
    | none => exact .inl rfl
    | some k => exact .inr (fun e => own_ne (by decide) h.1 hu k hv (by simpa [Value.ownBlock] using e.symm))
  · obtain rfl : G i = k := by simpa [Value.ownBlock] using hk
    exact hne i hi (by simpa using e.symm)
theorem OwnM.rowcell {gb n cb : Nat} (h : OwnM w base (.slice (some ⟨gb, 0, none⟩) n cb) m G a F) {i : Nat} (hi : i < a) : w.cell? ⟨gb, i, none⟩ = some (.slice (some ⟨G i, 0, none⟩) m m) := by
  have hn : n = a := by
    rcases h.1.2 with ⟨e, _⟩ | ⟨g, cap, cur, e, _⟩
    · cases e
    · simp only [Value.slice.injEq] at e; exact e.2.1
  subst hn
  rw [World.ownsRow.cellAt h.1 i (by omega)]
  exact mrow_at hi
theorem OwnM.cell (h : OwnM w base v m G a F) {i j : Nat} (hi : i < a) (hj : j < m) : w.cell? ⟨G i, j, none⟩ = some (.int .i64 (F i j)) := by
  rw [(h.2.2 i hi).cell j hj, rowF_at F i hj]
theorem OwnM.frozen (h : OwnM w base v m G a F) {i : Nat} (j : Nat) (hi : i < a) : w.frozen? ⟨G i, j, none⟩ = false := (h.2.2 i hi).frozen j
/-- a store into one place -/
theorem OwnM.put (h : OwnM w base v m G a F) {i j : Nat} (hi : i < a) (hj : j < m) {x : Int} (hx : F' i j = x) (he : ∀ i' j', i' < a → j' < m → ¬ (i' = i ∧ j' = j) → F' i' j' = F i' j') :
    OwnM (w.setCell ⟨G i, j, none⟩ (.int .i64 x)) base v m G a F' := by
  obtain ⟨s1, s2⟩ := (h.2.2 i hi).store j x
  refine ⟨World.ownsRow.kept h.1 s2 ?_, h.2.1, fun k hk => ?_⟩
  · cases hv : v.ownBlock with
    | none => exact .inl rfl
    | some k => exact .inr (fun e => own_ne (by decide) h.1 (h.2.2 i hi) k hv (by simpa [Value.ownBlock] using e.symm))
  · by_cases e : k = i
    · subst e
      rw [← rowF_set hj hx (fun j' hj' hne => he k j' hk hj' (fun e => hne e.2))]
      exact s1
    · rw [← rowF_congr (F := F) (fun j' hj' => (he k j' hk hj' (fun e' => e e'.1)).symm)]
      refine (h.2.2 k hk).grown s2 (fun q hq e2 => ?_)
      obtain rfl : G k = q := by simpa [Value.ownBlock] using hq
      exact e (h.2.1 k i hk hi (by simpa using e2.symm))
theorem OwnM.below_put {w0 : World} (hb : Below base w0 w) (h : OwnM w base v m G a F) {i : Nat} (hi : i < a) (j : Nat) (x : Value) : Below base w0 (w.setCell ⟨G i, j, none⟩ x) :=
  hb.setCell (p := ⟨G i, j, none⟩) (h.base_le i hi) _
/-- one row more -/
theorem OwnM.app {v' : Value} {g : Nat} (h : OwnM w base v m G a F) (hu : Own w base 3 (.slice (some ⟨g, 0, none⟩) m m) (rowF m F a)) (hne : ∀ i, i < a → G i ≠ g)
    (hr : w'.ownsRow base 25 1 v' (a + 1) (mrow G m a ++ [.slice (some ⟨g, 0, none⟩) m m])) (hg : w.grownBy w' v.ownBlock) : OwnM w' base v' m (fun i => if i = a then g else G i) (a + 1) F := by
  have hm : mrow G m a ++ [.slice (some ⟨g, 0, none⟩) m m] = mrow (fun i => if i = a then g else G i) m (a + 1) := by
    unfold mrow
    rw [List.range_succ, List.map_append]
    congr 1
    · exact List.map_congr_left fun i hi => by
        have : i < a := by simpa using hi
        simp only
        rw [if_neg (by omega)]
    · simp
  rw [hm] at hr
  have key : ∀ k zs, Own w base 3 (.slice (some ⟨k, 0, none⟩) m m) zs → Own w' base 3 (.slice (some ⟨k, 0, none⟩) m m) zs := fun k zs hy => hy.grown hg (fun q hq => own_ne (by decide) hy h.1 q hq)
  refine ⟨hr, fun i j hi hj => ?_, fun i hi => ?_⟩
  · simp only
    split
    · split
      · omega
      · intro e; exact absurd e.symm (hne j (by omega))
    · split
      · intro e; exact absurd e (hne i (by omega))
      · intro e; exact h.2.1 i j (by omega) (by omega) e
  · simp only
    split
    · rename_i e; subst e; exact key _ _ hu
    · exact key _ _ (h.2.2 i (by omega))
theorem OwnM.slice (h : OwnM w base v m G a F) (ha : 0 < a) : ∃ gb cb, v = .slice (some ⟨gb, 0, none⟩) a cb ∧ a ≤ cb ∧ cb ≤ 9223372036854775807 ∧ gb < w.heap.size := by
  rcases h.1.2 with ⟨_, h0⟩ | ⟨g, cap, cur, rfl, hb, hg, hnc, hcm, hcs, htake⟩
  · omega
  · exact ⟨g, cap, rfl, hnc, by simpa [maxLen] using hcm, (Array.getElem?_eq_some_iff.1 hg).1⟩
theorem OwnM.rd {gb cb : Nat} (h : OwnM w base (.slice (some ⟨gb, 0, none⟩) a cb) m G a F) (ha : 0 < a) : RdR w w.heap.size (some ⟨gb, 0, none⟩) a cb (matF m a F) := by
  obtain ⟨g', c', e, h1, h2, h3⟩ := h.slice ha
  simp only [Value.slice.injEq, Option.some.injEq, Addr.mk.injEq, and_true, true_and] at e
  obtain ⟨rfl, rfl⟩ := e
  refine ⟨matF_len m a F, h1, h2, fun h => (by cases h), fun _ => ⟨gb, 0, rfl, h3, fun k hk => ?_⟩⟩
  rw [matF_at F hk, rowF_len]
  refine ⟨some ⟨G k, 0, none⟩, m, ?_, ?_⟩
  · rw [Nat.zero_add]; exact h.rowcell hk
  · exact (h.2.2 k hk).rd'
end

end Go.Proofs.YtojkjdccjomaaaaDoor
