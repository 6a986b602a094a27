/-
  Helpers: a slice of rows of integers that the call owns, rows and all; append of a row onto it. No statement of the program is proved here; there is no condition.
-/
import Derived.Test.YtoofpmajiphldaaDoorLibR
namespace Go.Proofs.YtoofpmajiphldaaDoor
open Go.RowKit

/-- two owned slices of other element types share no block -/
theorem own_ne {w : World} {base base' e e' size size' n n' : Nat} {v v' : Value} {xs xs' : List Value} (he : e ≠ e') (h : w.ownsRow base e size v n xs) (h' : w.ownsRow base' e' size' v' n' xs') : ∀ k, v.ownBlock = some k → v'.ownBlock ≠ some k := by
  intro k hk hk'
  rcases h.2 with ⟨rfl, _⟩ | ⟨g, cap, cur, rfl, _, hg, _⟩
  · cases hk
  · rcases h'.2 with ⟨rfl, _⟩ | ⟨g', cap', cur', rfl, _, hg', _⟩
    · cases hk'
    · obtain rfl : g = k := by simpa [Value.ownBlock] using hk
      obtain rfl : g' = g := by simpa [Value.ownBlock] using hk'
      rw [hg] at hg'
      simp at hg'
      exact he hg'.2

/-- the slice value v is one of the call's own, and so are its rows -/
def OwnR (w : World) (base e ei : Nat) (v : Value) (rows : List (List Int)) : Prop :=
  ∃ vs : List Value, w.ownsRow base e 1 v rows.length vs ∧ vs.length = rows.length ∧ ∀ k, k < rows.length → Own w base ei (vs.getD k undef) (rows.getD k [])

section
variable {w w' : World} {base e ei : Nat} {v : Value} {rows : List (List Int)}
theorem OwnR.nil (w : World) (base e ei : Nat) : OwnR w base e ei (.slice none 0 0) [] := ⟨[], World.ownsRow_nil w base e 1, rfl, fun k h => by simp at h⟩
theorem OwnR.below (h : OwnR w base e ei v rows) (hb : Below w.heap.size w w') : OwnR w' base e ei v rows := by
  obtain ⟨vs, h1, h2, h3⟩ := h
  exact ⟨vs, World.ownsRow.kept h1 (grown_of_below hb none) (by cases v.ownBlock <;> simp), h2, fun k hk => (h3 k hk).below hb⟩
/-- an owned slice of another element type has grown -/
theorem OwnR.grown {base' e' size' n' : Nat} {u : Value} {xs' : List Value} (h : OwnR w base e ei v rows) (hu : w.ownsRow base' e' size' u n' xs') (h1 : e ≠ e') (h2 : ei ≠ e') (hg : w.grownBy w' u.ownBlock) : OwnR w' base e ei v rows := by
  obtain ⟨vs, a1, a2, a3⟩ := h
  refine ⟨vs, World.ownsRow.kept a1 hg ?_, a2, fun k hk => (a3 k hk).grown hg (fun q hq => own_ne h2 (a3 k hk) hu q hq)⟩
  cases hv : v.ownBlock with
  | none => exact .inl rfl
  | some k => exact .inr (fun e => own_ne h1 a1 hu k hv e.symm)
theorem OwnR.rd (h : OwnR w base e ei v rows) : ∃ A c, v = .slice A rows.length c ∧ RdR w w.heap.size A rows.length c rows := by
  obtain ⟨vs, a1, a2, a3⟩ := h
  rcases a1.2 with ⟨rfl, h0⟩ | ⟨g, cap, cur, rfl, hb, hg, hnc, hcm, hcs, htake⟩
  · have hz : rows = [] := List.eq_nil_of_length_eq_zero h0
    subst hz
    exact ⟨none, 0, rfl, rfl, Nat.le_refl _, by omega, fun _ => rfl, fun h => by simp at h⟩
  · refine ⟨some ⟨g, 0, none⟩, cap, rfl, rfl, hnc, by simpa [maxLen] using hcm, fun h => (by cases h), fun _ => ⟨g, 0, rfl, (Array.getElem?_eq_some_iff.1 hg).1, fun k hk => ?_⟩⟩
    obtain ⟨A', c', he, hr⟩ := (a3 k hk).rd
    refine ⟨A', c', ?_, hr⟩
    have := World.ownsRow.cellAt (w := w) a1 k (by omega)
    rw [Nat.zero_add, this, ← he]
    simp [List.getD, a2, hk]
theorem RdR.nil (w : World) (B : Nat) : RdR w B none 0 0 [] := ⟨rfl, Nat.le_refl _, by omega, fun _ => rfl, fun h => by omega⟩
end

section
variable {P : Program} (w : World)
/-- append of one row onto an owned slice of rows -/
theorem wpList_appR {ops : Array Oper} {rest : List Oper} {o : Oper} {a : Act} {Q : Exit → Act → World → Prop} (hgd : o.guard = none) (s x : Operand) (t : TypeId)
    (ho : o.op = .call { callee := .builtin .append, args := #[s, x], argTypes := #[t, t] })
    (base : Nat) (e ei : TypeId) (hei : ei ≠ e) (ht : P.underlying t = some (.slice e)) (hinfo : (P.info? e).map (fun i => (i.zero, i.size, i.bytes)) = some (some (.slice none 0 0), 1, 24))
    (v : Value) (rows : List (List Int)) (hs : a.eval s = v) (hown : OwnR w base e ei v rows) (b : Nat) (u : Value) (zs : List Int) (hx : a.eval x = .slice (some ⟨b, 0, none⟩) 1 1) (hc : w.cell? ⟨b, 0, none⟩ = some u) (hu : Own w base ei u zs)
    (hroom : rows.length + 1 ≤ 1000000) (hbase : base ≤ w.heap.size)
    (h : ∀ v' w', OwnR w' base e ei v' (rows ++ [zs]) → w.grownBy w' v.ownBlock → (∃ n xs, w.ownsRow base e 1 v n xs) → wpList P ops Q rest (a.put o.dst v') w') : wpList P ops Q (o :: rest) a w := by
  refine wpList_plain hgd fun _ hK => ?_
  obtain ⟨i, hi, hz0, hz1, hz2⟩ := info_parts hinfo
  obtain ⟨vs, a1, a2, a3⟩ := hown
  obtain ⟨A', c', hue, _⟩ := hu.rd
  obtain ⟨v', w', hrun, h2, h3, _, h5⟩ := run_append_own_at (P := P) w base t o.type e i (.slice none 0 0) 1 24 ht hi hz0 hz1 hz2 rfl (by omega) v rows.length vs a1 ⟨b, 0, none⟩ 1 1 [u]
    (by simp) (by
      intro j y hy
      match j, hy with
      | 0, hy =>
        simp at hy
        subst hy
        simpa [Addr.add] using hc)
    (by intro y hy; simp at hy; subst hy; rw [hue]; rfl) (by simp only [maxLen]; omega) (by omega) hbase
  unfold Oper.wp execOp
  simp only [ho, resolve, invoke, builtin, Sem.run_bind, Sem.run_pure, Result.andThen_ok, List.map_toArray, List.map_cons, List.map_nil, hs, hx, hrun]
  refine hK _ _ (h v' w' ⟨vs ++ [u], by simpa using h2, by simp [a2], fun k hk => ?_⟩ h3 ⟨_, _, a1⟩)
  rw [List.length_append, List.length_cons, List.length_nil] at hk
  have key : ∀ y ys, Own w base ei y ys → Own w' base ei y ys := fun y ys hy => hy.grown h3 (fun q hq => own_ne hei hy a1 q hq)
  by_cases hkl : k < rows.length
  · have e1 : (vs ++ [u]).getD k undef = vs.getD k undef := by simp [List.getD, List.getElem?_append, a2, hkl]
    have e2 : (rows ++ [zs]).getD k [] = rows.getD k [] := by simp [List.getD, List.getElem?_append, hkl]
    rw [e1, e2]
    exact key _ _ (a3 k hkl)
  · obtain rfl : k = rows.length := by omega
    have e1 : (vs ++ [u]).getD rows.length undef = u := by simp [List.getD, ← a2]
    have e2 : (rows ++ [zs]).getD rows.length [] = zs := by simp [List.getD]
    rw [e1, e2]
    exact key _ _ hu
end

end Go.Proofs.YtoofpmajiphldaaDoor
