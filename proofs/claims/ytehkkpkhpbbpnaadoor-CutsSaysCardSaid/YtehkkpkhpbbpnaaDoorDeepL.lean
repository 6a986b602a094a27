/-
  Plain facts on what a search writes down: lists of times, of points, and the lowest times. No statement of the program is proved here; there is no condition.
-/
import Derived.Test.YtehkkpkhpbbpnaaDoorDeepN
set_option linter.unusedSimpArgs false
set_option linter.unusedVariables false
namespace Go.Proofs.YtehkkpkhpbbpnaaDoor.Dp

/-- lists of equal length that agree everywhere -/
theorem eq_getD {a b : List Int} (h : a.length = b.length) (hg : ∀ i, i < a.length → a.getD i 0 = b.getD i 0) : a = b := by
  refine List.ext_getElem h (fun i h1 h2 => ?_)
  have := hg i h1
  simpa [List.getD, h1, h2] using this
theorem getD_setI (l : List Int) (w v : Nat) (x : Int) (hw : w < l.length) : (l.set w x).getD v 0 = if v = w then x else l.getD v 0 := by
  by_cases h : v = w
  · subst h; simp [List.getD, hw]
  · have : w ≠ v := fun e => h e.symm
    simp [List.getD, List.getElem?_set, this, h]

/-- three lists: when met, when left, from which -/
structure Dt where
  met : List Int
  left : List Int
  par : List Int
def lay1 (d : Dt) (x : Stp) : Dt := if x.fin then { d with left := d.left.set x.v (x.k : Int) } else { d with met := d.met.set x.v (x.k : Int), par := d.par.set x.v x.p }
def lay (d : Dt) (l : List Stp) : Dt := l.foldl lay1 d
theorem lay_snoc (d : Dt) (l : List Stp) (x : Stp) : lay d (l ++ [x]) = lay1 (lay d l) x := by simp [lay]
theorem lay_append (d : Dt) (l l' : List Stp) : lay d (l ++ l') = lay (lay d l) l' := by simp [lay]
theorem lay_cons (d : Dt) (x : Stp) (l : List Stp) : lay d (x :: l) = lay (lay1 d x) l := rfl
/-- all three lists are m long -/
def Dt.Len (m : Nat) (d : Dt) : Prop := d.met.length = m ∧ d.left.length = m ∧ d.par.length = m
theorem lay1_len {m : Nat} {d : Dt} (h : d.Len m) (x : Stp) : (lay1 d x).Len m := by
  obtain ⟨h1, h2, h3⟩ := h
  unfold lay1
  split
  · exact ⟨h1, by simp [h2], h3⟩
  · exact ⟨by simp [h1], h2, by simp [h3]⟩
theorem lay_len {m : Nat} {d : Dt} (h : d.Len m) (l : List Stp) : (lay d l).Len m := by
  induction l generalizing d with
  | nil => exact h
  | cons x l ih => exact ih (lay1_len h x)

theorem lay_emit {m : Nat} : ∀ (F : Fo) (k : Nat) (p : Int) (d : Dt), d.Len m → F.pts.Nodup → (∀ u ∈ F.pts, u < m) → ∀ u,
    (lay d (emit k F p)).met.getD u 0 = (if u ∈ F.pts then ((met F k u : Nat) : Int) else d.met.getD u 0) ∧
    (lay d (emit k F p)).left.getD u 0 = (if u ∈ F.pts then ((left F k u : Nat) : Int) else d.left.getD u 0) ∧
    (lay d (emit k F p)).par.getD u 0 = (if u ∈ F.pts then par F p u else d.par.getD u 0)
  | .nil, k, p, d, _, _, _, u => by simp [emit, lay, Fo.pts]
  | .cons v ch rest, k, p, d, hl, hn, hm, u => by
    obtain ⟨n1, n2, n3, n4, n5⟩ := Fo.nodup_pts.1 hn
    have hv : v < m := hm v (by simp [Fo.pts])
    have hlt : ∀ x, x ∈ ch.pts → x < m := fun x hx => hm x (by simp [Fo.pts, hx])
    have hlr : ∀ x, x ∈ rest.pts → x < m := fun x hx => hm x (by simp [Fo.pts, hx])
    have l1 := lay1_len hl ⟨k, v, p, false⟩
    have l2 := lay_len l1 (emit (k + 1) ch (v : Int))
    have l3 := lay1_len l2 ⟨k + 2 * ch.size + 1, v, p, true⟩
    have a1 := lay_emit ch (k + 1) (v : Int) _ l1 n3 hlt u
    have a2 := lay_emit rest (k + 2 * ch.size + 2) p _ l3 n4 hlr u
    have e : lay d (emit k (.cons v ch rest) p) = lay (lay1 (lay (lay1 d ⟨k, v, p, false⟩) (emit (k + 1) ch (v : Int))) ⟨k + 2 * ch.size + 1, v, p, true⟩) (emit (k + 2 * ch.size + 2) rest p) := by
      simp only [emit, lay_cons, lay_append]
    rw [e]
    have b1 : ∀ d : Dt, d.Len m → (lay1 d ⟨k, v, p, false⟩).met.getD u 0 = (if u = v then (k : Int) else d.met.getD u 0) := fun d h => by
      simp only [lay1]; exact getD_setI _ _ _ _ (by rw [h.1]; exact hv)
    have b2 : ∀ d : Dt, d.Len m → (lay1 d ⟨k, v, p, false⟩).par.getD u 0 = (if u = v then p else d.par.getD u 0) := fun d h => by
      simp only [lay1]; exact getD_setI _ _ _ _ (by rw [h.2.2]; exact hv)
    have b3 : ∀ d : Dt, d.Len m → (lay1 d ⟨k + 2 * ch.size + 1, v, p, true⟩).left.getD u 0 = (if u = v then ((k + 2 * ch.size + 1 : Nat) : Int) else d.left.getD u 0) := fun d h => by
      simp only [lay1]; exact getD_setI _ _ _ _ (by rw [h.2.1]; exact hv)
    have c1 : ∀ d : Dt, (lay1 d ⟨k, v, p, false⟩).left = d.left := fun d => by simp [lay1]
    have c2 : ∀ d : Dt, (lay1 d ⟨k + 2 * ch.size + 1, v, p, true⟩).met = d.met := fun d => by simp [lay1]
    have c3 : ∀ d : Dt, (lay1 d ⟨k + 2 * ch.size + 1, v, p, true⟩).par = d.par := fun d => by simp [lay1]
    rw [a2.1, a2.2.1, a2.2.2, c2, c3, b3 _ l2, a1.1, a1.2.1, a1.2.2, b1 _ hl, b2 _ hl, c1]
    by_cases e1 : u = v
    · subst e1
      simp [n1, n2, Fo.pts, met_v, left_v, par_v]
    · by_cases e2 : u ∈ ch.pts
      · have e3 := n5 u e2
        have e4 : u ∈ (Fo.cons v ch rest).pts := by simp [Fo.pts, e2]
        rw [met_c e1 e2, left_c e1 e2, par_c e1 e2]
        simp only [if_pos e4, if_neg e3, if_neg e1, if_pos e2, and_self]
      · rw [met_r e1 e2, left_r e1 e2, par_r e1 e2]
        by_cases e3 : u ∈ rest.pts
        · have e4 : u ∈ (Fo.cons v ch rest).pts := by simp [Fo.pts, e3]
          simp only [if_pos e4, if_pos e3, and_self]
        · have e4 : ¬ u ∈ (Fo.cons v ch rest).pts := by simp [Fo.pts, e1, e2, e3]
          simp only [if_neg e4, if_neg e3, if_neg e1, if_neg e2, and_self]

/-- the three lists of a search over m points -/
def mets (m : Nat) (F : Fo) : List Int := (List.range m).map fun v => ((met F 0 v : Nat) : Int)
def lefts (m : Nat) (F : Fo) : List Int := (List.range m).map fun v => ((left F 0 v : Nat) : Int)
def pars (m : Nat) (F : Fo) : List Int := (List.range m).map fun v => par F (-1) v
theorem mets_len (m : Nat) (F : Fo) : (mets m F).length = m := by simp [mets]
theorem lefts_len (m : Nat) (F : Fo) : (lefts m F).length = m := by simp [lefts]
theorem pars_len (m : Nat) (F : Fo) : (pars m F).length = m := by simp [pars]
theorem mets_at {m : Nat} (F : Fo) {v : Nat} (hv : v < m) : (mets m F).getD v 0 = ((met F 0 v : Nat) : Int) := by simp [mets, List.getD, hv]
theorem lefts_at {m : Nat} (F : Fo) {v : Nat} (hv : v < m) : (lefts m F).getD v 0 = ((left F 0 v : Nat) : Int) := by simp [lefts, List.getD, hv]
theorem pars_at {m : Nat} (F : Fo) {v : Nat} (hv : v < m) : (pars m F).getD v 0 = par F (-1) v := by simp [pars, List.getD, hv]

theorem lay_whole {m : Nat} {R : Nat → List Nat} (hR : Wa.Ok m R) {F : Fo} (hF : Whole m R F) (d : Dt) (hd : d.Len m) : lay d (emit 0 F (-1)) = ⟨mets m F, lefts m F, pars m F⟩ := by
  have hq := hF.spec hR
  have hl := lay_len hd (emit 0 F (-1))
  have key := lay_emit F 0 (-1) d hd hq.2 (fun u hu => (hq.1 u).1 hu)
  have e1 : (lay d (emit 0 F (-1))).met = mets m F := eq_getD (by rw [hl.1, mets_len]) (fun i hi => by rw [hl.1] at hi; rw [(key i).1, if_pos ((hq.1 i).2 hi), mets_at F hi])
  have e2 : (lay d (emit 0 F (-1))).left = lefts m F := eq_getD (by rw [hl.2.1, lefts_len]) (fun i hi => by rw [hl.2.1] at hi; rw [(key i).2.1, if_pos ((hq.1 i).2 hi), lefts_at F hi])
  have e3 : (lay d (emit 0 F (-1))).par = pars m F := eq_getD (by rw [hl.2.2, pars_len]) (fun i hi => by rw [hl.2.2] at hi; rw [(key i).2.2, if_pos ((hq.1 i).2 hi), pars_at F hi])
  rw [← e1, ← e2, ← e3]

/-- the points of a search lie among the points -/
theorem mem_emit : ∀ {F : Fo} {k : Nat} {p : Int} {x : Stp}, x ∈ emit k F p → x.v ∈ F.pts ∧ (x.p = p ∨ ∃ q ∈ F.pts, x.p = (q : Int)) ∧ x.k < k + 2 * F.size
  | .cons v ch rest, k, p, x, h => by
    simp only [emit, List.mem_cons, List.mem_append, Fo.size] at h ⊢
    rcases h with rfl | h | rfl | h
    · exact ⟨by simp [Fo.pts], .inl rfl, by show k < _; omega⟩
    · obtain ⟨a, b, c⟩ := mem_emit h
      refine ⟨by simp [Fo.pts, a], .inr ?_, by omega⟩
      rcases b with b | ⟨q, hq, b⟩
      · exact ⟨v, by simp [Fo.pts], b⟩
      · exact ⟨q, by simp [Fo.pts, hq], b⟩
    · exact ⟨by simp [Fo.pts], .inl rfl, by show k + 2 * ch.size + 1 < _; omega⟩
    · obtain ⟨a, b, c⟩ := mem_emit h
      refine ⟨by simp [Fo.pts, a], ?_, by omega⟩
      rcases b with b | ⟨q, hq, b⟩
      · exact .inl b
      · exact .inr ⟨q, by simp [Fo.pts, hq], b⟩

end Go.Proofs.YtehkkpkhpbbpnaaDoor.Dp
