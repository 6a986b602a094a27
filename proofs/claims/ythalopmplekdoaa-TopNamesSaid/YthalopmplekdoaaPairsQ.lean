/-
  Plain facts on ors of two, with no program in them: what follows from what as a table of eight times eight truth values says it, and the answer that is read off it, name by name, is the least right one. No statement of the program is proved here; there is no condition.
-/
import Derived.Test.YthalopmplekdoaaPairsP
import Derived.Test.YthalopmplekdoaaCloseP
set_option linter.unusedSimpArgs false
set_option linter.unusedVariables false
namespace Go.Proofs.Ythalopmplekdoaa.Pa

/-- the contrary -/
def ng (x : Lt) : Lt := (x.1, !x.2)
theorem ng_ng (x : Lt) : ng (ng x) = x := by simp [ng]
/-- its place in the table -/
def pl (x : Lt) : Nat := if x.2 = true then 4 + x.1.toNat else x.1.toNat
/-- a name in range -/
def gl (N : Nat) (x : Lt) : Prop := 0 ≤ x.1 ∧ x.1 < (N : Int)
theorem gl_ng {N : Nat} {x : Lt} (h : gl N x) : gl N (ng x) := h
theorem pl_lt {N : Nat} (h4 : N ≤ 4) {x : Lt} (h : gl N x) : pl x < 8 := by
  unfold pl gl at *
  split <;> omega
theorem pl_inj {N : Nat} (h4 : N ≤ 4) {x y : Lt} (hx : gl N x) (hy : gl N y) (h : pl x = pl y) : x = y := by
  obtain ⟨a, p⟩ := x
  obtain ⟨b, q⟩ := y
  unfold pl gl at *
  simp only at hx hy h
  cases p <;> cases q <;> simp at h
  · rw [show a = b by omega]
  · omega
  · omega
  · rw [show a = b by omega]
/-- the two lines of an or, as places -/
def ptwo (c : Or2) : List Gr.Ln := [(((pl (ng c.1) : Nat) : Int), ((pl c.2 : Nat) : Int)), (((pl (ng c.2) : Nat) : Int), ((pl c.1 : Nat) : Int))]
def plns (cs : List Or2) : List Gr.Ln := cs.flatMap ptwo
theorem plns_len (cs : List Or2) : (plns cs).length = 2 * cs.length := by
  induction cs with
  | nil => rfl
  | cons c cs ih =>
    have : plns (c :: cs) = ptwo c ++ plns cs := rfl
    rw [this, List.length_append, ih]
    simp [ptwo]; omega
theorem plns_at {cs : List Or2} {k : Nat} (hk : k < cs.length) : (plns cs).getD (2 * k) (0, 0) = (((pl (ng (cs.getD k ((0, false), (0, false))).1) : Nat) : Int), ((pl (cs.getD k ((0, false), (0, false))).2 : Nat) : Int)) ∧ (plns cs).getD (2 * k + 1) (0, 0) = (((pl (ng (cs.getD k ((0, false), (0, false))).2) : Nat) : Int), ((pl (cs.getD k ((0, false), (0, false))).1 : Nat) : Int)) := by
  induction cs generalizing k with
  | nil => simp at hk
  | cons c cs ih =>
    have e : plns (c :: cs) = (((pl (ng c.1) : Nat) : Int), ((pl c.2 : Nat) : Int)) :: (((pl (ng c.2) : Nat) : Int), ((pl c.1 : Nat) : Int)) :: plns cs := rfl
    rw [e]
    cases k with
    | zero => simp
    | succ k =>
      have hk' : k < cs.length := by simpa using hk
      have := ih hk'
      rw [show 2 * (k + 1) = 2 * k + 1 + 1 by omega]
      simpa [List.getD] using this
/-- it follows at once -/
def Edge (cs : List Or2) (x y : Lt) : Prop := ∃ c ∈ cs, (x = ng c.1 ∧ y = c.2) ∨ (x = ng c.2 ∧ y = c.1)
abbrev Fo (cs : List Or2) : Lt → Lt → Prop := Relation.TransGen (Edge cs)
/-- it follows, as the table says it -/
def imp (cs : List Or2) (x y : Lt) : Bool := Cl.cl (plns cs) 8 (pl x) (pl y)
theorem fo_trans {cs : List Or2} {x y z : Lt} (h1 : Fo cs x y) (h2 : Fo cs y z) : Fo cs x z := by
  induction h2 with
  | single h => exact .tail h1 h
  | tail _ h ih => exact .tail ih h
theorem edge_ng {cs : List Or2} {x y : Lt} (h : Edge cs x y) : Edge cs (ng y) (ng x) := by
  obtain ⟨c, hc, (⟨rfl, rfl⟩ | ⟨rfl, rfl⟩)⟩ := h
  · exact ⟨c, hc, .inr ⟨rfl, ng_ng _⟩⟩
  · exact ⟨c, hc, .inl ⟨rfl, ng_ng _⟩⟩
theorem fo_ng {cs : List Or2} {x y : Lt} (h : Fo cs x y) : Fo cs (ng y) (ng x) := by
  induction h with
  | single h => exact .single (edge_ng h)
  | tail _ h ih => exact fo_trans (.single (edge_ng h)) ih
section
variable {N : Nat} {cs : List Or2}
theorem edge_good (hg : ∀ c ∈ cs, Good N c) {x y : Lt} (h : Edge cs x y) : gl N x ∧ gl N y := by
  obtain ⟨c, hc, h⟩ := h
  obtain ⟨h1, h2, h3, h4⟩ := hg c hc
  rcases h with ⟨rfl, rfl⟩ | ⟨rfl, rfl⟩
  · exact ⟨⟨h1, h2⟩, h3, h4⟩
  · exact ⟨⟨h3, h4⟩, h1, h2⟩
theorem fo_good (hg : ∀ c ∈ cs, Good N c) {x y : Lt} (h : Fo cs x y) : gl N x ∧ gl N y := by
  induction h with
  | single h => exact edge_good hg h
  | tail _ h ih => exact ⟨ih.1, (edge_good hg h).2⟩
theorem has_edge {a b : Nat} (h : Gr.has (plns cs) (a : Int) (b : Int) = true) : ∃ x y, a = pl x ∧ b = pl y ∧ Edge cs x y := by
  have h1 := Gr.has_iff.1 h
  unfold plns at h1
  obtain ⟨c, hc, h2⟩ := List.mem_flatMap.1 h1
  unfold ptwo at h2
  rcases List.mem_cons.1 h2 with h3 | h3
  · have h4 := Prod.mk.inj h3
    exact ⟨ng c.1, c.2, by omega, by omega, c, hc, .inl ⟨rfl, rfl⟩⟩
  · have h4 := Prod.mk.inj (List.mem_singleton.1 h3)
    exact ⟨ng c.2, c.1, by omega, by omega, c, hc, .inr ⟨rfl, rfl⟩⟩
theorem edge_has {x y : Lt} (h : Edge cs x y) : Gr.has (plns cs) (pl x : Int) (pl y : Int) = true := by
  obtain ⟨c, hc, h⟩ := h
  rw [Gr.has_iff]
  refine List.mem_flatMap.2 ⟨c, hc, ?_⟩
  unfold ptwo
  rcases h with ⟨rfl, rfl⟩ | ⟨rfl, rfl⟩ <;> simp
theorem cl_fo (h4 : N ≤ 4) (hg : ∀ c ∈ cs, Good N c) : ∀ {k a b : Nat}, Cl.cl (plns cs) k a b = true → ∃ x y, a = pl x ∧ b = pl y ∧ Fo cs x y := by
  intro k
  induction k with
  | zero =>
    intro a b h
    obtain ⟨x, y, e1, e2, h3⟩ := has_edge (show Gr.has (plns cs) (a : Int) (b : Int) = true from h)
    exact ⟨x, y, e1, e2, .single h3⟩
  | succ k ih =>
    intro a b h
    have : Cl.cl (plns cs) k a b = true ∨ (Cl.cl (plns cs) k a k = true ∧ Cl.cl (plns cs) k k b = true) := by
      have : (Cl.cl (plns cs) k a b || (Cl.cl (plns cs) k a k && Cl.cl (plns cs) k k b)) = true := h
      simpa [Bool.or_eq_true, Bool.and_eq_true] using this
    rcases this with h1 | ⟨h1, h2⟩
    · exact ih h1
    · obtain ⟨x, y, e1, e2, h3⟩ := ih h1
      obtain ⟨u, v, e3, e4, h5⟩ := ih h2
      have : y = u := pl_inj h4 (fo_good hg h3).2 (fo_good hg h5).1 (by rw [← e2, ← e3])
      subst this
      exact ⟨x, v, e1, e4, fo_trans h3 h5⟩
theorem fo_cl (h4 : N ≤ 4) (hg : ∀ c ∈ cs, Good N c) {x y : Lt} (h : Fo cs x y) : Cl.cl (plns cs) 8 (pl x) (pl y) = true := by
  induction h with
  | single h => exact Cl.cl_le (k := 0) (by omega) (edge_has h)
  | tail h1 h ih => exact Cl.cl_trans (pl_lt h4 (fo_good hg h1).2) ih (Cl.cl_le (k := 0) (by omega) (edge_has h))
theorem imp_iff (h4 : N ≤ 4) (hg : ∀ c ∈ cs, Good N c) {x y : Lt} (hx : gl N x) (hy : gl N y) : imp cs x y = true ↔ Fo cs x y := by
  constructor
  · intro h
    obtain ⟨u, v, e1, e2, h3⟩ := cl_fo h4 hg (show Cl.cl (plns cs) 8 (pl x) (pl y) = true from h)
    obtain ⟨hu, hv⟩ := fo_good hg h3
    rw [pl_inj h4 hx hu e1, pl_inj h4 hy hv e2]
    exact h3
  · exact fo_cl h4 hg
theorem say_ng (v : List Bool) (x : Lt) : say v (ng x) = !say v x := by
  unfold say ng
  simp only
  cases v.getD x.1.toNat false <;> cases x.2 <;> rfl
/-- a right answer goes along -/
theorem fo_right {v : List Bool} (hr : right cs v = true) {x y : Lt} (h : Fo cs x y) (hs : say v x = true) : say v y = true := by
  have one : ∀ {x y : Lt}, Edge cs x y → say v x = true → say v y = true := by
    rintro x y ⟨c, hc, h⟩ hs
    have hcl := List.all_eq_true.1 hr c hc
    rw [Bool.or_eq_true] at hcl
    rcases h with ⟨rfl, rfl⟩ | ⟨rfl, rfl⟩
    · rw [say_ng] at hs
      rcases hcl with h | h
      · rw [h] at hs; cases hs
      · exact h
    · rw [say_ng] at hs
      rcases hcl with h | h
      · exact h
      · rw [h] at hs; cases hs
  induction h with
  | single h => exact one h hs
  | tail _ h ih => exact one h ih

/-! ### name by name -/
/-- must the name be so, where those ahead of it are as p says? by those ahead, up to the j-th -/
def byTo (cs : List Or2) (p : List Bool) (i j : Nat) : Bool := (List.range j).any fun k : Nat => imp cs ((k : Int), !p.getD k false) ((i : Int), false)
def need (cs : List Or2) (p : List Bool) (i : Nat) : Bool := byTo cs p i i || imp cs ((i : Int), true) ((i : Int), false)
def pre (cs : List Or2) : Nat → List Bool
  | 0 => []
  | i + 1 => pre cs i ++ [need cs (pre cs i) i]
/-- it and its contrary follow from each other -/
def cla (cs : List Or2) (i : Nat) : Bool := imp cs ((i : Int), false) ((i : Int), true) && imp cs ((i : Int), true) ((i : Int), false)
theorem pre_len (cs : List Or2) : ∀ i, (pre cs i).length = i
  | 0 => rfl
  | i + 1 => by show (pre cs i ++ [_]).length = _; rw [List.length_append, pre_len cs i]; rfl
theorem pre_old (cs : List Or2) {i j : Nat} (h : j < i) : (pre cs (i + 1)).getD j false = (pre cs i).getD j false := by
  show (pre cs i ++ [_]).getD j false = _
  have := pre_len cs i
  simp [List.getD, List.getElem?_append_left, this, h]
theorem pre_at (cs : List Or2) {j : Nat} : ∀ {i : Nat}, j < i → (pre cs i).getD j false = need cs (pre cs j) j := by
  intro i
  induction i with
  | zero => intro h; omega
  | succ i ih =>
    intro h
    by_cases e : j = i
    · subst e
      show (pre cs j ++ [_]).getD j false = _
      have := pre_len cs j
      simp [List.getD, List.getElem?_append_right, this]
    · rw [pre_old cs (by omega)]
      exact ih (by omega)
theorem pre_pre (cs : List Or2) {i j k : Nat} (h : k < j) (h2 : j ≤ i) : (pre cs i).getD k false = (pre cs j).getD k false := by
  rw [pre_at cs h, pre_at cs (show k < i by omega)]
/-- what is so: a name under an answer -/
def lit (p : List Bool) (j : Nat) : Lt := ((j : Int), !p.getD j false)
theorem say_lit (v : List Bool) (j : Nat) : say v (lit v j) = true := by
  unfold say lit
  simp
theorem byTo_iff {p : List Bool} {i j : Nat} : byTo cs p i j = true ↔ ∃ k, k < j ∧ imp cs (lit p k) ((i : Int), false) = true := by
  unfold byTo
  rw [List.any_eq_true]
  constructor
  · rintro ⟨k, hk, h⟩; exact ⟨k, List.mem_range.1 hk, h⟩
  · rintro ⟨k, hk, h⟩; exact ⟨k, List.mem_range.2 hk, h⟩
theorem byTo_zero (cs : List Or2) (p : List Bool) (i : Nat) : byTo cs p i 0 = false := by simp [byTo]
theorem byTo_next {cs : List Or2} {p : List Bool} {i j : Nat} (h : byTo cs p i j = false) {t : Bool} (ht : imp cs ((j : Int), !p.getD j false) ((i : Int), false) = t) : byTo cs p i (j + 1) = t := by
  unfold byTo at *
  rw [List.range_succ, List.any_append, h]
  simp [← ht]
theorem byTo_le {cs : List Or2} {p : List Bool} {i j k : Nat} (h : byTo cs p i j = true) (hk : j ≤ k) : byTo cs p i k = true := by
  rw [byTo_iff] at *
  obtain ⟨x, hx, h⟩ := h
  exact ⟨x, by omega, h⟩
/-- those that are so do not stand against each other -/
def Fit (cs : List Or2) (i : Nat) (p : List Bool) : Prop := ∀ j k, j < i → k < i → ¬ Fo cs (lit p j) (ng (lit p k))
theorem lit_old (cs : List Or2) {i j : Nat} (h : j < i) : lit (pre cs (i + 1)) j = lit (pre cs i) j := by
  unfold lit
  rw [pre_old cs h]
theorem fit_next (h4 : N ≤ 4) (hg : ∀ c ∈ cs, Good N c) {i : Nat} (hi : i < N) (hc : cla cs i = false) (h : Fit cs i (pre cs i)) : Fit cs (i + 1) (pre cs (i + 1)) := by
  have gi : ∀ t, gl N ((i : Int), t) := fun t => ⟨by simp only; omega, by simp only; omega⟩
  have gj : ∀ j, j < i → gl N (lit (pre cs i) j) := fun j hj => ⟨by unfold lit; simp only; omega, by unfold lit; simp only; omega⟩
  have hcl : ¬ (Fo cs ((i : Int), false) ((i : Int), true) ∧ Fo cs ((i : Int), true) ((i : Int), false)) := by
    rintro ⟨a, b⟩
    have a' := (imp_iff h4 hg (gi _) (gi _)).2 a
    have b' := (imp_iff h4 hg (gi _) (gi _)).2 b
    unfold cla at hc
    rw [a', b'] at hc
    cases hc
  have hlit : lit (pre cs (i + 1)) i = ((i : Int), !need cs (pre cs i) i) := by
    unfold lit
    rw [pre_at cs (Nat.lt_succ_self i)]
  -- what has to be shown of the new one
  have key : (¬ Fo cs (lit (pre cs (i + 1)) i) (ng (lit (pre cs (i + 1)) i))) → (∀ j, j < i → ¬ Fo cs (lit (pre cs i) j) (ng (lit (pre cs (i + 1)) i))) → Fit cs (i + 1) (pre cs (i + 1)) := by
    intro k1 k2 j k hj hk hf
    by_cases ej : j = i
    · by_cases ek : k = i
      · rw [ej, ek] at hf; exact k1 hf
      · rw [ej, lit_old cs (show k < i by omega)] at hf
        have := fo_ng hf
        rw [ng_ng] at this
        exact k2 k (by omega) this
    · rw [lit_old cs (show j < i by omega)] at hf
      by_cases ek : k = i
      · rw [ek] at hf; exact k2 j (by omega) hf
      · rw [lit_old cs (show k < i by omega)] at hf
        exact h j k (by omega) (by omega) hf
  cases hn : need cs (pre cs i) i with
  | false =>
    rw [hn] at hlit
    unfold need at hn
    rw [Bool.or_eq_false_iff] at hn
    refine key (fun hf => ?_) (fun j hj hf => ?_)
    · rw [hlit] at hf
      have := (imp_iff h4 hg (gi _) (gi _)).2 (show Fo cs ((i : Int), true) ((i : Int), false) from hf)
      rw [hn.2] at this
      cases this
    · rw [hlit] at hf
      have := byTo_iff.2 ⟨j, hj, (imp_iff h4 hg (gj j hj) (gi _)).2 (show Fo cs (lit (pre cs i) j) ((i : Int), false) from hf)⟩
      rw [hn.1] at this
      cases this
  | true =>
    rw [hn] at hlit
    unfold need at hn
    rw [Bool.or_eq_true] at hn
    rcases hn with hn | hn
    · obtain ⟨k, hk, hn⟩ := byTo_iff.1 hn
      have hn := (imp_iff h4 hg (gj k hk) (gi _)).1 hn
      refine key (fun hf => ?_) (fun j hj hf => ?_)
      · rw [hlit] at hf
        exact h k k hk hk (fo_trans hn (fo_trans (show Fo cs ((i : Int), false) ((i : Int), true) from hf) (fo_ng hn)))
      · rw [hlit] at hf
        exact h j k hj hk (fo_trans (show Fo cs (lit (pre cs i) j) ((i : Int), true) from hf) (fo_ng hn))
    · have hn := (imp_iff h4 hg (gi _) (gi _)).1 hn
      refine key (fun hf => ?_) (fun j hj hf => ?_)
      · rw [hlit] at hf
        exact hcl ⟨hf, hn⟩
      · rw [hlit] at hf
        have h1 : Fo cs (lit (pre cs i) j) ((i : Int), true) := hf
        exact h j j hj hj (fo_trans h1 (fo_trans hn (fo_ng h1)))
theorem fit_all (h4 : N ≤ 4) (hg : ∀ c ∈ cs, Good N c) (hc : ∀ i, i < N → cla cs i = false) : ∀ i, i ≤ N → Fit cs i (pre cs i)
  | 0, _ => fun j k hj => by omega
  | i + 1, hi => fit_next h4 hg (by omega) (hc i (by omega)) (fit_all h4 hg hc i (by omega))
/-- what is not so under an answer: its contrary is one of those that are -/
theorem not_say {p : List Bool} {x : Lt} (hx : gl N x) (h : say p x = false) : ng x = lit p x.1.toNat := by
  unfold say at h
  unfold ng lit
  obtain ⟨a, b⟩ := x
  obtain ⟨h1, h2⟩ := hx
  simp only at h h1 h2 ⊢
  have : ((a.toNat : Nat) : Int) = a := by omega
  rw [this]
  cases hp : p.getD a.toNat false <;> rw [hp] at h <;> cases b <;> simp_all
/-- the answer that is read off name by name is the least right one -/
theorem pre_least (h4 : N ≤ 4) (hg : ∀ c ∈ cs, Good N c) (hc : ∀ i, i < N → cla cs i = false) : Least cs N (pre cs N) := by
  refine ⟨pre_len cs N, List.all_eq_true.2 fun c hcc => ?_, fun a ha hr i hi hpre hne => ?_⟩
  · cases ho : (say (pre cs N) c.1 || say (pre cs N) c.2) with
    | true => rfl
    | false =>
      exfalso
      rw [Bool.or_eq_false_iff] at ho
      obtain ⟨h1, h2, h3, h4'⟩ := hg c hcc
      have e1 := not_say (N := N) (x := c.1) ⟨h1, h2⟩ ho.1
      have e2 := not_say (N := N) (x := c.2) ⟨h3, h4'⟩ ho.2
      have hf : Fo cs (ng c.1) (ng (ng c.2)) := by
        rw [ng_ng]
        exact .single ⟨c, hcc, .inl ⟨rfl, rfl⟩⟩
      rw [e1, e2] at hf
      exact fit_all h4 hg hc N (Nat.le_refl _) _ _ (by omega) (by omega) hf
  · rw [pre_len] at hi
    cases hai : a.getD i false with
    | true => rfl
    | false =>
      exfalso
      rw [hai] at hne
      have hn : (pre cs N).getD i false = true := by
        cases h : (pre cs N).getD i false with
        | true => rfl
        | false => exact absurd h hne
      rw [pre_at cs hi] at hn
      have gi : ∀ t, gl N ((i : Int), t) := fun t => ⟨by simp only; omega, by simp only; omega⟩
      have hsay : say a ((i : Int), false) = false := by
        unfold say
        simp only [Int.toNat_natCast]
        rw [hai]; rfl
      have hsay1 : say a ((i : Int), true) = true := by
        unfold say
        simp only [Int.toNat_natCast]
        rw [hai]; rfl
      unfold need at hn
      rw [Bool.or_eq_true] at hn
      rcases hn with hn | hn
      · obtain ⟨k, hk, hn⟩ := byTo_iff.1 hn
        have hk' : lit (pre cs i) k = lit a k := by
          unfold lit
          rw [← hpre k hk, pre_pre (i := N) cs hk (by omega)]
        rw [hk'] at hn
        have hn := (imp_iff h4 hg (x := lit a k) ⟨by unfold lit; simp only; omega, by unfold lit; simp only; omega⟩ (gi _)).1 hn
        have := fo_right hr hn (say_lit a k)
        rw [hsay] at this
        cases this
      · have := fo_right hr ((imp_iff h4 hg (gi _) (gi _)).1 hn) hsay1
        rw [hsay] at this
        cases this
/-- where a name and its contrary follow from each other nothing is right -/
theorem cla_none (h4 : N ≤ 4) (hg : ∀ c ∈ cs, Good N c) {i : Nat} (hi : i < N) (hc : cla cs i = true) (a : List Bool) : right cs a = false := by
  cases hr : right cs a with
  | false => rfl
  | true =>
    exfalso
    have gi : ∀ t, gl N ((i : Int), t) := fun t => ⟨by simp only; omega, by simp only; omega⟩
    unfold cla at hc
    rw [Bool.and_eq_true] at hc
    have h1 := (imp_iff h4 hg (gi _) (gi _)).1 hc.1
    have h2 := (imp_iff h4 hg (gi _) (gi _)).1 hc.2
    have hs := say_ng a ((i : Int), false)
    have e : ng ((i : Int), false) = ((i : Int), true) := rfl
    rw [e] at hs
    cases h : say a ((i : Int), false) with
    | true =>
      have := fo_right hr h1 h
      rw [hs, h] at this
      cases this
    | false =>
      rw [h] at hs
      have := fo_right hr h2 hs
      rw [h] at this
      cases this
theorem cla_ans (h4 : N ≤ 4) (hg : ∀ c ∈ cs, Good N c) {i : Nat} (hi : i < N) (hc : cla cs i = true) : ans (right cs) N [] = none := by
  rcases outcome cs N with ⟨m, _, h⟩ | ⟨h, _⟩
  · have := cla_none h4 hg hi hc m
    rw [h.2.1] at this
    cases this
  · exact h

/-! ### the list that is filled -/
def fill (cs : List Or2) (N i : Nat) : List Bool := pre cs i ++ List.replicate (N - i) false
theorem fill_len {i : Nat} (hi : i ≤ N) : (fill cs N i).length = N := by
  unfold fill
  rw [List.length_append, pre_len, List.length_replicate]
  omega
theorem fill_zero : fill cs N 0 = List.replicate N false := by simp [fill, pre]
theorem fill_all : fill cs N N = pre cs N := by simp [fill]
theorem fill_at {i j : Nat} (hj : j < i) : (fill cs N i).getD j false = (pre cs i).getD j false := by
  unfold fill
  have := pre_len cs i
  simp [List.getD, List.getElem?_append_left, this, hj]
theorem fill_set {i : Nat} (hi : i < N) {t : Bool} (ht : need cs (pre cs i) i = t) : (fill cs N i).set i t = fill cs N (i + 1) := by
  unfold fill
  show _ = (pre cs i ++ [need cs (pre cs i) i]) ++ _
  rw [ht]
  have hl := pre_len cs i
  rw [List.set_append, if_neg (by omega), hl, Nat.sub_self]
  obtain ⟨d, hd⟩ : ∃ d, N - i = d + 1 := ⟨N - i - 1, by omega⟩
  rw [hd, show N - (i + 1) = d by omega, List.replicate_succ]
  simp
end
end Go.Proofs.Ythalopmplekdoaa.Pa
