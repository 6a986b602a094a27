/-
  Plain facts on the lowest times that points come back to: as they are handed up during a search, and as they are asked for afterwards. No statement of the program is proved here; there is no condition.
-/
import Derived.Test.YtehkkpkhpbbpnaaDoorDeepK
set_option linter.unusedSimpArgs false
set_option linter.unusedVariables false
namespace Go.Proofs.YtehkkpkhpbbpnaaDoor.Dp

/-! ### the least of some numbers -/
def IsMin (S : Int → Prop) (x : Int) : Prop := S x ∧ ∀ y, S y → x ≤ y
theorem IsMin.unique {S : Int → Prop} {x y : Int} (h : IsMin S x) (h' : IsMin S y) : x = y := by
  have h1 := h.2 y h'.1
  have h2 := h'.2 x h.1
  omega
theorem IsMin.one (x : Int) : IsMin (fun y => y = x) x := ⟨rfl, fun y h => by omega⟩
theorem IsMin.congr {S S' : Int → Prop} {x : Int} (h : IsMin S x) (he : ∀ y, S y ↔ S' y) : IsMin S' x := ⟨(he x).1 h.1, fun y hy => h.2 y ((he y).2 hy)⟩
theorem IsMin.foldl {α : Type} {T : α → Int → Prop} {f : Int → α → Int} (hf : ∀ (S : Int → Prop) (a : Int) (c : α), IsMin S a → IsMin (fun y => S y ∨ T c y) (f a c)) :
    ∀ (l : List α) (S : Int → Prop) (a : Int), IsMin S a → IsMin (fun y => S y ∨ ∃ c ∈ l, T c y) (l.foldl f a)
  | [], S, a, h => h.congr (fun y => by simp)
  | c :: l, S, a, h => by
    have := IsMin.foldl hf l _ _ (hf S a c h)
    refine this.congr (fun y => ?_)
    simp only [List.mem_cons]
    constructor
    · rintro ((h | h) | ⟨d, hd, h⟩)
      · exact .inl h
      · exact .inr ⟨c, .inl rfl, h⟩
      · exact .inr ⟨d, .inr hd, h⟩
    · rintro (h | ⟨d, rfl | hd, h⟩)
      · exact .inl (.inl h)
      · exact .inl (.inr h)
      · exact .inr ⟨d, hd, h⟩
theorem IsMin.min {S : Int → Prop} {a : Int} (h : IsMin S a) (b : Int) : IsMin (fun y => S y ∨ y = b) (min a b) := by
  refine ⟨?_, fun y hy => ?_⟩
  · rcases Int.le_total a b with e | e
    · rw [Int.min_eq_left e]; exact .inl h.1
    · rw [Int.min_eq_right e]; exact .inr rfl
  · rcases hy with hy | rfl
    · have := h.2 y hy; omega
    · omega

/-! ### handed up -/
/-- the least of a and of when those beside v were met, p left out -/
def rmin (R : Nat → List Nat) (M : Nat → Int) (p : Int) (v : Nat) (a : Int) : Int := (R v).foldl (fun (a : Int) (w : Nat) => if ((w : Nat) : Int) ≠ p then min a (M w) else a) a
theorem rmin_min (R : Nat → List Nat) (M : Nat → Int) (p : Int) (v : Nat) {S : Int → Prop} {a : Int} (h : IsMin S a) : IsMin (fun y => S y ∨ ∃ w ∈ R v, (w : Int) ≠ p ∧ y = M w) (rmin R M p v a) := by
  refine IsMin.foldl (T := fun (w : Nat) (y : Int) => ((w : Nat) : Int) ≠ p ∧ y = M w) (fun S a c h => ?_) (R v) S a h
  by_cases e : (c : Int) ≠ p
  · rw [if_pos e]
    exact (h.min (M c)).congr (fun y => by simp [e])
  · rw [if_neg e]
    exact h.congr (fun y => by simp [e])
/-- what each point of some trees hands up -/
def lw (R : Nat → List Nat) (M : Nat → Int) : Fo → Int → Nat → Int
  | .nil, _, _ => 0
  | .cons v ch rest, p, u => if u = v then rmin R M p v (ch.roots.foldl (fun a c => min a (lw R M ch (v : Int) c)) (M v)) else if u ∈ ch.pts then lw R M ch (v : Int) u else lw R M rest p u
theorem lw_v {R : Nat → List Nat} {M : Nat → Int} {v : Nat} {ch rest : Fo} {p : Int} : lw R M (.cons v ch rest) p v = rmin R M p v (ch.roots.foldl (fun a c => min a (lw R M ch (v : Int) c)) (M v)) := by simp [lw]
theorem lw_c {R : Nat → List Nat} {M : Nat → Int} {v : Nat} {ch rest : Fo} {p : Int} {u : Nat} (e : u ≠ v) (h : u ∈ ch.pts) : lw R M (.cons v ch rest) p u = lw R M ch (v : Int) u := by simp [lw, e, h]
theorem lw_r {R : Nat → List Nat} {M : Nat → Int} {v : Nat} {ch rest : Fo} {p : Int} {u : Nat} (e : u ≠ v) (h : u ∉ ch.pts) : lw R M (.cons v ch rest) p u = lw R M rest p u := by simp [lw, e, h]

theorem lw_min {R : Nat → List Nat} {M : Nat → Int} : ∀ {F : Fo} {p : Int}, F.pts.Nodup → (∀ x ∈ F.pts, (x : Int) ≠ p) → ∀ u ∈ F.pts,
    IsMin (fun y => (y = M u ∨ ∃ c ∈ F.pts, par F p c = (u : Int) ∧ y = lw R M F p c) ∨ ∃ w ∈ R u, (w : Int) ≠ par F p u ∧ y = M w) (lw R M F p u)
  | .cons v ch rest, p, hn, hp, u, hu => by
    obtain ⟨n1, n2, n3, n4, n5⟩ := Fo.nodup_pts.1 hn
    have hpc : ∀ x ∈ ch.pts, (x : Int) ≠ (v : Int) := fun x hx e => by
      have e' : x = v := by omega
      exact n1 (e' ▸ hx)
    have hpr : ∀ x ∈ rest.pts, (x : Int) ≠ p := fun x hx => hp x (Fo.mem_pts.2 (.inr (.inr hx)))
    have hvp : (v : Int) ≠ p := hp v (by simp [Fo.pts])
    -- from which each point is met
    have inC : ∀ c ∈ ch.pts, par (.cons v ch rest) p c = par ch (v : Int) c ∧ (par ch (v : Int) c = (v : Int) ∨ ∃ q ∈ ch.pts, par ch (v : Int) c = (q : Int)) ∧ lw R M (.cons v ch rest) p c = lw R M ch (v : Int) c := fun c hc => by
      have e : c ≠ v := fun e => n1 (e ▸ hc)
      exact ⟨par_c e hc, par_root.par_in hc, lw_c e hc⟩
    have inR : ∀ c ∈ rest.pts, par (.cons v ch rest) p c = par rest p c ∧ (par rest p c = p ∨ ∃ q ∈ rest.pts, par rest p c = (q : Int)) ∧ lw R M (.cons v ch rest) p c = lw R M rest p c := fun c hc => by
      have e : c ≠ v := fun e => n2 (e ▸ hc)
      have e2 : c ∉ ch.pts := fun h => n5 c h hc
      exact ⟨par_r e e2, par_root.par_in hc, lw_r e e2⟩
    rcases Fo.mem_pts.1 hu with e0 | hu1 | hu1
    · subst e0
      rw [lw_v, par_v]
      have h1 : IsMin (fun y => y = M u ∨ ∃ c ∈ ch.roots, y = lw R M ch (u : Int) c) (ch.roots.foldl (fun a c => min a (lw R M ch (u : Int) c)) (M u)) :=
        IsMin.foldl (T := fun c y => y = lw R M ch (u : Int) c) (fun S a c h => h.min _) ch.roots _ _ (IsMin.one _)
      refine (rmin_min R M p u h1).congr (fun y => ?_)
      refine or_congr_left (or_congr_right ?_)
      constructor
      · rintro ⟨c, hc, rfl⟩
        have hcp := Fo.roots_sub hc
        obtain ⟨a1, a2, a3⟩ := inC c hcp
        exact ⟨c, Fo.mem_pts.2 (.inr (.inl hcp)), by rw [a1]; exact (par_root n3 hpc hcp).2 hc, a3.symm⟩
      · rintro ⟨c, hc, h2, rfl⟩
        rcases Fo.mem_pts.1 hc with e1 | hc1 | hc1
        · subst e1
          rw [par_v] at h2
          exact absurd h2.symm hvp
        · obtain ⟨a1, a2, a3⟩ := inC c hc1
          rw [a1] at h2
          exact ⟨c, (par_root n3 hpc hc1).1 h2, a3⟩
        · obtain ⟨a1, a2, a3⟩ := inR c hc1
          rw [a1] at h2
          rcases a2 with a2 | ⟨q, hq, a2⟩
          · exact absurd (h2.symm.trans a2) hvp
          · have : q = u := by omega
            exact absurd (this ▸ hq) n2
    · obtain ⟨a1, a2, a3⟩ := inC u hu1
      rw [a1, a3]
      refine (lw_min n3 hpc u hu1).congr (fun y => ?_)
      refine or_congr_left (or_congr_right ?_)
      have huv : (u : Int) ≠ (v : Int) := hpc u hu1
      constructor
      · rintro ⟨c, hc, h2, rfl⟩
        obtain ⟨b1, b2, b3⟩ := inC c hc
        exact ⟨c, Fo.mem_pts.2 (.inr (.inl hc)), by rw [b1]; exact h2, b3.symm⟩
      · rintro ⟨c, hc, h2, rfl⟩
        rcases Fo.mem_pts.1 hc with e1 | hc1 | hc1
        · subst e1
          rw [par_v] at h2
          exact absurd h2.symm (hp u hu)
        · obtain ⟨b1, b2, b3⟩ := inC c hc1
          rw [b1] at h2
          exact ⟨c, hc1, h2, b3⟩
        · obtain ⟨b1, b2, b3⟩ := inR c hc1
          rw [b1] at h2
          rcases b2 with b2 | ⟨q, hq, b2⟩
          · exact absurd (h2.symm.trans b2) (hp u hu)
          · have : q = u := by omega
            exact absurd (this ▸ hq) (n5 u hu1)
    · obtain ⟨a1, a2, a3⟩ := inR u hu1
      rw [a1, a3]
      refine (lw_min n4 hpr u hu1).congr (fun y => ?_)
      refine or_congr_left (or_congr_right ?_)
      constructor
      · rintro ⟨c, hc, h2, rfl⟩
        obtain ⟨b1, b2, b3⟩ := inR c hc
        exact ⟨c, Fo.mem_pts.2 (.inr (.inr hc)), by rw [b1]; exact h2, b3.symm⟩
      · rintro ⟨c, hc, h2, rfl⟩
        rcases Fo.mem_pts.1 hc with e1 | hc1 | hc1
        · subst e1
          rw [par_v] at h2
          exact absurd h2.symm (hp u hu)
        · obtain ⟨b1, b2, b3⟩ := inC c hc1
          rw [b1] at h2
          rcases b2 with b2 | ⟨q, hq, b2⟩
          · have : u = v := by omega
            exact absurd (this ▸ hu1) n2
          · have : q = u := by omega
            exact absurd hu1 (n5 u (this ▸ hq))
        · obtain ⟨b1, b2, b3⟩ := inR c hc1
          rw [b1] at h2
          exact ⟨c, hc1, h2, b3⟩

/-! ### as it is asked for afterwards -/
/-- a step of the loop of the one who asks -/
def lstep (L : Nat → Int) (dm dp : List Int) (i : Nat) (out : Int) (j : Nat) : Int :=
  if (if dp.getD j 0 = (i : Int) then L j else if dp.getD i 0 ≠ (j : Int) then dm.getD j 0 else out) < out then (if dp.getD j 0 = (i : Int) then L j else if dp.getD i 0 ≠ (j : Int) then dm.getD j 0 else out) else out
theorem lstep_min (L : Nat → Int) (dm dp : List Int) (i : Nat) (S : Int → Prop) (a : Int) (j : Nat) (h : IsMin S a) : IsMin (fun y => S y ∨ ((dp.getD j 0 = (i : Int) ∧ y = L j) ∨ (dp.getD j 0 ≠ (i : Int) ∧ dp.getD i 0 ≠ (j : Int) ∧ y = dm.getD j 0))) (lstep L dm dp i a j) := by
  have key : ∀ x : Int, (if x < a then x else a) = min a x := fun x => by split <;> omega
  unfold lstep
  by_cases e1 : dp.getD j 0 = (i : Int)
  · simp only [if_pos e1]
    rw [key]
    exact (h.min _).congr (fun y => ⟨fun h => h.elim .inl (fun h => .inr (.inl ⟨e1, h⟩)), fun h => h.elim .inl (fun h => h.elim (fun h => .inr h.2) (fun h => absurd e1 h.1))⟩)
  · simp only [if_neg e1]
    by_cases e2 : dp.getD i 0 ≠ (j : Int)
    · simp only [if_pos e2]
      rw [key]
      exact (h.min _).congr (fun y => ⟨fun h => h.elim .inl (fun h => .inr (.inr ⟨e1, e2, h⟩)), fun h => h.elim .inl (fun h => h.elim (fun h => absurd h.1 e1) (fun h => .inr h.2.2))⟩)
    · simp only [if_neg e2]
      rw [key, Int.min_self]
      exact h.congr (fun y => ⟨.inl, fun h => h.elim id (fun h => h.elim (fun h => absurd h.1 e1) (fun h => absurd h.2.1 e2))⟩)
/-- all answers fit each other -/
def LowEq (m : Nat) (R : Nat → List Nat) (L : Nat → Int) (dm dp : List Int) : Prop := ∀ i, i < m → L i = (R i).foldl (lstep L dm dp i) (dm.getD i 0)

/-- the lowest times of a search over all points -/
def lows (m : Nat) (R : Nat → List Nat) (F : Fo) : List Int := (List.range m).map fun v => lw R (fun u => ((met F 0 u : Nat) : Int)) F (-1) v
theorem lows_len (m : Nat) (R : Nat → List Nat) (F : Fo) : (lows m R F).length = m := by simp [lows]
theorem lows_at {m : Nat} (R : Nat → List Nat) (F : Fo) {v : Nat} (hv : v < m) : (lows m R F).getD v 0 = lw R (fun u => ((met F 0 u : Nat) : Int)) F (-1) v := by simp [lows, List.getD, hv]

theorem Whole.low {m : Nat} {R : Nat → List Nat} (hR : Wa.Ok m R) {F : Fo} (hF : Whole m R F) : LowEq m R (fun i => (lows m R F).getD i 0) (mets m F) (pars m F) := by
  have hq := hF.spec hR
  have hneg : ∀ x ∈ F.pts, (x : Int) ≠ -1 := fun x _ => by omega
  intro i hi
  have hiF := (hq.1 i).2 hi
  have h1 := lw_min (R := R) (M := fun u => ((met F 0 u : Nat) : Int)) hq.2 hneg i hiF
  have h2 := IsMin.foldl (lstep_min (fun i => (lows m R F).getD i 0) (mets m F) (pars m F) i) (R i) _ _ (IsMin.one ((mets m F).getD i 0))
  show (lows m R F).getD i 0 = _
  rw [lows_at R F hi]
  refine IsMin.unique (S := fun y => y = (mets m F).getD i 0 ∨ ∃ c ∈ R i, ((pars m F).getD c 0 = (i : Int) ∧ y = (lows m R F).getD c 0) ∨ ((pars m F).getD c 0 ≠ (i : Int) ∧ (pars m F).getD i 0 ≠ (c : Int) ∧ y = (mets m F).getD c 0)) ?_ h2
  -- of all that are met from i
  have kids : ∀ c, c < m → Dp.par F (-1) c = (i : Int) → c ∈ R i := fun c hc he => by
    rcases hF.par hR hc with h | ⟨q, hqm, h, h3, _⟩
    · omega
    · have : q = i := by omega
      exact this ▸ h3
  have lowmet : ∀ c, c < m → lw R (fun u => ((met F 0 u : Nat) : Int)) F (-1) c ≤ ((met F 0 c : Nat) : Int) := fun c hc =>
    (lw_min (R := R) (M := fun u => ((met F 0 u : Nat) : Int)) hq.2 hneg c ((hq.1 c).2 hc)).2 _ (.inl (.inl rfl))
  refine ⟨?_, fun y hy => ?_⟩
  · rcases h1.1 with (h | ⟨c, hc, hpc, h⟩) | ⟨c, hc, hpc, h⟩
    · exact .inl (by rw [mets_at F hi]; exact h)
    · have hcm := (hq.1 c).1 hc
      exact .inr ⟨c, kids c hcm hpc, .inl ⟨by rw [pars_at F hcm]; exact hpc, by rw [lows_at R F hcm]; exact h⟩⟩
    · have hcm := hR i hi c hc
      by_cases e : Dp.par F (-1) c = (i : Int)
      · have h4 := h1.2 _ (.inl (.inr ⟨c, (hq.1 c).2 hcm, e, rfl⟩))
        have h5 := lowmet c hcm
        have h6 : lw R (fun u => ((met F 0 u : Nat) : Int)) F (-1) i = lw R (fun u => ((met F 0 u : Nat) : Int)) F (-1) c := by omega
        exact .inr ⟨c, hc, .inl ⟨by rw [pars_at F hcm]; exact e, by rw [lows_at R F hcm]; exact h6⟩⟩
      · exact .inr ⟨c, hc, .inr ⟨by rw [pars_at F hcm]; exact e, by rw [pars_at F hi]; exact fun h => hpc h.symm, by rw [mets_at F hcm]; exact h⟩⟩
  · rcases hy with rfl | ⟨c, hc, h | h⟩
    · rw [mets_at F hi]; exact h1.2 _ (.inl (.inl rfl))
    · have hcm := hR i hi c hc
      obtain ⟨e1, rfl⟩ := h
      rw [pars_at F hcm] at e1
      rw [lows_at R F hcm]
      exact h1.2 _ (.inl (.inr ⟨c, (hq.1 c).2 hcm, e1, rfl⟩))
    · have hcm := hR i hi c hc
      obtain ⟨e1, e2, rfl⟩ := h
      rw [pars_at F hi] at e2
      rw [mets_at F hcm]
      exact h1.2 _ (.inr ⟨c, hc, fun h => e2 h.symm, rfl⟩)

end Go.Proofs.YtehkkpkhpbbpnaaDoor.Dp
