/-
  Plain facts for package strong, with no program in them: the points of a part as a list, a list that is filled part by part, the lines between parts as they come, a list without its repeats. No statement of the program is proved here; there is no condition.
-/
import Derived.Test.YthalopmplekdoaaDoorStrongN
import Derived.Test.YthalopmplekdoaaDoorLnLt
set_option linter.unusedSimpArgs false
set_option linter.unusedVariables false
namespace Go.Proofs.YthalopmplekdoaaDoor.Sg
open Cl (lst mem_lst lst_ends)
open Ma (cnt)

section
variable {n : Nat} {ls : List Gr.Ln}
/-! ### the points of a part -/
/-- those below k -/
def memT (n : Nat) (ls : List Gr.Ln) (v k : Nat) : List Int := ((List.range k).filter (both n ls v)).map fun i => ((i : Nat) : Int)
def mem (n : Nat) (ls : List Gr.Ln) (v : Nat) : List Int := memT n ls v n
theorem memT_zero (v : Nat) : memT n ls v 0 = [] := rfl
theorem memT_hit {v k : Nat} (h : both n ls v k = true) : memT n ls v (k + 1) = memT n ls v k ++ [((k : Nat) : Int)] := by
  unfold memT
  rw [List.range_succ, List.filter_append, List.map_append]
  simp [h]
theorem memT_miss {v k : Nat} (h : both n ls v k = false) : memT n ls v (k + 1) = memT n ls v k := by
  unfold memT
  rw [List.range_succ, List.filter_append, List.map_append]
  simp [h]
theorem memT_len (v k : Nat) : (memT n ls v k).length ≤ k := by
  unfold memT
  rw [List.length_map]
  have := List.length_filter_le (both n ls v) (List.range k)
  rwa [List.length_range] at this
theorem mem_len (v : Nat) : (mem n ls v).length ≤ n := memT_len v n
theorem mem_in {v : Nat} {x : Int} : x ∈ mem n ls v ↔ ∃ i : Nat, i < n ∧ both n ls v i = true ∧ x = ((i : Nat) : Int) := by
  unfold mem memT
  rw [List.mem_map]
  constructor
  · rintro ⟨i, hi, rfl⟩
    rw [List.mem_filter, List.mem_range] at hi
    exact ⟨i, hi.1, hi.2, rfl⟩
  · rintro ⟨i, h1, h2, rfl⟩
    exact ⟨i, List.mem_filter.2 ⟨List.mem_range.2 h1, h2⟩, rfl⟩
theorem mem_at {v j : Nat} (h : j < (mem n ls v).length) : ∃ i : Nat, i < n ∧ both n ls v i = true ∧ (mem n ls v).getD j 0 = ((i : Nat) : Int) := by
  have e : (mem n ls v).getD j 0 = (mem n ls v)[j] := by simp [List.getD, h]
  rw [e]
  exact mem_in.1 (List.getElem_mem h)
theorem memT_head {v : Nat} (hv : v < n) : ∀ k, (k ≤ pt n ls v → memT n ls v k = []) ∧ (pt n ls v < k → 0 < (memT n ls v k).length ∧ (memT n ls v k).getD 0 0 = ((pt n ls v : Nat) : Int))
  | 0 => ⟨fun _ => rfl, fun h => by omega⟩
  | k + 1 => by
    obtain ⟨i1, i2⟩ := memT_head hv k
    obtain ⟨_, a2, a3⟩ := pt_spec (ls := ls) hv
    refine ⟨fun h => ?_, fun h => ?_⟩
    · rw [memT_miss (a3 k (by omega))]
      exact i1 (by omega)
    · by_cases e : k = pt n ls v
      · rw [e, memT_hit a2, ← e, i1 (by omega)]
        simp
      · obtain ⟨j1, j2⟩ := i2 (by omega)
        cases hb : both n ls v k with
        | true =>
          rw [memT_hit hb]
          refine ⟨by simp, ?_⟩
          rw [← j2]
          simp only [List.getD]
          rw [List.getElem?_append_left j1]
        | false =>
          rw [memT_miss hb]
          exact ⟨j1, j2⟩
theorem mem_pos {v : Nat} (hv : v < n) : 0 < (mem n ls v).length := ((memT_head hv n).2 (by have := (pt_spec (ls := ls) hv).1; omega)).1
theorem mem_head {v : Nat} (hv : v < n) : (mem n ls v).getD 0 0 = ((pt n ls v : Nat) : Int) := ((memT_head hv n).2 (by have := (pt_spec (ls := ls) hv).1; omega)).2

/-! ### a list that is filled bit by bit -/
def fil (n : Nat) (f : Nat → Int) (P : Nat → Bool) : List Int := (List.range n).map fun i => if P i = true then f i else 0
theorem fil_len (n : Nat) (f : Nat → Int) (P : Nat → Bool) : (fil n f P).length = n := by simp [fil]
theorem fil_congr {f : Nat → Int} {P Q : Nat → Bool} (h : ∀ i, i < n → P i = Q i) : fil n f P = fil n f Q := by
  refine List.map_congr_left fun i hi => ?_
  rw [h i (List.mem_range.1 hi)]
theorem fil_none {f : Nat → Int} {P : Nat → Bool} (h : ∀ i, i < n → P i = false) : fil n f P = List.replicate n 0 := by
  apply List.ext_getElem
  · simp [fil]
  · intro i h1 h2
    have hi : i < n := by simpa using h2
    simp [fil, h i hi]
theorem fil_all {f : Nat → Int} {P : Nat → Bool} (h : ∀ i, i < n → P i = true) : fil n f P = (List.range n).map f := by
  refine List.map_congr_left fun i hi => ?_
  rw [if_pos (h i (List.mem_range.1 hi))]
theorem fil_set {f : Nat → Int} {P : Nat → Bool} {k : Nat} (hk : k < n) : (fil n f P).set k (f k) = fil n f fun i => P i || decide (i = k) := by
  apply List.ext_getElem
  · simp [fil]
  · intro i h1 h2
    have hi : i < n := by simpa [fil] using h2
    rw [List.getElem_set]
    by_cases e : k = i
    · subst e
      simp [fil]
    · rw [if_neg e]
      have e' : ¬ i = k := fun h => e h.symm
      simp [fil, e']

/-- is the least one of a point's part among those of s? -/
def inn (n : Nat) (ls : List Gr.Ln) (s : List Nat) (i : Nat) : Bool := decide (pt n ls i ∈ s)
/-- the same, or is it among the first j of the part of v? -/
def inj (n : Nat) (ls : List Gr.Ln) (s : List Nat) (v j : Nat) (i : Nat) : Bool := inn n ls s i || decide (((i : Nat) : Int) ∈ (mem n ls v).take j)
theorem inn_nil (i : Nat) : inn n ls [] i = false := by simp [inn]
theorem inj_zero (s : List Nat) (v : Nat) (i : Nat) : inj n ls s v 0 i = inn n ls s i := by simp [inj]
theorem inj_succ {s : List Nat} {v j k : Nat} (hj : j < (mem n ls v).length) (e : (mem n ls v).getD j 0 = ((k : Nat) : Int)) (i : Nat) : inj n ls s v (j + 1) i = (inj n ls s v j i || decide (i = k)) := by
  have e' : (mem n ls v)[j] = ((k : Nat) : Int) := by rw [← e]; simp [List.getD, hj]
  unfold inj
  rw [List.take_succ_eq_append_getElem hj, e', Bool.or_assoc]
  congr 1
  rw [Bool.eq_iff_iff, Bool.or_eq_true]
  simp only [decide_eq_true_eq, List.mem_append, List.mem_singleton]
  constructor
  · rintro (h | h)
    · exact .inl h
    · exact .inr (by omega)
  · rintro (h | h)
    · exact .inl h
    · exact .inr (by omega)
theorem inj_all {s : List Nat} {v : Nat} (hv : v < n) (hl : isl n ls v = true) {i : Nat} (hi : i < n) : inj n ls s v (mem n ls v).length i = inn n ls (s ++ [v]) i := by
  have hp : pt n ls v = v := by unfold isl at hl; simpa using hl
  unfold inj inn
  rw [List.take_length, Bool.eq_iff_iff, Bool.or_eq_true]
  simp only [decide_eq_true_eq, List.mem_append, List.mem_singleton]
  have key : ((i : Nat) : Int) ∈ mem n ls v ↔ pt n ls i = v := by
    rw [mem_in]
    constructor
    · rintro ⟨j, hj, hb, e⟩
      have : i = j := by omega
      subst this
      rw [← (pt_eq hv hi).2 hb, hp]
    · intro h
      exact ⟨i, hi, (pt_eq hv hi).1 (by rw [h, hp]), rfl⟩
  rw [key]

/-- the least ones below k -/
def lsN (n : Nat) (ls : List Gr.Ln) (k : Nat) : List Nat := (List.range k).filter (isl n ls)
theorem lsN_hit {k : Nat} (h : isl n ls k = true) : lsN n ls (k + 1) = lsN n ls k ++ [k] := by
  unfold lsN
  rw [List.range_succ, List.filter_append]
  simp [h]
theorem lsN_miss {k : Nat} (h : isl n ls k = false) : lsN n ls (k + 1) = lsN n ls k := by
  unfold lsN
  rw [List.range_succ, List.filter_append]
  simp [h]
theorem below_zero : below n ls 0 = 0 := by simp [below, cnt]
theorem below_hit {k : Nat} (h : isl n ls k = true) : below n ls (k + 1) = below n ls k + 1 := by rw [below_succ, if_pos h]
theorem below_miss {k : Nat} (h : isl n ls k = false) : below n ls (k + 1) = below n ls k := by rw [below_succ, h]; simp
theorem below_le (k : Nat) : below n ls k ≤ k := Ma.cnt_le k _
theorem isl_of {v : Nat} (h : pt n ls v = v) : isl n ls v = true := by simp [isl, h]
theorem isl_no {v : Nat} (h : pt n ls v ≠ v) : isl n ls v = false := by simp [isl, h]
theorem pt_of {v : Nat} (h : isl n ls v = true) : pt n ls v = v := by unfold isl at h; simpa using h
theorem inn_done {i : Nat} (hi : i < n) : inn n ls (lsN n ls n) i = true := by
  unfold inn lsN
  rw [decide_eq_true_eq, List.mem_filter, List.mem_range]
  exact ⟨by have := (pt_spec (ls := ls) hi).1; omega, isl_pt hi⟩

/-! ### the lines between parts -/
def cr (n : Nat) (ls : List Gr.Ln) (p : Gr.Ln) : List Gr.Ln := if nm n ls p.1.toNat = nm n ls p.2.toNat then [] else [(((nm n ls p.1.toNat : Nat) : Int), ((nm n ls p.2.toNat : Nat) : Int))]
def crs (n : Nat) (ls ks : List Gr.Ln) : List Gr.Ln := ks.flatMap (cr n ls)
theorem crs_nil : crs n ls [] = [] := rfl
theorem crs_snoc (ks : List Gr.Ln) (p : Gr.Ln) : crs n ls (ks ++ [p]) = crs n ls ks ++ cr n ls p := by simp [crs]
theorem crs_take {ks : List Gr.Ln} {j : Nat} (h : j < ks.length) : crs n ls (ks.take (j + 1)) = crs n ls (ks.take j) ++ cr n ls (ks.getD j (0, 0)) := by
  rw [List.take_succ_eq_append_getElem h, crs_snoc]
  simp [List.getD, h]
theorem cr_hit {p : Gr.Ln} {a b : Nat} (ha : nm n ls p.1.toNat = a) (hb : nm n ls p.2.toNat = b) (h : a ≠ b) : cr n ls p = [((a : Int), (b : Int))] := by
  unfold cr
  rw [ha, hb, if_neg h]
theorem cr_miss {p : Gr.Ln} (h : nm n ls p.1.toNat = nm n ls p.2.toNat) : cr n ls p = [] := by
  unfold cr
  rw [if_pos h]
theorem cr_len (p : Gr.Ln) : (cr n ls p).length ≤ 1 := by unfold cr; split <;> simp
theorem crs_len : ∀ ks : List Gr.Ln, (crs n ls ks).length ≤ ks.length
  | [] => by simp [crs]
  | p :: ks => by
    have h1 := crs_len ks
    have h2 := cr_len (n := n) (ls := ls) p
    have : crs n ls (p :: ks) = cr n ls p ++ crs n ls ks := by simp [crs]
    rw [this, List.length_append, List.length_cons]
    omega
theorem mem_crs (hg : ∀ p ∈ ls, Gr.Good (n : Int) p) {q : Gr.Ln} : q ∈ crs n ls ls ↔ q ∈ folded n ls := by
  unfold crs
  rw [List.mem_flatMap]
  constructor
  · rintro ⟨p, hp, hq⟩
    have hgp := hg p hp
    unfold Gr.Good at hgp
    unfold cr at hq
    split at hq
    · cases hq
    · rename_i hne
      rw [List.mem_singleton] at hq
      subst hq
      refine mem_lst.2 ⟨nm_lt (by omega), nm_lt (by omega), (fr_iff hg).2 ⟨hne, p.1.toNat, p.2.toNat, by omega, by omega, Gr.has_iff.2 ?_, rfl, rfl⟩⟩
      rw [show ((p.1.toNat : Nat) : Int) = p.1 by omega, show ((p.2.toNat : Nat) : Int) = p.2 by omega]
      exact hp
  · intro hq
    obtain ⟨a, b, rfl, ha, hb, h⟩ := lst_ends hq
    obtain ⟨hne, u, v, hu, hv, hh, e1, e2⟩ := (fr_iff hg).1 h
    refine ⟨((u : Int), (v : Int)), Gr.has_iff.1 hh, ?_⟩
    rw [cr_hit (a := a) (b := b) (by simpa using e1) (by simpa using e2) hne]
    simp

/-! ### a list without its repeats -/
def cpt (os : List Gr.Ln) : Nat → List Gr.Ln
  | 0 => []
  | j + 1 => if 0 < j ∧ os.getD j (0, 0) = os.getD (j - 1) (0, 0) then cpt os j else cpt os j ++ [os.getD j (0, 0)]
theorem cpt_one (os : List Gr.Ln) : cpt os 1 = [os.getD 0 (0, 0)] := by simp [cpt]
theorem cpt_hit {os : List Gr.Ln} {j : Nat} (h : os.getD j (0, 0) ≠ os.getD (j - 1) (0, 0)) : cpt os (j + 1) = cpt os j ++ [os.getD j (0, 0)] := by
  show (if 0 < j ∧ os.getD j (0, 0) = os.getD (j - 1) (0, 0) then cpt os j else cpt os j ++ [os.getD j (0, 0)]) = _
  rw [if_neg (by rintro ⟨_, e⟩; exact h e)]
theorem cpt_miss {os : List Gr.Ln} {j : Nat} (hj : 0 < j) (h : os.getD j (0, 0) = os.getD (j - 1) (0, 0)) : cpt os (j + 1) = cpt os j := by
  show (if 0 < j ∧ os.getD j (0, 0) = os.getD (j - 1) (0, 0) then cpt os j else _) = _
  rw [if_pos ⟨hj, h⟩]
theorem cpt_len (os : List Gr.Ln) : ∀ j, (cpt os j).length ≤ j
  | 0 => by simp [cpt]
  | j + 1 => by
    have := cpt_len os j
    show (if 0 < j ∧ os.getD j (0, 0) = os.getD (j - 1) (0, 0) then cpt os j else _).length ≤ _
    split
    · omega
    · rw [List.length_append, List.length_singleton]; omega
theorem mem_cpt {os : List Gr.Ln} {q : Gr.Ln} : ∀ j, q ∈ cpt os j ↔ ∃ i, i < j ∧ q = os.getD i (0, 0)
  | 0 => by simp [cpt]
  | j + 1 => by
    have ih := mem_cpt (os := os) (q := q) j
    by_cases h : 0 < j ∧ os.getD j (0, 0) = os.getD (j - 1) (0, 0)
    · rw [show cpt os (j + 1) = cpt os j from cpt_miss h.1 h.2, ih]
      constructor
      · rintro ⟨i, hi, e⟩; exact ⟨i, by omega, e⟩
      · rintro ⟨i, hi, e⟩
        by_cases ei : i = j
        · exact ⟨j - 1, by omega, by rw [e, ei, h.2]⟩
        · exact ⟨i, by omega, e⟩
    · have e1 : cpt os (j + 1) = cpt os j ++ [os.getD j (0, 0)] := by
        show (if 0 < j ∧ os.getD j (0, 0) = os.getD (j - 1) (0, 0) then cpt os j else _) = _
        rw [if_neg h]
      rw [e1, List.mem_append, ih, List.mem_singleton]
      constructor
      · rintro (⟨i, hi, e⟩ | e)
        · exact ⟨i, by omega, e⟩
        · exact ⟨j, by omega, e⟩
      · rintro ⟨i, hi, e⟩
        by_cases ei : i = j
        · exact .inr (by rw [e, ei])
        · exact .inl ⟨i, by omega, e⟩
theorem cpt_sorted {os : List Gr.Ln} (hs : os.Pairwise fun p q => ¬ Dp.lnLt q p) : ∀ j, j ≤ os.length → (cpt os j).Pairwise Dp.lnLt
  | 0, _ => by simp [cpt]
  | j + 1, hj => by
    have ih := cpt_sorted hs j (by omega)
    by_cases h : 0 < j ∧ os.getD j (0, 0) = os.getD (j - 1) (0, 0)
    · rw [show cpt os (j + 1) = cpt os j from cpt_miss h.1 h.2]; exact ih
    · have e1 : cpt os (j + 1) = cpt os j ++ [os.getD j (0, 0)] := by
        show (if 0 < j ∧ os.getD j (0, 0) = os.getD (j - 1) (0, 0) then cpt os j else _) = _
        rw [if_neg h]
      rw [e1, List.pairwise_append]
      refine ⟨ih, by simp, fun p hp q hq => ?_⟩
      rw [List.mem_singleton] at hq
      subst hq
      obtain ⟨i, hi, rfl⟩ := (mem_cpt j).1 hp
      have hj' : j < os.length := by omega
      have hi' : i < os.length := by omega
      have hpw := List.pairwise_iff_getElem.1 hs
      have g : ∀ k (hk : k < os.length), os.getD k (0, 0) = os[k] := fun k hk => by simp [List.getD, hk]
      have l1 : os.getD j (0, 0) ≠ os.getD (j - 1) (0, 0) := fun e => h ⟨by omega, e⟩
      have k1 : ¬ Dp.lnLt (os.getD j (0, 0)) (os.getD (j - 1) (0, 0)) := by
        rw [g j hj', g (j - 1) (by omega)]
        exact hpw (j - 1) j (by omega) hj' (by omega)
      have k2 : Dp.lnLt (os.getD (j - 1) (0, 0)) (os.getD j (0, 0)) := by
        by_cases hlt : Dp.lnLt (os.getD (j - 1) (0, 0)) (os.getD j (0, 0))
        · exact hlt
        · exact absurd (Dp.lnLt_tri k1 hlt) l1
      by_cases ei : i = j - 1
      · rw [ei]; exact k2
      · have k3 : ¬ Dp.lnLt (os.getD (j - 1) (0, 0)) (os.getD i (0, 0)) := by
          rw [g i hi', g (j - 1) (by omega)]
          exact hpw i (j - 1) hi' (by omega) (by omega)
        unfold Dp.lnLt at *
        omega
theorem lst_pw (m : Nat) (r : Nat → Nat → Bool) : (lst m r).Pairwise Dp.lnLt := by
  unfold lst Gr.full
  rw [List.pairwise_map]
  refine (Dp.full_pw _ m m).imp ?_
  intro p q h
  unfold Dp.lnLt
  show (p.1 : Int) < (q.1 : Int) ∨ ((p.1 : Int) = (q.1 : Int) ∧ (p.2 : Int) < (q.2 : Int))
  omega
/-- lines in order, each once, and the same: they are one list -/
theorem pw_eq {xs ys : List Gr.Ln} (hx : xs.Pairwise Dp.lnLt) (hy : ys.Pairwise Dp.lnLt) (h : ∀ q, q ∈ xs ↔ q ∈ ys) : xs = ys := by
  have nd : ∀ {zs : List Gr.Ln}, zs.Pairwise Dp.lnLt → zs.Nodup := fun hz => List.Pairwise.imp (R := Dp.lnLt) (S := fun p q => p ≠ q) (fun {p q} h (e : p = q) => Dp.lnLt_irr p (by rw [← e] at h; exact h)) hz
  have hperm := (List.perm_ext_iff_of_nodup (nd hx) (nd hy)).2 h
  exact hperm.eq_of_pairwise (le := Dp.lnLt) (fun a b _ _ h h' => absurd h' (Dp.lnLt_not h)) hx hy
theorem cpt_fold (hg : ∀ p ∈ ls, Gr.Good (n : Int) p) {os : List Gr.Ln} (hp : os.Perm (crs n ls ls)) (hs : os.Pairwise fun p q => ¬ Dp.lnLt q p) : cpt os os.length = folded n ls := by
  refine pw_eq (cpt_sorted hs _ (Nat.le_refl _)) (lst_pw _ _) fun q => ?_
  rw [mem_cpt, ← mem_crs hg, ← hp.mem_iff]
  constructor
  · rintro ⟨i, hi, rfl⟩
    have : os.getD i (0, 0) = os[i] := by simp [List.getD, hi]
    rw [this]
    exact List.getElem_mem hi
  · intro h
    obtain ⟨i, hi, e⟩ := List.getElem_of_mem h
    exact ⟨i, hi, by simp [List.getD, hi, e]⟩
theorem folded_len (hg : ∀ p ∈ ls, Gr.Good (n : Int) p) : (folded n ls).length ≤ ls.length :=
  Nat.le_trans (List.Nodup.length_le_of_subset (Cl.lst_nodup _ _) (fun q hq => (mem_crs hg).2 hq)) (crs_len ls)
end
end Go.Proofs.YthalopmplekdoaaDoor.Sg
