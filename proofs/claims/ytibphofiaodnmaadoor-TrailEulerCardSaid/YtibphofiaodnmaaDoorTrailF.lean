/-
  Plain facts on the steps of package trail: going on to the least point from which all that is left can be reached gives the first way, and if it comes to a halt there is none. No statement of the program is proved here; there is no condition.
-/
import Derived.Test.YtibphofiaodnmaaDoorTrailG
set_option linter.unusedSimpArgs false
set_option linter.unusedVariables false
namespace Go.Proofs.YtibphofiaodnmaaDoor.Tl
open Wr

/-- does the line join the two? -/
def jn (a b : Int) (p : Gr.Ln) : Bool := (decide (p.1 = a) && decide (p.2 = b)) || (decide (p.1 = b) && decide (p.2 = a))
theorem jn_iff {a b : Int} {p : Gr.Ln} : jn a b p = true ↔ (p.1 = a ∧ p.2 = b) ∨ (p.1 = b ∧ p.2 = a) := by
  unfold jn; simp
theorem jn_perm {ls : List Gr.Ln} {i v x : Nat} (hi : i < ls.length) (h : jn (v : Int) (x : Int) (ls.getD i (0, 0)) = true) : (nm ls).Perm (sg v x :: nm (ls.eraseIdx i)) := by
  rcases jn_iff.1 h with ⟨h1, h2⟩ | ⟨h1, h2⟩
  · exact nm_perm hi (Prod.ext h1 h2)
  · rw [sg_comm]; exact nm_perm hi (Prod.ext h1 h2)
theorem jn_none {m : Nat} {ls : List Gr.Ln} (hc : Gr.code (m : Int) ls = 0) {v x : Nat} (h : ∀ i, i < ls.length → jn (v : Int) (x : Int) (ls.getD i (0, 0)) = false) {Ex : List (Nat × Nat)} (hp : (nm ls).Perm (sg v x :: Ex)) : False := by
  obtain ⟨i, hi, ho, _⟩ := line_oth hc hp
  obtain ⟨a, b, hab, ha, hb, hne⟩ := line_of hc hi
  have := h i hi
  rw [hab] at this ho
  have hf : ¬ jn (v : Int) (x : Int) ((a : Int), (b : Int)) = true := by rw [this]; simp
  rw [jn_iff] at hf
  unfold oth at ho
  simp only [Int.toNat_natCast] at ho
  by_cases e1 : (b : Int) = (v : Int)
  · rw [if_pos e1] at ho
    have := Option.some.inj ho
    subst this
    exact hf (.inr ⟨rfl, e1⟩)
  · rw [if_neg e1] at ho
    by_cases e2 : (a : Int) = (v : Int)
    · rw [if_pos e2] at ho
      have := Option.some.inj ho
      subst this
      exact hf (.inl ⟨e2, rfl⟩)
    · rw [if_neg e2] at ho; cases ho

/-- one can not go on to x -/
def No (E : List (Nat × Nat)) (v x : Nat) : Prop := ∀ Ex, E.Perm (sg v x :: Ex) → ¬ Lined Ex x
theorem No.none {m : Nat} {ls : List Gr.Ln} (hc : Gr.code (m : Int) ls = 0) {v x : Nat} (h : ∀ i, i < ls.length → jn (v : Int) (x : Int) (ls.getD i (0, 0)) = false) : No (nm ls) v x := fun Ex hp _ => jn_none hc h hp
theorem No.far {m : Nat} {ls : List Gr.Ln} (hc : Gr.code (m : Int) ls = 0) {i v x : Nat} (hi : i < ls.length) (hx : x < m) (h : jn (v : Int) (x : Int) (ls.getD i (0, 0)) = true) (hl : linedB m (ls.eraseIdx i) x = false) : No (nm ls) v x := fun Ex hp hL => by
  have hq := jn_perm hi h
  have := (linedB_iff (code_erase hc i) hx).2 (hL.perm (List.Perm.cons_inv (hq.symm.trans hp)))
  rw [hl] at this
  cases this

/-- what is known behind some steps: w has been gone, v is where one is, E is left -/
def Thus (v0 : Nat) (E0 : List (Nat × Nat)) (w : List Nat) (v : Nat) (E : List (Nat × Nat)) : Prop := (∀ r, First v E (v :: r) → First v0 E0 (w ++ r)) ∧ ((∃ r, Way v0 E0 r) → ∃ r, Way v E r)
theorem Thus.start (v : Nat) (E : List (Nat × Nat)) : Thus v E [v] v E := ⟨fun r h => h, fun h => h⟩
theorem Thus.step {m : Nat} {v0 v u : Nat} {E0 E E' : List (Nat × Nat)} {w : List Nat} (hT : Thus v0 E0 w v E) (hE : Good m E) (hp : E.Perm (sg v u :: E')) (hL : Lined E' u) (hno : ∀ x, x < u → No E v x) : Thus v0 E0 (w ++ [u]) u E' := by
  have hne : v ≠ u := by
    have := hE.perm hp _ List.mem_cons_self
    unfold sg at this; simp only at this; omega
  refine ⟨fun r hf => ?_, fun h => ?_⟩
  · have := hT.1 (u :: r) (First.go hE hp hf (fun x Ex hx hLx => by
      rcases Nat.lt_or_ge x u with h | h
      · exact absurd hLx (hno x h Ex hx)
      · exact h))
    simpa using this
  · obtain ⟨r, hr⟩ := hT.2 h
    obtain ⟨_, hP, _⟩ := hr.says hE
    exact exist _ rfl (fun p hm => (hE.perm hp) p (List.mem_cons_of_mem _ hm)) hL (par_on hne (hP.perm hp.symm))
theorem Thus.halt {m : Nat} {v0 v : Nat} {E0 E : List (Nat × Nat)} {w : List Nat} (hT : Thus v0 E0 w v E) (hE : Good m E) (hne : E ≠ []) (hno : ∀ x, x < m → No E v x) : ¬ ∃ r, Way v0 E0 r := fun h => by
  obtain ⟨r, hr⟩ := hT.2 h
  obtain ⟨hL, hP, _⟩ := hr.says hE
  obtain ⟨u, E', hp, hLu, _⟩ := Tl.step hE hL hP hne
  have hum : u < m := by
    have := hE.perm hp _ List.mem_cons_self
    unfold sg at this; simp only at this; omega
  exact hno u hum E' hp hLu
theorem Thus.done {v0 v : Nat} {E0 : List (Nat × Nat)} {w : List Nat} (hT : Thus v0 E0 w v []) : First v0 E0 w := by
  have := hT.1 [] (First.nil v)
  simpa using this

/-- the way, as the reference goes it -/
def way (m : Nat) (ls : List Gr.Ln) : List Nat := goes m ls.length ls (start m ls)
theorem way_first {m : Nat} {ls : List Gr.Ln} (h : Gr.code (m : Int) ls = 0) (hc : canB m ls = true) : First (start m ls) (nm ls) (way m ls) := by
  unfold canB at hc
  simp only [Bool.and_eq_true, decide_eq_true_eq] at hc
  have hne : ls ≠ [] := fun e => by subst e; simp at hc
  have hs := (start_touch h hne).1
  exact (goes_first _ rfl h hs ((linedB_iff h hs).1 hc.2.2) (par_start h hc.2.1)).1
theorem way_of {m : Nat} {ls : List Gr.Ln} (h : Gr.code (m : Int) ls = 0) (hne : ls ≠ []) {w : List Nat} (hf : First (start m ls) (nm ls) w) : canB m ls = true ∧ w = way m ls := by
  have hc := (can_way h hne).2 ⟨w, hf.1⟩
  exact ⟨hc, hf.unique (way_first h hc)⟩
theorem way_none {m : Nat} {ls : List Gr.Ln} (h : Gr.code (m : Int) ls = 0) (hno : ls ≠ [] → ¬ ∃ w, Way (start m ls) (nm ls) w) : canB m ls = false := by
  cases hc : canB m ls with
  | false => rfl
  | true =>
    have hne : ls ≠ [] := fun e => by subst e; simp [canB] at hc
    exact absurd ((can_way h hne).1 hc) (hno hne)
theorem way_len {m : Nat} {ls : List Gr.Ln} (h : Gr.code (m : Int) ls = 0) (hc : canB m ls = true) : (way m ls).length = ls.length + 1 := by
  have := ((way_first h hc).1.says (nm_good h)).2.2.1
  rw [nm_len] at this
  exact this

end Go.Proofs.YtibphofiaodnmaaDoor.Tl
