/-
  Plain facts on what hangs together and on rings, with no program in them. No statement of the program is proved here; there is no condition.
-/
import Derived.Test.YthlgloefeigcbaaDoorWalkN
set_option linter.unusedSimpArgs false
set_option linter.unusedVariables false
namespace Go.Proofs.YthlgloefeigcbaaDoor.Wa

/-- can b be reached from a? -/
def rch (m : Nat) (R : Nat → List Nat) (a b : Nat) : Bool := decide (0 ≤ dist m R a b)
theorem rch_iff {m : Nat} {R : Nat → List Nat} {a b : Nat} (hR : Ok m R) (ha : a < m) : rch m R a b = true ↔ ∃ k, wk m R k a b = true := by
  unfold rch
  rw [decide_eq_true_iff]
  exact dist_nn hR ha
theorem rch_self {m : Nat} {R : Nat → List Nat} {a : Nat} (hR : Ok m R) (ha : a < m) : rch m R a a = true := (rch_iff hR ha).2 ⟨0, wk_zero.2 rfl⟩
theorem rch_trans {m : Nat} {R : Nat → List Nat} {a b c : Nat} (hR : Ok m R) (ha : a < m) (hb : b < m) (h1 : rch m R a b = true) (h2 : rch m R b c = true) : rch m R a c = true := by
  obtain ⟨i, hi⟩ := (rch_iff hR ha).1 h1
  obtain ⟨j, hj⟩ := (rch_iff hR hb).1 h2
  exact (rch_iff hR ha).2 ⟨i + j, wk_add hi hj⟩
theorem rch_sym {m : Nat} {R : Nat → List Nat} {a b : Nat} (hR : Ok m R) (hs : Sym m R) (ha : a < m) (hb : b < m) (h : rch m R a b = true) : rch m R b a = true := by
  obtain ⟨i, hi⟩ := (rch_iff hR ha).1 h
  exact (rch_iff hR hb).2 ⟨i, wk_sym hR hs ha hi⟩
theorem rch_lt {m : Nat} {R : Nat → List Nat} {a b : Nat} (hR : Ok m R) (ha : a < m) (h : rch m R a b = true) : b < m := by
  obtain ⟨i, hi⟩ := (rch_iff hR ha).1 h
  exact wk_lt hR ha hi

/-- the least point below i from which v can be reached, or -1 -/
def lab (m : Nat) (R : Nat → List Nat) (i v : Nat) : Int := match (List.range i).find? fun u => rch m R u v with
  | some u => (u : Int)
  | none => -1
def labs (m : Nat) (R : Nat → List Nat) (i : Nat) : List Int := (List.range m).map (lab m R i)
theorem labs_len (m : Nat) (R : Nat → List Nat) (i : Nat) : (labs m R i).length = m := by simp [labs]
theorem labs_at {m : Nat} (R : Nat → List Nat) (i : Nat) {v : Nat} (hv : v < m) : (labs m R i).getD v 0 = lab m R i v := by simp [labs, List.getD, hv]
theorem labs_zero (m : Nat) (R : Nat → List Nat) : labs m R 0 = List.replicate m (-1) := by
  refine eq_of_getD (by simp [labs]) fun v hv => ?_
  have hv' : v < m := by simpa [labs] using hv
  rw [labs_at R 0 hv']
  simp [lab, List.getD, hv']
theorem lab_succ (m : Nat) (R : Nat → List Nat) (i v : Nat) : lab m R (i + 1) v = if 0 ≤ lab m R i v then lab m R i v else if rch m R i v = true then (i : Int) else -1 := by
  unfold lab
  rw [List.range_succ, List.find?_append]
  cases hf : (List.range i).find? fun u => rch m R u v with
  | some u => simp
  | none =>
    simp only [Option.none_or, List.find?_singleton]
    cases hr : rch m R i v <;> simp
theorem lab_nn {m : Nat} {R : Nat → List Nat} {i v : Nat} : 0 ≤ lab m R i v ↔ ∃ u, u < i ∧ rch m R u v = true := by
  unfold lab
  cases hf : (List.range i).find? fun u => rch m R u v with
  | some u =>
    simp only
    have h1 := List.find?_some hf
    have h2 := List.mem_of_find?_eq_some hf
    exact ⟨fun _ => ⟨u, by simpa using h2, h1⟩, fun _ => by omega⟩
  | none =>
    simp only
    constructor
    · intro h; omega
    · rintro ⟨u, hu, hr⟩
      have := List.find?_eq_none.1 hf u (by simpa using hu)
      exact absurd hr this
theorem lab_none {m : Nat} {R : Nat → List Nat} {i v : Nat} (h : ¬ 0 ≤ lab m R i v) : lab m R i v = -1 := by
  unfold lab at *
  cases hf : (List.range i).find? fun u => rch m R u v with
  | some u => rw [hf] at h; simp at h
  | none => rfl
/-- a point that has its number already gives no number to anyone -/
theorem labs_skip {m : Nat} {R : Nat → List Nat} (hR : Ok m R) {i : Nat} (hi : i < m) (h : 0 ≤ lab m R i i) : labs m R (i + 1) = labs m R i := by
  refine eq_of_getD (by simp [labs]) fun v hv => ?_
  have hv' : v < m := by simpa [labs] using hv
  rw [labs_at R _ hv', labs_at R _ hv', lab_succ]
  split
  · rfl
  · rename_i h2
    obtain ⟨u, hu, hr⟩ := lab_nn.1 h
    rw [if_neg, lab_none h2]
    intro h3
    exact h2 (lab_nn.2 ⟨u, hu, rch_trans hR (by omega) hi hr h3⟩)
/-- a point that has none yet gives its own to all that it reaches -/
theorem labs_take {m : Nat} {R : Nat → List Nat} (hR : Ok m R) (hs : Sym m R) {i : Nat} (hi : i < m) (h : ¬ 0 ≤ lab m R i i) : lay (out m R i) (fun _ => (i : Int)) (labs m R i) = labs m R (i + 1) := by
  refine eq_of_getD (by rw [lay_len]; simp [labs]) fun v hv => ?_
  rw [lay_len, labs_len] at hv
  rw [lay_at _ (fun _ => (i : Int)) v _ _ (by rw [labs_len]; exact hv) (fun _ _ => rfl), labs_at R _ hv, labs_at R _ hv, lab_succ]
  have hmem : v ∈ (out m R i).map Prod.fst ↔ rch m R i v = true := by
    rw [rch_iff hR hi]
    constructor
    · intro hm
      obtain ⟨x, hx, rfl⟩ := List.mem_map.1 hm
      exact ⟨x.2, ((mem_out hR hi x.1 x.2).1 hx).1⟩
    · rintro ⟨k, hk⟩
      obtain ⟨j, _, hd⟩ := Dst.of_wk hk
      exact List.mem_map.2 ⟨(v, j), (mem_out hR hi v j).2 hd, rfl⟩
  by_cases hr : rch m R i v = true
  · rw [if_pos (hmem.2 hr), if_neg, if_pos hr]
    intro h2
    obtain ⟨u, hu, hu2⟩ := lab_nn.1 h2
    exact h (lab_nn.2 ⟨u, hu, rch_trans hR (by omega) hv hu2 (rch_sym hR hs hi hv hr)⟩)
  · rw [if_neg (fun h2 => hr (hmem.1 h2)), if_neg hr]
    split
    · rfl
    · rename_i h2; exact lab_none h2
/-- the least point that hangs together with v -/
theorem lab_spec {m : Nat} {R : Nat → List Nat} (hR : Ok m R) {v : Nat} (hv : v < m) : ∃ u : Nat, lab m R m v = (u : Int) ∧ u ≤ v ∧ rch m R u v = true ∧ ∀ t, t < u → rch m R t v = false := by
  unfold lab
  cases hf : (List.range m).find? fun u => rch m R u v with
  | some u =>
    have h1 := List.find?_some hf
    obtain ⟨_, h2, h3⟩ := List.find?_range_eq_some.1 hf
    refine ⟨u, rfl, ?_, h1, fun t ht => by have := h3 t ht; simpa using this⟩
    rcases Nat.lt_or_ge v u with h4 | h4
    · have := h3 v h4
      rw [rch_self hR hv] at this
      simp at this
    · exact h4
  | none =>
    have := List.find?_eq_none.1 hf v (by simpa using hv)
    rw [rch_self hR hv] at this
    exact absurd rfl this

/-! ### rings -/
/-- without the step from a to b -/
def rest (R : Nat → List Nat) (a b : Nat) : Nat → List Nat := fun u => if u = a then (R a).filter fun v => !decide (v = b) else R u
theorem mem_rest {R : Nat → List Nat} {a b u v : Nat} : v ∈ rest R a b u ↔ v ∈ R u ∧ ¬ (u = a ∧ v = b) := by
  unfold rest
  split
  · rename_i h; subst h; simp
  · rename_i h; simp [h]
theorem rest_ok {m : Nat} {R : Nat → List Nat} (hR : Ok m R) (a b : Nat) : Ok m (rest R a b) := fun u hu v hv => hR u hu v (mem_rest.1 hv).1
/-- the number of points of a shortest ring over the step from a to b, or 0 -/
def rt (m : Nat) (R : Nat → List Nat) (a b : Nat) : Int := dist m (rest R a b) a b + 1
/-- the better of two numbers of points -/
def better (x best : Int) : Int := if 0 < x ∧ (best = 0 ∨ x < best) then x else best
def ringRow (m : Nat) (R : Nat → List Nat) (a : Nat) (best : Int) (l : List Nat) : Int := l.foldl (fun best b => better (rt m R a b) best) best
def ringTo (m : Nat) (R : Nat → List Nat) : Nat → Int
  | 0 => 0
  | a + 1 => ringRow m R a (ringTo m R a) (R a)
/-- the girth -/
def girth (m : Nat) (R : Nat → List Nat) : Int := ringTo m R m
theorem ringRow_take {m : Nat} {R : Nat → List Nat} {a : Nat} {best : Int} {l : List Nat} {k : Nat} (hk : k < l.length) : ringRow m R a best (l.take (k + 1)) = better (rt m R a (l.getD k 0)) (ringRow m R a best (l.take k)) := by
  unfold ringRow
  rw [List.take_succ_eq_append_getElem hk, List.foldl_append]
  simp [List.getD, hk]

/-- what the best is, of some that have been looked at -/
def IsBest (S : Int → Prop) (best : Int) : Prop := (best = 0 ∧ ∀ x, S x → x ≤ 0) ∨ (0 < best ∧ S best ∧ ∀ x, S x → 0 < x → best ≤ x)
theorem IsBest.step {S : Int → Prop} {best x : Int} (h : IsBest S best) : IsBest (fun y => S y ∨ y = x) (better x best) := by
  unfold better
  split
  · rename_i hc
    rcases h with ⟨h0, h1⟩ | ⟨h0, h1, h2⟩
    · refine .inr ⟨hc.1, .inr rfl, fun y hy hp => ?_⟩
      rcases hy with hy | hy
      · have := h1 y hy; omega
      · omega
    · refine .inr ⟨hc.1, .inr rfl, fun y hy hp => ?_⟩
      rcases hy with hy | hy
      · have := h2 y hy hp; omega
      · omega
  · rename_i hc
    rcases h with ⟨h0, h1⟩ | ⟨h0, h1, h2⟩
    · refine .inl ⟨h0, fun y hy => ?_⟩
      rcases hy with hy | hy
      · exact h1 y hy
      · omega
    · refine .inr ⟨h0, .inl h1, fun y hy hp => ?_⟩
      rcases hy with hy | hy
      · exact h2 y hy hp
      · omega
theorem IsBest.congr {S S' : Int → Prop} {best : Int} (h : IsBest S best) (he : ∀ x, S x ↔ S' x) : IsBest S' best := by
  have : S = S' := funext fun x => propext (he x)
  rw [← this]; exact h
theorem ringRow_best {m : Nat} {R : Nat → List Nat} {a : Nat} : ∀ {l : List Nat} {S : Int → Prop} {best : Int}, IsBest S best → IsBest (fun y => S y ∨ ∃ b ∈ l, y = rt m R a b) (ringRow m R a best l)
  | [], S, best, h => h.congr fun x => by simp
  | b :: l, S, best, h => by
    have := ringRow_best (m := m) (R := R) (a := a) (l := l) (h.step (x := rt m R a b))
    exact this.congr fun x => by simp [or_assoc]
theorem ringTo_best (m : Nat) (R : Nat → List Nat) : ∀ a, IsBest (fun y => ∃ u, u < a ∧ ∃ b ∈ R u, y = rt m R u b) (ringTo m R a)
  | 0 => .inl ⟨rfl, fun x ⟨u, hu, _⟩ => by omega⟩
  | a + 1 => by
    refine (ringRow_best (ringTo_best m R a)).congr fun x => ?_
    constructor
    · rintro (⟨u, hu, h⟩ | h)
      · exact ⟨u, by omega, h⟩
      · exact ⟨a, by omega, h⟩
    · rintro ⟨u, hu, h⟩
      by_cases e : u = a
      · subst e; exact .inr h
      · exact .inl ⟨u, by omega, h⟩
/-- the girth is the least of all -/
theorem girth_best (m : Nat) (R : Nat → List Nat) : IsBest (fun y => ∃ u, u < m ∧ ∃ b ∈ R u, y = rt m R u b) (girth m R) := ringTo_best m R m
/-- a ring has at least three points, and at most all -/
theorem rt_cases {m : Nat} {R : Nat → List Nat} (hR : Ok m R) {a b : Nat} (ha : a < m) (hab : a ≠ b) : rt m R a b = 0 ∨ (3 ≤ rt m R a b ∧ rt m R a b ≤ (m : Int)) := by
  unfold rt
  rcases dist_cases b (rest_ok hR a b) ha with ⟨k, hd, he⟩ | ⟨_, he⟩
  · right
    rw [he]
    have h1 := hd.small (rest_ok hR a b) ha
    have h2 : k ≠ 0 := by
      intro e; subst e
      exact hab (wk_zero.1 hd.1)
    have h3 : k ≠ 1 := by
      intro e; subst e
      obtain ⟨c, hc, h4, h5⟩ := wk_succ.1 hd.1
      have := wk_zero.1 h4
      subst this
      exact (mem_rest.1 h5).2 ⟨rfl, rfl⟩
    omega
  · left; rw [he]; omega

end Go.Proofs.YthlgloefeigcbaaDoor.Wa
