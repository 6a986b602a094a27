/-
  Plain facts on trees, with no program in them: joined by one line fewer than points, each line leads one step away from whatever point; the middle is one point or two beside each other, and the longest way is twice as far as it, or one less (Jordan); two ends at least. No statement of the program is proved here; there is no condition.
  Plain facts on ways in trees, with no program in them: one point at each distance, ways put together, the first one that two ways to a root have in common, three points and the one between them. No statement of the program is proved here; there is no condition.
  Plain facts on names of trees, with no program in them: texts in their order, sorted, one text for all orders; texts of brackets, each told from what follows; names told apart by the names beside each point. No statement of the program is proved here; there is no condition.
  Plain facts on names of trees: branches, and the same names only for the same trees, but for their numbers. No statement of the program is proved here; there is no condition.
  Plain facts on names of trees: how long they are, and that the middle goes where the trees' points go. No statement of the program is proved here; there is no condition.
  Plain facts for package tree, with no program in it: what is wrong with a tree as a number; the points of the middle as a list; the name of a whole tree (the least of the names of the middle's points); trees have one name just if one is the other renumbered; the search for such an order, point by point. No statement of the program is proved here; there is no condition.
  Plain facts on texts, with no program in them: their bytes, their order, byte by byte; sorted and joined; the least of some texts; the least chosen again and again. No statement of the program is proved here; there is no condition.
  Plain facts for package tree, with no program in it: what the labels of the parts say; the greatest of a row of distances, the least and the greatest of those; the middle as integers; neighbours but for one, as a filtered row; names from the names of those. No statement of the program is proved here; there is no condition.
-/
import Derived.Test.YtojkjdccjomaaaaDoorWalkM
import Derived.Test.YtojkjdccjomaaaaDoorStrongN
import Derived.WalkKit
import Derived.Test.YtojkjdccjomaaaaDoorTopoP
import Derived.Lib.Join
import Derived.Lib.MinMaxS
set_option linter.unusedSimpArgs false
set_option linter.unusedVariables false
namespace Go.Proofs.YtojkjdccjomaaaaDoor.Tr
open Wa (nrow mem_nrow nrow_ok nrow_sym dist dist_zero dist_step dist_back dist_sym dist_tri)

/-- a tree: joined, one line fewer than points -/
structure Tree (n : Nat) (ls : List Gr.Ln) : Prop where
  good : ∀ p ∈ ls, Gr.Good (n : Int) p
  len : ls.length + 1 = n
  con : ∀ a b, a < n → b < n → 0 ≤ dist n (nrow n ls) a b
/-- how far -/
def far (n : Nat) (ls : List Gr.Ln) (a b : Nat) : Nat := (dist n (nrow n ls) a b).toNat
def ad (ls : List Gr.Ln) (a b : Nat) : Bool := Gr.adj ls (a : Int) (b : Int)
theorem ad_comm (ls : List Gr.Ln) (a b : Nat) : ad ls a b = ad ls b a := Gr.adj_comm ls _ _

/-- lines that each lead one step away from whatever point -/
structure Met (n : Nat) (A : Nat → Nat → Bool) (D : Nat → Nat → Nat) : Prop where
  zero : ∀ a b, a < n → b < n → (D a b = 0 ↔ a = b)
  sym : ∀ a b, a < n → b < n → D a b = D b a
  tri : ∀ a b c, a < n → b < n → c < n → D a c ≤ D a b + D b c
  com : ∀ a b, A a b = A b a
  one : ∀ r a b, r < n → a < n → b < n → A a b = true → D r a = D r b + 1 ∨ D r b = D r a + 1
  near : ∀ r v, r < n → v < n → v ≠ r → ∃ u, u < n ∧ A v u = true ∧ D r v = D r u + 1
  only : ∀ r v u w, r < n → v < n → u < n → w < n → A v u = true → A v w = true → D r v = D r u + 1 → D r v = D r w + 1 → u = w

section
variable {n : Nat} {ls : List Gr.Ln}
theorem nodup_all {l m : List Nat} (hl : l.Nodup) (hs : ∀ x ∈ l, x ∈ m) (hlen : m.length ≤ l.length) : ∀ x ∈ m, x ∈ l := by
  intro x hx
  refine Classical.byContradiction fun hn => ?_
  have h1 : (x :: l).Nodup := List.nodup_cons.2 ⟨hn, hl⟩
  have := List.Nodup.length_le_of_subset h1 (l₂ := m) fun y hy => by
    rcases List.mem_cons.1 hy with rfl | hy
    · exact hx
    · exact hs y hy
  simp at this
  omega
/-- distances of a joined graph, as plain numbers -/
theorem far_zero (h : Tree n ls) {a b : Nat} (ha : a < n) (hb : b < n) : far n ls a b = 0 ↔ a = b := by
  have h0 := h.con a b ha hb
  have h1 := dist_zero (nrow_ok n ls) ha (v := b)
  unfold far
  constructor
  · intro e; exact (h1.1 (by omega)).symm
  · intro e; rw [h1.2 e.symm]; rfl
theorem far_sym (h : Tree n ls) {a b : Nat} (ha : a < n) (hb : b < n) : far n ls a b = far n ls b a := by
  unfold far; rw [dist_sym (nrow_ok n ls) (nrow_sym n ls) ha hb]
theorem far_tri (h : Tree n ls) {a b c : Nat} (ha : a < n) (hb : b < n) (hc : c < n) : far n ls a c ≤ far n ls a b + far n ls b c := by
  have h1 := h.con a b ha hb
  have h2 := h.con b c hb hc
  have := dist_tri (nrow_ok n ls) ha hb h1 h2
  unfold far
  omega
theorem far_step (h : Tree n ls) {r a b : Nat} (hr : r < n) (ha : a < n) (hb : b < n) (hab : ad ls a b = true) : far n ls r b ≤ far n ls r a + 1 := by
  have h1 := h.con r a hr ha
  have := dist_step (nrow_ok n ls) hr ha (mem_nrow.2 ⟨hb, hab⟩) h1
  unfold far
  omega
theorem far_back (h : Tree n ls) {r v : Nat} (hr : r < n) (hv : v < n) (hne : v ≠ r) : ∃ u, u < n ∧ ad ls v u = true ∧ far n ls r v = far n ls r u + 1 := by
  have h0 := h.con r v hr hv
  have h1 : ¬ dist n (nrow n ls) r v = 0 := fun e => hne ((dist_zero (nrow_ok n ls) hr).1 e)
  obtain ⟨u, hu, hm, e⟩ := dist_back (nrow_ok n ls) hr (i := v) (by omega)
  have hc := h.con r u hr hu
  refine ⟨u, hu, by rw [ad_comm]; exact (mem_nrow.1 hm).2, ?_⟩
  unfold far
  omega
/-- the line by which a point is nearer to r -/
theorem line_of (h : Tree n ls) {r v : Nat} (hr : r < n) (hv : v < n) (hne : v ≠ r) : ∃ k, k < ls.length ∧ ∃ u, u < n ∧ far n ls r v = far n ls r u + 1 ∧ (ls.getD k (0, 0) = ((v : Int), (u : Int)) ∨ ls.getD k (0, 0) = ((u : Int), (v : Int))) := by
  obtain ⟨u, hu, hA, e⟩ := far_back h hr hv hne
  rcases Gr.adj_iff.1 hA with hm | hm
  · obtain ⟨k, hk, ek⟩ := List.mem_iff_getElem.1 hm
    exact ⟨k, hk, u, hu, e, .inl (by rw [← ek]; simp [List.getD, hk])⟩
  · obtain ⟨k, hk, ek⟩ := List.mem_iff_getElem.1 hm
    exact ⟨k, hk, u, hu, e, .inr (by rw [← ek]; simp [List.getD, hk])⟩
/-- each line is one of those -/
theorem all_lines (h : Tree n ls) {r : Nat} (hr : r < n) : ∃ f : Nat → Nat, (∀ v, v < n → v ≠ r → f v < ls.length ∧ ∃ u, u < n ∧ far n ls r v = far n ls r u + 1 ∧ (ls.getD (f v) (0, 0) = ((v : Int), (u : Int)) ∨ ls.getD (f v) (0, 0) = ((u : Int), (v : Int)))) ∧
    ∀ k, k < ls.length → ∃ v, v < n ∧ v ≠ r ∧ f v = k := by
  have hex : ∀ v, ∃ k, v < n → v ≠ r → k < ls.length ∧ ∃ u, u < n ∧ far n ls r v = far n ls r u + 1 ∧ (ls.getD k (0, 0) = ((v : Int), (u : Int)) ∨ ls.getD k (0, 0) = ((u : Int), (v : Int))) := by
    intro v
    by_cases hc : v < n ∧ v ≠ r
    · obtain ⟨k, hk, hh⟩ := line_of h hr hc.1 hc.2
      exact ⟨k, fun _ _ => ⟨hk, hh⟩⟩
    · exact ⟨0, fun a b => absurd ⟨a, b⟩ hc⟩
  refine ⟨fun v => Classical.choose (hex v), fun v hv hne => Classical.choose_spec (hex v) hv hne, ?_⟩
  have hf := fun v => Classical.choose_spec (hex v)
  obtain ⟨f, hfe⟩ : ∃ f : Nat → Nat, f = fun v => Classical.choose (hex v) := ⟨_, rfl⟩
  have hf' : ∀ v, v < n → v ≠ r → f v < ls.length ∧ ∃ u, u < n ∧ far n ls r v = far n ls r u + 1 ∧ (ls.getD (f v) (0, 0) = ((v : Int), (u : Int)) ∨ ls.getD (f v) (0, 0) = ((u : Int), (v : Int))) := by rw [hfe]; exact hf
  rw [← hfe]
  have hinj : ∀ v w, v < n → v ≠ r → w < n → w ≠ r → f v = f w → v = w := by
    intro v w hv hvr hw hwr e
    obtain ⟨_, u, hu, e1, h1⟩ := hf' v hv hvr
    obtain ⟨_, x, hx, e2, h2⟩ := hf' w hw hwr
    rw [← e] at h2
    rcases h1 with h1 | h1 <;> rcases h2 with h2 | h2 <;> rw [h1] at h2
    · have := (Prod.mk.inj h2).1; omega
    · have a1 := (Prod.mk.inj h2).1
      have a2 := (Prod.mk.inj h2).2
      have b1 : v = x := by omega
      have b2 : u = w := by omega
      subst b1 b2
      omega
    · have a1 := (Prod.mk.inj h2).1
      have a2 := (Prod.mk.inj h2).2
      have b1 : u = w := by omega
      have b2 : v = x := by omega
      subst b1 b2
      omega
    · have := (Prod.mk.inj h2).2; omega
  have hnd : ((List.range n).filter fun v => !decide (v = r)).Nodup := List.Pairwise.filter _ (show List.Pairwise (· ≠ ·) (List.range n) from List.nodup_range)
  have hlen : ((List.range n).filter fun v => !decide (v = r)).length + 1 = n := by
    have h1 : (List.range n).countP (fun v => decide (v = r)) = 1 := by
      have : ∀ m, r < m → (List.range m).countP (fun v => decide (v = r)) = 1 := by
        intro m
        induction m with
        | zero => intro hm; omega
        | succ m ih =>
          intro hm
          rw [List.range_succ, List.countP_append, List.countP_singleton]
          by_cases e : m = r
          · subst e
            have : (List.range m).countP (fun v => decide (v = m)) = 0 := List.countP_eq_zero.2 fun x hx => by have := List.mem_range.1 hx; simp; omega
            rw [this]; simp
          · rw [ih (by omega)]; simp [e]
      exact this n hr
    have h2 := List.length_eq_countP_add_countP (fun v => decide (v = r)) (l := List.range n)
    rw [List.length_range, h1] at h2
    rw [← List.countP_eq_length_filter]
    have e : (List.range n).countP (fun v => !decide (v = r)) = (List.range n).countP (fun v => decide ¬ (decide (v = r) = true)) := List.countP_congr fun x _ => by simp
    rw [e]
    omega
  intro k hk
  have hmap : (((List.range n).filter fun v => !decide (v = r)).map f).Nodup := by
    show List.Pairwise (· ≠ ·) _
    rw [List.pairwise_map]
    refine List.Pairwise.imp_of_mem (fun {a b} ha hb hab e => ?_) hnd
    have a1 := List.mem_filter.1 ha
    have b1 := List.mem_filter.1 hb
    exact hab (hinj a b (List.mem_range.1 a1.1) (by simpa using a1.2) (List.mem_range.1 b1.1) (by simpa using b1.2) e)
  have hall := nodup_all hmap (m := List.range ls.length) (fun x hx => by
    obtain ⟨v, hv, rfl⟩ := List.mem_map.1 hx
    have a1 := List.mem_filter.1 hv
    exact List.mem_range.2 (hf' v (List.mem_range.1 a1.1) (by simpa using a1.2)).1) (by rw [List.length_range, List.length_map]; have := h.len; omega) k (List.mem_range.2 hk)
  obtain ⟨v, hv, e⟩ := List.mem_map.1 hall
  have a1 := List.mem_filter.1 hv
  exact ⟨v, List.mem_range.1 a1.1, by simpa using a1.2, e⟩
theorem Tree.met (h : Tree n ls) : Met n (ad ls) (far n ls) := by
  refine ⟨fun a b ha hb => far_zero h ha hb, fun a b ha hb => far_sym h ha hb, fun a b c ha hb hc => far_tri h ha hb hc, ad_comm ls, ?_, fun r v hr hv hne => far_back h hr hv hne, ?_⟩
  · intro r a b hr ha hb hab
    obtain ⟨f, hf, hall⟩ := all_lines h hr
    have key : ∀ x y : Nat, (((x : Int), (y : Int)) : Gr.Ln) ∈ ls → far n ls r x = far n ls r y + 1 ∨ far n ls r y = far n ls r x + 1 := by
      intro x y hm
      obtain ⟨k, hk, ek⟩ := List.mem_iff_getElem.1 hm
      obtain ⟨v, hv, hvr, rfl⟩ := hall k hk
      obtain ⟨_, u, hu, e, hh⟩ := hf v hv hvr
      have eg : ls.getD (f v) (0, 0) = ((x : Int), (y : Int)) := by rw [← ek]; simp [List.getD, hk]
      rw [eg] at hh
      rcases hh with hh | hh
      · have a1 := (Prod.mk.inj hh).1
        have a2 := (Prod.mk.inj hh).2
        have b1 : x = v := by omega
        have b2 : y = u := by omega
        subst b1 b2
        exact .inl e
      · have a1 := (Prod.mk.inj hh).1
        have a2 := (Prod.mk.inj hh).2
        have b1 : x = u := by omega
        have b2 : y = v := by omega
        subst b1 b2
        exact .inr e
    rcases Gr.adj_iff.1 hab with hm | hm
    · exact key a b hm
    · exact (key b a hm).symm
  · intro r v u w hr hv hu hw hA hB e1 e2
    obtain ⟨f, hf, hall⟩ := all_lines h hr
    -- both lines are the line of v
    have key : ∀ x : Nat, ad ls v x = true → far n ls r v = far n ls r x + 1 → ∃ k, k = f v ∧ (ls.getD k (0, 0) = ((v : Int), (x : Int)) ∨ ls.getD k (0, 0) = ((x : Int), (v : Int))) := by
      intro x hx e
      have hm : ∃ k, k < ls.length ∧ (ls.getD k (0, 0) = ((v : Int), (x : Int)) ∨ ls.getD k (0, 0) = ((x : Int), (v : Int))) := by
        rcases Gr.adj_iff.1 hx with hm | hm
        · obtain ⟨k, hk, ek⟩ := List.mem_iff_getElem.1 hm
          exact ⟨k, hk, .inl (by rw [← ek]; simp [List.getD, hk])⟩
        · obtain ⟨k, hk, ek⟩ := List.mem_iff_getElem.1 hm
          exact ⟨k, hk, .inr (by rw [← ek]; simp [List.getD, hk])⟩
      obtain ⟨k, hk, hh⟩ := hm
      obtain ⟨v', hv', hvr', rfl⟩ := hall k hk
      obtain ⟨_, u', hu', e', hh'⟩ := hf v' hv' hvr'
      have : v' = v := by
        rcases hh with hh | hh <;> rcases hh' with hh' | hh' <;> rw [hh] at hh'
        · have := (Prod.mk.inj hh').1; omega
        · have a1 := (Prod.mk.inj hh').1
          have a2 := (Prod.mk.inj hh').2
          have b1 : v = u' := by omega
          have b2 : x = v' := by omega
          subst b1 b2
          omega
        · have a1 := (Prod.mk.inj hh').1
          have a2 := (Prod.mk.inj hh').2
          have b1 : x = v' := by omega
          have b2 : v = u' := by omega
          subst b1 b2
          omega
        · have := (Prod.mk.inj hh').2; omega
      subst this
      exact ⟨f v', rfl, hh⟩
    obtain ⟨k1, rfl, h1⟩ := key u hA e1
    obtain ⟨k2, rfl, h2⟩ := key w hB e2
    rcases h1 with h1 | h1 <;> rcases h2 with h2 | h2 <;> rw [h1] at h2
    · have := (Prod.mk.inj h2).2; omega
    · have a1 := (Prod.mk.inj h2).1
      have a2 := (Prod.mk.inj h2).2
      omega
    · have a1 := (Prod.mk.inj h2).1
      have a2 := (Prod.mk.inj h2).2
      omega
    · have := (Prod.mk.inj h2).1; omega
end

/-! ### the greatest of some numbers -/
def mx (f : Nat → Nat) : Nat → Nat
  | 0 => 0
  | k + 1 => max (mx f k) (f k)
theorem mx_ge (f : Nat → Nat) : ∀ k i, i < k → f i ≤ mx f k
  | k + 1, i, h => by
    have e : mx f (k + 1) = max (mx f k) (f k) := rfl
    by_cases hi : i = k
    · subst hi; omega
    · have := mx_ge f k i (by omega); omega
theorem mx_at (f : Nat → Nat) : ∀ k, 0 < k → ∃ i, i < k ∧ f i = mx f k
  | 1, _ => ⟨0, by omega, by simp [mx]⟩
  | k + 2, _ => by
    obtain ⟨i, hi, e⟩ := mx_at f (k + 1) (by omega)
    have e2 : mx f (k + 2) = max (mx f (k + 1)) (f (k + 1)) := rfl
    rcases Nat.le_total (f (k + 1)) (mx f (k + 1)) with h | h
    · exact ⟨i, by omega, by omega⟩
    · exact ⟨k + 1, by omega, by omega⟩

section
variable {n : Nat} {A : Nat → Nat → Bool} {D : Nat → Nat → Nat}
/-- how far the farthest is -/
def ecc (n : Nat) (D : Nat → Nat → Nat) (v : Nat) : Nat := mx (D v) n
theorem ecc_ge {v x : Nat} (hx : x < n) : D v x ≤ ecc n D v := mx_ge _ n x hx
theorem ecc_at (hn : 0 < n) (v : Nat) : ∃ x, x < n ∧ D v x = ecc n D v := mx_at _ n hn
theorem Met.beside (h : Met n A D) {a b : Nat} (ha : a < n) (hb : b < n) (hab : A a b = true) : D a b = 1 := by
  have h0 := (h.zero a a ha ha).2 rfl
  rcases h.one a a b ha ha hb hab with e | e <;> omega
theorem Met.lip (h : Met n A D) {v u : Nat} (hv : v < n) (hu : u < n) (hA : A v u = true) : ecc n D u ≤ ecc n D v + 1 := by
  obtain ⟨x, hx, e⟩ := ecc_at (D := D) (show 0 < n by omega) u
  have h1 := h.one x v u hx hv hu hA
  have h2 := h.sym u x hu hx
  have h3 := h.sym v x hv hx
  have := ecc_ge (D := D) (v := v) hx
  omega
/-- of two points beside one the one or the other has farther to go -/
theorem Met.star (h : Met n A D) {v u w : Nat} (hv : v < n) (hu : u < n) (hw : w < n) (hA : A v u = true) (hB : A v w = true) (hne : u ≠ w) : ecc n D v < ecc n D u ∨ ecc n D v < ecc n D w := by
  obtain ⟨x, hx, e⟩ := ecc_at (D := D) (show 0 < n by omega) v
  have h1 := h.one x v u hx hv hu hA
  have h2 := h.one x v w hx hv hw hB
  have s1 := h.sym v x hv hx
  have s2 := h.sym u x hu hx
  have s3 := h.sym w x hw hx
  have g1 := ecc_ge (D := D) (v := u) hx
  have g2 := ecc_ge (D := D) (v := w) hx
  rcases h1 with h1 | h1
  · rcases h2 with h2 | h2
    · exact absurd (h.only x v u w hx hv hu hw hA hB h1 h2) hne
    · exact .inr (by omega)
  · exact .inl (by omega)
/-- the least of them -/
def Mid (n : Nat) (D : Nat → Nat → Nat) (m : Nat) (c : Nat) : Prop := c < n ∧ ecc n D c = m ∧ ∀ v, v < n → m ≤ ecc n D v
theorem mid_ex (hn : 0 < n) : ∃ m c, Mid n D m c := by
  have : ∀ k, 0 < k → ∃ c, c < k ∧ ∀ v, v < k → ecc n D c ≤ ecc n D v := by
    intro k
    induction k with
    | zero => intro h; omega
    | succ k ih =>
      intro _
      by_cases h0 : k = 0
      · subst h0; exact ⟨0, by omega, fun v hv => by obtain rfl : v = 0 := by omega
                                                     exact Nat.le_refl _⟩
      · obtain ⟨c, hc, hm⟩ := ih (by omega)
        rcases Nat.le_total (ecc n D c) (ecc n D k) with hle | hle
        · exact ⟨c, by omega, fun v hv => by
            by_cases e : v = k
            · rw [e]; exact hle
            · exact hm v (by omega)⟩
        · exact ⟨k, by omega, fun v hv => by
            by_cases e : v = k
            · rw [e]; exact Nat.le_refl _
            · have := hm v (by omega); omega⟩
  obtain ⟨c, hc, hm⟩ := this n hn
  exact ⟨_, c, hc, rfl, hm⟩
/-- two in the middle stand beside each other -/
theorem Met.mid_beside (h : Met n A D) {m c c' : Nat} (hc : Mid n D m c) (hc' : Mid n D m c') (hne : c ≠ c') : A c c' = true := by
  obtain ⟨hcn, ec, hmin⟩ := hc
  obtain ⟨hcn', ec', _⟩ := hc'
  obtain ⟨u, hu, hA, hd⟩ := h.near c' c hcn' hcn hne
  by_cases h1 : D c' u = 0
  · have : c' = u := (h.zero c' u hcn' hu).1 h1
    rw [this]; exact hA
  · exfalso
    -- the farthest among those between
    have key : ∀ k, k ≤ n → (∃ v, v < k ∧ D c v + D c' v = D c c' ∧ v ≠ c ∧ v ≠ c') → ∃ v, v < k ∧ (D c v + D c' v = D c c' ∧ v ≠ c ∧ v ≠ c') ∧ ∀ w, w < k → (D c w + D c' w = D c c' ∧ w ≠ c ∧ w ≠ c') → ecc n D w ≤ ecc n D v := by
      intro k
      induction k with
      | zero => rintro _ ⟨v, hv, _⟩; omega
      | succ k ih =>
        rintro hk ⟨v, hv, hp⟩
        by_cases hex : ∃ v, v < k ∧ D c v + D c' v = D c c' ∧ v ≠ c ∧ v ≠ c'
        · obtain ⟨x, hx, hxp, hxm⟩ := ih (by omega) hex
          by_cases hb : (D c k + D c' k = D c c' ∧ k ≠ c ∧ k ≠ c') ∧ ecc n D x < ecc n D k
          · exact ⟨k, by omega, hb.1, fun w hw hwp => by
              by_cases e : w = k
              · rw [e]; exact Nat.le_refl _
              · have := hxm w (by omega) hwp; omega⟩
          · exact ⟨x, by omega, hxp, fun w hw hwp => by
              by_cases e : w = k
              · subst e
                rcases Nat.lt_or_ge (ecc n D x) (ecc n D w) with hl | hl
                · exact absurd ⟨hwp, hl⟩ hb
                · exact hl
              · exact hxm w (by omega) hwp⟩
        · have e : v = k := by
            rcases Nat.lt_or_ge v k with hl | hl
            · exact absurd ⟨v, hl, hp⟩ hex
            · omega
          subst e
          exact ⟨v, hv, hp, fun w hw hwp => by
            by_cases e : w = v
            · rw [e]; exact Nat.le_refl _
            · exact absurd ⟨w, by omega, hwp⟩ hex⟩
    have du : D c u = 1 := h.beside hcn hu hA
    have s0 := h.sym c c' hcn hcn'
    have hu1 : u ≠ c := fun e => by
      have := (h.zero c u hcn hu).2 e.symm
      omega
    have hu2 : u ≠ c' := fun e => h1 ((h.zero c' u hcn' hu).2 e.symm)
    obtain ⟨v, hv, ⟨hp, hvc, hvc'⟩, hm⟩ := key n (Nat.le_refl _) ⟨u, hu, by omega, hu1, hu2⟩
    obtain ⟨a, ha, hAa, ea⟩ := h.near c v hcn hv hvc
    obtain ⟨b, hb, hAb, eb⟩ := h.near c' v hcn' hv hvc'
    have t1 := h.tri c a c' hcn ha hcn'
    have t2 := h.tri c b c' hcn hb hcn'
    have sa := h.sym a c' ha hcn'
    have sb := h.sym b c' hb hcn'
    have oa := h.one c' v a hcn' hv ha hAa
    have ob := h.one c v b hcn hv hb hAb
    have hab : a ≠ b := fun e => by subst e; omega
    have hda : ecc n D a ≤ ecc n D v := by
      by_cases e : a = c
      · rw [e, ec]; exact hmin v hv
      · by_cases e' : a = c'
        · rw [e', ec']; exact hmin v hv
        · exact hm a ha ⟨by omega, e, e'⟩
    have hdb : ecc n D b ≤ ecc n D v := by
      by_cases e : b = c
      · rw [e, ec]; exact hmin v hv
      · by_cases e' : b = c'
        · rw [e', ec']; exact hmin v hv
        · exact hm b hb ⟨by omega, e, e'⟩
    rcases h.star hv ha hb hAa hAb hab with hh | hh <;> omega
/-- three do not -/
theorem Met.mid_two (h : Met n A D) {m a b c : Nat} (ha : Mid n D m a) (hb : Mid n D m b) (hc : Mid n D m c) (hab : a ≠ b) (hac : a ≠ c) (hbc : b ≠ c) : False := by
  have h1 := h.beside ha.1 hb.1 (h.mid_beside ha hb hab)
  have h2 := h.beside ha.1 hc.1 (h.mid_beside ha hc hac)
  have h3 := h.one a b c ha.1 hb.1 hc.1 (h.mid_beside hb hc hbc)
  omega
/-- away from the middle it is one farther each step -/
theorem Met.away (h : Met n A D) {m : Nat} : ∀ (l v c : Nat), v < n → Mid n D m c → D c v = l → (∀ c', Mid n D m c' → l ≤ D c' v) → ecc n D v = m + l := by
  intro l
  induction l using Nat.strongRecOn with
  | _ l ih =>
    intro v c hv hc hl hmin
    obtain ⟨hcn, ec, hall⟩ := hc
    by_cases h0 : l = 0
    · subst h0
      obtain rfl : c = v := (h.zero c v hcn hv).1 hl
      rw [ec]; rfl
    · have hne : v ≠ c := fun e => h0 (by rw [← hl, e]; exact (h.zero c c hcn hcn).2 rfl)
      obtain ⟨u, hu, hA, hd⟩ := h.near c v hcn hv hne
      have hstep : ∀ c', Mid n D m c' → l ≤ D c' u + 1 := fun c' hc' => by
        have a1 := hmin c' hc'
        have a2 := h.one c' v u hc'.1 hv hu hA
        omega
      have iu := ih (l - 1) (by omega) u c hu ⟨hcn, ec, hall⟩ (by omega) (fun c' hc' => by have := hstep c' hc'; omega)
      have lip := h.lip hu hv (by rw [h.com]; exact hA)
      by_cases h1 : l = 1
      · have hvm : ¬ Mid n D m v := fun hm => by
          have := hmin v hm
          have := (h.zero v v hv hv).2 rfl
          omega
        have : m ≤ ecc n D v := hall v hv
        have hne2 : ecc n D v ≠ m := fun e => hvm ⟨hv, e, hall⟩
        omega
      · have hnu : u ≠ c := fun e => by
          have := (h.zero c u hcn hu).2 e.symm
          omega
        obtain ⟨w, hw, hB, hd2⟩ := h.near c u hcn hu hnu
        have iw := ih (l - 2) (by omega) w c hw ⟨hcn, ec, hall⟩ (by omega) (fun c' hc' => by
          have := hstep c' hc'
          have a2 := h.one c' u w hc'.1 hu hw hB
          omega)
        have hvw : v ≠ w := fun e => by subst e; omega
        rcases h.star hu hv hw (by rw [h.com]; exact hA) hB hvw with hh | hh <;> omega
/-- Jordan -/
theorem Met.jordan (h : Met n A D) (hn : 0 < n) : ∃ m c, Mid n D m c ∧ ((∀ v, Mid n D m v → v = c) ∧ mx (ecc n D) n = 2 * m ∨ ∃ c', Mid n D m c' ∧ c ≠ c' ∧ A c c' = true ∧ (∀ v, Mid n D m v → v = c ∨ v = c') ∧ mx (ecc n D) n + 1 = 2 * m) := by
  obtain ⟨m, c, hc⟩ := mid_ex (D := D) hn
  refine ⟨m, c, hc, ?_⟩
  obtain ⟨y, hy, ey⟩ := mx_at (ecc n D) n hn
  obtain ⟨x, hx, ex⟩ := ecc_at (D := D) hn c
  have gx := mx_ge (ecc n D) n x hx
  have ecm := hc.2.1
  by_cases hone : ∀ v, Mid n D m v → v = c
  · refine .inl ⟨hone, ?_⟩
    have a1 := h.away (D c y) y c hy hc rfl (fun c' hc' => by rw [hone c' hc']; exact Nat.le_refl _)
    have a2 := h.away (D c x) x c hx hc rfl (fun c' hc' => by rw [hone c' hc']; exact Nat.le_refl _)
    have g1 := ecc_ge (D := D) (v := c) hy
    omega
  · obtain ⟨c', hc', hne⟩ : ∃ c', Mid n D m c' ∧ c ≠ c' := Classical.byContradiction fun hno => hone fun v hv => Classical.byContradiction fun e => hno ⟨v, hv, fun e2 => e e2.symm⟩
    have hA := h.mid_beside hc hc' hne
    have htwo : ∀ v, Mid n D m v → v = c ∨ v = c' := fun v hv => Classical.byContradiction fun hno => h.mid_two hc hc' hv hne (fun e => hno (.inl e.symm)) fun e => hno (.inr e.symm)
    refine .inr ⟨c', hc', hne, hA, htwo, ?_⟩
    have lo : ∀ z, z < n → ecc n D z = m + min (D c z) (D c' z) := fun z hz => by
      rcases Nat.le_total (D c z) (D c' z) with hle | hle
      · rw [Nat.min_eq_left hle]
        exact h.away (D c z) z c hz hc rfl (fun v hv => by rcases htwo v hv with rfl | rfl <;> omega)
      · rw [Nat.min_eq_right hle]
        exact h.away (D c' z) z c' hz hc' rfl (fun v hv => by rcases htwo v hv with rfl | rfl <;> omega)
    have side : ∀ z, z < n → D c z = D c' z + 1 ∨ D c' z = D c z + 1 := fun z hz => by
      have := h.one z c c' hz hc.1 hc'.1 hA
      have := h.sym c z hc.1 hz
      have := h.sym c' z hc'.1 hz
      omega
    have l1 := lo y hy
    have l2 := lo x hx
    have s1 := side y hy
    have s2 := side x hx
    have g1 := ecc_ge (D := D) (v := c) hy
    have g2 := ecc_ge (D := D) (v := c') hy
    have g3 := ecc_ge (D := D) (v := c') hx
    have ecm' := hc'.2.1
    omega

/-! ### ends -/
/-- the farthest from a point has one beside it -/
theorem Met.far_end (h : Met n A D) {r x : Nat} (hr : r < n) (hx : x < n) (hxr : x ≠ r) (hm : ∀ y, y < n → D r y ≤ D r x) : ∃ u, u < n ∧ A x u = true ∧ ∀ w, w < n → A x w = true → w = u := by
  obtain ⟨u, hu, hA, hd⟩ := h.near r x hr hx hxr
  refine ⟨u, hu, hA, fun w hw hB => ?_⟩
  rcases h.one r x w hr hx hw hB with e | e
  · exact h.only r x w u hr hx hw hu hB hA e hd
  · have := hm w hw
    omega
/-- two ends at least -/
theorem Met.two_ends (h : Met n A D) (hn : 1 < n) : ∃ x y, x < n ∧ y < n ∧ x ≠ y ∧ (∃ u, u < n ∧ A x u = true ∧ ∀ w, w < n → A x w = true → w = u) ∧ ∃ u, u < n ∧ A y u = true ∧ ∀ w, w < n → A y w = true → w = u := by
  have far1 : ∀ r, r < n → ∃ x, x < n ∧ x ≠ r ∧ ∀ y, y < n → D r y ≤ D r x := fun r hr => by
    obtain ⟨x, hx, e⟩ := mx_at (D r) n (by omega)
    refine ⟨x, hx, fun e2 => ?_, fun y hy => by rw [e]; exact mx_ge (D r) n y hy⟩
    obtain ⟨z, hz, hzr⟩ : ∃ z, z < n ∧ z ≠ r := by
      by_cases h0 : r = 0
      · exact ⟨1, hn, by omega⟩
      · exact ⟨0, by omega, by omega⟩
    have h1 := mx_ge (D r) n z hz
    have h2 := (h.zero r x hr hx).2 e2.symm
    exact hzr ((h.zero r z hr hz).1 (by omega)).symm
  obtain ⟨x, hx, hx0, hxm⟩ := far1 0 (by omega)
  obtain ⟨y, hy, hyx, hym⟩ := far1 x hx
  exact ⟨x, y, hx, hy, fun e => hyx e.symm, h.far_end (by omega) hx hx0 hxm, h.far_end hx hy hyx hym⟩
end
end Go.Proofs.YtojkjdccjomaaaaDoor.Tr

set_option linter.unusedSimpArgs false
set_option linter.unusedVariables false
namespace Go.Proofs.YtojkjdccjomaaaaDoor.Co
open Tr (Met)
open Sg (first first_spec)

section
variable {n : Nat} {A : Nat → Nat → Bool} {D : Nat → Nat → Nat}
/-- v lies on the way from a to b -/
def On (D : Nat → Nat → Nat) (a b v : Nat) : Prop := D a v + D v b = D a b
/-- the one beside a that is nearer to b -/
def nx (n : Nat) (A : Nat → Nat → Bool) (D : Nat → Nat → Nat) (b a : Nat) : Nat := first (fun u => A a u && decide (D b a = D b u + 1)) n 0
theorem nx_spec (h : Met n A D) {a b : Nat} (ha : a < n) (hb : b < n) (hne : a ≠ b) : nx n A D b a < n ∧ A a (nx n A D b a) = true ∧ D b a = D b (nx n A D b a) + 1 := by
  obtain ⟨u, hu, hA, hd⟩ := h.near b a hb ha hne
  obtain ⟨_, a2, a3, _⟩ := first_spec (p := fun u => A a u && decide (D b a = D b u + 1)) n 0 u (Nat.zero_le _) (by omega) (by simp [hA, hd])
  simp only [Bool.and_eq_true, decide_eq_true_eq] at a3
  exact ⟨Nat.lt_of_le_of_lt a2 hu, a3.1, a3.2⟩
theorem nx_only (h : Met n A D) {a b u : Nat} (ha : a < n) (hb : b < n) (hne : a ≠ b) (hu : u < n) (hA : A a u = true) (hd : D b a = D b u + 1) : u = nx n A D b a := by
  obtain ⟨h1, h2, h3⟩ := nx_spec h ha hb hne
  exact h.only b a u _ hb ha hu h1 hA h2 hd h3
theorem on_first (h : Met n A D) {a b : Nat} (ha : a < n) (hb : b < n) : On D a b a := by
  unfold On
  have := (h.zero a a ha ha).2 rfl
  omega
theorem on_last (h : Met n A D) {a b : Nat} (ha : a < n) (hb : b < n) : On D a b b := by
  unfold On
  have := (h.zero b b hb hb).2 rfl
  omega
theorem on_comm (h : Met n A D) {a b v : Nat} (ha : a < n) (hb : b < n) (hv : v < n) : On D a b v ↔ On D b a v := by
  unfold On
  rw [h.sym b v hb hv, h.sym v a hv ha, h.sym b a hb ha]
  omega
/-- a step on -/
theorem on_next (h : Met n A D) {a b v : Nat} (ha : a < n) (hb : b < n) (hv : v < n) (ho : On D a b v) (hne : v ≠ b) : On D a b (nx n A D b v) ∧ D a (nx n A D b v) = D a v + 1 := by
  obtain ⟨h1, h2, h3⟩ := nx_spec h hv hb hne
  have t1 := h.tri a (nx n A D b v) b ha h1 hb
  have o1 := h.one a v _ ha hv h1 h2
  have s1 := h.sym b v hb hv
  have s2 := h.sym b (nx n A D b v) hb h1
  unfold On at *
  omega
/-- one point at each distance -/
theorem on_only (h : Met n A D) {a b : Nat} (ha : a < n) (hb : b < n) : ∀ (t x y : Nat), x < n → y < n → On D a b x → On D a b y → D a x = t → D a y = t → x = y
  | 0, x, y, hx, hy, _, _, h1, h2 => by
    have e1 := (h.zero a x ha hx).1 h1
    have e2 := (h.zero a y ha hy).1 h2
    rw [← e1, ← e2]
  | t + 1, x, y, hx, hy, o1, o2, h1, h2 => by
    have hxa : x ≠ a := fun e => by
      have := (h.zero a x ha hx).2 e.symm
      omega
    have hya : y ≠ a := fun e => by
      have := (h.zero a y ha hy).2 e.symm
      omega
    obtain ⟨p1, p2, p3⟩ := nx_spec h hx ha hxa
    obtain ⟨q1, q2, q3⟩ := nx_spec h hy ha hya
    have tp := h.tri a (nx n A D a x) b ha p1 hb
    have tq := h.tri a (nx n A D a y) b ha q1 hb
    have op := h.one b x _ hb hx p1 p2
    have oq := h.one b y _ hb hy q1 q2
    have sx := h.sym b x hb hx
    have sy := h.sym b y hb hy
    have sp := h.sym b (nx n A D a x) hb p1
    have sq := h.sym b (nx n A D a y) hb q1
    have e := on_only h ha hb t (nx n A D a x) (nx n A D a y) p1 q1 (by unfold On at *; omega) (by unfold On at *; omega) (by omega) (by omega)
    unfold On at o1 o2
    have hp : A (nx n A D a x) x = true := by rw [h.com]; exact p2
    have hq : A (nx n A D a x) y = true := by rw [e, h.com]; exact q2
    rw [e] at op sp
    exact h.only b (nx n A D a x) x y hb p1 hx hy hp hq (by rw [e]; omega) (by rw [e]; omega)
/-- two ways that part at once make one -/
theorem join (h : Met n A D) {a b v : Nat} (ha : a < n) (hb : b < n) (hv : v < n) (hva : v ≠ a) (hvb : v ≠ b) (hne : nx n A D a v ≠ nx n A D b v) : On D a b v := by
  obtain ⟨p1, p2, p3⟩ := nx_spec h hv ha hva
  have key : ∀ t, t + 1 ≤ D v b → ∃ x y, x < n ∧ y < n ∧ A x y = true ∧ D v x = t ∧ D v y = t + 1 ∧ On D v b x ∧ On D v b y ∧ D a x = D a v + t ∧ D a y = D a v + t + 1 := by
    intro t
    induction t with
    | zero =>
      intro _
      obtain ⟨q1, q2, q3⟩ := nx_spec h hv hb hvb
      have o := on_next h hv hb hv (on_first h hv hb) hvb
      have hvv := (h.zero v v hv hv).2 rfl
      refine ⟨v, nx n A D b v, hv, q1, q2, hvv, by omega, on_first h hv hb, o.1, by omega, ?_⟩
      rcases h.one a v _ ha hv q1 q2 with e | e
      · exact absurd (nx_only h hv ha hva q1 q2 e).symm hne
      · omega
    | succ t ih =>
      intro ht
      obtain ⟨x, y, hx, hy, hA, dx, dy, ox, oy, ax, ay⟩ := ih (by omega)
      have hyb : y ≠ b := fun e => by
        subst e
        omega
      obtain ⟨q1, q2, q3⟩ := nx_spec h hy hb hyb
      have o := on_next h hv hb hy oy hyb
      refine ⟨y, nx n A D b y, hy, q1, q2, dy, by omega, oy, o.1, by omega, ?_⟩
      rcases h.one a y _ ha hy q1 q2 with e | e
      · exfalso
        have hya : y ≠ a := fun e2 => by
          have := (h.zero a y ha hy).2 e2.symm
          omega
        have e3 := nx_only h hy ha hya hx (by rw [h.com]; exact hA) (by omega)
        have e4 := nx_only h hy ha hya q1 q2 e
        have : D v x = D v (nx n A D b y) := by rw [e3, ← e4]
        omega
      · omega
  have hd : D v b ≠ 0 := fun e => hvb ((h.zero v b hv hb).1 e)
  obtain ⟨x, y, hx, hy, _, _, dy, _, oy, _, ay⟩ := key (D v b - 1) (by omega)
  have e : y = b := on_only h hv hb (D v b) y b hy hb oy (on_last h hv hb) (by omega) rfl
  subst e
  unfold On
  omega

/-! ### the way, as a list -/
def wyF (n : Nat) (A : Nat → Nat → Bool) (D : Nat → Nat → Nat) (b : Nat) : Nat → Nat → List Nat
  | 0, a => [a]
  | f + 1, a => a :: wyF n A D b f (nx n A D b a)
def wy (n : Nat) (A : Nat → Nat → Bool) (D : Nat → Nat → Nat) (a b : Nat) : List Nat := wyF n A D b (D b a) a
theorem wyF_spec (h : Met n A D) {b : Nat} (hb : b < n) : ∀ (f a : Nat), a < n → D b a = f → (wyF n A D b f a).length = f + 1 ∧ ∀ t, t ≤ f → (wyF n A D b f a).getD t 0 < n ∧ D a ((wyF n A D b f a).getD t 0) = t ∧ On D a b ((wyF n A D b f a).getD t 0)
  | 0, a, ha, hd => by
    refine ⟨rfl, fun t ht => ?_⟩
    obtain rfl : t = 0 := by omega
    exact ⟨ha, (h.zero a a ha ha).2 rfl, on_first h ha hb⟩
  | f + 1, a, ha, hd => by
    have hne : a ≠ b := fun e => by
      have := (h.zero b a hb ha).2 e.symm
      omega
    obtain ⟨p1, p2, p3⟩ := nx_spec h ha hb hne
    obtain ⟨i1, i2⟩ := wyF_spec h hb f (nx n A D b a) p1 (by omega)
    refine ⟨by show (a :: wyF n A D b f (nx n A D b a)).length = _; rw [List.length_cons, i1], fun t ht => ?_⟩
    cases t with
    | zero => exact ⟨ha, (h.zero a a ha ha).2 rfl, on_first h ha hb⟩
    | succ t =>
      obtain ⟨j1, j2, j3⟩ := i2 t (by omega)
      have e : (wyF n A D b (f + 1) a).getD (t + 1) 0 = (wyF n A D b f (nx n A D b a)).getD t 0 := rfl
      rw [e]
      generalize (wyF n A D b f (nx n A D b a)).getD t 0 = x at *
      have dxa : D a (nx n A D b a) = 1 := h.beside ha p1 p2
      have t1 := h.tri a (nx n A D b a) x ha p1 j1
      have t2 := h.tri a x b ha j1 hb
      have s1 := h.sym b a hb ha
      have s2 := h.sym b (nx n A D b a) hb p1
      refine ⟨j1, ?_, ?_⟩ <;> (unfold On at *; omega)
theorem wy_len (h : Met n A D) {a b : Nat} (ha : a < n) (hb : b < n) : (wy n A D a b).length = D a b + 1 := by
  have := (wyF_spec h hb (D b a) a ha rfl).1
  unfold wy
  rw [this, h.sym b a hb ha]
theorem wy_at (h : Met n A D) {a b t : Nat} (ha : a < n) (hb : b < n) (ht : t ≤ D a b) : (wy n A D a b).getD t 0 < n ∧ D a ((wy n A D a b).getD t 0) = t ∧ On D a b ((wy n A D a b).getD t 0) :=
  (wyF_spec h hb (D b a) a ha rfl).2 t (by rw [h.sym b a hb ha]; exact ht)
/-- one line from each point of the way to the next -/
theorem wyF_step (h : Met n A D) {b : Nat} (hb : b < n) : ∀ (f a t : Nat), a < n → D b a = f → t < f → A ((wyF n A D b f a).getD t 0) ((wyF n A D b f a).getD (t + 1) 0) = true
  | 0, _, _, _, _, ht => absurd ht (Nat.not_lt_zero _)
  | f + 1, a, t, ha, hd, ht => by
    have hne : a ≠ b := fun e => by
      have := (h.zero b a hb ha).2 e.symm
      omega
    obtain ⟨p1, p2, p3⟩ := nx_spec h ha hb hne
    cases t with
    | zero =>
      have e : (wyF n A D b (f + 1) a).getD (0 + 1) 0 = nx n A D b a := by cases f <;> rfl
      rw [e]
      exact p2
    | succ t =>
      have e : ∀ k, (wyF n A D b (f + 1) a).getD (k + 1) 0 = (wyF n A D b f (nx n A D b a)).getD k 0 := fun _ => rfl
      rw [e, e]
      exact wyF_step h hb f _ t p1 (by omega) (by omega)
theorem wy_step (h : Met n A D) {a b t : Nat} (ha : a < n) (hb : b < n) (ht : t < D a b) : A ((wy n A D a b).getD t 0) ((wy n A D a b).getD (t + 1) 0) = true :=
  wyF_step h hb (D b a) a t ha rfl (by rw [h.sym b a hb ha]; exact ht)
theorem on_le {a b v : Nat} (ho : On D a b v) : D a v ≤ D a b := by unfold On at ho; omega
/-- where a point of the way stands -/
theorem wy_of (h : Met n A D) {a b v : Nat} (ha : a < n) (hb : b < n) (hv : v < n) (ho : On D a b v) : (wy n A D a b).getD (D a v) 0 = v := by
  obtain ⟨h1, h2, h3⟩ := wy_at h ha hb (on_le ho)
  exact on_only h ha hb (D a v) _ v h1 hv h3 ho h2 rfl
theorem mem_wy (h : Met n A D) {a b v : Nat} (ha : a < n) (hb : b < n) : v ∈ wy n A D a b ↔ v < n ∧ On D a b v := by
  constructor
  · intro hm
    obtain ⟨t, ht, e⟩ := List.mem_iff_getElem.1 hm
    rw [wy_len h ha hb] at ht
    obtain ⟨h1, h2, h3⟩ := wy_at h ha hb (t := t) (by omega)
    have e2 : (wy n A D a b).getD t 0 = v := by rw [← e]; simp [List.getD, show t < (wy n A D a b).length by rw [wy_len h ha hb]; omega]
    rw [e2] at h1 h3
    exact ⟨h1, h3⟩
  · rintro ⟨hv, ho⟩
    have e := wy_of h ha hb hv ho
    have hl : D a v < (wy n A D a b).length := by rw [wy_len h ha hb]; have := on_le ho; omega
    rw [← e]
    simp [List.getD, hl]
/-- the way back -/
theorem wy_back (h : Met n A D) {a b : Nat} (ha : a < n) (hb : b < n) : (wy n A D a b).reverse = wy n A D b a := by
  have l1 := wy_len h ha hb
  have l2 := wy_len h hb ha
  have s := h.sym a b ha hb
  refine List.ext_getElem (by rw [List.length_reverse]; omega) fun i h1 h2 => ?_
  rw [List.getElem_reverse]
  have hi : i ≤ D b a := by rw [l2] at h2; omega
  obtain ⟨a1, a2, a3⟩ := wy_at h ha hb (t := D a b - i) (by omega)
  obtain ⟨b1, b2, b3⟩ := wy_at h hb ha (t := i) hi
  have e1 : (wy n A D a b)[(wy n A D a b).length - 1 - i]'(by omega) = (wy n A D a b).getD (D a b - i) 0 := by
    have : (wy n A D a b).length - 1 - i = D a b - i := by omega
    simp [List.getD, this, show D a b - i < (wy n A D a b).length by omega]
  have e2 : (wy n A D b a)[i]'h2 = (wy n A D b a).getD i 0 := by simp [List.getD, h2]
  rw [e1, e2]
  have sx := h.sym b ((wy n A D b a).getD i 0) hb b1
  have sy := h.sym a ((wy n A D b a).getD i 0) ha b1
  exact on_only h ha hb (D a b - i) _ _ a1 b1 a3 ((on_comm h ha hb b1).2 b3) a2 (by unfold On at b3; omega)

/-! ### the one that two ways to a root have in common first -/
/-- on both ways, and as far from the root as can be -/
def Low (n : Nat) (D : Nat → Nat → Nat) (r a b v : Nat) : Prop := v < n ∧ On D a r v ∧ On D b r v ∧ ∀ w, w < n → On D a r w → On D b r w → D r w ≤ D r v
theorem Low.only (h : Met n A D) {r a b v w : Nat} (hr : r < n) (ha : a < n) (hv : Low n D r a b v) (hw : Low n D r a b w) : v = w := by
  have h1 := hv.2.2.2 w hw.1 hw.2.1 hw.2.2.1
  have h2 := hw.2.2.2 v hv.1 hv.2.1 hv.2.2.1
  exact on_only h hr ha (D r v) v w hv.1 hw.1 ((on_comm h hr ha hv.1).2 hv.2.1) ((on_comm h hr ha hw.1).2 hw.2.1) rfl (by omega)
theorem Low.comm {r a b v : Nat} (hv : Low n D r a b v) : Low n D r b a v := ⟨hv.1, hv.2.2.1, hv.2.1, fun w hw h1 h2 => hv.2.2.2 w hw h2 h1⟩
theorem low_ex (h : Met n A D) {r a b : Nat} (hr : r < n) (ha : a < n) (hb : b < n) : ∃ v, Low n D r a b v := by
  have key : ∀ k, k ≤ n → (∃ v, v < k ∧ On D a r v ∧ On D b r v) → ∃ v, v < k ∧ (On D a r v ∧ On D b r v) ∧ ∀ w, w < k → On D a r w → On D b r w → D r w ≤ D r v := by
    intro k
    induction k with
    | zero => rintro _ ⟨v, hv, _⟩; omega
    | succ k ih =>
      rintro hk ⟨v, hv, hp⟩
      by_cases hex : ∃ v, v < k ∧ On D a r v ∧ On D b r v
      · obtain ⟨x, hx, hxp, hxm⟩ := ih (by omega) hex
        by_cases hb2 : (On D a r k ∧ On D b r k) ∧ D r x < D r k
        · exact ⟨k, by omega, hb2.1, fun w hw h1 h2 => by
            by_cases e : w = k
            · rw [e]; exact Nat.le_refl _
            · have := hxm w (by omega) h1 h2; omega⟩
        · exact ⟨x, by omega, hxp, fun w hw h1 h2 => by
            by_cases e : w = k
            · subst e
              rcases Nat.lt_or_ge (D r x) (D r w) with hl | hl
              · exact absurd ⟨⟨h1, h2⟩, hl⟩ hb2
              · exact hl
            · exact hxm w (by omega) h1 h2⟩
      · have e : v = k := by
          rcases Nat.lt_or_ge v k with hl | hl
          · exact absurd ⟨v, hl, hp⟩ hex
          · omega
        subst e
        exact ⟨v, hv, hp, fun w hw h1 h2 => by
          by_cases e : w = v
          · rw [e]; exact Nat.le_refl _
          · exact absurd ⟨w, by omega, h1, h2⟩ hex⟩
  obtain ⟨v, hv, ⟨h1, h2⟩, h3⟩ := key n (Nat.le_refl _) ⟨r, hr, on_last h ha hr, on_last h hb hr⟩
  exact ⟨v, hv, h1, h2, h3⟩
/-- it lies between the two -/
theorem Low.between (h : Met n A D) {r a b v : Nat} (hr : r < n) (ha : a < n) (hb : b < n) (hv : Low n D r a b v) : On D a b v := by
  obtain ⟨hvn, o1, o2, hm⟩ := hv
  by_cases ea : v = a
  · rw [ea]; exact on_first h ha hb
  · by_cases eb : v = b
    · rw [eb]; exact on_last h ha hb
    · refine join h ha hb hvn ea eb fun e => ?_
      have n1 := on_next h hr ha hvn ((on_comm h hr ha hvn).2 o1) ea
      have n2 := on_next h hr hb hvn ((on_comm h hr hb hvn).2 o2) eb
      have hlt := (nx_spec h hvn ha ea).1
      rw [← e] at n2
      have := hm _ hlt ((on_comm h ha hr hlt).2 n1.1) ((on_comm h hb hr hlt).2 n2.1)
      omega
/-- three points: just one lies on all three ways -/
theorem three (h : Met n A D) {a b c v w : Nat} (ha : a < n) (hb : b < n) (hc : c < n) (hv : Low n D c a b v) (hw : w < n) : (On D a b w ∧ On D b c w ∧ On D a c w) ↔ w = v := by
  have hvb := hv.between h hc ha hb
  constructor
  · rintro ⟨h1, h2, h3⟩
    refine on_only h ha hb (D a v) w v hw hv.1 h1 hvb ?_ rfl
    have s1 := h.sym b w hb hw
    have s2 := h.sym b v hb hv.1
    have := hv.2.1
    have := hv.2.2.1
    unfold On at *
    omega
  · intro e
    subst e
    exact ⟨hvb, hv.2.2.1, hv.2.1⟩
end
end Go.Proofs.YtojkjdccjomaaaaDoor.Co

set_option linter.unusedSimpArgs false
set_option linter.unusedVariables false
namespace Go.Proofs.YtojkjdccjomaaaaDoor.Nm

/-! ### texts in order -/
/-- does a text stand ahead of another one? -/
def bf : List Nat → List Nat → Bool
  | _, [] => false
  | [], _ :: _ => true
  | a :: x, b :: y => decide (a < b) || (decide (a = b) && bf x y)
/-- not behind -/
def le (x y : List Nat) : Bool := !bf y x
theorem bf_irr : ∀ x : List Nat, bf x x = false
  | [] => rfl
  | a :: x => by simp [bf, bf_irr x]
theorem bf_trans : ∀ {x y z : List Nat}, bf x y = true → bf y z = true → bf x z = true
  | _, [], _, h, _ => by simp [bf] at h
  | _, _ :: _, [], _, h => by simp [bf] at h
  | [], b :: y, c :: z, _, _ => rfl
  | a :: x, b :: y, c :: z, h1, h2 => by
    simp only [bf, Bool.or_eq_true, Bool.and_eq_true, decide_eq_true_eq] at h1 h2 ⊢
    rcases h1 with h1 | ⟨h1, h3⟩ <;> rcases h2 with h2 | ⟨h2, h4⟩
    · exact .inl (by omega)
    · exact .inl (by omega)
    · exact .inl (by omega)
    · exact .inr ⟨by omega, bf_trans h3 h4⟩
theorem bf_total : ∀ {x y : List Nat}, bf x y = false → bf y x = false → x = y
  | [], [], _, _ => rfl
  | [], b :: y, h, _ => by simp [bf] at h
  | a :: x, [], _, h => by simp [bf] at h
  | a :: x, b :: y, h1, h2 => by
    simp only [bf, Bool.or_eq_false_iff, Bool.and_eq_false_iff, decide_eq_false_iff_not] at h1 h2
    have e : a = b := by omega
    subst e
    have h3 := h1.2.resolve_left fun h => h rfl
    have h4 := h2.2.resolve_left fun h => h rfl
    rw [bf_total h3 h4]
theorem bf_anti {x y : List Nat} (h : bf x y = true) : bf y x = false := by
  cases h2 : bf y x
  · rfl
  · have := bf_trans h h2; rw [bf_irr] at this; cases this
theorem le_trans {x y z : List Nat} (h1 : le x y = true) (h2 : le y z = true) : le x z = true := by
  unfold le at *
  simp only [Bool.not_eq_true'] at *
  cases h3 : bf z x
  · rfl
  · exfalso
    cases h4 : bf x y
    · have := bf_total h4 h1; subst this; rw [h3] at h2; cases h2
    · have := bf_trans h3 h4; rw [h2] at this; cases this
theorem le_total (x y : List Nat) : (le x y || le y x) = true := by
  unfold le
  cases h : bf x y
  · simp
  · simp [bf_anti h]
theorem le_anti {x y : List Nat} (h1 : le x y = true) (h2 : le y x = true) : x = y := by
  unfold le at *
  exact bf_total (by simpa using h2) (by simpa using h1)
/-- sorted -/
def srt (l : List (List Nat)) : List (List Nat) := l.mergeSort le
theorem srt_perm (l : List (List Nat)) : (srt l).Perm l := List.mergeSort_perm _ _
theorem srt_sorted (l : List (List Nat)) : (srt l).Pairwise fun x y => le x y = true := List.pairwise_mergeSort (le := le) (fun a b c h1 h2 => le_trans h1 h2) (fun a b => le_total a b) l
theorem sorted_only {l m : List (List Nat)} (hp : l.Perm m) (hl : l.Pairwise fun x y => le x y = true) (hm : m.Pairwise fun x y => le x y = true) : l = m :=
  List.Perm.eq_of_pairwise (le := fun x y => le x y = true) (fun a b _ _ h1 h2 => le_anti h1 h2) hl hm hp
/-- one text for all orders -/
theorem srt_congr {l m : List (List Nat)} (hp : l.Perm m) : srt l = srt m := sorted_only ((srt_perm l).trans (hp.trans (srt_perm m).symm)) (srt_sorted l) (srt_sorted m)
theorem srt_eq {l m : List (List Nat)} (hp : m.Perm l) (hm : m.Pairwise fun x y => le x y = true) : m = srt l := sorted_only (hp.trans (srt_perm l).symm) hm (srt_sorted l)
theorem perm_of_srt {l m : List (List Nat)} (h : srt l = srt m) : l.Perm m := (srt_perm l).symm.trans (h ▸ srt_perm m)

/-! ### texts of brackets -/
/-- brackets open: how many more than shut -/
def ht : List Nat → Int
  | [] => 0
  | a :: x => (if a = 40 then 1 else -1) + ht x
theorem ht_app (x y : List Nat) : ht (x ++ y) = ht x + ht y := by
  induction x with
  | nil => simp [ht]
  | cons a x ih => simp only [List.cons_append, ht]; omega
/-- shut at its end and nowhere before -/
structure Prime (x : List Nat) : Prop where
  pos : 0 < x.length
  shut : ht x = 0
  opened : ∀ j, 0 < j → j < x.length → 0 < ht (x.take j)
/-- told from what follows -/
theorem prime_len {x y u v : List Nat} (hx : Prime x) (hy : Prime y) (h : x ++ u = y ++ v) : ¬ x.length < y.length := fun hl => by
  have h1 := hy.opened x.length hx.pos hl
  have h2 : (y ++ v).take x.length = x := by rw [← h]; simp
  rw [List.take_append_of_le_length (by omega)] at h2
  rw [h2, hx.shut] at h1
  omega
theorem prime_app {x y u v : List Nat} (hx : Prime x) (hy : Prime y) (h : x ++ u = y ++ v) : x = y ∧ u = v := by
  have h1 := prime_len hx hy h
  have h2 := prime_len hy hx h.symm
  exact List.append_inj h (by omega)
theorem flat_only : ∀ {l m : List (List Nat)}, (∀ x ∈ l, Prime x) → (∀ x ∈ m, Prime x) → l.flatten = m.flatten → l = m
  | [], [], _, _, _ => rfl
  | [], y :: m, _, hm, h => by
    have := (hm y List.mem_cons_self).pos
    rw [List.flatten_nil, List.flatten_cons] at h
    have := congrArg List.length h
    rw [List.length_append, List.length_nil] at this
    omega
  | x :: l, [], hl, _, h => by
    have := (hl x List.mem_cons_self).pos
    rw [List.flatten_nil, List.flatten_cons] at h
    have := congrArg List.length h
    rw [List.length_append, List.length_nil] at this
    omega
  | x :: l, y :: m, hl, hm, h => by
    rw [List.flatten_cons, List.flatten_cons] at h
    obtain ⟨h1, h2⟩ := prime_app (hl x List.mem_cons_self) (hm y List.mem_cons_self) h
    rw [h1, flat_only (fun z hz => hl z (List.mem_cons_of_mem _ hz)) (fun z hz => hm z (List.mem_cons_of_mem _ hz)) h2]
theorem flat_ht : ∀ {l : List (List Nat)}, (∀ x ∈ l, Prime x) → ht l.flatten = 0 ∧ ∀ j, 0 ≤ ht (l.flatten.take j)
  | [], _ => ⟨rfl, fun j => by simp [ht]⟩
  | x :: l, hl => by
    obtain ⟨h1, h2⟩ := flat_ht (l := l) fun z hz => hl z (List.mem_cons_of_mem _ hz)
    have hx := hl x List.mem_cons_self
    rw [List.flatten_cons]
    refine ⟨by rw [ht_app, h1, hx.shut]; rfl, fun j => ?_⟩
    rw [List.take_append, ht_app]
    have h3 := h2 (j - x.length)
    have h4 : 0 ≤ ht (x.take j) := by
      by_cases h0 : j = 0
      · subst h0; simp [ht]
      · by_cases hj : j < x.length
        · have := hx.opened j (by omega) hj; omega
        · rw [List.take_of_length_le (by omega), hx.shut]; exact Int.le_refl _
    omega
/-- a bracket about such texts -/
def wrap (l : List (List Nat)) : List Nat := 40 :: (l.flatten ++ [41])
theorem wrap_prime {l : List (List Nat)} (hl : ∀ x ∈ l, Prime x) : Prime (wrap l) where
  pos := by simp [wrap]
  shut := by
    unfold wrap
    simp only [ht, ht_app, (flat_ht hl).1]
    decide
  opened := fun j h0 hj => by
    obtain ⟨i, rfl⟩ : ∃ i, j = i + 1 := ⟨j - 1, by omega⟩
    unfold wrap at hj ⊢
    rw [List.length_cons, List.length_append, List.length_singleton] at hj
    rw [List.take_succ_cons, List.take_append_of_le_length (by omega)]
    have := (flat_ht hl).2 i
    simp only [ht, if_true]
    omega
theorem wrap_only {l m : List (List Nat)} (hl : ∀ x ∈ l, Prime x) (hm : ∀ x ∈ m, Prime x) (h : wrap l = wrap m) : l = m := by
  unfold wrap at h
  obtain ⟨_, h2⟩ := List.cons.inj h
  exact flat_only hl hm (List.append_cancel_right h2)

/-! ### names -/
/-- other neighbours -/
def kids (A : Nat → Nat → Bool) (n at_ fr : Nat) : List Nat := (List.range n).filter fun i => A at_ i && !decide (i = fr)
/-- a point's name, seen from another one (n: from none), so many lines deep -/
def nm (A : Nat → Nat → Bool) (n : Nat) : Nat → Nat → Nat → List Nat
  | 0, _, _ => wrap []
  | k + 1, a, fr => wrap (srt ((kids A n a fr).map fun i => nm A n k i a))
section
variable {A A' : Nat → Nat → Bool} {n : Nat}
theorem mem_kids {a fr i : Nat} : i ∈ kids A n a fr ↔ i < n ∧ A a i = true ∧ i ≠ fr := by simp [kids]
theorem kids_nodup {a fr : Nat} : (kids A n a fr).Nodup := List.nodup_range.filter _
theorem nm_prime : ∀ (k a fr : Nat), Prime (nm A n k a fr)
  | 0, _, _ => wrap_prime fun _ h => nomatch h
  | k + 1, a, fr => wrap_prime fun x hx => by
    obtain ⟨i, _, rfl⟩ := List.mem_map.1 ((srt_perm _).mem_iff.1 hx)
    exact nm_prime k i a
/-- the same name just when the names beside are the same ones -/
theorem nm_same {k a fr b gr : Nat} : nm A n (k + 1) a fr = nm A' n (k + 1) b gr ↔ ((kids A n a fr).map fun i => nm A n k i a).Perm ((kids A' n b gr).map fun i => nm A' n k i b) := by
  constructor
  · intro h
    refine perm_of_srt (wrap_only (fun x hx => ?_) (fun x hx => ?_) h)
    · obtain ⟨i, _, rfl⟩ := List.mem_map.1 ((srt_perm _).mem_iff.1 hx)
      exact nm_prime k i a
    · obtain ⟨i, _, rfl⟩ := List.mem_map.1 ((srt_perm _).mem_iff.1 hx)
      exact nm_prime k i b
  · intro h
    show wrap _ = wrap _
    rw [srt_congr h]
/-- the same graph, however numbered: the same names -/
theorem nm_turn {f : Nat → Nat} (hf : ∀ i, i < n → f i < n) (hi : ∀ i j, i < n → j < n → f i = f j → i = j) (hs : ∀ j, j < n → ∃ i, i < n ∧ f i = j) (hA : ∀ i j, i < n → j < n → A' (f i) (f j) = A i j) : ∀ (k a fr gr : Nat), a < n → (fr < n ∧ gr = f fr ∨ n ≤ fr ∧ n ≤ gr) → nm A n k a fr = nm A' n k (f a) gr
  | 0, _, _, _, _, _ => rfl
  | k + 1, a, fr, gr, ha, hfr => by
    rw [nm_same]
    have h1 : (kids A' n (f a) gr).Perm ((kids A n a fr).map f) := by
      refine (List.perm_ext_iff_of_nodup kids_nodup ?_).2 fun j => ?_
      · rw [List.nodup_iff_pairwise_ne, List.pairwise_map]
        refine List.Pairwise.imp_of_mem ?_ (List.nodup_iff_pairwise_ne.1 (kids_nodup (A := A) (n := n) (a := a) (fr := fr)))
        intro x y hx hy hne he
        exact hne (hi x y (mem_kids.1 hx).1 (mem_kids.1 hy).1 he)
      · rw [mem_kids, List.mem_map]
        constructor
        · rintro ⟨h2, h3, h4⟩
          obtain ⟨i, hi1, rfl⟩ := hs j h2
          refine ⟨i, mem_kids.2 ⟨hi1, by rw [← hA a i ha hi1]; exact h3, fun e => ?_⟩, rfl⟩
          subst e
          rcases hfr with ⟨_, h5⟩ | ⟨h5, _⟩
          · exact h4 h5.symm
          · omega
        · rintro ⟨i, h2, rfl⟩
          obtain ⟨h3, h4, h5⟩ := mem_kids.1 h2
          refine ⟨hf i h3, by rw [hA a i ha h3]; exact h4, fun e => ?_⟩
          rcases hfr with ⟨h6, h7⟩ | ⟨_, h7⟩
          · exact h5 (hi i fr h3 h6 (e.trans h7))
          · have := hf i h3; omega
    refine List.Perm.trans ?_ (h1.map _).symm
    rw [List.map_map]
    refine List.Perm.of_eq (List.map_congr_left fun i hi2 => ?_)
    exact nm_turn hf hi hs hA k i a (f a) (mem_kids.1 hi2).1 (.inl ⟨ha, rfl⟩)
end
end Go.Proofs.YtojkjdccjomaaaaDoor.Nm

set_option linter.unusedSimpArgs false
set_option linter.unusedVariables false
namespace Go.Proofs.YtojkjdccjomaaaaDoor.Nm
open Tr (Met)
open Co (nx nx_spec nx_only)

/-! ### pairs by names -/
theorem perm_pair {F G : Nat → List Nat} : ∀ {l m : List Nat}, l.Nodup → m.Nodup → (l.map F).Perm (m.map G) → ∃ g : Nat → Nat, (∀ x ∈ l, g x ∈ m ∧ F x = G (g x)) ∧ (∀ x y, x ∈ l → y ∈ l → g x = g y → x = y) ∧ ∀ y ∈ m, ∃ x ∈ l, g x = y
  | [], m, _, _, h => by
    have : m = [] := by
      have := h.length_eq
      simp at this
      exact List.length_eq_zero_iff.1 this.symm
    subst this
    exact ⟨id, fun _ h => (nomatch h), fun _ _ h => (nomatch h), fun _ h => (nomatch h)⟩
  | x :: l, m, hl, hm, h => by
    obtain ⟨hx, hl2⟩ := List.nodup_cons.1 hl
    obtain ⟨y, hy, hyx⟩ := List.mem_map.1 (h.mem_iff.1 (List.mem_cons_self : F x ∈ (x :: l).map F))
    have hp : m.Perm (y :: m.erase y) := List.perm_cons_erase hy
    have h2 : (F x :: l.map F).Perm (G y :: (m.erase y).map G) := h.trans (hp.map G)
    rw [hyx] at h2
    obtain ⟨g, g1, g2, g3⟩ := perm_pair hl2 (hm.erase y) ((List.perm_cons _).1 h2)
    have hne : ∀ z ∈ l, z ≠ x := fun z hz e => hx (e ▸ hz)
    have hge : ∀ z ∈ l, g z ≠ y := fun z hz e => by
      have := (g1 z hz).1
      rw [e] at this
      exact (List.Nodup.mem_erase_iff hm).1 this |>.1 rfl
    refine ⟨fun z => if z = x then y else g z, fun z hz => ?_, fun z t hz ht he => ?_, fun z hz => ?_⟩
    · rcases List.mem_cons.1 hz with rfl | hz
      · simp only [if_true]; exact ⟨hy, hyx.symm⟩
      · simp only [hne z hz, if_false]; exact ⟨List.mem_of_mem_erase (g1 z hz).1, (g1 z hz).2⟩
    · rcases List.mem_cons.1 hz with hz | hz <;> rcases List.mem_cons.1 ht with ht | ht
      · exact hz.trans ht.symm
      · simp only [hz, if_true, hne t ht, if_false] at he; exact absurd he.symm (hge t ht)
      · simp only [ht, if_true, hne z hz, if_false] at he; exact absurd he (hge z hz)
      · simp only [hne z hz, hne t ht, if_false] at he; exact g2 z t hz ht he
    · by_cases hzy : z = y
      · exact ⟨x, List.mem_cons_self, by simp [hzy]⟩
      · obtain ⟨t, ht, e⟩ := g3 z ((List.mem_erase_of_ne hzy).2 hz)
        exact ⟨t, List.mem_cons_of_mem _ ht, by simp [hne t ht, e]⟩

/-! ### branches -/
/-- the points behind one, seen from another one beside it (n: from none) -/
def Br (D : Nat → Nat → Nat) (n a fr v : Nat) : Prop := v < n ∧ (fr < n → D fr v = D a v + 1)
section
variable {n : Nat} {A A' : Nat → Nat → Bool} {D D' : Nat → Nat → Nat}
theorem irr (h : Met n A D) {a : Nat} (ha : a < n) : A a a = false := by
  cases hb : A a a
  · rfl
  · have := h.one a a a ha ha ha hb; omega
theorem br_self (h : Met n A D) {a fr : Nat} (ha : a < n) (hf : fr < n → A a fr = true) : Br D n a fr a := by
  refine ⟨ha, fun hfr => ?_⟩
  rw [(h.zero a a ha ha).2 rfl, h.sym fr a hfr ha, h.beside ha hfr (hf hfr)]
/-- the next one towards a point of a branch is another neighbour, and the point lies behind that -/
theorem br_next (h : Met n A D) {a fr v : Nat} (ha : a < n) (hv : Br D n a fr v) (hne : v ≠ a) : nx n A D v a ∈ kids A n a fr ∧ Br D n (nx n A D v a) a v := by
  obtain ⟨h1, h2, h3⟩ := nx_spec h ha hv.1 hne.symm
  have s1 := h.sym v a hv.1 ha
  have s2 := h.sym v _ hv.1 h1
  refine ⟨mem_kids.2 ⟨h1, h2, fun e => ?_⟩, hv.1, fun _ => by omega⟩
  have hfr : fr < n := e ▸ h1
  have h4 := hv.2 hfr
  rw [← e] at h4
  omega
theorem br_of (h : Met n A D) {a fr i v : Nat} (ha : a < n) (hf : fr < n → A a fr = true) (hi : i ∈ kids A n a fr) (hv : Br D n i a v) : Br D n a fr v ∧ v ≠ a ∧ nx n A D v a = i := by
  obtain ⟨h1, h2, h3⟩ := mem_kids.1 hi
  have h4 := hv.2 ha
  have s1 := h.sym v a hv.1 ha
  have s2 := h.sym v i hv.1 h1
  have hva : v ≠ a := fun e => by subst e; have := (h.zero v v ha ha).2 rfl; omega
  have hnx := (nx_only h ha hv.1 hva.symm h1 h2 (by omega)).symm
  refine ⟨⟨hv.1, fun hfr => ?_⟩, hva, hnx⟩
  have s3 := h.sym v fr hv.1 hfr
  rcases h.one v a fr hv.1 ha hfr (hf hfr) with h5 | h5
  · exact absurd (h.only v a i fr hv.1 ha h1 hfr h2 (hf hfr) (by omega) h5) h3
  · omega
/-- no line from branch to branch but by the point itself -/
theorem br_line (h : Met n A D) {a i u v : Nat} (ha : a < n) (hi : i < n) (hai : A a i = true) (hu : Br D n i a u) (hv : v < n) (hvi : D i v = D a v + 1) (huv : A u v = true) : v = a := by
  have hu1 := hu.1
  have h1 := hu.2 ha
  have o1 := h.one a u v ha hu1 hv huv
  have o2 := h.one i u v hi hu1 hv huv
  have e1 : D a u = D a v + 1 := by omega
  have e2 : D i v = D i u + 1 := by omega
  by_cases hui : u = i
  · subst hui
    have := (h.zero u u hi hi).2 rfl
    exact ((h.zero a v ha hv).1 (by omega)).symm
  · obtain ⟨w, w1, w2, w3⟩ := h.near i u hi hu1 hui
    have o3 := h.one a u w ha hu1 w1 w2
    have t1 := h.tri a i w ha hi w1
    have t2 := h.tri a u i ha hu1 hi
    have d1 := h.beside ha hi hai
    have e4 : D a u = D a w + 1 := by omega
    have := h.only a u v w ha hu1 hv w1 huv w2 e1 (by omega)
    subst this
    omega
/-- trees alike: their points in pairs, and their lines with them -/
structure Alike (A A' : Nat → Nat → Bool) (P Q : Nat → Prop) (f : Nat → Nat) : Prop where
  to : ∀ v, P v → Q (f v)
  inj : ∀ u v, P u → P v → f u = f v → u = v
  sur : ∀ w, Q w → ∃ v, P v ∧ f v = w
  line : ∀ u v, P u → P v → A' (f u) (f v) = A u v
/-- the same names: trees alike -/
theorem alike (h : Met n A D) (h' : Met n A' D') : ∀ (k a fr b gr : Nat), a < n → b < n → (fr < n → A a fr = true) → (gr < n → A' b gr = true) → (∀ v, Br D n a fr v → D a v ≤ k) → (∀ v, Br D' n b gr v → D' b v ≤ k) → nm A n k a fr = nm A' n k b gr → ∃ f : Nat → Nat, Alike A A' (Br D n a fr) (Br D' n b gr) f ∧ f a = b
  | 0, a, fr, b, gr, ha, hb, hf, hg, hk, hk', _ => by
    have h1 : ∀ v, Br D n a fr v → v = a := fun v hv => ((h.zero a v ha hv.1).1 (by have := hk v hv; omega)).symm
    have h2 : ∀ v, Br D' n b gr v → v = b := fun v hv => ((h'.zero b v hb hv.1).1 (by have := hk' v hv; omega)).symm
    refine ⟨fun _ => b, ⟨fun v _ => br_self h' hb hg, fun u v hu hv _ => (h1 u hu).trans (h1 v hv).symm, fun w hw => ⟨a, br_self h ha hf, (h2 w hw).symm⟩, fun u v hu hv => ?_⟩, rfl⟩
    rw [h1 u hu, h1 v hv, irr h ha, irr h' hb]
  | k + 1, a, fr, b, gr, ha, hb, hf, hg, hk, hk', hnm => by
    obtain ⟨g, g1, g2, g3⟩ := perm_pair kids_nodup kids_nodup (nm_same.1 hnm)
    -- a pairing for each branch
    have hall : ∀ i, ∃ f : Nat → Nat, i ∈ kids A n a fr → Alike A A' (Br D n i a) (Br D' n (g i) b) f ∧ f i = g i := fun i => by
      by_cases hi : i ∈ kids A n a fr
      · obtain ⟨i1, i2, i3⟩ := mem_kids.1 hi
        obtain ⟨j1, j2, j3⟩ := mem_kids.1 (g1 i hi).1
        have e1 := h.beside ha i1 i2
        have e2 := h'.beside hb j1 j2
        obtain ⟨f, hf1, hf2⟩ := alike h h' k i a (g i) b i1 j1 (fun _ => by rw [h.com]; exact i2) (fun _ => by rw [h'.com]; exact j2) (fun v hv => by
          have := hk v (br_of h ha hf hi hv).1
          have := hv.2 ha
          omega) (fun v hv => by
          have := hk' v (br_of h' hb hg (g1 i hi).1 hv).1
          have := hv.2 hb
          omega) (g1 i hi).2
        exact ⟨f, fun _ => ⟨hf1, hf2⟩⟩
      · exact ⟨id, fun hh => absurd hh hi⟩
    obtain ⟨F, hF⟩ := Classical.axiomOfChoice hall
    have nxt : ∀ v, Br D n a fr v → v ≠ a → nx n A D v a ∈ kids A n a fr ∧ Br D n (nx n A D v a) a v := fun v hv hne => br_next h ha hv hne
    -- where a point of a branch goes
    have into : ∀ v, Br D n a fr v → v ≠ a → Br D' n (g (nx n A D v a)) b (F (nx n A D v a) v) := fun v hv hne => ((hF _ (nxt v hv hne).1).1).to v (nxt v hv hne).2
    have into2 : ∀ v (hv : Br D n a fr v) (hne : v ≠ a), Br D' n b gr (F (nx n A D v a) v) ∧ F (nx n A D v a) v ≠ b ∧ nx n A' D' (F (nx n A D v a) v) b = g (nx n A D v a) := fun v hv hne => br_of h' hb hg (g1 _ (nxt v hv hne).1).1 (into v hv hne)
    -- beside the point itself
    have root : ∀ v, Br D n a fr v → v ≠ a → A' b (F (nx n A D v a) v) = A a v := fun v hv hne => by
      obtain ⟨n1, n2⟩ := nxt v hv hne
      obtain ⟨m1, m2, m3⟩ := mem_kids.1 n1
      obtain ⟨j1, j2, j3⟩ := mem_kids.1 (g1 _ n1).1
      have hFi := hF _ n1
      cases hav : A a v
      · cases hbv : A' b (F (nx n A D v a) v)
        · rfl
        · exfalso
          have i1 := into v hv hne
          have e1 := h'.beside hb i1.1 hbv
          have e2 := i1.2 hb
          have e3 := (h'.zero _ _ j1 i1.1).1 (show D' (g (nx n A D v a)) (F (nx n A D v a) v) = 0 by omega)
          have e4 := hFi.1.inj v _ n2 (br_self h m1 (fun _ => by rw [h.com]; exact m2)) (e3.symm.trans hFi.2.symm)
          rw [e4, m2] at hav
          cases hav
      · have e1 : v = nx n A D v a := nx_only h ha hv.1 hne.symm hv.1 hav (by
          rw [h.sym v a hv.1 ha, h.beside ha hv.1 hav, (h.zero v v hv.1 hv.1).2 rfl])
        have e2 : F (nx n A D v a) v = g (nx n A D v a) := by
          have := hFi.2
          rw [← e1] at this ⊢
          exact this
        rw [e2]
        exact j2
    refine ⟨fun v => if v = a then b else F (nx n A D v a) v, ⟨fun v hv => ?_, fun u v hu hv he => ?_, fun w hw => ?_, fun u v hu hv => ?_⟩, by simp⟩
    · by_cases hva : v = a
      · simp only [hva, if_true]; exact br_self h' hb hg
      · simp only [hva, if_false]; exact (into2 v hv hva).1
    · by_cases hua : u = a <;> by_cases hva : v = a
      · exact hua.trans hva.symm
      · simp only [hua, if_true, hva, if_false] at he; exact absurd he.symm (into2 v hv hva).2.1
      · simp only [hva, if_true, hua, if_false] at he; exact absurd he (into2 u hu hua).2.1
      · simp only [hua, hva, if_false] at he
        have e1 := (into2 u hu hua).2.2
        have e2 := (into2 v hv hva).2.2
        rw [he] at e1
        have e3 := g2 _ _ (nxt u hu hua).1 (nxt v hv hva).1 (e1.symm.trans e2)
        rw [e3] at he
        have hu2 := (nxt u hu hua).2
        rw [e3] at hu2
        exact ((hF _ (nxt v hv hva).1).1).inj u v hu2 (nxt v hv hva).2 he
    · by_cases hwb : w = b
      · exact ⟨a, br_self h ha hf, by simp [hwb]⟩
      · obtain ⟨m1, m2⟩ := br_next h' hb hw hwb
        obtain ⟨i, i1, i2⟩ := g3 _ m1
        rw [← i2] at m2
        obtain ⟨v, v1, v2⟩ := (hF i i1).1.sur w m2
        obtain ⟨v3, v4, v5⟩ := br_of h ha hf i1 v1
        refine ⟨v, v3, ?_⟩
        simp only [v4, if_false, v5]
        exact v2
    · by_cases hua : u = a <;> by_cases hva : v = a
      · simp only [hua, hva, if_true]; rw [irr h ha, irr h' hb]
      · simp only [hua, if_true, hva, if_false]; exact root v hv hva
      · simp only [hva, if_true, hua, if_false]; rw [h'.com, h.com]; exact root u hu hua
      · simp only [hua, hva, if_false]
        obtain ⟨n1, n2⟩ := nxt u hu hua
        obtain ⟨n3, n4⟩ := nxt v hv hva
        by_cases he : nx n A D u a = nx n A D v a
        · rw [he] at n1 n2 ⊢
          exact ((hF _ n1).1).line u v n2 n4
        · -- from branch to branch there is no line
          obtain ⟨m1, m2, m3⟩ := mem_kids.1 n1
          obtain ⟨j1, j2, j3⟩ := mem_kids.1 (g1 _ n1).1
          have x1 : A u v = false := by
            cases hb2 : A u v
            · rfl
            · refine absurd (br_line h ha m1 m2 n2 hv.1 ?_ hb2) hva
              have o := h.one v a _ hv.1 ha m1 m2
              rcases o with o | o
              · exfalso
                exact he (nx_only h ha hv.1 (Ne.symm hva) m1 m2 o).symm.symm
              · rw [h.sym a v ha hv.1, h.sym _ v m1 hv.1]; omega
          have hv2 := into2 v hv hva
          have x2 : A' (F (nx n A D u a) u) (F (nx n A D v a) v) = false := by
            cases hb2 : A' (F (nx n A D u a) u) (F (nx n A D v a) v)
            · rfl
            · refine absurd (br_line h' hb j1 j2 (into u hu hua) hv2.1.1 ?_ hb2) hv2.2.1
              have o := h'.one _ b _ hv2.1.1 hb j1 j2
              rcases o with o | o
              · exfalso
                have e1 := nx_only h' hb hv2.1.1 (Ne.symm hv2.2.1) j1 j2 o
                rw [hv2.2.2] at e1
                exact he (g2 _ _ n1 n3 e1)
              · rw [h'.sym b _ hb hv2.1.1, h'.sym _ _ j1 hv2.1.1]; omega
          rw [x1, x2]
end
end Go.Proofs.YtojkjdccjomaaaaDoor.Nm

set_option linter.unusedSimpArgs false
set_option linter.unusedVariables false
namespace Go.Proofs.YtojkjdccjomaaaaDoor.Nm
open Tr (Met ecc ecc_ge ecc_at Mid)
open Co (nx nx_spec nx_only)

section
variable {n : Nat} {A A' : Nat → Nat → Bool} {D D' : Nat → Nat → Nat} {f : Nat → Nat}
/-! ### how long -/
instance (D : Nat → Nat → Nat) (n a fr v : Nat) : Decidable (Br D n a fr v) := inferInstanceAs (Decidable (_ ∧ _))
/-- the points of a branch -/
def brs (D : Nat → Nat → Nat) (n a fr : Nat) : List Nat := (List.range n).filter fun v => decide (Br D n a fr v)
theorem mem_brs {a fr v : Nat} : v ∈ brs D n a fr ↔ Br D n a fr v := by
  simp only [brs, List.mem_filter, List.mem_range, decide_eq_true_eq]
  exact ⟨fun h => h.2, fun h => ⟨h.1, h⟩⟩
theorem brs_nodup {a fr : Nat} : (brs D n a fr).Nodup := List.nodup_range.filter _
/-- lists of points that no two have in common -/
def tot (F : Nat → List Nat) : List Nat → Nat
  | [] => 0
  | i :: l => (F i).length + tot F l
theorem flat_nodup {F : Nat → List Nat} : ∀ {l : List Nat}, l.Nodup → (∀ i ∈ l, (F i).Nodup) → (∀ i j, i ∈ l → j ∈ l → i ≠ j → ∀ v ∈ F i, v ∉ F j) → (l.flatMap F).Nodup ∧ (l.flatMap F).length = tot F l
  | [], _, _, _ => ⟨by simp, rfl⟩
  | i :: l, hl, hF, hd => by
    obtain ⟨h1, h2⟩ := List.nodup_cons.1 hl
    obtain ⟨h3, h4⟩ := flat_nodup h2 (fun j hj => hF j (List.mem_cons_of_mem _ hj)) fun j k hj hk => hd j k (List.mem_cons_of_mem _ hj) (List.mem_cons_of_mem _ hk)
    rw [List.flatMap_cons]
    refine ⟨List.nodup_append.2 ⟨hF i List.mem_cons_self, h3, fun a ha b hb e => ?_⟩, by rw [List.length_append, h4]; rfl⟩
    subst e
    obtain ⟨j, hj, hj2⟩ := List.mem_flatMap.1 hb
    exact hd i j List.mem_cons_self (List.mem_cons_of_mem _ hj) (fun e => h1 (e ▸ hj)) a ha hj2
theorem brs_len (h : Met n A D) {a fr : Nat} (ha : a < n) (hf : fr < n → A a fr = true) : (brs D n a fr).length = 1 + tot (fun i => brs D n i a) (kids A n a fr) := by
  obtain ⟨h1, h2⟩ := flat_nodup (F := fun i => brs D n i a) (kids_nodup (A := A) (n := n) (a := a) (fr := fr)) (fun i _ => brs_nodup) fun i j hi hj hij v hv hv2 => by
    have e1 := (br_of h ha hf hi (mem_brs.1 hv)).2.2
    have e2 := (br_of h ha hf hj (mem_brs.1 hv2)).2.2
    exact hij (e1.symm.trans e2)
  have hp : (brs D n a fr).Perm (a :: (kids A n a fr).flatMap fun i => brs D n i a) := (List.perm_ext_iff_of_nodup brs_nodup (List.nodup_cons.2 ⟨fun hm => by
    obtain ⟨i, hi, hv⟩ := List.mem_flatMap.1 hm
    exact (br_of h ha hf hi (mem_brs.1 hv)).2.1 rfl, h1⟩)).2 fun v => by
    rw [mem_brs, List.mem_cons, List.mem_flatMap]
    constructor
    · intro hv
      by_cases hva : v = a
      · exact .inl hva
      · obtain ⟨n1, n2⟩ := br_next h ha hv hva
        exact .inr ⟨_, n1, mem_brs.2 n2⟩
    · rintro (rfl | ⟨i, hi, hv⟩)
      · exact br_self h ha hf
      · exact (br_of h ha hf hi (mem_brs.1 hv)).1
  rw [hp.length_eq, List.length_cons, h2]
  omega
theorem flat_len (p : Nat → Bool) : ∀ {l m : List (List Nat)}, l.Perm m → l.flatten.countP p = m.flatten.countP p := fun h => h.flatten.countP_eq p
/-- a name opens as many brackets as there are points, and is twice as long -/
theorem nm_len (h : Met n A D) : ∀ (k a fr : Nat), a < n → (fr < n → A a fr = true) → (∀ v, Br D n a fr v → D a v ≤ k) → (nm A n k a fr).length = 2 * (brs D n a fr).length ∧ (nm A n k a fr).countP (fun x => decide (x = 40)) = (brs D n a fr).length
  | 0, a, fr, ha, hf, hk => by
    have h1 : kids A n a fr = [] := by
      rw [List.eq_nil_iff_forall_not_mem]
      intro i hi
      obtain ⟨i1, i2, i3⟩ := mem_kids.1 hi
      have h2 := br_of h ha hf hi (br_self h i1 (fun _ => by rw [h.com]; exact i2))
      have h3 := hk i h2.1
      exact h2.2.1 ((h.zero a i ha i1).1 (by omega)).symm
    have h2 := brs_len h ha hf
    rw [h1] at h2
    rw [h2]
    exact ⟨rfl, rfl⟩
  | k + 1, a, fr, ha, hf, hk => by
    have ih : ∀ i ∈ kids A n a fr, (nm A n k i a).length = 2 * (brs D n i a).length ∧ (nm A n k i a).countP (fun x => decide (x = 40)) = (brs D n i a).length := fun i hi => by
      obtain ⟨i1, i2, i3⟩ := mem_kids.1 hi
      refine nm_len h k i a i1 (fun _ => by rw [h.com]; exact i2) fun v hv => ?_
      have := hk v (br_of h ha hf hi hv).1
      have := hv.2 ha
      omega
    have hsum : ∀ l : List Nat, (∀ i ∈ l, i ∈ kids A n a fr) → (l.map fun i => nm A n k i a).flatten.length = 2 * tot (fun i => brs D n i a) l ∧ (l.map fun i => nm A n k i a).flatten.countP (fun x => decide (x = 40)) = tot (fun i => brs D n i a) l := by
      intro l
      induction l with
      | nil => exact fun _ => ⟨rfl, rfl⟩
      | cons i l ihl =>
        intro hl
        obtain ⟨e1, e2⟩ := ihl fun j hj => hl j (List.mem_cons_of_mem _ hj)
        obtain ⟨e3, e4⟩ := ih i (hl i List.mem_cons_self)
        rw [List.map_cons, List.flatten_cons, List.length_append, List.countP_append]
        simp only [tot]
        omega
    obtain ⟨e1, e2⟩ := hsum (kids A n a fr) fun _ h => h
    have hp := srt_perm ((kids A n a fr).map fun i => nm A n k i a)
    have e3 : (nm A n (k + 1) a fr) = 40 :: ((srt ((kids A n a fr).map fun i => nm A n k i a)).flatten ++ [41]) := rfl
    rw [brs_len h ha hf, e3, List.length_cons, List.length_append, hp.flatten.length_eq, e1, List.countP_cons, List.countP_append, hp.flatten.countP_eq, e2]
    simp
    omega
/-! ### the middle -/
theorem alike_le (h : Met n A D) (h' : Met n A' D') (hf : ∀ v, v < n → f v < n) (hl : ∀ u v, u < n → v < n → A u v = true → A' (f u) (f v) = true) : ∀ (k u v : Nat), u < n → v < n → D u v = k → D' (f u) (f v) ≤ k
  | 0, u, v, hu, hv, hk => by
    have := (h.zero u v hu hv).1 hk
    subst this
    have := (h'.zero (f u) (f u) (hf u hu) (hf u hu)).2 rfl
    omega
  | k + 1, u, v, hu, hv, hk => by
    have hne : v ≠ u := fun e => by subst e; have := (h.zero v v hu hu).2 rfl; omega
    obtain ⟨w, w1, w2, w3⟩ := h.near u v hu hv hne
    have ih := alike_le h h' hf hl k u w hu w1 (by omega)
    have e1 := h'.beside (hf w w1) (hf v hv) (hl w v w1 hv (by rw [h.com]; exact w2))
    have t := h'.tri (f u) (f w) (f v) (hf u hu) (hf w w1) (hf v hv)
    omega
/-- as far as before -/
theorem alike_far (h : Met n A D) (h' : Met n A' D') (ha : Alike A A' (· < n) (· < n) f) {u v : Nat} (hu : u < n) (hv : v < n) : D' (f u) (f v) = D u v := by
  refine Nat.le_antisymm (alike_le h h' ha.to (fun u v hu hv huv => by rw [ha.line u v hu hv]; exact huv) _ u v hu hv rfl) ?_
  obtain ⟨g, hg⟩ : ∃ g : Nat → Nat, ∀ w, w < n → g w < n ∧ f (g w) = w := by
    have : ∀ w, ∃ x, w < n → x < n ∧ f x = w := fun w => by
      by_cases hw : w < n
      · obtain ⟨x, h1, h2⟩ := ha.sur w hw; exact ⟨x, fun _ => ⟨h1, h2⟩⟩
      · exact ⟨0, fun h => absurd h hw⟩
    exact Classical.axiomOfChoice this
  have hgf : ∀ x, x < n → g (f x) = x := fun x hx => ha.inj _ _ (hg _ (ha.to x hx)).1 hx (hg _ (ha.to x hx)).2
  have := alike_le h' h (f := g) (fun w hw => (hg w hw).1) (fun x y hx hy hxy => by
    rw [← ha.line _ _ (hg x hx).1 (hg y hy).1, (hg x hx).2, (hg y hy).2]; exact hxy) _ (f u) (f v) (ha.to u hu) (ha.to v hv) rfl
  rwa [hgf u hu, hgf v hv] at this
theorem alike_ecc (h : Met n A D) (h' : Met n A' D') (ha : Alike A A' (· < n) (· < n) f) {v : Nat} (hv : v < n) : ecc n D' (f v) = ecc n D v := by
  have hn : 0 < n := by omega
  refine Nat.le_antisymm ?_ ?_
  · obtain ⟨x, hx, e⟩ := ecc_at (D := D') hn (f v)
    obtain ⟨y, hy, rfl⟩ := ha.sur x hx
    rw [← e, alike_far h h' ha hv hy]
    exact ecc_ge hy
  · obtain ⟨x, hx, e⟩ := ecc_at (D := D) hn v
    rw [← e, ← alike_far h h' ha hv hx]
    exact ecc_ge (ha.to x hx)
/-- the middle goes to the middle -/
theorem alike_mid (h : Met n A D) (h' : Met n A' D') (ha : Alike A A' (· < n) (· < n) f) {m c : Nat} : c < n → (Mid n D m c ↔ Mid n D' m (f c)) := fun hc => by
  unfold Mid
  rw [alike_ecc h h' ha hc]
  constructor
  · rintro ⟨_, h2, h3⟩
    refine ⟨ha.to c hc, h2, fun w hw => ?_⟩
    obtain ⟨v, hv, rfl⟩ := ha.sur w hw
    rw [alike_ecc h h' ha hv]
    exact h3 v hv
  · rintro ⟨_, h2, h3⟩
    refine ⟨hc, h2, fun v hv => ?_⟩
    have := h3 (f v) (ha.to v hv)
    rwa [alike_ecc h h' ha hv] at this
end
end Go.Proofs.YtojkjdccjomaaaaDoor.Nm

set_option linter.unusedSimpArgs false
set_option linter.unusedVariables false
namespace Go.Proofs.YtojkjdccjomaaaaDoor.Tr
open Wa (nrow mem_nrow nrow_ok nrow_sym dist dist_zero dist_step dist_back dist_sym dist_tri)

/-- what is wrong: with the points and lines, then with their number, then with what hangs together -/
def tcode (n : Int) (ls : List Gr.Ln) : Int :=
  if Gr.code n ls ≠ 0 then Gr.code n ls else if (ls.length : Int) ≠ n - 1 then 7 else if ∀ i, i < n.toNat → 0 ≤ dist n.toNat (nrow n.toNat ls) 0 i then 0 else 7
theorem tree_con {n : Nat} {ls : List Gr.Ln} (h : ∀ i, i < n → 0 ≤ dist n (nrow n ls) 0 i) {a b : Nat} (ha : a < n) (hb : b < n) : 0 ≤ dist n (nrow n ls) a b := by
  have hR := nrow_ok n ls
  have h0 : 0 < n := by omega
  have e1 := h a ha
  have e2 := h b hb
  rw [← dist_sym hR (nrow_sym n ls) ha h0] at e1
  have r1 := (Wa.rch_iff hR ha).1 (show Wa.rch n (nrow n ls) a 0 = true by unfold Wa.rch; simpa using e1)
  have r2 := (Wa.rch_iff hR h0).1 (show Wa.rch n (nrow n ls) 0 b = true by unfold Wa.rch; simpa using e2)
  obtain ⟨i, hi⟩ := r1
  obtain ⟨j, hj⟩ := r2
  have := (Wa.rch_iff hR ha).2 ⟨i + j, Wa.wk_add hi hj⟩
  unfold Wa.rch at this
  simpa using this
theorem tcode_zero {n : Nat} {ls : List Gr.Ln} : tcode (n : Int) ls = 0 ↔ Gr.code (n : Int) ls = 0 ∧ Tree n ls := by
  unfold tcode
  rw [Int.toNat_natCast]
  by_cases h : Gr.code (n : Int) ls = 0
  · have h1 := (Gr.code_zero.1 h).1
    have hg := (Gr.code_zero.1 h).2.2.2
    rw [if_neg (by simpa using h)]
    by_cases hl : (ls.length : Int) ≠ (n : Int) - 1
    · rw [if_pos hl]
      constructor
      · intro e; omega
      · rintro ⟨_, ht⟩
        have := ht.len
        omega
    · rw [if_neg hl]
      by_cases hc : ∀ i, i < n → 0 ≤ dist n (nrow n ls) 0 i
      · rw [if_pos hc]
        exact ⟨fun _ => ⟨h, hg, by omega, fun a b ha hb => tree_con hc ha hb⟩, fun _ => rfl⟩
      · rw [if_neg hc]
        constructor
        · intro e; omega
        · rintro ⟨_, ht⟩
          exact absurd (fun i hi => ht.con 0 i (by omega) hi) hc
  · rw [if_pos (by simpa using h)]
    exact ⟨fun e => absurd e h, fun e => absurd e.1 h⟩

/-! ### the middle as a list -/
/-- the least of the first k, not above b -/
def mn (f : Nat → Nat) (b : Nat) : Nat → Nat
  | 0 => b
  | k + 1 => if f k < mn f b k then f k else mn f b k
theorem mn_le (f : Nat → Nat) (b : Nat) : ∀ k i, i < k → mn f b k ≤ f i
  | 0, i, h => by omega
  | k + 1, i, h => by
    unfold mn
    by_cases e : i = k
    · subst e; split <;> omega
    · have := mn_le f b k i (by omega)
      split <;> omega
theorem mn_top (f : Nat → Nat) (b : Nat) : ∀ k, mn f b k ≤ b
  | 0 => Nat.le_refl _
  | k + 1 => by
    have := mn_top f b k
    unfold mn
    split <;> omega
theorem mn_is (f : Nat → Nat) (b : Nat) : ∀ k, mn f b k = b ∨ ∃ i, i < k ∧ f i = mn f b k
  | 0 => .inl rfl
  | k + 1 => by
    unfold mn
    split
    · exact .inr ⟨k, by omega, rfl⟩
    · rcases mn_is f b k with h | ⟨i, hi, h⟩
      · exact .inl h
      · exact .inr ⟨i, by omega, h⟩
section
variable {n : Nat} {A : Nat → Nat → Bool} {D : Nat → Nat → Nat}
/-- how far the farthest is from the middle -/
def best (n : Nat) (D : Nat → Nat → Nat) : Nat := mn (ecc n D) n n
def midsTo (n : Nat) (D : Nat → Nat → Nat) (k : Nat) : List Nat := (List.range k).filter fun c => decide (ecc n D c = best n D)
def mids (n : Nat) (D : Nat → Nat → Nat) : List Nat := midsTo n D n
theorem midsTo_succ (k : Nat) : midsTo n D (k + 1) = if ecc n D k = best n D then midsTo n D k ++ [k] else midsTo n D k := by
  unfold midsTo
  rw [List.range_succ, List.filter_append]
  by_cases h : ecc n D k = best n D
  · rw [if_pos h]; simp [h]
  · rw [if_neg h]; simp [h]
/-- in a tree no point is n away -/
theorem Met.small (h : Met n A D) {a : Nat} (ha : a < n) : ∀ d b, b < n → D a b = d → ∃ l : List Nat, l.length = d + 1 ∧ l.Nodup ∧ (∀ x ∈ l, x < n ∧ D a x ≤ d)
  | 0, b, hb, hd => ⟨[a], rfl, by simp, fun x hx => by
      obtain rfl : x = a := by simpa using hx
      exact ⟨ha, by have := (h.zero x x ha ha).2 rfl; omega⟩⟩
  | d + 1, b, hb, hd => by
    have hne : b ≠ a := fun e => by subst e; have := (h.zero b b ha ha).2 rfl; omega
    obtain ⟨u, u1, u2, u3⟩ := h.near a b ha hb hne
    obtain ⟨l, l1, l2, l3⟩ := Met.small h ha d u u1 (by omega)
    refine ⟨b :: l, by simp [l1], List.nodup_cons.2 ⟨fun hm => by have := (l3 b hm).2; omega, l2⟩, fun x hx => ?_⟩
    rcases List.mem_cons.1 hx with rfl | hx
    · exact ⟨hb, by omega⟩
    · have := l3 x hx; exact ⟨this.1, by omega⟩
theorem Met.lt (h : Met n A D) {a b : Nat} (ha : a < n) (hb : b < n) : D a b < n := by
  obtain ⟨l, l1, l2, l3⟩ := h.small ha _ b hb rfl
  have : l.length ≤ (List.range n).length := List.Nodup.length_le_of_subset l2 fun x hx => List.mem_range.2 (l3 x hx).1
  rw [List.length_range] at this
  omega
theorem Met.ecc_lt (h : Met n A D) {a : Nat} (ha : a < n) : ecc n D a < n := by
  obtain ⟨x, hx, e⟩ := ecc_at (D := D) (n := n) (by omega) a
  rw [← e]
  exact h.lt ha hx
theorem Met.best_is (h : Met n A D) (hn : 0 < n) : ∃ c, c < n ∧ ecc n D c = best n D := by
  rcases mn_is (ecc n D) n n with e | ⟨c, hc, e⟩
  · have h1 := mn_le (ecc n D) n n 0 hn
    have h2 := h.ecc_lt hn
    omega
  · exact ⟨c, hc, e⟩
theorem best_le {v : Nat} (hv : v < n) : best n D ≤ ecc n D v := mn_le _ _ n v hv
theorem mem_mids {c : Nat} : c ∈ mids n D ↔ Mid n D (best n D) c := by
  unfold mids midsTo Mid
  rw [List.mem_filter, List.mem_range, decide_eq_true_eq]
  exact ⟨fun h => ⟨h.1, h.2, fun v hv => best_le hv⟩, fun h => ⟨h.1, h.2.1⟩⟩
theorem Mid.best {m c : Nat} (hm : Mid n D m c) (h : Met n A D) : m = best n D := by
  have h1 := best_le (D := D) hm.1
  obtain ⟨x, hx, e⟩ := h.best_is (by have := hm.1; omega)
  have h2 := hm.2.2 x hx
  have := hm.2.1
  omega
theorem Met.mids_pos (h : Met n A D) (hn : 0 < n) : 0 < (mids n D).length := by
  obtain ⟨c, hc, e⟩ := h.best_is hn
  exact List.length_pos_of_mem (mem_mids.2 ⟨hc, e, fun v hv => best_le hv⟩)
/-- one point, or two beside each other; how far the two ends are -/
theorem Met.mids_jordan (h : Met n A D) (hn : 0 < n) : (∃ c, mids n D = [c] ∧ mx (ecc n D) n = 2 * best n D) ∨ ∃ a b, mids n D = [a, b] ∧ a < n ∧ b < n ∧ A a b = true ∧ mx (ecc n D) n + 1 = 2 * best n D := by
  obtain ⟨m, c, hc, hj⟩ := h.jordan hn
  have hm := hc.best h
  subst hm
  have hnd : (mids n D).Nodup := List.nodup_range.filter _
  have hso : (mids n D).Pairwise (· < ·) := List.pairwise_lt_range.filter _
  rcases hj with ⟨h1, h2⟩ | ⟨c', hc', hne, hA, h1, h2⟩
  · refine .inl ⟨c, ?_, h2⟩
    have hp : (mids n D).Perm [c] := (List.perm_ext_iff_of_nodup hnd (by simp)).2 fun x => by
      rw [mem_mids]
      constructor
      · intro hx; rw [h1 x hx]; simp
      · intro hx; rw [show x = c by simpa using hx]; exact hc
    exact List.perm_singleton.1 hp
  · refine .inr ?_
    have key : ∀ a b, Mid n D (Tr.best n D) a → Mid n D (Tr.best n D) b → a < b → (∀ v, Mid n D (Tr.best n D) v → v = a ∨ v = b) → mids n D = [a, b] := by
      intro a b ha hb hab hall
      have hp : (mids n D).Perm [a, b] := (List.perm_ext_iff_of_nodup hnd (by simp; omega)).2 fun x => by
        rw [mem_mids]
        constructor
        · intro hx; rcases hall x hx with rfl | rfl <;> simp
        · intro hx
          rcases (show x = a ∨ x = b by simpa using hx) with rfl | rfl
          · exact ha
          · exact hb
      exact List.Perm.eq_of_pairwise (le := fun x y : Nat => x ≤ y) (fun a b _ _ h1 h2 => by omega) (hso.imp fun h => by omega) (by simp; omega) hp
    rcases Nat.lt_or_ge c c' with hl | hl
    · exact ⟨c, c', key c c' hc hc' hl h1, hc.1, hc'.1, hA, h2⟩
    · exact ⟨c', c, key c' c hc' hc (by omega) (fun v hv => (h1 v hv).symm), hc'.1, hc.1, by rw [h.com]; exact hA, h2⟩
end
end Go.Proofs.YtojkjdccjomaaaaDoor.Tr

namespace Go.Proofs.YtojkjdccjomaaaaDoor.Nm
open Tr

/-! ### the name of a whole tree -/
/-- the least of some texts -/
def least : List (List Nat) → List Nat
  | [] => []
  | x :: l => l.foldl (fun b s => if bf s b = true then s else b) x
theorem fold_least : ∀ (l : List (List Nat)) (x : List Nat), (l.foldl (fun b s => if bf s b = true then s else b) x = x ∨ l.foldl (fun b s => if bf s b = true then s else b) x ∈ l) ∧ le (l.foldl (fun b s => if bf s b = true then s else b) x) x = true ∧ ∀ y ∈ l, le (l.foldl (fun b s => if bf s b = true then s else b) x) y = true
  | [], x => ⟨.inl rfl, by unfold le; rw [List.foldl_nil, bf_irr]; rfl, fun y h => nomatch h⟩
  | s :: l, x => by
    rw [List.foldl_cons]
    by_cases h : bf s x = true
    · rw [if_pos h]
      obtain ⟨h1, h2, h3⟩ := fold_least l s
      have hsx : le s x = true := by unfold le; rw [bf_anti h]; rfl
      refine ⟨.inr ?_, le_trans h2 hsx, fun y hy => ?_⟩
      · rcases h1 with e | e
        · rw [e]; simp
        · exact List.mem_cons_of_mem _ e
      · rcases List.mem_cons.1 hy with rfl | hy
        · exact h2
        · exact h3 y hy
    · rw [if_neg h]
      obtain ⟨h1, h2, h3⟩ := fold_least l x
      have hxs : le x s = true := by unfold le; rw [Bool.eq_false_iff.2 h]; rfl
      refine ⟨h1.imp id (List.mem_cons_of_mem _), h2, fun y hy => ?_⟩
      rcases List.mem_cons.1 hy with rfl | hy
      · exact le_trans h2 hxs
      · exact h3 y hy
theorem least_mem {l : List (List Nat)} (h : 0 < l.length) : least l ∈ l := by
  cases l with
  | nil => simp at h
  | cons x l =>
    rcases (fold_least l x).1 with e | e
    · show l.foldl (fun b s => if bf s b = true then s else b) x ∈ x :: l
      rw [e]; simp
    · exact List.mem_cons_of_mem _ e
theorem least_le {l : List (List Nat)} {y : List Nat} (hy : y ∈ l) : le (least l) y = true := by
  cases l with
  | nil => simp at hy
  | cons x l =>
    rcases List.mem_cons.1 hy with rfl | hy
    · exact (fold_least l y).2.1
    · exact (fold_least l x).2.2 y hy
theorem least_same {l m : List (List Nat)} (hl : 0 < l.length) (h : ∀ x, x ∈ l ↔ x ∈ m) : least l = least m := by
  have hm : 0 < m.length := List.length_pos_of_mem ((h _).1 (least_mem hl))
  exact le_anti (least_le ((h _).2 (least_mem hm))) (least_le ((h _).1 (least_mem hl)))

section
variable {A A' : Nat → Nat → Bool} {n : Nat} {D D' : Nat → Nat → Nat}
/-- the whole tree's name -/
def wn (A : Nat → Nat → Bool) (n : Nat) (D : Nat → Nat → Nat) : List Nat := least ((mids n D).map fun c => nm A n n c n)
theorem br_all {a v : Nat} : Br D n a n v ↔ v < n := ⟨fun h => h.1, fun h => ⟨h, fun h => by omega⟩⟩
theorem wn_is (h : Met n A D) (hn : 0 < n) : ∃ c, Mid n D (best n D) c ∧ wn A n D = nm A n n c n := by
  have := least_mem (l := (mids n D).map fun c => nm A n n c n) (by rw [List.length_map]; exact h.mids_pos hn)
  obtain ⟨c, hc, e⟩ := List.mem_map.1 this
  exact ⟨c, mem_mids.1 hc, e.symm⟩
/-- two n signs, n of them open -/
theorem wn_len (h : Met n A D) (hn : 0 < n) : (wn A n D).length = 2 * n ∧ (wn A n D).countP (fun x => decide (x = 40)) = n := by
  obtain ⟨c, hc, e⟩ := wn_is h hn
  rw [e]
  obtain ⟨h1, h2⟩ := nm_len h n c n hc.1 (fun h => by omega) (fun v hv => Nat.le_of_lt (h.lt hc.1 hv.1))
  have hb : (brs D n c n).length = n := by
    have : brs D n c n = List.range n := by
      unfold brs
      exact List.filter_eq_self.2 fun v hv => by simpa using br_all.2 (List.mem_range.1 hv)
    rw [this, List.length_range]
  rw [hb] at h1 h2
  exact ⟨h1, h2⟩
/-- the same, however numbered -/
theorem wn_turn (h : Met n A D) (h' : Met n A' D') (hn : 0 < n) {f : Nat → Nat} (ha : Alike A A' (· < n) (· < n) f) : wn A n D = wn A' n D' := by
  have hbest : best n D = best n D' := by
    obtain ⟨c, hc, e⟩ := h.best_is hn
    have hm : Mid n D (best n D) c := ⟨hc, e, fun v hv => best_le hv⟩
    exact ((alike_mid h h' ha hc).1 hm).best h'
  have hnm : ∀ c, c < n → nm A n n c n = nm A' n n (f c) n := fun c hc => nm_turn ha.to ha.inj ha.sur ha.line n c n n hc (.inr ⟨Nat.le_refl _, Nat.le_refl _⟩)
  refine least_same (by rw [List.length_map]; exact h.mids_pos hn) fun x => ?_
  rw [List.mem_map, List.mem_map]
  constructor
  · rintro ⟨c, hc, rfl⟩
    have hm := mem_mids.1 hc
    exact ⟨f c, mem_mids.2 (by rw [← hbest]; exact (alike_mid h h' ha hm.1).1 hm), (hnm c hm.1).symm⟩
  · rintro ⟨c', hc', rfl⟩
    have hm := mem_mids.1 hc'
    obtain ⟨c, hc, rfl⟩ := ha.sur c' hm.1
    exact ⟨c, mem_mids.2 (by rw [hbest]; exact (alike_mid h h' ha hc).2 hm), hnm c hc⟩
/-- one name: one is the other renumbered -/
theorem wn_same (h : Met n A D) (h' : Met n A' D') (hn : 0 < n) : wn A n D = wn A' n D' ↔ ∃ f : Nat → Nat, Alike A A' (· < n) (· < n) f := by
  constructor
  · intro e
    obtain ⟨c, hc, e1⟩ := wn_is h hn
    obtain ⟨c', hc', e2⟩ := wn_is h' hn
    rw [e1, e2] at e
    obtain ⟨f, hf, _⟩ := alike h h' n c n c' n hc.1 hc'.1 (fun h => by omega) (fun h => by omega) (fun v hv => Nat.le_of_lt (h.lt hc.1 hv.1)) (fun v hv => Nat.le_of_lt (h'.lt hc'.1 hv.1)) e
    exact ⟨f, fun v hv => (hf.to v (br_all.2 hv)).1, fun u v hu hv => hf.inj u v (br_all.2 hu) (br_all.2 hv), fun w hw => by
      obtain ⟨v, hv, e⟩ := hf.sur w (br_all.2 hw)
      exact ⟨v, hv.1, e⟩, fun u v hu hv => hf.line u v (br_all.2 hu) (br_all.2 hv)⟩
  · rintro ⟨f, hf⟩
    exact wn_turn h h' hn hf

/-! ### the search for an order -/
/-- may k come next? -/
def okAt (A A' : Nat → Nat → Bool) (o : List Nat) (k : Nat) : Bool := !o.contains k && (List.range o.length).all fun j => A o.length j == A' k (o.getD j 0)
def fits (A A' : Nat → Nat → Bool) (n : Nat) : Nat → List Nat → Bool
  | 0, _ => true
  | f + 1, o => (List.range n).any fun k => okAt A A' o k && fits A A' n f (o ++ [k])
/-- an order that serves so far -/
structure Ord (A A' : Nat → Nat → Bool) (n : Nat) (o : List Nat) : Prop where
  nd : o.Nodup
  lt : ∀ x ∈ o, x < n
  line : ∀ i j, i < o.length → j < i → A i j = A' (o.getD i 0) (o.getD j 0)
theorem Ord.nil (A A' : Nat → Nat → Bool) (n : Nat) : Ord A A' n [] := ⟨by simp, by simp, fun i j h => by simp at h⟩
theorem getD_snoc_lt {o : List Nat} {k j : Nat} (hj : j < o.length) : (o ++ [k]).getD j 0 = o.getD j 0 := by simp [List.getD, List.getElem?_append, hj]
theorem getD_snoc_eq {o : List Nat} {k : Nat} : (o ++ [k]).getD o.length 0 = k := by simp [List.getD]
theorem ord_snoc {o : List Nat} {k : Nat} : Ord A A' n (o ++ [k]) ↔ Ord A A' n o ∧ k < n ∧ okAt A A' o k = true := by
  unfold okAt
  simp only [Bool.and_eq_true, Bool.not_eq_true', List.all_eq_true, List.mem_range, beq_iff_eq]
  constructor
  · intro h
    have hnd := List.nodup_append.1 h.nd
    refine ⟨⟨hnd.1, fun x hx => h.lt x (by simp [hx]), fun i j hi hj => ?_⟩, h.lt k (by simp), ?_, fun j hj => ?_⟩
    · have := h.line i j (by simp; omega) hj
      rwa [getD_snoc_lt hi, getD_snoc_lt (by omega)] at this
    · cases hc : o.contains k with
      | false => rfl
      | true => exact absurd rfl (hnd.2.2 k (by simpa using hc) k (by simp))
    · have := h.line o.length j (by simp) hj
      rwa [getD_snoc_eq, getD_snoc_lt hj] at this
  · rintro ⟨h, hk, h1, h2⟩
    refine ⟨List.nodup_append.2 ⟨h.nd, by simp, fun x hx y hy => ?_⟩, fun x hx => ?_, fun i j hi hj => ?_⟩
    · rw [show y = k by simpa using hy]
      intro e
      rw [e] at hx
      have : o.contains k = true := by simpa using hx
      rw [h1] at this
      cases this
    · rcases List.mem_append.1 hx with hx | hx
      · exact h.lt x hx
      · rw [show x = k by simpa using hx]; exact hk
    · have hi' : i < o.length + 1 := by simpa using hi
      by_cases e : i = o.length
      · subst e
        rw [getD_snoc_eq, getD_snoc_lt hj]
        exact h2 j hj
      · rw [getD_snoc_lt (by omega), getD_snoc_lt (by omega)]
        exact h.line i j (by omega) hj
/-- the search finds one just if there is one that goes on so -/
theorem fits_iff : ∀ (f : Nat) (o : List Nat), Ord A A' n o → (fits A A' n f o = true ↔ ∃ t : List Nat, t.length = f ∧ Ord A A' n (o ++ t))
  | 0, o, ho => ⟨fun _ => ⟨[], rfl, by simpa using ho⟩, fun _ => rfl⟩
  | f + 1, o, ho => by
    unfold fits
    simp only [List.any_eq_true, List.mem_range, Bool.and_eq_true]
    constructor
    · rintro ⟨k, hk, h1, h2⟩
      obtain ⟨t, ht, h3⟩ := (fits_iff f (o ++ [k]) (ord_snoc.2 ⟨ho, hk, h1⟩)).1 h2
      exact ⟨k :: t, by simp [ht], by simpa using h3⟩
    · rintro ⟨t, ht, h3⟩
      cases t with
      | nil => simp at ht
      | cons k t =>
        have h4 : Ord A A' n ((o ++ [k]) ++ t) := by simpa using h3
        have h5 : Ord A A' n (o ++ [k]) := by
          refine ⟨(List.nodup_append.1 h4.nd).1, fun x hx => h4.lt x (List.mem_append_left _ hx), fun i j hi hj => ?_⟩
          have := h4.line i j (by rw [List.length_append]; omega) hj
          have e : ∀ q, q < (o ++ [k]).length → ((o ++ [k]) ++ t).getD q 0 = (o ++ [k]).getD q 0 := fun q hq => by simp only [List.getD]; rw [List.getElem?_append_left hq]
          rwa [e i hi, e j (by omega)] at this
        obtain ⟨_, hk, h1⟩ := ord_snoc.1 h5
        exact ⟨k, hk, h1, (fits_iff f (o ++ [k]) h5).2 ⟨t, by simpa using ht, h4⟩⟩
/-- orders that serve are trees alike -/
theorem fits_alike (hc : ∀ a b, A a b = A b a) (hc' : ∀ a b, A' a b = A' b a) (hi : ∀ a, a < n → A a a = false) (hi' : ∀ a, a < n → A' a a = false) : fits A A' n n [] = true ↔ ∃ f : Nat → Nat, Alike A A' (· < n) (· < n) f := by
  rw [fits_iff n [] (Ord.nil A A' n)]
  constructor
  · rintro ⟨o, hl, ho⟩
    rw [List.nil_append] at ho
    have hat : ∀ i, i < n → o.getD i 0 ∈ o := fun i hi => by
      have : i < o.length := by omega
      simp [List.getD, this]
    have hall : ∀ x, x < n → x ∈ o := fun x hx => Tr.nodup_all ho.nd (fun x hx => List.mem_range.2 (ho.lt x hx)) (by rw [List.length_range]; omega) x (List.mem_range.2 hx)
    refine ⟨fun i => o.getD i 0, fun v hv => ho.lt _ (hat v hv), fun u v hu hv e => ?_, fun w hw => ?_, fun u v hu hv => ?_⟩
    · have hu' : u < o.length := by omega
      have hv' : v < o.length := by omega
      have e' : o[u] = o[v] := by
        have h1 : o.getD u 0 = o[u] := by simp [List.getD, hu']
        have h2 : o.getD v 0 = o[v] := by simp [List.getD, hv']
        rw [← h1, ← h2]; exact e
      rcases Nat.lt_trichotomy u v with h | h | h
      · exact absurd e' (List.pairwise_iff_getElem.1 (List.nodup_iff_pairwise_ne.1 ho.nd) u v hu' hv' h)
      · exact h
      · exact absurd e'.symm (List.pairwise_iff_getElem.1 (List.nodup_iff_pairwise_ne.1 ho.nd) v u hv' hu' h)
    · obtain ⟨i, hi, e⟩ := List.getElem_of_mem (hall w hw)
      exact ⟨i, by omega, by simp [List.getD, hi, e]⟩
    · show A' (o.getD u 0) (o.getD v 0) = A u v
      rcases Nat.lt_trichotomy u v with h | h | h
      · rw [hc', hc u v]; exact (ho.line v u (by omega) h).symm
      · subst h; rw [hi u hu, hi' _ (ho.lt _ (hat u hu))]
      · exact (ho.line u v (by omega) h).symm
  · rintro ⟨f, hf⟩
    refine ⟨(List.range n).map f, by simp, ?_⟩
    rw [List.nil_append]
    have hg : ∀ i, i < n → ((List.range n).map f).getD i 0 = f i := fun i hi => by simp [List.getD, hi]
    refine ⟨?_, fun x hx => ?_, fun i j hi hj => ?_⟩
    · rw [List.nodup_iff_pairwise_ne, List.pairwise_map]
      refine List.Pairwise.imp_of_mem ?_ (List.nodup_iff_pairwise_ne.1 (List.nodup_range (n := n)))
      intro x y hx hy hne e
      exact hne (hf.inj x y (List.mem_range.1 hx) (List.mem_range.1 hy) e)
    · obtain ⟨i, hi, rfl⟩ := List.mem_map.1 hx
      exact hf.to i (List.mem_range.1 hi)
    · have hi' : i < n := by simpa using hi
      rw [hg i hi', hg j (by omega)]
      exact (hf.line i j hi' (by omega)).symm
end
end Go.Proofs.YtojkjdccjomaaaaDoor.Nm

set_option linter.unusedSimpArgs false
set_option linter.unusedVariables false
namespace Go.Proofs.YtojkjdccjomaaaaDoor.Nm

/-! ### bytes -/
def u8 (x : List Nat) : List UInt8 := x.map UInt8.ofNat
/-- a text, as the program has it -/
def bs (x : List Nat) : ByteArray := ⟨(u8 x).toArray⟩
/-- each number is a byte -/
def Sm (x : List Nat) : Prop := ∀ b ∈ x, b < 256
theorem Sm.cons {a : Nat} {x : List Nat} (h : Sm (a :: x)) : a < 256 ∧ Sm x := ⟨h a List.mem_cons_self, fun b hb => h b (List.mem_cons_of_mem _ hb)⟩
theorem Sm.app {x y : List Nat} (h : Sm x) (h' : Sm y) : Sm (x ++ y) := fun b hb => (List.mem_append.1 hb).elim (h b) (h' b)
theorem Sm.flat {l : List (List Nat)} (h : ∀ x ∈ l, Sm x) : Sm l.flatten := fun b hb => by
  obtain ⟨x, hx, hb⟩ := List.mem_flatten.1 hb
  exact h x hx b hb
theorem Sm.wrap {l : List (List Nat)} (h : ∀ x ∈ l, Sm x) : Sm (wrap l) := fun b hb => by
  unfold Nm.wrap at hb
  rcases List.mem_cons.1 hb with rfl | hb
  · omega
  · rcases List.mem_append.1 hb with hb | hb
    · exact Sm.flat h b hb
    · obtain rfl : b = 41 := by simpa using hb
      omega
theorem Sm.at_ {x : List Nat} (h : Sm x) {k : Nat} (hk : k < x.length) : x.getD k 0 < 256 := h _ (by simp [List.getD, hk])
theorem u8_app (x y : List Nat) : u8 (x ++ y) = u8 x ++ u8 y := List.map_append
theorem u8_len (x : List Nat) : (u8 x).length = x.length := by simp [u8]
theorem bs_list (x : List Nat) : (bs x).data.toList = u8 x := by simp [bs]
theorem bs_toList (x : List Nat) : (bs x).toList = u8 x := ByteArray.toList_mk _
theorem bs_size (x : List Nat) : (bs x).size = x.length := by simp [bs, u8, ByteArray.size]
theorem bs_nil : bs [] = ⟨#[]⟩ := rfl
theorem bs_app (x y : List Nat) : bs x ++ bs y = bs (x ++ y) := by
  unfold bs
  rw [ByteArray.mk_append_mk, ← u8_app]
theorem bs_at (x : List Nat) {k : Nat} (hk : k < x.length) (h : k < (bs x).size) : ((bs x)[k]'h) = UInt8.ofNat (x.getD k 0) := by
  show ((u8 x).toArray)[k]'_ = _
  simp [u8, List.getD, hk]
theorem ofNat_inj {a b : Nat} (ha : a < 256) (hb : b < 256) : UInt8.ofNat a = UInt8.ofNat b ↔ a = b := by
  constructor
  · intro e
    have := congrArg UInt8.toNat e
    rwa [UInt8.toNat_ofNat_of_lt' ha, UInt8.toNat_ofNat_of_lt' hb] at this
  · rintro rfl; rfl
theorem ofNat_lt {a b : Nat} (ha : a < 256) (hb : b < 256) : UInt8.ofNat a < UInt8.ofNat b ↔ a < b := by
  rw [UInt8.lt_iff_toNat_lt, UInt8.toNat_ofNat_of_lt' ha, UInt8.toNat_ofNat_of_lt' hb]
theorem u8_inj : ∀ {x y : List Nat}, Sm x → Sm y → u8 x = u8 y → x = y
  | [], [], _, _, _ => rfl
  | [], _ :: _, _, _, h => by simp [u8] at h
  | _ :: _, [], _, _, h => by simp [u8] at h
  | a :: x, b :: y, hx, hy, h => by
    obtain ⟨h1, h2⟩ := List.cons.inj (show UInt8.ofNat a :: u8 x = UInt8.ofNat b :: u8 y from h)
    rw [(ofNat_inj hx.cons.1 hy.cons.1).1 h1, u8_inj hx.cons.2 hy.cons.2 h2]
theorem bs_inj {x y : List Nat} (hx : Sm x) (hy : Sm y) (h : bs x = bs y) : x = y := by
  refine u8_inj hx hy ?_
  rw [← bs_list, ← bs_list, h]
theorem lt_u8 : ∀ {x y : List Nat}, Sm x → Sm y → (u8 x < u8 y ↔ bf x y = true)
  | x, [], _, _ => by
    have : bf x [] = false := by cases x <;> rfl
    rw [this]
    simp [u8]
  | [], _ :: _, _, _ => by simp [u8, bf]
  | a :: x, b :: y, hx, hy => by
    show UInt8.ofNat a :: u8 x < UInt8.ofNat b :: u8 y ↔ _
    rw [List.cons_lt_cons_iff, lt_u8 hx.cons.2 hy.cons.2, ofNat_lt hx.cons.1 hy.cons.1, ofNat_inj hx.cons.1 hy.cons.1]
    simp [bf]
theorem le_u8 {x y : List Nat} (hx : Sm x) (hy : Sm y) : u8 x ≤ u8 y ↔ le x y = true := by
  show ¬ u8 y < u8 x ↔ _
  rw [lt_u8 hy hx]
  unfold le
  simp
/-- sorted, as the library does it -/
theorem sort_u8 {l : List (List Nat)} (h : ∀ x ∈ l, Sm x) : (l.map u8).mergeSort (fun x y => decide (x ≤ y)) = (srt l).map u8 := by
  unfold srt
  rw [List.map_mergeSort]
  intro a ha b hb
  rw [Bool.eq_iff_iff, decide_eq_true_iff]
  exact (le_u8 (h a ha) (h b hb)).symm
theorem join_u8 (l : List (List Nat)) : Lib.join ((l.map bs).map fun b => b.data.toList) [] = u8 l.flatten := by
  have h1 : ((l.map bs).map fun b => b.data.toList) = l.map u8 := by
    rw [List.map_map]
    exact List.map_congr_left fun x _ => bs_list x
  rw [h1]
  cases l with
  | nil => rfl
  | cons x r =>
    rw [List.map_cons, Lib.join_cons]
    unfold Lib.joinTail
    rw [List.flatten_cons, u8_app]
    congr 1
    have : ∀ r : List (List Nat), ((r.map u8).map fun y => [] ++ y).flatten = u8 r.flatten := fun r => by
      induction r with
      | nil => rfl
      | cons y r ih =>
        rw [List.map_cons, List.map_cons, List.flatten_cons, List.flatten_cons, u8_app, ← ih, List.nil_append]
    exact this r

/-! ### byte by byte -/
theorem drop_at {x : List Nat} {k : Nat} (hk : k < x.length) : x.drop k = x.getD k 0 :: x.drop (k + 1) := by
  rw [List.drop_eq_getElem_cons hk]
  simp [List.getD, hk]
theorem bf_go {x y : List Nat} {k : Nat} (hx : k < x.length) (hy : k < y.length) (e : x.getD k 0 = y.getD k 0) : bf (x.drop k) (y.drop k) = bf (x.drop (k + 1)) (y.drop (k + 1)) := by
  rw [drop_at hx, drop_at hy]
  generalize x.getD k 0 = p at *
  subst e
  simp [bf]
theorem bf_cut {x y : List Nat} {k : Nat} (hx : k < x.length) (hy : k < y.length) (e : x.getD k 0 ≠ y.getD k 0) : bf (x.drop k) (y.drop k) = decide (x.getD k 0 < y.getD k 0) := by
  rw [drop_at hx, drop_at hy]
  generalize x.getD k 0 = p at *
  generalize y.getD k 0 = q at *
  simp [bf, e]
theorem bf_end {x y : List Nat} {k : Nat} (hx : k ≤ x.length) (hy : k ≤ y.length) (e : k = x.length ∨ k = y.length) : bf (x.drop k) (y.drop k) = decide (x.length < y.length) := by
  by_cases h : k = y.length
  · subst h
    rw [List.drop_length]
    have : bf (x.drop y.length) [] = false := by cases x.drop y.length <;> rfl
    rw [this]
    have : ¬ x.length < y.length := by omega
    simp [this]
  · have hkx : k = x.length := e.resolve_right h
    subst hkx
    have hl : x.length < y.length := by omega
    rw [List.drop_length, drop_at hl]
    simp [bf, hl]

/-! ### the least of some texts -/
theorem least_one (x : List Nat) : least [x] = x := rfl
theorem least_snoc {l : List (List Nat)} (h : 0 < l.length) (y : List Nat) : least (l ++ [y]) = if bf y (least l) = true then y else least l := by
  cases l with
  | nil => simp at h
  | cons x l =>
    show List.foldl _ x (l ++ [y]) = if bf y (List.foldl _ x l) = true then y else List.foldl _ x l
    rw [List.foldl_append]
    rfl
theorem least_take {l : List (List Nat)} {k : Nat} (h0 : 0 < k) (hk : k < l.length) : least (l.take (k + 1)) = if bf (l.getD k []) (least (l.take k)) = true then l.getD k [] else least (l.take k) := by
  have e : l.take (k + 1) = l.take k ++ [l.getD k []] := by
    rw [List.take_succ_eq_append_getElem hk]
    simp [List.getD, hk]
  rw [e, least_snoc (by rw [List.length_take]; omega)]
theorem least_sm {l : List (List Nat)} (h : 0 < l.length) (hs : ∀ x ∈ l, Sm x) : Sm (least l) := hs _ (least_mem h)
theorem min_bs {x y : List Nat} (hx : Sm x) (hy : Sm y) : Lib.minS (bs x) (bs y) = bs (if bf y x = true then y else x) := by
  unfold Lib.minS
  rw [bs_list, bs_list]
  by_cases h : bf y x = true
  · have h1 : ¬ (u8 x < u8 y ∨ u8 x = u8 y) := by
      rintro (e | e)
      · rw [bf_anti ((lt_u8 hx hy).1 e)] at h
        cases h
      · rw [u8_inj hx hy e, bf_irr] at h
        cases h
    rw [if_neg h1, if_pos h]
  · have h1 : u8 x < u8 y ∨ u8 x = u8 y := by
      cases e : bf x y
      · exact .inr (by rw [bf_total e (Bool.eq_false_iff.2 h)])
      · exact .inl ((lt_u8 hx hy).2 e)
    rw [if_pos h1, if_neg h]

/-! ### the least chosen again and again -/
/-- those that are not used -/
def rst (zs : List (List Nat)) (u : List Bool) : List (List Nat) := ((List.range zs.length).filter fun i => !u.getD i false).map fun i => zs.getD i []
/-- what holds behind some choices -/
structure Sel (zs : List (List Nat)) (u : List Bool) (o : List (List Nat)) : Prop where
  len : u.length = zs.length
  srt : o.Pairwise fun x y => le x y = true
  low : ∀ i, i < zs.length → u.getD i false = false → ∀ x ∈ o, le x (zs.getD i []) = true
  perm : (o ++ rst zs u).Perm zs
theorem all_at (zs : List (List Nat)) : ((List.range zs.length).map fun i => zs.getD i []) = zs := by
  refine List.ext_getElem (by simp) fun i h1 h2 => ?_
  simp [List.getD, h2]
theorem Sel.start (zs : List (List Nat)) : Sel zs (List.replicate zs.length false) [] := by
  refine ⟨by simp, List.Pairwise.nil, fun i _ _ x hx => absurd hx (by simp), ?_⟩
  have e : (List.range zs.length).filter (fun i => !(List.replicate zs.length false).getD i false) = List.range zs.length := List.filter_eq_self.2 fun i hi => by
    have := List.mem_range.1 hi
    simp [List.getD, this]
  unfold rst
  rw [e, all_at]
  exact List.Perm.refl _
theorem Sel.take {zs : List (List Nat)} {u : List Bool} {o : List (List Nat)} (h : Sel zs u o) {i : Nat} (hi : i < zs.length) (hu : u.getD i false = false) (hm : ∀ j, j < zs.length → u.getD j false = false → le (zs.getD i []) (zs.getD j []) = true) : Sel zs (u.set i true) (o ++ [zs.getD i []]) := by
  have hil : i < u.length := by rw [h.len]; exact hi
  refine ⟨by rw [List.length_set]; exact h.len, ?_, fun j hj hju x hx => ?_, ?_⟩
  · rw [List.pairwise_append]
    refine ⟨h.srt, by simp, fun a ha b hb => ?_⟩
    obtain rfl : b = zs.getD i [] := by simpa using hb
    exact h.low i hi hu a ha
  · rw [Ri.set_at _ _ _ hil] at hju
    have hju' : u.getD j false = false := by
      cases e : u.getD j false
      · rfl
      · rw [e] at hju; simp at hju
    rcases List.mem_append.1 hx with hx | hx
    · exact h.low j hj hju' x hx
    · obtain rfl : x = zs.getD i [] := by simpa using hx
      exact hm j hj hju'
  · have e : (List.range zs.length).filter (fun j => !(u.set i true).getD j false) = (List.range zs.length).filter fun j => (!u.getD j false) && !decide (j = i) := List.filter_congr fun j _ => by
      rw [Ri.set_at _ _ _ hil, Bool.not_or]
    have hp := (Ri.filter_but (p := fun j => !u.getD j false) (i := i) (by simpa using hu) (l := List.range zs.length) List.nodup_range (List.mem_range.2 hi)).map fun j => zs.getD j []
    have h2 := h.perm
    unfold rst at h2 ⊢
    rw [e, List.append_assoc]
    refine List.Perm.trans ?_ h2
    exact (hp.symm.append_left o)
theorem Sel.count {zs : List (List Nat)} {u : List Bool} {o : List (List Nat)} (h : Sel zs u o) : o.length + (rst zs u).length = zs.length := by
  have := h.perm.length_eq
  rwa [List.length_append] at this
/-- one is left -/
theorem Sel.more {zs : List (List Nat)} {u : List Bool} {o : List (List Nat)} (h : Sel zs u o) (hl : o.length < zs.length) : ∃ i, i < zs.length ∧ u.getD i false = false := by
  have hc := h.count
  have : 0 < (rst zs u).length := by omega
  unfold rst at this
  rw [List.length_map] at this
  obtain ⟨i, hi⟩ := List.exists_mem_of_length_pos this
  obtain ⟨h1, h2⟩ := List.mem_filter.1 hi
  exact ⟨i, List.mem_range.1 h1, by simpa using h2⟩
theorem Sel.done {zs : List (List Nat)} {u : List Bool} {o : List (List Nat)} (h : Sel zs u o) (hl : o.length = zs.length) : o = Nm.srt zs := by
  have hc := h.count
  have e : rst zs u = [] := List.eq_nil_of_length_eq_zero (by omega)
  have := h.perm
  rw [e, List.append_nil] at this
  exact srt_eq this h.srt

/-- the least so far of those that are not used -/
def Lst (zs : List (List Nat)) (u : List Bool) (i : Nat) (b : Int) : Prop :=
  (b = -1 ∧ ∀ j, j < i → u.getD j false = true) ∨ ∃ p : Nat, b = (p : Int) ∧ p < i ∧ u.getD p false = false ∧ ∀ j, j < i → u.getD j false = false → le (zs.getD p []) (zs.getD j []) = true
theorem le_refl (x : List Nat) : le x x = true := by unfold le; rw [bf_irr]; rfl
theorem Lst.start (zs : List (List Nat)) (u : List Bool) : Lst zs u 0 (-1) := .inl ⟨rfl, fun j hj => absurd hj (Nat.not_lt_zero _)⟩
theorem Lst.skip {zs : List (List Nat)} {u : List Bool} {i : Nat} {b : Int} (h : Lst zs u i b) (hi : u.getD i false = true) : Lst zs u (i + 1) b := by
  rcases h with ⟨e, h⟩ | ⟨p, e, hp, h1, h2⟩
  · refine .inl ⟨e, fun j hj => ?_⟩
    by_cases ej : j = i
    · rw [ej]; exact hi
    · exact h j (by omega)
  · refine .inr ⟨p, e, by omega, h1, fun j hj hu => ?_⟩
    by_cases ej : j = i
    · rw [ej, hi] at hu; cases hu
    · exact h2 j (by omega) hu
theorem Lst.first {zs : List (List Nat)} {u : List Bool} {i : Nat} (h : Lst zs u i (-1)) (hi : u.getD i false = false) : Lst zs u (i + 1) (i : Int) := by
  rcases h with ⟨_, h⟩ | ⟨p, e, _⟩
  · refine .inr ⟨i, rfl, by omega, hi, fun j hj hu => ?_⟩
    by_cases ej : j = i
    · rw [ej]; exact le_refl _
    · rw [h j (by omega)] at hu; cases hu
  · omega
theorem Lst.less {zs : List (List Nat)} {u : List Bool} {i p : Nat} (h : Lst zs u i (p : Int)) (hi : u.getD i false = false) (hl : bf (zs.getD i []) (zs.getD p []) = true) : Lst zs u (i + 1) (i : Int) := by
  rcases h with ⟨e, _⟩ | ⟨q, e, hq, h1, h2⟩
  · omega
  · obtain rfl : p = q := by omega
    refine .inr ⟨i, rfl, by omega, hi, fun j hj hu => ?_⟩
    by_cases ej : j = i
    · rw [ej]; exact le_refl _
    · exact le_trans (by unfold le; rw [bf_anti hl]; rfl) (h2 j (by omega) hu)
theorem Lst.keep {zs : List (List Nat)} {u : List Bool} {i p : Nat} (h : Lst zs u i (p : Int)) (hl : bf (zs.getD i []) (zs.getD p []) = false) : Lst zs u (i + 1) (p : Int) := by
  rcases h with ⟨e, _⟩ | ⟨q, e, hq, h1, h2⟩
  · omega
  · obtain rfl : p = q := by omega
    refine .inr ⟨p, rfl, by omega, h1, fun j hj hu => ?_⟩
    by_cases ej : j = i
    · rw [ej]; unfold le; rw [hl]; rfl
    · exact h2 j (by omega) hu
theorem Lst.end_ {zs : List (List Nat)} {u : List Bool} {o : List (List Nat)} {b : Int} (h : Lst zs u zs.length b) (hI : Sel zs u o) (hl : o.length < zs.length) : ∃ p : Nat, b = (p : Int) ∧ p < zs.length ∧ u.getD p false = false ∧ ∀ j, j < zs.length → u.getD j false = false → le (zs.getD p []) (zs.getD j []) = true := by
  rcases h with ⟨_, h⟩ | h
  · obtain ⟨i, hi, hu⟩ := hI.more hl
    rw [h i hi] at hu
    cases hu
  · exact h

/-! ### names are texts of two signs -/
theorem nm_sm {A : Nat → Nat → Bool} {n : Nat} : ∀ (k a fr : Nat), Sm (nm A n k a fr)
  | 0, _, _ => Sm.wrap fun _ h => nomatch h
  | k + 1, a, fr => Sm.wrap fun x hx => by
    obtain ⟨i, _, rfl⟩ := List.mem_map.1 ((srt_perm _).mem_iff.1 hx)
    exact nm_sm k i a
theorem bs_wrap (l : List (List Nat)) : bs (wrap l) = (⟨#[40]⟩ ++ bs l.flatten) ++ ⟨#[41]⟩ := by
  have h1 : (⟨#[40]⟩ : ByteArray) = bs [40] := rfl
  have h2 : (⟨#[41]⟩ : ByteArray) = bs [41] := rfl
  rw [h1, h2, bs_app, bs_app]
  rfl
end Go.Proofs.YtojkjdccjomaaaaDoor.Nm

set_option linter.unusedSimpArgs false
set_option linter.unusedVariables false
namespace Go.Proofs.YtojkjdccjomaaaaDoor.Tr
open Wa (nrow mem_nrow nrow_ok nrow_sym dist dists dists_at dist_zero)

section
variable {m : Nat} {ls : List Gr.Ln}
/-! ### what is wrong -/
theorem lab_first {v : Nat} (hv : v < m) : Wa.lab m (nrow m ls) m v ≤ 0 ↔ 0 ≤ dist m (nrow m ls) 0 v := by
  obtain ⟨u, hu, _, hr, hm⟩ := Wa.lab_spec (nrow_ok m ls) hv
  have hrch : ∀ t, Wa.rch m (nrow m ls) t v = true ↔ 0 ≤ dist m (nrow m ls) t v := fun t => by unfold Wa.rch; simp
  rw [hu, ← hrch]
  constructor
  · intro h
    obtain rfl : u = 0 := by omega
    exact hr
  · intro h
    rcases Nat.eq_zero_or_pos u with e | e
    · omega
    · rw [hm 0 e] at h; cases h
theorem tcode_bad {n : Int} (h : Gr.code n ls ≠ 0) : tcode n ls = Gr.code n ls := by unfold tcode; rw [if_pos h]
theorem tcode_len {n : Int} (h : Gr.code n ls = 0) (hl : (ls.length : Int) ≠ n - 1) : tcode n ls = 7 := by unfold tcode; rw [if_neg (by simpa using h), if_pos hl]
theorem tcode_max (h : Gr.code (m : Int) ls = 0) (hl : (ls.length : Int) = (m : Int) - 1) {d : Int} (h1 : ∃ i, i < m ∧ (Wa.labs m (nrow m ls) m).getD i 0 = d) (h2 : ∀ i, i < m → (Wa.labs m (nrow m ls) m).getD i 0 ≤ d) : tcode (m : Int) ls = if 0 < d then 7 else 0 := by
  unfold tcode
  rw [if_neg (by simpa using h), if_neg (by simpa using hl), Int.toNat_natCast]
  by_cases hd : 0 < d
  · rw [if_pos hd, if_neg]
    intro hall
    obtain ⟨i, hi, e⟩ := h1
    rw [Wa.labs_at _ _ hi] at e
    have := (lab_first hi).2 (hall i hi)
    omega
  · rw [if_neg hd, if_pos]
    intro i hi
    have := h2 i hi
    rw [Wa.labs_at _ _ hi] at this
    exact (lab_first hi).1 (by omega)
theorem tcode_far (h : Gr.code (m : Int) ls = 0) (hl : (ls.length : Int) = (m : Int) - 1) : tcode (m : Int) ls = if ∀ i, i < m → 0 ≤ dist m (nrow m ls) 0 i then 0 else 7 := by
  unfold tcode
  rw [if_neg (by simpa using h), if_neg (by simpa using hl), Int.toNat_natCast]
theorem tcode_cases (n : Int) (ls : List Gr.Ln) : (∃ m : Nat, n = (m : Int) ∧ tcode n ls = 0 ∧ Gr.code (m : Int) ls = 0 ∧ Tree m ls) ∨ tcode n ls ≠ 0 := by
  by_cases h : tcode n ls = 0
  · refine .inl ?_
    have hc : Gr.code n ls = 0 := by
      by_cases hc : Gr.code n ls = 0
      · exact hc
      · rw [tcode_bad hc] at h; exact absurd h hc
    have h1 := (Gr.code_zero.1 hc).1
    obtain ⟨m, rfl⟩ : ∃ m : Nat, n = (m : Int) := ⟨n.toNat, by omega⟩
    exact ⟨m, rfl, h, hc, (tcode_zero.1 h).2⟩
  · exact .inr h

/-! ### how far the farthest is -/
theorem max_ecc (h : Tree m ls) {a : Nat} (ha : a < m) {d : Int} (h1 : ∃ i, i < m ∧ (dists m (nrow m ls) a).getD i 0 = d) (h2 : ∀ i, i < m → (dists m (nrow m ls) a).getD i 0 ≤ d) : d = ((ecc m (far m ls) a : Nat) : Int) := by
  have hf : ∀ i, i < m → (dists m (nrow m ls) a).getD i 0 = (far m ls a i : Int) := fun i hi => by
    rw [dists_at _ _ hi]
    have := h.con a i ha hi
    unfold far
    omega
  obtain ⟨i, hi, e⟩ := h1
  rw [hf i hi] at e
  obtain ⟨x, hx, e2⟩ := ecc_at (D := far m ls) (n := m) (by omega) a
  have h3 := h2 x hx
  rw [hf x hx] at h3
  have h4 := ecc_ge (D := far m ls) (v := a) hi
  omega
/-- that of each point -/
def eccs (m : Nat) (ls : List Gr.Ln) : List Int := (List.range m).map fun v : Nat => ((ecc m (far m ls) v : Nat) : Int)
theorem eccs_len (m : Nat) (ls : List Gr.Ln) : (eccs m ls).length = m := by simp [eccs]
theorem eccs_at (ls : List Gr.Ln) {v : Nat} (hv : v < m) : (eccs m ls).getD v 0 = ((ecc m (far m ls) v : Nat) : Int) := by simp [eccs, List.getD, hv]
theorem min_best (h : Tree m ls) {d : Int} (h1 : ∃ i, i < m ∧ (eccs m ls).getD i 0 = d) (h2 : ∀ i, i < m → d ≤ (eccs m ls).getD i 0) : d = ((best m (far m ls) : Nat) : Int) := by
  obtain ⟨i, hi, e⟩ := h1
  rw [eccs_at ls hi] at e
  obtain ⟨c, hc, e2⟩ := h.met.best_is (by omega)
  have h3 := h2 c hc
  rw [eccs_at ls hc] at h3
  have h4 := best_le (D := far m ls) hi
  omega
theorem max_long {d : Int} (hm : 0 < m) (h1 : ∃ i, i < m ∧ (eccs m ls).getD i 0 = d) (h2 : ∀ i, i < m → (eccs m ls).getD i 0 ≤ d) : d = ((mx (ecc m (far m ls)) m : Nat) : Int) := by
  obtain ⟨i, hi, e⟩ := h1
  rw [eccs_at ls hi] at e
  obtain ⟨x, hx, e2⟩ := mx_at (ecc m (far m ls)) m hm
  have h3 := h2 x hx
  rw [eccs_at ls hx] at h3
  have h4 := mx_ge (ecc m (far m ls)) m i hi
  omega

/-! ### the middle, as integers -/
def midI (m : Nat) (ls : List Gr.Ln) (k : Nat) : List Int := (midsTo m (far m ls) k).map fun c : Nat => (c : Int)
theorem midI_zero (m : Nat) (ls : List Gr.Ln) : midI m ls 0 = [] := rfl
theorem midI_yes {k : Nat} (h : ecc m (far m ls) k = best m (far m ls)) : midI m ls (k + 1) = midI m ls k ++ [(k : Int)] := by
  unfold midI
  rw [midsTo_succ, if_pos h, List.map_append]
  rfl
theorem midI_no {k : Nat} (h : ecc m (far m ls) k ≠ best m (far m ls)) : midI m ls (k + 1) = midI m ls k := by
  unfold midI
  rw [midsTo_succ, if_neg h]
theorem midI_len (m : Nat) (ls : List Gr.Ln) (k : Nat) : (midI m ls k).length ≤ k := by
  unfold midI midsTo
  rw [List.length_map]
  exact Nat.le_trans (List.length_filter_le _ _) (by rw [List.length_range]; exact Nat.le_refl _)
theorem mids_len (m : Nat) (ls : List Gr.Ln) : (mids m (far m ls)).length = (midI m ls m).length := by unfold midI mids; rw [List.length_map]
theorem midI_pos (h : Tree m ls) (hm : 0 < m) : 0 < (midI m ls m).length := by rw [← mids_len]; exact h.met.mids_pos hm
theorem midI_at (ls : List Gr.Ln) {k : Nat} (hk : k < (midI m ls m).length) : (midI m ls m).getD k 0 = (((mids m (far m ls)).getD k 0 : Nat) : Int) ∧ (mids m (far m ls)).getD k 0 < m := by
  have hk' : k < (mids m (far m ls)).length := by rw [mids_len]; exact hk
  refine ⟨by unfold midI; show (List.map _ (mids m (far m ls))).getD k 0 = _; simp [List.getD, hk'], ?_⟩
  have : (mids m (far m ls)).getD k 0 ∈ mids m (far m ls) := by
    have e : (mids m (far m ls)).getD k 0 = (mids m (far m ls))[k] := by simp [List.getD, hk']
    rw [e]
    exact List.getElem_mem hk'
  exact (mem_mids.1 this).1

/-! ### neighbours but for one -/
/-- from whom, as the program has it: -1 is none -/
def frI (m fr : Nat) : Int := if fr < m then (fr : Int) else -1
theorem frI_some {fr : Nat} (h : fr < m) : frI m fr = (fr : Int) := if_pos h
theorem frI_none (m : Nat) : frI m m = -1 := if_neg (by omega)
theorem frI_eq {fr i : Nat} (hi : i < m) : (i : Int) = frI m fr ↔ i = fr := by
  unfold frI
  by_cases h : fr < m
  · rw [if_pos h]; omega
  · rw [if_neg h]; omega
theorem kids_row (m : Nat) (ls : List Gr.Ln) (a fr : Nat) : ((Gr.row m ls a).filter fun x => !decide (x = frI m fr)) = (Nm.kids (ad ls) m a fr).map fun i : Nat => (i : Int) := by
  unfold Gr.row Nm.kids
  rw [List.filter_map, List.filter_filter]
  congr 1
  refine List.filter_congr fun i hi => ?_
  have h := frI_eq (fr := fr) (List.mem_range.1 hi)
  have e : decide ((i : Int) = frI m fr) = decide (i = fr) := by rw [Bool.eq_iff_iff, decide_eq_true_iff, decide_eq_true_iff]; exact h
  show (!decide ((i : Int) = frI m fr) && Gr.adj ls (a : Int) (i : Int)) = (ad ls a i && !decide (i = fr))
  rw [e, Bool.and_comm]
  rfl
/-- those below k -/
def kidsTo (A : Nat → Nat → Bool) (a fr k : Nat) : List Nat := (List.range k).filter fun i => A a i && !decide (i = fr)
theorem kidsTo_yes {A : Nat → Nat → Bool} {a fr k : Nat} (h1 : k ≠ fr) (h2 : A a k = true) : kidsTo A a fr (k + 1) = kidsTo A a fr k ++ [k] := by
  unfold kidsTo
  rw [List.range_succ, List.filter_append]
  simp [h1, h2]
theorem kidsTo_no {A : Nat → Nat → Bool} {a fr k : Nat} (h : ¬ (k ≠ fr ∧ A a k = true)) : kidsTo A a fr (k + 1) = kidsTo A a fr k := by
  unfold kidsTo
  rw [List.range_succ, List.filter_append]
  have : (A a k && !decide (k = fr)) = false := by
    cases h2 : A a k
    · simp
    · have : k = fr := Classical.byContradiction fun e => h ⟨e, h2⟩
      simp [this]
  simp [this]
theorem kidsTo_all (A : Nat → Nat → Bool) (n a fr : Nat) : kidsTo A a fr n = Nm.kids A n a fr := rfl
theorem kids_len (A : Nat → Nat → Bool) (n a fr : Nat) : (Nm.kids A n a fr).length ≤ n := by
  unfold Nm.kids
  exact Nat.le_trans (List.length_filter_le _ _) (by rw [List.length_range]; exact Nat.le_refl _)
end
end Go.Proofs.YtojkjdccjomaaaaDoor.Tr

namespace Go.Proofs.YtojkjdccjomaaaaDoor.Nm
open Tr (Met far ad Tree mids ecc)
/-- the names below a point, many lines deep -/
def Deep (D : Nat → Nat → Nat) (n k a fr : Nat) : Prop := ∀ v, Br D n a fr v → D a v ≤ k
section
variable {A : Nat → Nat → Bool} {n : Nat} {D : Nat → Nat → Nat}
theorem deep_kid (h : Met n A D) {k a fr i : Nat} (ha : a < n) (hf : fr < n → A a fr = true) (hk : Deep D n (k + 1) a fr) (hi : i ∈ kids A n a fr) : i < n ∧ A i a = true ∧ Deep D n k i a := by
  obtain ⟨i1, i2, i3⟩ := mem_kids.1 hi
  refine ⟨i1, by rw [h.com]; exact i2, fun v hv => ?_⟩
  have := hk v (br_of h ha hf hi hv).1
  have := hv.2 ha
  omega
theorem deep_end (h : Met n A D) {a fr : Nat} (ha : a < n) (hf : fr < n → A a fr = true) (hk : Deep D n 0 a fr) : kids A n a fr = [] := by
  rw [List.eq_nil_iff_forall_not_mem]
  intro i hi
  obtain ⟨i1, i2, i3⟩ := mem_kids.1 hi
  have h2 := br_of h ha hf hi (br_self h i1 (fun _ => by rw [h.com]; exact i2))
  have h3 := hk i h2.1
  exact h2.2.1 ((h.zero a i ha i1).1 (by omega)).symm
theorem deep_all (h : Met n A D) {a : Nat} (ha : a < n) : Deep D n n a n := fun v hv => Nat.le_of_lt (h.lt ha hv.1)
/-- a name from those of its neighbours -/
theorem nm_up {k a fr : Nat} : nm A n (k + 1) a fr = wrap (srt ((kids A n a fr).map fun i => nm A n k i a)) := rfl
theorem nm_end (h : Met n A D) {a fr : Nat} (ha : a < n) (hf : fr < n → A a fr = true) (hk : Deep D n 0 a fr) (T : Nat → List Nat) : nm A n 0 a fr = wrap (srt ((kids A n a fr).map T)) := by
  rw [deep_end h ha hf hk, List.map_nil]
  unfold srt
  rw [List.mergeSort_nil]
  rfl
/-- no longer than twice the points -/
theorem nm_short (h : Met n A D) {k a fr : Nat} (ha : a < n) (hf : fr < n → A a fr = true) (hk : Deep D n k a fr) : (nm A n k a fr).length ≤ 2 * n := by
  have h1 := (nm_len h k a fr ha hf hk).1
  have h2 : (brs D n a fr).length ≤ n := by
    unfold brs
    exact Nat.le_trans (List.length_filter_le _ _) (by rw [List.length_range]; exact Nat.le_refl _)
  omega
theorem wn_sm (h : Met n A D) (hn : 0 < n) : Sm (wn A n D) := by
  obtain ⟨c, _, e⟩ := wn_is h hn
  rw [e]
  exact nm_sm _ _ _
end
end Go.Proofs.YtojkjdccjomaaaaDoor.Nm
