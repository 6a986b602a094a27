/-
  Plain facts on trees, with no program in them: joined by one line fewer than points, each line leads one step away from whatever point; the middle is one point or two beside each other, and the longest way is twice as far as it, or one less (Jordan); two ends at least. No statement of the program is proved here; there is no condition.
-/
import Derived.Test.YtoofpmajiphldaaDoorWalkM
import Derived.Test.YtoofpmajiphldaaDoorWalkF
set_option linter.unusedSimpArgs false
set_option linter.unusedVariables false
namespace Go.Proofs.YtoofpmajiphldaaDoor.Tr
open Wa (nrow mem_nrow nrow_ok nrow_sym dist dist_zero dist_step dist_back dist_sym dist_tri)

/-- a tree: joined, one line fewer than points -/
structure Tree (n : Nat) (ls : List Gr.Ln) : Prop where
  good : ∀ p ∈ ls, Gr.Good (n : Int) p
  len : ls.length + 1 = n
  con : ∀ a b, a < n → b < n → 0 ≤ dist n (nrow n ls) a b
/-- how far -/
def far (n : Nat) (ls : List Gr.Ln) (a b : Nat) : Nat := (dist n (nrow n ls) a b).toNat
def ad (ls : List Gr.Ln) (a b : Nat) : Bool := Gr.adj ls (a : Int) (b : Int)
theorem ad_comm (ls : List Gr.Ln) (a b : Nat) : ad ls a b = ad ls b a := Gr.adj_comm ls _ _

/-- lines that each lead one step away from whatever point -/
structure Met (n : Nat) (A : Nat → Nat → Bool) (D : Nat → Nat → Nat) : Prop where
  zero : ∀ a b, a < n → b < n → (D a b = 0 ↔ a = b)
  sym : ∀ a b, a < n → b < n → D a b = D b a
  tri : ∀ a b c, a < n → b < n → c < n → D a c ≤ D a b + D b c
  com : ∀ a b, A a b = A b a
  one : ∀ r a b, r < n → a < n → b < n → A a b = true → D r a = D r b + 1 ∨ D r b = D r a + 1
  near : ∀ r v, r < n → v < n → v ≠ r → ∃ u, u < n ∧ A v u = true ∧ D r v = D r u + 1
  only : ∀ r v u w, r < n → v < n → u < n → w < n → A v u = true → A v w = true → D r v = D r u + 1 → D r v = D r w + 1 → u = w

section
variable {n : Nat} {ls : List Gr.Ln}
theorem nodup_all {l m : List Nat} (hl : l.Nodup) (hs : ∀ x ∈ l, x ∈ m) (hlen : m.length ≤ l.length) : ∀ x ∈ m, x ∈ l := by
  intro x hx
  refine Classical.byContradiction fun hn => ?_
  have h1 : (x :: l).Nodup := List.nodup_cons.2 ⟨hn, hl⟩
  have := List.Nodup.length_le_of_subset h1 (l₂ := m) fun y hy => by
    rcases List.mem_cons.1 hy with rfl | hy
    · exact hx
    · exact hs y hy
  simp at this
  omega
/-- distances of a joined graph, as plain numbers -/
theorem far_zero (h : Tree n ls) {a b : Nat} (ha : a < n) (hb : b < n) : far n ls a b = 0 ↔ a = b := by
  have h0 := h.con a b ha hb
  have h1 := dist_zero (nrow_ok n ls) ha (v := b)
  unfold far
  constructor
  · intro e; exact (h1.1 (by omega)).symm
  · intro e; rw [h1.2 e.symm]; rfl
theorem far_sym (h : Tree n ls) {a b : Nat} (ha : a < n) (hb : b < n) : far n ls a b = far n ls b a := by
  unfold far; rw [dist_sym (nrow_ok n ls) (nrow_sym n ls) ha hb]
theorem far_tri (h : Tree n ls) {a b c : Nat} (ha : a < n) (hb : b < n) (hc : c < n) : far n ls a c ≤ far n ls a b + far n ls b c := by
  have h1 := h.con a b ha hb
  have h2 := h.con b c hb hc
  have := dist_tri (nrow_ok n ls) ha hb h1 h2
  unfold far
  omega
theorem far_step (h : Tree n ls) {r a b : Nat} (hr : r < n) (ha : a < n) (hb : b < n) (hab : ad ls a b = true) : far n ls r b ≤ far n ls r a + 1 := by
  have h1 := h.con r a hr ha
  have := dist_step (nrow_ok n ls) hr ha (mem_nrow.2 ⟨hb, hab⟩) h1
  unfold far
  omega
theorem far_back (h : Tree n ls) {r v : Nat} (hr : r < n) (hv : v < n) (hne : v ≠ r) : ∃ u, u < n ∧ ad ls v u = true ∧ far n ls r v = far n ls r u + 1 := by
  have h0 := h.con r v hr hv
  have h1 : ¬ dist n (nrow n ls) r v = 0 := fun e => hne ((dist_zero (nrow_ok n ls) hr).1 e)
  obtain ⟨u, hu, hm, e⟩ := dist_back (nrow_ok n ls) hr (i := v) (by omega)
  have hc := h.con r u hr hu
  refine ⟨u, hu, by rw [ad_comm]; exact (mem_nrow.1 hm).2, ?_⟩
  unfold far
  omega
/-- the line by which a point is nearer to r -/
theorem line_of (h : Tree n ls) {r v : Nat} (hr : r < n) (hv : v < n) (hne : v ≠ r) : ∃ k, k < ls.length ∧ ∃ u, u < n ∧ far n ls r v = far n ls r u + 1 ∧ (ls.getD k (0, 0) = ((v : Int), (u : Int)) ∨ ls.getD k (0, 0) = ((u : Int), (v : Int))) := by
  obtain ⟨u, hu, hA, e⟩ := far_back h hr hv hne
  rcases Gr.adj_iff.1 hA with hm | hm
  · obtain ⟨k, hk, ek⟩ := List.mem_iff_getElem.1 hm
    exact ⟨k, hk, u, hu, e, .inl (by rw [← ek]; simp [List.getD, hk])⟩
  · obtain ⟨k, hk, ek⟩ := List.mem_iff_getElem.1 hm
    exact ⟨k, hk, u, hu, e, .inr (by rw [← ek]; simp [List.getD, hk])⟩
/-- each line is one of those -/
theorem all_lines (h : Tree n ls) {r : Nat} (hr : r < n) : ∃ f : Nat → Nat, (∀ v, v < n → v ≠ r → f v < ls.length ∧ ∃ u, u < n ∧ far n ls r v = far n ls r u + 1 ∧ (ls.getD (f v) (0, 0) = ((v : Int), (u : Int)) ∨ ls.getD (f v) (0, 0) = ((u : Int), (v : Int)))) ∧
    ∀ k, k < ls.length → ∃ v, v < n ∧ v ≠ r ∧ f v = k := by
  have hex : ∀ v, ∃ k, v < n → v ≠ r → k < ls.length ∧ ∃ u, u < n ∧ far n ls r v = far n ls r u + 1 ∧ (ls.getD k (0, 0) = ((v : Int), (u : Int)) ∨ ls.getD k (0, 0) = ((u : Int), (v : Int))) := by
    intro v
    by_cases hc : v < n ∧ v ≠ r
    · obtain ⟨k, hk, hh⟩ := line_of h hr hc.1 hc.2
      exact ⟨k, fun _ _ => ⟨hk, hh⟩⟩
    · exact ⟨0, fun a b => absurd ⟨a, b⟩ hc⟩
  refine ⟨fun v => Classical.choose (hex v), fun v hv hne => Classical.choose_spec (hex v) hv hne, ?_⟩
  have hf := fun v => Classical.choose_spec (hex v)
  obtain ⟨f, hfe⟩ : ∃ f : Nat → Nat, f = fun v => Classical.choose (hex v) := ⟨_, rfl⟩
  have hf' : ∀ v, v < n → v ≠ r → f v < ls.length ∧ ∃ u, u < n ∧ far n ls r v = far n ls r u + 1 ∧ (ls.getD (f v) (0, 0) = ((v : Int), (u : Int)) ∨ ls.getD (f v) (0, 0) = ((u : Int), (v : Int))) := by rw [hfe]; exact hf
  rw [← hfe]
  have hinj : ∀ v w, v < n → v ≠ r → w < n → w ≠ r → f v = f w → v = w := by
    intro v w hv hvr hw hwr e
    obtain ⟨_, u, hu, e1, h1⟩ := hf' v hv hvr
    obtain ⟨_, x, hx, e2, h2⟩ := hf' w hw hwr
    rw [← e] at h2
    rcases h1 with h1 | h1 <;> rcases h2 with h2 | h2 <;> rw [h1] at h2
    · have := (Prod.mk.inj h2).1; omega
    · have a1 := (Prod.mk.inj h2).1
      have a2 := (Prod.mk.inj h2).2
      have b1 : v = x := by omega
      have b2 : u = w := by omega
      subst b1 b2
      omega
    · have a1 := (Prod.mk.inj h2).1
      have a2 := (Prod.mk.inj h2).2
      have b1 : u = w := by omega
      have b2 : v = x := by omega
      subst b1 b2
      omega
    · have := (Prod.mk.inj h2).2; omega
  have hnd : ((List.range n).filter fun v => !decide (v = r)).Nodup := List.Pairwise.filter _ (show List.Pairwise (· ≠ ·) (List.range n) from List.nodup_range)
  have hlen : ((List.range n).filter fun v => !decide (v = r)).length + 1 = n := by
    have h1 : (List.range n).countP (fun v => decide (v = r)) = 1 := by
      have : ∀ m, r < m → (List.range m).countP (fun v => decide (v = r)) = 1 := by
        intro m
        induction m with
        | zero => intro hm; omega
        | succ m ih =>
          intro hm
          rw [List.range_succ, List.countP_append, List.countP_singleton]
          by_cases e : m = r
          · subst e
            have : (List.range m).countP (fun v => decide (v = m)) = 0 := List.countP_eq_zero.2 fun x hx => by have := List.mem_range.1 hx; simp; omega
            rw [this]; simp
          · rw [ih (by omega)]; simp [e]
      exact this n hr
    have h2 := List.length_eq_countP_add_countP (fun v => decide (v = r)) (l := List.range n)
    rw [List.length_range, h1] at h2
    rw [← List.countP_eq_length_filter]
    have e : (List.range n).countP (fun v => !decide (v = r)) = (List.range n).countP (fun v => decide ¬ (decide (v = r) = true)) := List.countP_congr fun x _ => by simp
    rw [e]
    omega
  intro k hk
  have hmap : (((List.range n).filter fun v => !decide (v = r)).map f).Nodup := by
    show List.Pairwise (· ≠ ·) _
    rw [List.pairwise_map]
    refine List.Pairwise.imp_of_mem (fun {a b} ha hb hab e => ?_) hnd
    have a1 := List.mem_filter.1 ha
    have b1 := List.mem_filter.1 hb
    exact hab (hinj a b (List.mem_range.1 a1.1) (by simpa using a1.2) (List.mem_range.1 b1.1) (by simpa using b1.2) e)
  have hall := nodup_all hmap (m := List.range ls.length) (fun x hx => by
    obtain ⟨v, hv, rfl⟩ := List.mem_map.1 hx
    have a1 := List.mem_filter.1 hv
    exact List.mem_range.2 (hf' v (List.mem_range.1 a1.1) (by simpa using a1.2)).1) (by rw [List.length_range, List.length_map]; have := h.len; omega) k (List.mem_range.2 hk)
  obtain ⟨v, hv, e⟩ := List.mem_map.1 hall
  have a1 := List.mem_filter.1 hv
  exact ⟨v, List.mem_range.1 a1.1, by simpa using a1.2, e⟩
theorem Tree.met (h : Tree n ls) : Met n (ad ls) (far n ls) := by
  refine ⟨fun a b ha hb => far_zero h ha hb, fun a b ha hb => far_sym h ha hb, fun a b c ha hb hc => far_tri h ha hb hc, ad_comm ls, ?_, fun r v hr hv hne => far_back h hr hv hne, ?_⟩
  · intro r a b hr ha hb hab
    obtain ⟨f, hf, hall⟩ := all_lines h hr
    have key : ∀ x y : Nat, (((x : Int), (y : Int)) : Gr.Ln) ∈ ls → far n ls r x = far n ls r y + 1 ∨ far n ls r y = far n ls r x + 1 := by
      intro x y hm
      obtain ⟨k, hk, ek⟩ := List.mem_iff_getElem.1 hm
      obtain ⟨v, hv, hvr, rfl⟩ := hall k hk
      obtain ⟨_, u, hu, e, hh⟩ := hf v hv hvr
      have eg : ls.getD (f v) (0, 0) = ((x : Int), (y : Int)) := by rw [← ek]; simp [List.getD, hk]
      rw [eg] at hh
      rcases hh with hh | hh
      · have a1 := (Prod.mk.inj hh).1
        have a2 := (Prod.mk.inj hh).2
        have b1 : x = v := by omega
        have b2 : y = u := by omega
        subst b1 b2
        exact .inl e
      · have a1 := (Prod.mk.inj hh).1
        have a2 := (Prod.mk.inj hh).2
        have b1 : x = u := by omega
        have b2 : y = v := by omega
        subst b1 b2
        exact .inr e
    rcases Gr.adj_iff.1 hab with hm | hm
    · exact key a b hm
    · exact (key b a hm).symm
  · intro r v u w hr hv hu hw hA hB e1 e2
    obtain ⟨f, hf, hall⟩ := all_lines h hr
    -- both lines are the line of v
    have key : ∀ x : Nat, ad ls v x = true → far n ls r v = far n ls r x + 1 → ∃ k, k = f v ∧ (ls.getD k (0, 0) = ((v : Int), (x : Int)) ∨ ls.getD k (0, 0) = ((x : Int), (v : Int))) := by
      intro x hx e
      have hm : ∃ k, k < ls.length ∧ (ls.getD k (0, 0) = ((v : Int), (x : Int)) ∨ ls.getD k (0, 0) = ((x : Int), (v : Int))) := by
        rcases Gr.adj_iff.1 hx with hm | hm
        · obtain ⟨k, hk, ek⟩ := List.mem_iff_getElem.1 hm
          exact ⟨k, hk, .inl (by rw [← ek]; simp [List.getD, hk])⟩
        · obtain ⟨k, hk, ek⟩ := List.mem_iff_getElem.1 hm
          exact ⟨k, hk, .inr (by rw [← ek]; simp [List.getD, hk])⟩
      obtain ⟨k, hk, hh⟩ := hm
      obtain ⟨v', hv', hvr', rfl⟩ := hall k hk
      obtain ⟨_, u', hu', e', hh'⟩ := hf v' hv' hvr'
      have : v' = v := by
        rcases hh with hh | hh <;> rcases hh' with hh' | hh' <;> rw [hh] at hh'
        · have := (Prod.mk.inj hh').1; omega
        · have a1 := (Prod.mk.inj hh').1
          have a2 := (Prod.mk.inj hh').2
          have b1 : v = u' := by omega
          have b2 : x = v' := by omega
          subst b1 b2
          omega
        · have a1 := (Prod.mk.inj hh').1
          have a2 := (Prod.mk.inj hh').2
          have b1 : x = v' := by omega
          have b2 : v = u' := by omega
          subst b1 b2
          omega
        · have := (Prod.mk.inj hh').2; omega
      subst this
      exact ⟨f v', rfl, hh⟩
    obtain ⟨k1, rfl, h1⟩ := key u hA e1
    obtain ⟨k2, rfl, h2⟩ := key w hB e2
    rcases h1 with h1 | h1 <;> rcases h2 with h2 | h2 <;> rw [h1] at h2
    · have := (Prod.mk.inj h2).2; omega
    · have a1 := (Prod.mk.inj h2).1
      have a2 := (Prod.mk.inj h2).2
      omega
    · have a1 := (Prod.mk.inj h2).1
      have a2 := (Prod.mk.inj h2).2
      omega
    · have := (Prod.mk.inj h2).1; omega
end

/-! ### the greatest of some numbers -/
def mx (f : Nat → Nat) : Nat → Nat
  | 0 => 0
  | k + 1 => max (mx f k) (f k)
theorem mx_ge (f : Nat → Nat) : ∀ k i, i < k → f i ≤ mx f k
  | k + 1, i, h => by
    have e : mx f (k + 1) = max (mx f k) (f k) := rfl
    by_cases hi : i = k
    · subst hi; omega
    · have := mx_ge f k i (by omega); omega
theorem mx_at (f : Nat → Nat) : ∀ k, 0 < k → ∃ i, i < k ∧ f i = mx f k
  | 1, _ => ⟨0, by omega, by simp [mx]⟩
  | k + 2, _ => by
    obtain ⟨i, hi, e⟩ := mx_at f (k + 1) (by omega)
    have e2 : mx f (k + 2) = max (mx f (k + 1)) (f (k + 1)) := rfl
    rcases Nat.le_total (f (k + 1)) (mx f (k + 1)) with h | h
    · exact ⟨i, by omega, by omega⟩
    · exact ⟨k + 1, by omega, by omega⟩

section
variable {n : Nat} {A : Nat → Nat → Bool} {D : Nat → Nat → Nat}
/-- how far the farthest is -/
def ecc (n : Nat) (D : Nat → Nat → Nat) (v : Nat) : Nat := mx (D v) n
theorem ecc_ge {v x : Nat} (hx : x < n) : D v x ≤ ecc n D v := mx_ge _ n x hx
theorem ecc_at (hn : 0 < n) (v : Nat) : ∃ x, x < n ∧ D v x = ecc n D v := mx_at _ n hn
theorem Met.beside (h : Met n A D) {a b : Nat} (ha : a < n) (hb : b < n) (hab : A a b = true) : D a b = 1 := by
  have h0 := (h.zero a a ha ha).2 rfl
  rcases h.one a a b ha ha hb hab with e | e <;> omega
theorem Met.lip (h : Met n A D) {v u : Nat} (hv : v < n) (hu : u < n) (hA : A v u = true) : ecc n D u ≤ ecc n D v + 1 := by
  obtain ⟨x, hx, e⟩ := ecc_at (D := D) (show 0 < n by omega) u
  have h1 := h.one x v u hx hv hu hA
  have h2 := h.sym u x hu hx
  have h3 := h.sym v x hv hx
  have := ecc_ge (D := D) (v := v) hx
  omega
/-- of two points beside one the one or the other has farther to go -/
theorem Met.star (h : Met n A D) {v u w : Nat} (hv : v < n) (hu : u < n) (hw : w < n) (hA : A v u = true) (hB : A v w = true) (hne : u ≠ w) : ecc n D v < ecc n D u ∨ ecc n D v < ecc n D w := by
  obtain ⟨x, hx, e⟩ := ecc_at (D := D) (show 0 < n by omega) v
  have h1 := h.one x v u hx hv hu hA
  have h2 := h.one x v w hx hv hw hB
  have s1 := h.sym v x hv hx
  have s2 := h.sym u x hu hx
  have s3 := h.sym w x hw hx
  have g1 := ecc_ge (D := D) (v := u) hx
  have g2 := ecc_ge (D := D) (v := w) hx
  rcases h1 with h1 | h1
  · rcases h2 with h2 | h2
    · exact absurd (h.only x v u w hx hv hu hw hA hB h1 h2) hne
    · exact .inr (by omega)
  · exact .inl (by omega)
/-- the least of them -/
def Mid (n : Nat) (D : Nat → Nat → Nat) (m : Nat) (c : Nat) : Prop := c < n ∧ ecc n D c = m ∧ ∀ v, v < n → m ≤ ecc n D v
theorem mid_ex (hn : 0 < n) : ∃ m c, Mid n D m c := by
  have : ∀ k, 0 < k → ∃ c, c < k ∧ ∀ v, v < k → ecc n D c ≤ ecc n D v := by
    intro k
    induction k with
    | zero => intro h; omega
    | succ k ih =>
      intro _
      by_cases h0 : k = 0
      · subst h0; exact ⟨0, by omega, fun v hv => by obtain rfl : v = 0 := by omega
                                                     exact Nat.le_refl _⟩
      · obtain ⟨c, hc, hm⟩ := ih (by omega)
        rcases Nat.le_total (ecc n D c) (ecc n D k) with hle | hle
        · exact ⟨c, by omega, fun v hv => by
            by_cases e : v = k
            · rw [e]; exact hle
            · exact hm v (by omega)⟩
        · exact ⟨k, by omega, fun v hv => by
            by_cases e : v = k
            · rw [e]; exact Nat.le_refl _
            · have := hm v (by omega); omega⟩
  obtain ⟨c, hc, hm⟩ := this n hn
  exact ⟨_, c, hc, rfl, hm⟩
/-- two in the middle stand beside each other -/
theorem Met.mid_beside (h : Met n A D) {m c c' : Nat} (hc : Mid n D m c) (hc' : Mid n D m c') (hne : c ≠ c') : A c c' = true := by
  obtain ⟨hcn, ec, hmin⟩ := hc
  obtain ⟨hcn', ec', _⟩ := hc'
  obtain ⟨u, hu, hA, hd⟩ := h.near c' c hcn' hcn hne
  by_cases h1 : D c' u = 0
  · have : c' = u := (h.zero c' u hcn' hu).1 h1
    rw [this]; exact hA
  · exfalso
    -- the farthest among those between
    have key : ∀ k, k ≤ n → (∃ v, v < k ∧ D c v + D c' v = D c c' ∧ v ≠ c ∧ v ≠ c') → ∃ v, v < k ∧ (D c v + D c' v = D c c' ∧ v ≠ c ∧ v ≠ c') ∧ ∀ w, w < k → (D c w + D c' w = D c c' ∧ w ≠ c ∧ w ≠ c') → ecc n D w ≤ ecc n D v := by
      intro k
      induction k with
      | zero => rintro _ ⟨v, hv, _⟩; omega
      | succ k ih =>
        rintro hk ⟨v, hv, hp⟩
        by_cases hex : ∃ v, v < k ∧ D c v + D c' v = D c c' ∧ v ≠ c ∧ v ≠ c'
        · obtain ⟨x, hx, hxp, hxm⟩ := ih (by omega) hex
          by_cases hb : (D c k + D c' k = D c c' ∧ k ≠ c ∧ k ≠ c') ∧ ecc n D x < ecc n D k
          · exact ⟨k, by omega, hb.1, fun w hw hwp => by
              by_cases e : w = k
              · rw [e]; exact Nat.le_refl _
              · have := hxm w (by omega) hwp; omega⟩
          · exact ⟨x, by omega, hxp, fun w hw hwp => by
              by_cases e : w = k
              · subst e
                rcases Nat.lt_or_ge (ecc n D x) (ecc n D w) with hl | hl
                · exact absurd ⟨hwp, hl⟩ hb
                · exact hl
              · exact hxm w (by omega) hwp⟩
        · have e : v = k := by
            rcases Nat.lt_or_ge v k with hl | hl
            · exact absurd ⟨v, hl, hp⟩ hex
            · omega
          subst e
          exact ⟨v, hv, hp, fun w hw hwp => by
            by_cases e : w = v
            · rw [e]; exact Nat.le_refl _
            · exact absurd ⟨w, by omega, hwp⟩ hex⟩
    have du : D c u = 1 := h.beside hcn hu hA
    have s0 := h.sym c c' hcn hcn'
    have hu1 : u ≠ c := fun e => by
      have := (h.zero c u hcn hu).2 e.symm
      omega
    have hu2 : u ≠ c' := fun e => h1 ((h.zero c' u hcn' hu).2 e.symm)
    obtain ⟨v, hv, ⟨hp, hvc, hvc'⟩, hm⟩ := key n (Nat.le_refl _) ⟨u, hu, by omega, hu1, hu2⟩
    obtain ⟨a, ha, hAa, ea⟩ := h.near c v hcn hv hvc
    obtain ⟨b, hb, hAb, eb⟩ := h.near c' v hcn' hv hvc'
    have t1 := h.tri c a c' hcn ha hcn'
    have t2 := h.tri c b c' hcn hb hcn'
    have sa := h.sym a c' ha hcn'
    have sb := h.sym b c' hb hcn'
    have oa := h.one c' v a hcn' hv ha hAa
    have ob := h.one c v b hcn hv hb hAb
    have hab : a ≠ b := fun e => by subst e; omega
    have hda : ecc n D a ≤ ecc n D v := by
      by_cases e : a = c
      · rw [e, ec]; exact hmin v hv
      · by_cases e' : a = c'
        · rw [e', ec']; exact hmin v hv
        · exact hm a ha ⟨by omega, e, e'⟩
    have hdb : ecc n D b ≤ ecc n D v := by
      by_cases e : b = c
      · rw [e, ec]; exact hmin v hv
      · by_cases e' : b = c'
        · rw [e', ec']; exact hmin v hv
        · exact hm b hb ⟨by omega, e, e'⟩
    rcases h.star hv ha hb hAa hAb hab with hh | hh <;> omega
/-- three do not -/
theorem Met.mid_two (h : Met n A D) {m a b c : Nat} (ha : Mid n D m a) (hb : Mid n D m b) (hc : Mid n D m c) (hab : a ≠ b) (hac : a ≠ c) (hbc : b ≠ c) : False := by
  have h1 := h.beside ha.1 hb.1 (h.mid_beside ha hb hab)
  have h2 := h.beside ha.1 hc.1 (h.mid_beside ha hc hac)
  have h3 := h.one a b c ha.1 hb.1 hc.1 (h.mid_beside hb hc hbc)
  omega
/-- away from the middle it is one farther each step -/
theorem Met.away (h : Met n A D) {m : Nat} : ∀ (l v c : Nat), v < n → Mid n D m c → D c v = l → (∀ c', Mid n D m c' → l ≤ D c' v) → ecc n D v = m + l := by
  intro l
  induction l using Nat.strongRecOn with
  | _ l ih =>
    intro v c hv hc hl hmin
    obtain ⟨hcn, ec, hall⟩ := hc
    by_cases h0 : l = 0
    · subst h0
      obtain rfl : c = v := (h.zero c v hcn hv).1 hl
      rw [ec]; rfl
    · have hne : v ≠ c := fun e => h0 (by rw [← hl, e]; exact (h.zero c c hcn hcn).2 rfl)
      obtain ⟨u, hu, hA, hd⟩ := h.near c v hcn hv hne
      have hstep : ∀ c', Mid n D m c' → l ≤ D c' u + 1 := fun c' hc' => by
        have a1 := hmin c' hc'
        have a2 := h.one c' v u hc'.1 hv hu hA
        omega
      have iu := ih (l - 1) (by omega) u c hu ⟨hcn, ec, hall⟩ (by omega) (fun c' hc' => by have := hstep c' hc'; omega)
      have lip := h.lip hu hv (by rw [h.com]; exact hA)
      by_cases h1 : l = 1
      · have hvm : ¬ Mid n D m v := fun hm => by
          have := hmin v hm
          have := (h.zero v v hv hv).2 rfl
          omega
        have : m ≤ ecc n D v := hall v hv
        have hne2 : ecc n D v ≠ m := fun e => hvm ⟨hv, e, hall⟩
        omega
      · have hnu : u ≠ c := fun e => by
          have := (h.zero c u hcn hu).2 e.symm
          omega
        obtain ⟨w, hw, hB, hd2⟩ := h.near c u hcn hu hnu
        have iw := ih (l - 2) (by omega) w c hw ⟨hcn, ec, hall⟩ (by omega) (fun c' hc' => by
          have := hstep c' hc'
          have a2 := h.one c' u w hc'.1 hu hw hB
          omega)
        have hvw : v ≠ w := fun e => by subst e; omega
        rcases h.star hu hv hw (by rw [h.com]; exact hA) hB hvw with hh | hh <;> omega
/-- Jordan -/
theorem Met.jordan (h : Met n A D) (hn : 0 < n) : ∃ m c, Mid n D m c ∧ ((∀ v, Mid n D m v → v = c) ∧ mx (ecc n D) n = 2 * m ∨ ∃ c', Mid n D m c' ∧ c ≠ c' ∧ A c c' = true ∧ (∀ v, Mid n D m v → v = c ∨ v = c') ∧ mx (ecc n D) n + 1 = 2 * m) := by
  obtain ⟨m, c, hc⟩ := mid_ex (D := D) hn
  refine ⟨m, c, hc, ?_⟩
  obtain ⟨y, hy, ey⟩ := mx_at (ecc n D) n hn
  obtain ⟨x, hx, ex⟩ := ecc_at (D := D) hn c
  have gx := mx_ge (ecc n D) n x hx
  have ecm := hc.2.1
  by_cases hone : ∀ v, Mid n D m v → v = c
  · refine .inl ⟨hone, ?_⟩
    have a1 := h.away (D c y) y c hy hc rfl (fun c' hc' => by rw [hone c' hc']; exact Nat.le_refl _)
    have a2 := h.away (D c x) x c hx hc rfl (fun c' hc' => by rw [hone c' hc']; exact Nat.le_refl _)
    have g1 := ecc_ge (D := D) (v := c) hy
    omega
  · obtain ⟨c', hc', hne⟩ : ∃ c', Mid n D m c' ∧ c ≠ c' := Classical.byContradiction fun hno => hone fun v hv => Classical.byContradiction fun e => hno ⟨v, hv, fun e2 => e e2.symm⟩
    have hA := h.mid_beside hc hc' hne
    have htwo : ∀ v, Mid n D m v → v = c ∨ v = c' := fun v hv => Classical.byContradiction fun hno => h.mid_two hc hc' hv hne (fun e => hno (.inl e.symm)) fun e => hno (.inr e.symm)
    refine .inr ⟨c', hc', hne, hA, htwo, ?_⟩
    have lo : ∀ z, z < n → ecc n D z = m + min (D c z) (D c' z) := fun z hz => by
      rcases Nat.le_total (D c z) (D c' z) with hle | hle
      · rw [Nat.min_eq_left hle]
        exact h.away (D c z) z c hz hc rfl (fun v hv => by rcases htwo v hv with rfl | rfl <;> omega)
      · rw [Nat.min_eq_right hle]
        exact h.away (D c' z) z c' hz hc' rfl (fun v hv => by rcases htwo v hv with rfl | rfl <;> omega)
    have side : ∀ z, z < n → D c z = D c' z + 1 ∨ D c' z = D c z + 1 := fun z hz => by
      have := h.one z c c' hz hc.1 hc'.1 hA
      have := h.sym c z hc.1 hz
      have := h.sym c' z hc'.1 hz
      omega
    have l1 := lo y hy
    have l2 := lo x hx
    have s1 := side y hy
    have s2 := side x hx
    have g1 := ecc_ge (D := D) (v := c) hy
    have g2 := ecc_ge (D := D) (v := c') hy
    have g3 := ecc_ge (D := D) (v := c') hx
    have ecm' := hc'.2.1
    omega

/-! ### ends -/
/-- the farthest from a point has one beside it -/
theorem Met.far_end (h : Met n A D) {r x : Nat} (hr : r < n) (hx : x < n) (hxr : x ≠ r) (hm : ∀ y, y < n → D r y ≤ D r x) : ∃ u, u < n ∧ A x u = true ∧ ∀ w, w < n → A x w = true → w = u := by
  obtain ⟨u, hu, hA, hd⟩ := h.near r x hr hx hxr
  refine ⟨u, hu, hA, fun w hw hB => ?_⟩
  rcases h.one r x w hr hx hw hB with e | e
  · exact h.only r x w u hr hx hw hu hB hA e hd
  · have := hm w hw
    omega
/-- two ends at least -/
theorem Met.two_ends (h : Met n A D) (hn : 1 < n) : ∃ x y, x < n ∧ y < n ∧ x ≠ y ∧ (∃ u, u < n ∧ A x u = true ∧ ∀ w, w < n → A x w = true → w = u) ∧ ∃ u, u < n ∧ A y u = true ∧ ∀ w, w < n → A y w = true → w = u := by
  have far1 : ∀ r, r < n → ∃ x, x < n ∧ x ≠ r ∧ ∀ y, y < n → D r y ≤ D r x := fun r hr => by
    obtain ⟨x, hx, e⟩ := mx_at (D r) n (by omega)
    refine ⟨x, hx, fun e2 => ?_, fun y hy => by rw [e]; exact mx_ge (D r) n y hy⟩
    obtain ⟨z, hz, hzr⟩ : ∃ z, z < n ∧ z ≠ r := by
      by_cases h0 : r = 0
      · exact ⟨1, hn, by omega⟩
      · exact ⟨0, by omega, by omega⟩
    have h1 := mx_ge (D r) n z hz
    have h2 := (h.zero r x hr hx).2 e2.symm
    exact hzr ((h.zero r z hr hz).1 (by omega)).symm
  obtain ⟨x, hx, hx0, hxm⟩ := far1 0 (by omega)
  obtain ⟨y, hy, hyx, hym⟩ := far1 x hx
  exact ⟨x, y, hx, hy, fun e => hyx e.symm, h.far_end (by omega) hx hx0 hxm, h.far_end hx hy hyx hym⟩
end
end Go.Proofs.YtoofpmajiphldaaDoor.Tr
