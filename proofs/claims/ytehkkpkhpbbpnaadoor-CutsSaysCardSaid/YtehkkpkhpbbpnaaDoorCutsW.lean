/-
  Plain facts on graphs without one of their points, with new numbers, and without one of their lines. No statement of the program is proved here; there is no condition.
-/
import Derived.Test.YtehkkpkhpbbpnaaDoorCutsP
import Derived.Test.YtehkkpkhpbbpnaaDoorWalkG
set_option linter.unusedSimpArgs false
set_option linter.unusedVariables false
namespace Go.Proofs.YtehkkpkhpbbpnaaDoor.Dp

/-! ### new numbers -/
/-- the number that a point had ahead -/
def up (i j : Nat) : Nat := if j < i then j else j + 1
theorem up_ne (i j : Nat) : up i j ≠ i := by unfold up; split <;> omega
theorem up_lt {m i j : Nat} (hj : j < m - 1) (hi : i < m) : up i j < m := by unfold up; split <;> omega
theorem up_mono {i a b : Nat} : up i a < up i b ↔ a < b := by unfold up; split <;> split <;> omega
theorem up_of {m i x : Nat} (hi : i < m) (hx : x < m) (hne : x ≠ i) : ∃ j, j < m - 1 ∧ x = up i j := by
  rcases Nat.lt_or_ge x i with h | h
  · exact ⟨x, by omega, by simp [up, h]⟩
  · exact ⟨x - 1, by omega, by unfold up; rw [if_neg (by omega)]; omega⟩
theorem filter_up (p : Nat → Bool) {m i : Nat} (hi : i < m) : ((List.range m).filter p).length = ((List.range (m - 1)).filter fun j => p (up i j)).length + if p i = true then 1 else 0 := by
  obtain ⟨r, rfl⟩ : ∃ r, m = i + 1 + r := ⟨m - (i + 1), by omega⟩
  induction r with
  | zero =>
    simp only [Nat.add_zero, Nat.add_sub_cancel]
    rw [List.range_succ, List.filter_append, List.length_append]
    have e : (List.range i).filter p = (List.range i).filter fun j => p (up i j) := List.filter_congr (fun j hj => by
      have : j < i := by simpa using hj
      simp [up, this])
    rw [e]
    congr 1
    cases h : p i <;> simp [h]
  | succ r ih =>
    have ih' := ih (by omega)
    rw [show i + 1 + (r + 1) = (i + 1 + r) + 1 by omega, List.range_succ, List.filter_append, List.length_append, ih']
    rw [show i + 1 + r + 1 - 1 = (i + 1 + r - 1) + 1 by omega, List.range_succ, List.filter_append, List.length_append]
    have e : up i (i + 1 + r - 1) = i + 1 + r := by unfold up; rw [if_neg (by omega)]; omega
    have e2 : ([i + 1 + r].filter p).length = ([i + 1 + r - 1].filter fun j => p (up i j)).length := by
      simp only [List.filter_cons, List.filter_nil, e]
      split <;> rfl
    rw [e2]
    omega

section
variable {m : Nat} {R R2 : Nat → List Nat}

theorem up_rch (hR : Wa.Ok m R) {i : Nat} (hi : i < m) (hR2 : Wa.Ok (m - 1) R2) (h : ∀ u v, u < m - 1 → v < m - 1 → (v ∈ R2 u ↔ up i v ∈ R (up i u))) {u v : Nat} (hu : u < m - 1) (hv : v < m - 1) :
    Wa.rch (m - 1) R2 u v = true ↔ Wa.rch m (rmv R i) (up i u) (up i v) = true := by
  have hR' := rmv_ok hR i
  constructor
  · intro hr
    exact closed_reach hR2 (S := fun x => x < m - 1 → Wa.rch m (rmv R i) (up i u) (up i x) = true) (fun x hx hxs w hw hwm =>
      Wa.rch_trans hR' (up_lt hu hi) (up_lt hx hi) (hxs hx) (rmv_step hR (up_lt hx hi) (up_ne i x) (up_ne i w) ((h x w hx hwm).1 hw))) hu (fun _ => Wa.rch_self hR' (up_lt hu hi)) hr hv
  · intro hr
    have := closed_reach hR' (S := fun x => ∃ y, y < m - 1 ∧ x = up i y ∧ Wa.rch (m - 1) R2 u y = true) (fun x hx hxs w hw => by
      obtain ⟨y, hy, rfl, hyr⟩ := hxs
      obtain ⟨h1, h2, h3⟩ := mem_rmv.1 hw
      obtain ⟨z, hz, rfl⟩ := up_of hi (hR _ (up_lt hy hi) w h3) h2
      exact ⟨z, hz, rfl, Wa.rch_trans hR2 hu hy hyr ((Wa.rch_iff hR2 hy).2 ⟨1, Wa.wk_one hy ((h y z hy hz).2 h3)⟩)⟩) (up_lt hu hi) ⟨u, hu, rfl, Wa.rch_self hR2 hu⟩ hr
    obtain ⟨y, hy, e, hyr⟩ := this
    have : y = v := by
      have h1 := up_mono (i := i) (a := y) (b := v)
      have h2 := up_mono (i := i) (a := v) (b := y)
      omega
    exact this ▸ hyr
/-- who is the least of its part -/
theorem lab_root (hR : Wa.Ok m R) {v : Nat} (hv : v < m) : Wa.lab m R m v = (v : Int) ↔ ∀ t, t < v → Wa.rch m R t v = false := by
  obtain ⟨u, h1, h2, h3, h4⟩ := Wa.lab_spec hR hv
  rw [h1]
  constructor
  · intro h
    have : u = v := by omega
    exact this ▸ h4
  · intro h
    rcases Nat.lt_or_ge u v with e | e
    · rw [h u e] at h3; cases h3
    · have : u = v := by omega
      rw [this]
theorem parts_up (hR : Wa.Ok m R) (hs : Wa.Sym m R) {i : Nat} (hi : i < m) (hR2 : Wa.Ok (m - 1) R2) (h : ∀ u v, u < m - 1 → v < m - 1 → (v ∈ R2 u ↔ up i v ∈ R (up i u))) : parts (m - 1) R2 + 1 = parts m (rmv R i) := by
  have hR' := rmv_ok hR i
  unfold parts
  rw [filter_up (fun v => decide (Wa.lab m (rmv R i) m v = (v : Int))) hi]
  have e1 : decide (Wa.lab m (rmv R i) m i = (i : Int)) = true := by
    rw [decide_eq_true_iff, lab_root hR' hi]
    intro t ht
    cases hr : Wa.rch m (rmv R i) t i with
    | false => rfl
    | true =>
      have := lone hR hi (Wa.rch_sym hR' (rmv_sym hs i) (by omega) hi hr)
      omega
  rw [if_pos e1]
  congr 2
  refine List.filter_congr (fun j hj => ?_)
  have hjm : j < m - 1 := by simpa using hj
  rw [decide_eq_decide, lab_root hR2 hjm, lab_root hR' (up_lt hjm hi)]
  constructor
  · intro hh t ht
    have htm : t < m := by have := up_lt hjm hi; omega
    by_cases e : t = i
    · cases hr : Wa.rch m (rmv R i) t (up i j) with
      | false => rfl
      | true =>
        rw [e] at hr
        exact absurd (lone hR hi hr) (up_ne i j)
    · obtain ⟨s, hs', rfl⟩ := up_of hi htm e
      cases hr : Wa.rch m (rmv R i) (up i s) (up i j) with
      | false => rfl
      | true =>
        have := (up_rch hR hi hR2 h hs' hjm).2 hr
        rw [hh s (up_mono.1 ht)] at this
        cases this
  · intro hh t ht
    have htm : t < m - 1 := by omega
    cases hr : Wa.rch (m - 1) R2 t j with
    | false => rfl
    | true =>
      have := (up_rch hR hi hR2 h htm hjm).1 hr
      rw [hh (up i t) (up_mono.2 ht)] at this
      cases this
end

/-! ### the program's own lists -/
theorem mem_without {i : Int} {x y : Int} : ∀ {ls : List Gr.Ln}, (x, y) ∈ Gr.without i ls ↔ ∃ p ∈ ls, p.1 ≠ i ∧ p.2 ≠ i ∧ Gr.dn i p.1 = x ∧ Gr.dn i p.2 = y
  | [] => by simp [Gr.without]
  | q :: ls => by
    unfold Gr.without
    by_cases e : q.1 = i ∨ q.2 = i
    · rw [if_pos e, mem_without]
      constructor
      · rintro ⟨p, hp, h⟩
        exact ⟨p, List.mem_cons_of_mem _ hp, h⟩
      · rintro ⟨p, hp, h1, h2, h3⟩
        rcases List.mem_cons.1 hp with rfl | hp
        · exact absurd e (fun e => e.elim h1 h2)
        · exact ⟨p, hp, h1, h2, h3⟩
    · rw [if_neg e, List.mem_cons, mem_without]
      constructor
      · rintro (h | ⟨p, hp, h⟩)
        · cases h
          exact ⟨q, by simp, fun h => e (.inl h), fun h => e (.inr h), rfl, rfl⟩
        · exact ⟨p, List.mem_cons_of_mem _ hp, h⟩
      · rintro ⟨p, hp, h1, h2, h3, h4⟩
        rcases List.mem_cons.1 hp with rfl | hp
        · exact .inl (by rw [h3, h4])
        · exact .inr ⟨p, hp, h1, h2, h3, h4⟩
theorem has_without {ls : List Gr.Ln} {i u v : Nat} : Gr.has (Gr.without (i : Int) ls) (u : Int) (v : Int) = Gr.has ls (up i u : Int) (up i v : Int) := by
  have key : ∀ (a : Int) (x : Nat), a ≠ (i : Int) → (Gr.dn (i : Int) a = (x : Int) ↔ a = (up i x : Int)) := fun a x ha => by
    unfold Gr.dn up
    split <;> split <;> omega
  rw [Bool.eq_iff_iff, Gr.has_iff, Gr.has_iff, mem_without]
  constructor
  · rintro ⟨p, hp, h1, h2, h3, h4⟩
    rw [key _ _ h1] at h3
    rw [key _ _ h2] at h4
    rw [← h3, ← h4]
    exact hp
  · intro h
    have n1 := up_ne i u
    have n2 := up_ne i v
    exact ⟨_, h, by simp only; omega, by simp only; omega, (key _ _ (by omega)).2 rfl, (key _ _ (by omega)).2 rfl⟩
theorem row_without {m : Nat} {ls : List Gr.Ln} {i u v : Nat} (hi : i < m) (hu : u < m - 1) (hv : v < m - 1) : v ∈ Wa.nrow (m - 1) (Gr.without (i : Int) ls) u ↔ up i v ∈ Wa.nrow m ls (up i u) := by
  rw [Wa.mem_nrow, Wa.mem_nrow]
  have := up_lt hv hi
  unfold Gr.adj
  rw [has_without, has_without]
  constructor
  · rintro ⟨_, h⟩; exact ⟨this, h⟩
  · rintro ⟨_, h⟩; exact ⟨hv, h⟩
/-- parts without a point, in the program's numbers: it holds others together if there are more -/
theorem without_parts {m : Nat} {ls : List Gr.Ln} (hirr : ∀ a, a < m → a ∉ Wa.nrow m ls a) {i : Nat} (hi : i < m) : Cut m (Wa.nrow m ls) i ↔ parts m (Wa.nrow m ls) < parts (m - 1) (Wa.nrow (m - 1) (Gr.without (i : Int) ls)) := by
  rw [parts_point (Wa.nrow_ok m ls) (Wa.nrow_sym m ls) hirr hi, ← parts_up (Wa.nrow_ok m ls) (Wa.nrow_sym m ls) hi (Wa.nrow_ok (m - 1) _) (fun u v hu hv => row_without hi hu hv)]
  omega

/-! ### all lines but one -/
/-- has another line the same ends? -/
def Twin (ls : List Gr.Ln) (k : Nat) : Prop := ∃ j, j < ls.length ∧ j ≠ k ∧ (ls.getD j (0, 0) = ls.getD k (0, 0) ∨ ls.getD j (0, 0) = ((ls.getD k (0, 0)).2, (ls.getD k (0, 0)).1))
theorem mem_but {ls : List Gr.Ln} {k : Nat} {p : Gr.Ln} : p ∈ ls.eraseIdx k ↔ ∃ j, j < ls.length ∧ j ≠ k ∧ ls.getD j (0, 0) = p := by
  rw [List.mem_eraseIdx_iff_getElem?]
  constructor
  · rintro ⟨j, hj, h⟩
    obtain ⟨h1, h2⟩ := List.getElem?_eq_some_iff.1 h
    exact ⟨j, h1, hj, by simp [List.getD, h]⟩
  · rintro ⟨j, h1, h2, h3⟩
    exact ⟨j, h2, by rw [← h3]; simp [List.getD, h1]⟩
theorem adj_but_twin {ls : List Gr.Ln} {k : Nat} (hk : k < ls.length) (ht : Twin ls k) (u v : Int) : Gr.adj (ls.eraseIdx k) u v = Gr.adj ls u v := by
  rw [Bool.eq_iff_iff, Gr.adj_iff, Gr.adj_iff]
  have sub : ∀ p, p ∈ ls.eraseIdx k → p ∈ ls := fun p hp => List.mem_of_mem_eraseIdx hp
  have sup : ∀ a b, (a, b) ∈ ls → (a, b) ∈ ls.eraseIdx k ∨ (b, a) ∈ ls.eraseIdx k := fun a b h => by
    obtain ⟨j, hj, e⟩ := List.getElem_of_mem h
    have e' : ls.getD j (0, 0) = (a, b) := by simp [List.getD, hj, e]
    by_cases hjk : j = k
    · subst hjk
      obtain ⟨t, h1, h2, h3⟩ := ht
      rw [e'] at h3
      exact h3.elim (fun h3 => .inl (mem_but.2 ⟨t, h1, h2, h3⟩)) (fun h3 => .inr (mem_but.2 ⟨t, h1, h2, h3⟩))
    · exact .inl (mem_but.2 ⟨j, hj, hjk, e'⟩)
  constructor
  · rintro (h | h)
    · exact .inl (sub _ h)
    · exact .inr (sub _ h)
  · rintro (h | h)
    · exact sup _ _ h
    · exact (sup _ _ h).symm
theorem adj_but_one {ls : List Gr.Ln} {k : Nat} {a b : Int} (hk : k < ls.length) (hab : ls.getD k (0, 0) = (a, b)) (ht : ¬ Twin ls k) (u v : Int) : Gr.adj (ls.eraseIdx k) u v = true ↔ Gr.adj ls u v = true ∧ ¬ (u = a ∧ v = b) ∧ ¬ (u = b ∧ v = a) := by
  have hno : ∀ p, p ∈ ls.eraseIdx k → p ≠ (a, b) ∧ p ≠ (b, a) := fun p hp => by
    obtain ⟨j, h1, h2, h3⟩ := mem_but.1 hp
    exact ⟨fun e => ht ⟨j, h1, h2, .inl (by rw [h3, hab, e])⟩, fun e => ht ⟨j, h1, h2, .inr (by rw [h3, hab, e])⟩⟩
  rw [Gr.adj_iff, Gr.adj_iff]
  constructor
  · rintro (h | h)
    · have := hno _ h
      exact ⟨.inl (List.mem_of_mem_eraseIdx h), fun e => this.1 (by rw [e.1, e.2]), fun e => this.2 (by rw [e.1, e.2])⟩
    · have := hno _ h
      exact ⟨.inr (List.mem_of_mem_eraseIdx h), fun e => this.2 (by rw [e.1, e.2]), fun e => this.1 (by rw [e.1, e.2])⟩
  · rintro ⟨h, n1, n2⟩
    have put : ∀ x y, (x, y) ∈ ls → ¬ (x = a ∧ y = b) → (x, y) ∈ ls.eraseIdx k := fun x y hm hn => by
      obtain ⟨j, hj, e⟩ := List.getElem_of_mem hm
      have e' : ls.getD j (0, 0) = (x, y) := by simp [List.getD, hj, e]
      by_cases hjk : j = k
      · subst hjk
        rw [hab] at e'
        cases e'
        exact absurd ⟨rfl, rfl⟩ hn
      · exact mem_but.2 ⟨j, hj, hjk, e'⟩
    rcases h with h | h
    · exact .inl (put _ _ h n1)
    · exact .inr (put _ _ h (fun e => n2 ⟨e.2, e.1⟩))
theorem row_but_twin {m : Nat} {ls : List Gr.Ln} {k : Nat} (hk : k < ls.length) (ht : Twin ls k) : Wa.nrow m (ls.eraseIdx k) = Wa.nrow m ls := by
  funext u
  unfold Wa.nrow
  exact List.filter_congr (fun v _ => by rw [adj_but_twin hk ht])
theorem row_but_one {m : Nat} {ls : List Gr.Ln} {k a b : Nat} (hk : k < ls.length) (hab : ls.getD k (0, 0) = ((a : Int), (b : Int))) (ht : ¬ Twin ls k) {u v : Nat} : v ∈ Wa.nrow m (ls.eraseIdx k) u ↔ v ∈ rml (Wa.nrow m ls) a b u := by
  rw [mem_rml, Wa.mem_nrow, Wa.mem_nrow, adj_but_one hk hab ht]
  constructor
  · rintro ⟨h1, h2, h3, h4⟩
    exact ⟨⟨h1, h2⟩, fun e => h3 ⟨by omega, by omega⟩, fun e => h4 ⟨by omega, by omega⟩⟩
  · rintro ⟨⟨h1, h2⟩, h3, h4⟩
    exact ⟨h1, h2, fun e => h3 ⟨by omega, by omega⟩, fun e => h4 ⟨by omega, by omega⟩⟩

end Go.Proofs.YtehkkpkhpbbpnaaDoor.Dp
