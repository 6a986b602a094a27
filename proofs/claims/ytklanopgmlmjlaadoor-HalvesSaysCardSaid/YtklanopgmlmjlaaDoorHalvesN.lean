/-
  Plain facts on two parts and odd rings, with no program in them: the shortest odd round is a ring; it is found level by level; points can be parted in two just if there is no odd round, and then by how far they are from the least point of their part. No statement of the program is proved here; there is no condition.
-/
import Derived.Test.YtklanopgmlmjlaaDoorWalkF
import Derived.Test.YtklanopgmlmjlaaDoorWalkG
set_option linter.unusedSimpArgs false
set_option linter.unusedVariables false
namespace Go.Proofs.YtklanopgmlmjlaaDoor.Ha
open Wa

/-- a round of q steps, q odd -/
def Oc (m : Nat) (R : Nat → List Nat) (q : Nat) : Prop := q % 2 = 1 ∧ ∃ a, a < m ∧ wk m R q a a = true
theorem least {P : Nat → Prop} : ∀ {n : Nat}, P n → ∃ k, k ≤ n ∧ P k ∧ ∀ j, j < k → ¬ P j := by
  intro n
  induction n using Nat.strongRecOn with
  | _ n ih =>
    intro h
    by_cases hh : ∃ j, j < n ∧ P j
    · obtain ⟨j, hj, hp⟩ := hh
      obtain ⟨k, hk, h1, h2⟩ := ih j hj hp
      exact ⟨k, by omega, h1, h2⟩
    · exact ⟨n, Nat.le_refl _, h, fun j hj hp => hh ⟨j, hj, hp⟩⟩

/-! ### rings and rounds -/
theorem rg_walk {m : Nat} {R : Nat → List Nat} {a : Nat} : ∀ (f : Nat) (way : List Nat) (p : Nat), way ≠ [] → way.headD 0 = a → way.getLastD 0 = p → p < m → Wf.rg m R f way = true → wk m R (f + 1) p a = true
  | 0, way, p, hne, hh, hl, hp, h => by
    unfold Wf.rg at h
    rw [hl, hh] at h
    exact wk_one hp (by simpa using h)
  | f + 1, way, p, hne, hh, hl, hp, h => by
    obtain ⟨b, hb, hbR, _, h2⟩ := Wf.rg_succ.1 h
    rw [hl] at hbR
    have h3 := rg_walk f (way ++ [b]) b (by simp) (by rw [Wf.head_app hne, hh]) (Wf.last_app _ _) hb h2
    have := wk_add (wk_one hp hbR) h3
    rwa [Nat.add_comm 1] at this
theorem ring_round {m : Nat} {R : Nat → List Nat} {q : Nat} (hq : 1 ≤ q) (h : Wf.ringOf m R q = true) : ∃ a, a < m ∧ wk m R q a a = true := by
  have h' : ∃ a, a < m ∧ Wf.rg m R (q - 1) [a] = true := by simpa [Wf.ringOf] using h
  obtain ⟨a, ha, h1⟩ := h'
  have := rg_walk (a := a) (q - 1) [a] a (by simp) rfl rfl ha h1
  rw [show q - 1 + 1 = q by omega] at this
  exact ⟨a, ha, this⟩
theorem rg_len {m : Nat} {R : Nat → List Nat} : ∀ (f : Nat) (way : List Nat), way.Nodup → (∀ x ∈ way, x < m) → Wf.rg m R f way = true → way.length + f ≤ m
  | 0, way, hn, hm, _ => by
    have hsub : ∀ x ∈ way, x ∈ List.range m := fun x hx => List.mem_range.2 (hm x hx)
    have := List.Nodup.length_le_of_subset hn hsub
    rw [List.length_range] at this
    omega
  | f + 1, way, hn, hm, h => by
    obtain ⟨b, hb, _, hbw, h2⟩ := Wf.rg_succ.1 h
    have := rg_len f (way ++ [b]) (by
      rw [List.nodup_append]
      refine ⟨hn, by simp, fun x hx y hy e => ?_⟩
      rw [List.mem_singleton] at hy
      subst hy
      subst e
      exact hbw hx) (fun x hx => by
      rcases List.mem_append.1 hx with hx | hx
      · exact hm x hx
      · rw [List.mem_singleton] at hx; subst hx; exact hb) h2
    rw [List.length_append] at this
    simp at this
    omega
theorem ring_le {m : Nat} {R : Nat → List Nat} {q : Nat} (hq : 1 ≤ q) (h : Wf.ringOf m R q = true) : q ≤ m := by
  have h' : ∃ a, a < m ∧ Wf.rg m R (q - 1) [a] = true := by simpa [Wf.ringOf] using h
  obtain ⟨a, ha, h1⟩ := h'
  have := rg_len (q - 1) [a] (by simp) (fun x hx => by rw [List.mem_singleton] at hx; subst hx; exact ha) h1
  simp at this
  omega
/-- a shortest odd round goes over no point twice -/
theorem rg_least {m : Nat} {R : Nat → List Nat} (hR : Ok m R) {q a : Nat} (hqo : q % 2 = 1) (hmin : ∀ t, t < q → ¬ Oc m R t) (ha : a < m) : ∀ (f : Nat) (way : List Nat) (L p : Nat), L + f + 1 = q → way ≠ [] → way.headD 0 = a → way.getLastD 0 = p → p < m →
    (∀ v ∈ way, v < m ∧ ∃ i, i ≤ L ∧ wk m R i a v = true ∧ wk m R (L - i) v p = true) → wk m R L a p = true → wk m R (f + 1) p a = true → Wf.rg m R f way = true
  | 0, way, L, p, hk, hne, hh, hl, hp, hw, hap, h => by
    obtain ⟨c, hc, h1, h2⟩ := wk_succ.1 h
    have := wk_zero.1 h1
    subst this
    unfold Wf.rg
    rw [hl, hh]
    simpa using h2
  | f + 1, way, L, p, hk, hne, hh, hl, hp, hw, hap, h => by
    obtain ⟨c, h1, h2⟩ := wk_split (i := 1) (j := f + 1) (by rw [Nat.add_comm]; exact h)
    obtain ⟨e, he, h3, h4⟩ := wk_succ.1 h1
    have := wk_zero.1 h3
    subst this
    have hcm := hR p hp c h4
    have hnew : c ∉ way := by
      intro hcw
      obtain ⟨_, i, hi, h5, h6⟩ := hw c hcw
      have r1 : wk m R (L - i + 1) c c = true := wk_add h6 h1
      have r2 : wk m R (i + (f + 1)) a a = true := wk_add h5 h2
      rcases Nat.mod_two_eq_zero_or_one (L - i + 1) with e | e
      · exact hmin (i + (f + 1)) (by omega) ⟨by omega, a, ha, r2⟩
      · exact hmin (L - i + 1) (by omega) ⟨e, c, hcm, r1⟩
    have hap' : wk m R (L + 1) a c = true := wk_add hap h1
    have ih := rg_least hR hqo hmin ha f (way ++ [c]) (L + 1) c (by omega) (by simp) (by rw [Wf.head_app hne, hh]) (Wf.last_app _ _) hcm (by
      intro v hv
      rcases List.mem_append.1 hv with hv | hv
      · obtain ⟨hvm, i, hi, h5, h6⟩ := hw v hv
        refine ⟨hvm, i, by omega, h5, ?_⟩
        have := wk_add h6 h1
        rwa [show L - i + 1 = L + 1 - i by omega] at this
      · obtain rfl : v = c := by simpa using hv
        exact ⟨hcm, L + 1, Nat.le_refl _, hap', by rw [Nat.sub_self]; exact wk_zero.2 rfl⟩) hap' h2
    exact Wf.rg_succ.2 ⟨c, hcm, by rw [hl]; exact h4, hnew, ih⟩
theorem least_ring {m : Nat} {R : Nat → List Nat} (hR : Ok m R) {q : Nat} (h : Oc m R q) (hmin : ∀ t, t < q → ¬ Oc m R t) : Wf.ringOf m R q = true := by
  obtain ⟨hq, a, ha, hw⟩ := h
  have := rg_least hR hq hmin ha (q - 1) [a] 0 a (by omega) (by simp) rfl rfl ha (fun v hv => by
    rw [List.mem_singleton] at hv
    subst hv
    exact ⟨ha, 0, Nat.le_refl _, wk_zero.2 rfl, wk_zero.2 rfl⟩) (wk_zero.2 rfl) (by rw [show q - 1 + 1 = q by omega]; exact hw)
  unfold Wf.ringOf
  simp only [List.any_eq_true, List.mem_range]
  exact ⟨a, ha, this⟩
theorem odd_three {m : Nat} {R : Nat → List Nat} (hi : ∀ a, a < m → a ∉ R a) {q : Nat} (h : Oc m R q) : 3 ≤ q := by
  obtain ⟨hq, a, ha, hw⟩ := h
  rcases Nat.lt_or_ge q 3 with h3 | h3
  · exfalso
    obtain rfl : q = 1 := by omega
    obtain ⟨c, hc, h1, h2⟩ := wk_succ.1 hw
    have := wk_zero.1 h1
    subst this
    exact hi a ha h2
  · exact h3

/-- o is how many points a shortest odd ring has, or 0 -/
def OddIs (m : Nat) (R : Nat → List Nat) (o : Nat) : Prop := (o = 0 ∧ ∀ q, ¬ Oc m R q) ∨ (Oc m R o ∧ ∀ t, t < o → ¬ Oc m R t)
theorem OddIs.unique {m : Nat} {R : Nat → List Nat} {o o' : Nat} (h : OddIs m R o) (h' : OddIs m R o') : o = o' := by
  rcases h with ⟨rfl, h⟩ | ⟨h, h1⟩
  · rcases h' with ⟨rfl, _⟩ | ⟨h', _⟩
    · rfl
    · exact absurd h' (h _)
  · rcases h' with ⟨rfl, h'⟩ | ⟨h', h2⟩
    · exact absurd h (h' _)
    · rcases Nat.lt_trichotomy o o' with e | e | e
      · exact absurd h (h2 _ e)
      · exact e
      · exact absurd h' (h1 _ e)
theorem OddIs.exist (m : Nat) (R : Nat → List Nat) : ∃ o, OddIs m R o := by
  by_cases h : ∃ q, Oc m R q
  · obtain ⟨q, hq⟩ := h
    obtain ⟨k, _, h1, h2⟩ := least hq
    exact ⟨k, .inr ⟨h1, h2⟩⟩
  · exact ⟨0, .inl ⟨rfl, fun q hq => h ⟨q, hq⟩⟩⟩
theorem OddIs.says {m : Nat} {R : Nat → List Nat} (hR : Ok m R) (hi : ∀ a, a < m → a ∉ R a) {o : Nat} (h : OddIs m R o) : o = 0 ∨ (o % 2 = 1 ∧ 3 ≤ o ∧ o ≤ m) := by
  rcases h with ⟨h, _⟩ | ⟨h, h1⟩
  · exact .inl h
  · exact .inr ⟨h.1, odd_three hi h, ring_le (by have := h.1; omega) (least_ring hR h h1)⟩
/-- by trying all odd numbers, none has a ring -/
theorem OddIs.none {m : Nat} {R : Nat → List Nat} (hR : Ok m R) (hi : ∀ a, a < m → a ∉ R a) (h : ∀ q, q % 2 = 1 → 3 ≤ q → q ≤ m → Wf.ringOf m R q = false) : OddIs m R 0 := by
  refine .inl ⟨rfl, fun q hq => ?_⟩
  obtain ⟨k, _, h1, h2⟩ := least hq
  have hr := least_ring hR h1 h2
  rw [h k h1.1 (odd_three hi h1) (ring_le (by have := h1.1; omega) hr)] at hr
  cases hr
/-- by trying all odd numbers, the first that has one -/
theorem OddIs.first {m : Nat} {R : Nat → List Nat} (hR : Ok m R) (hi : ∀ a, a < m → a ∉ R a) {o : Nat} (ho : o % 2 = 1) (hr : Wf.ringOf m R o = true) (h : ∀ q, q % 2 = 1 → 3 ≤ q → q < o → Wf.ringOf m R q = false) : OddIs m R o := by
  refine .inr ⟨⟨ho, ring_round (by omega) hr⟩, fun t ht hq => ?_⟩
  obtain ⟨k, hk, h1, h2⟩ := least hq
  have hr := least_ring hR h1 h2
  rw [h k h1.1 (odd_three hi h1) (by omega)] at hr
  cases hr

/-! ### level by level -/
/-- two points beside each other, both d from s -/
def Flat (m : Nat) (R : Nat → List Nat) (s d : Nat) : Prop := ∃ u v, u < m ∧ v ∈ R u ∧ dist m R s u = (d : Int) ∧ dist m R s v = (d : Int)
theorem Flat.round {m : Nat} {R : Nat → List Nat} (hR : Ok m R) (hs : Sym m R) {s d : Nat} (hsm : s < m) (h : Flat m R s d) : Oc m R (2 * d + 1) := by
  obtain ⟨u, v, hu, hv, h1, h2⟩ := h
  have hvm := hR u hu v hv
  refine ⟨by omega, s, hsm, ?_⟩
  have w1 : wk m R d s u = true := by
    rcases dist_cases u hR hsm with ⟨k, hd, he⟩ | ⟨_, he⟩
    · have : k = d := by omega
      rw [← this]; exact hd.1
    · omega
  have w2 : wk m R d s v = true := by
    rcases dist_cases v hR hsm with ⟨k, hd, he⟩ | ⟨_, he⟩
    · have : k = d := by omega
      rw [← this]; exact hd.1
    · omega
  have := wk_add (wk_add w1 (wk_one hu hv)) (wk_sym hR hs hsm w2)
  rwa [show d + 1 + d = 2 * d + 1 by omega] at this
theorem dist_near {m : Nat} {R : Nat → List Nat} (hR : Ok m R) (hs : Sym m R) {s u v : Nat} (hsm : s < m) (hu : u < m) (hv : v ∈ R u) (h : 0 ≤ dist m R s u) : 0 ≤ dist m R s v ∧ dist m R s v ≤ dist m R s u + 1 ∧ dist m R s u ≤ dist m R s v + 1 := by
  have h1 := dist_step hR hsm hu hv h
  have hvm := hR u hu v hv
  have h2 := dist_step hR hsm hvm (hs u v hu hvm hv) h1.1
  exact ⟨h1.1, h1.2, h2.2⟩
/-- along a way the distance turns from even to odd and back, unless two points beside each other are equally far -/
theorem along {m : Nat} {R : Nat → List Nat} (hR : Ok m R) (hs : Sym m R) {a : Nat} (ha : a < m) : ∀ (k x : Nat), wk m R k a x = true →
    (∃ i j u v, i + j + 1 = k ∧ u < m ∧ wk m R i a u = true ∧ v ∈ R u ∧ wk m R j v x = true ∧ dist m R a u = dist m R a v) ∨ (dist m R a x) % 2 = ((k % 2 : Nat) : Int)
  | 0, x, h => by
    have := wk_zero.1 h
    subst this
    exact .inr (by rw [(dist_zero hR ha).2 rfl]; rfl)
  | k + 1, x, h => by
    obtain ⟨c, hc, h1, h2⟩ := wk_succ.1 h
    rcases along hR hs ha k c h1 with ⟨i, j, u, v, e, hu, w1, hv, w2, hd⟩ | hp
    · exact .inl ⟨i, j + 1, u, v, by omega, hu, w1, hv, wk_succ.2 ⟨c, hc, w2, h2⟩, hd⟩
    · by_cases e : dist m R a c = dist m R a x
      · exact .inl ⟨k, 0, c, x, by omega, hc, h1, h2, wk_zero.2 rfl, e⟩
      · have h0 := (dist_le hR ha h1).1
        obtain ⟨n1, n2, n3⟩ := dist_near hR hs ha hc h2 h0
        refine .inr ?_
        omega
theorem round_flat {m : Nat} {R : Nat → List Nat} (hR : Ok m R) (hs : Sym m R) {q : Nat} (h : Oc m R q) : ∃ s d, s < m ∧ Flat m R s d ∧ 2 * d + 1 ≤ q := by
  obtain ⟨hq, a, ha, hw⟩ := h
  rcases along hR hs ha q a hw with ⟨i, j, u, v, e, hu, w1, hv, w2, hd⟩ | hp
  · have hvm := hR u hu v hv
    have d1 := dist_le hR ha w1
    have d2 := dist_le hR ha (wk_sym hR hs hvm w2)
    refine ⟨a, (dist m R a u).toNat, ha, ⟨u, v, hu, hv, by omega, by omega⟩, by omega⟩
  · rw [(dist_zero hR ha).2 rfl] at hp
    omega

/-! ### two parts -/
/-- which part a point is in: by how far it is from the least point that hangs together with it -/
def pt (m : Nat) (R : Nat → List Nat) (v : Nat) : Int := dist m R (lab m R m v).toNat v % 2
theorem pt_range {m : Nat} (R : Nat → List Nat) (v : Nat) : 0 ≤ pt m R v ∧ pt m R v ≤ 1 := by unfold pt; omega
theorem lab_near {m : Nat} {R : Nat → List Nat} (hR : Ok m R) (hs : Sym m R) {u v : Nat} (hu : u < m) (hv : v ∈ R u) : lab m R m u = lab m R m v :=
  (lab_eq hR hs hu (hR u hu v hv)).2 ((rch_iff hR hu).2 ⟨1, wk_one hu hv⟩)
theorem pt_proper {m : Nat} {R : Nat → List Nat} (hR : Ok m R) (hs : Sym m R) (h : ∀ q, ¬ Oc m R q) {u v : Nat} (hu : u < m) (hv : v ∈ R u) : pt m R u ≠ pt m R v := by
  intro e
  obtain ⟨s, hl, hsu, hr, _⟩ := lab_spec hR hu
  unfold pt at e
  rw [← lab_near hR hs hu hv, hl, Int.toNat_natCast] at e
  have hsm : s < m := by omega
  have h0 : 0 ≤ dist m R s u := by simpa [rch] using hr
  obtain ⟨n1, n2, n3⟩ := dist_near hR hs hsm hu hv h0
  have e2 : dist m R s u = dist m R s v := by omega
  exact h _ (Flat.round hR hs hsm ⟨u, v, hu, hv, (Int.toNat_of_nonneg h0).symm, by rw [← e2]; exact (Int.toNat_of_nonneg h0).symm⟩)
/-- with two parts each way turns from one to the other -/
theorem parted_walk {m : Nat} {R : Nat → List Nat} {c : Nat → Int} (hc : ∀ u, u < m → ∀ v ∈ R u, (c u = 0 ∧ c v = 1) ∨ (c u = 1 ∧ c v = 0)) : ∀ (k a b : Nat), wk m R k a b = true → k % 2 = 1 → c a ≠ c b := by
  have key : ∀ (k a b : Nat), wk m R k a b = true → (k % 2 = 0 → c a = c b) ∧ (k % 2 = 1 → (c a = 0 ∧ c b = 1) ∨ (c a = 1 ∧ c b = 0)) := by
    intro k a
    induction k with
    | zero =>
      intro b h
      have := wk_zero.1 h
      subst this
      exact ⟨fun _ => rfl, fun h => by omega⟩
    | succ k ih =>
      intro b h
      obtain ⟨x, hx, h1, h2⟩ := wk_succ.1 h
      have hi := ih x h1
      have hn := hc x hx b h2
      constructor
      · intro hk
        have := hi.2 (by omega)
        omega
      · intro hk
        have := hi.1 (by omega)
        omega
  intro k a b h hk
  have := (key k a b h).2 hk
  omega
theorem parted_none {m : Nat} {R : Nat → List Nat} {c : Nat → Int} (hc : ∀ u, u < m → ∀ v ∈ R u, (c u = 0 ∧ c v = 1) ∨ (c u = 1 ∧ c v = 0)) : ∀ q, ¬ Oc m R q := fun q h => by
  obtain ⟨hq, a, ha, hw⟩ := h
  exact parted_walk hc q a a hw hq rfl
theorem less_none {m : Nat} {R R' : Nat → List Nat} (hsub : ∀ a, a < m → ∀ b ∈ R a, b ∈ R' a) (h : ∀ q, ¬ Oc m R' q) : ∀ q, ¬ Oc m R q := fun q ⟨hq, a, ha, hw⟩ => h q ⟨hq, a, ha, wk_mono hsub hw⟩
/-- all parts -/
def parts (m : Nat) (R : Nat → List Nat) : List Int := (List.range m).map (pt m R)
theorem parts_len (m : Nat) (R : Nat → List Nat) : (parts m R).length = m := by simp [parts]
theorem parts_at {m : Nat} (R : Nat → List Nat) {v : Nat} (hv : v < m) : (parts m R).getD v 0 = pt m R v := by simp [parts, List.getD, hv]
/-- does each line go from one part to the other? -/
def okB (m : Nat) (ls : List Gr.Ln) : Bool := ls.all fun p => !decide (pt m (nrow m ls) p.1.toNat = pt m (nrow m ls) p.2.toNat)
theorem okB_iff {m : Nat} {ls : List Gr.Ln} (h : Gr.code (m : Int) ls = 0) : okB m ls = true ↔ ∀ q, ¬ Oc m (nrow m ls) q := by
  have hR := nrow_ok m ls
  have hs := nrow_sym m ls
  have hg := (Gr.code_zero.1 h).2.2.2
  unfold okB
  rw [List.all_eq_true]
  constructor
  · intro hh
    refine parted_none (c := pt m (nrow m ls)) fun u hu v hv => ?_
    obtain ⟨hvm, ha⟩ := mem_nrow.1 hv
    have hne : pt m (nrow m ls) u ≠ pt m (nrow m ls) v := by
      rcases Gr.adj_iff.1 ha with hm | hm
      · have := hh _ hm
        simpa using this
      · have := hh _ hm
        simp at this
        exact fun e => this e.symm
    have h1 := pt_range (m := m) (nrow m ls) u
    have h2 := pt_range (m := m) (nrow m ls) v
    omega
  · intro hn p hp
    obtain ⟨g1, g2, g3, g4, g5⟩ := hg p hp
    have hm : p.2.toNat ∈ nrow m ls p.1.toNat := by
      rw [mem_nrow, Int.toNat_of_nonneg g1, Int.toNat_of_nonneg g3]
      exact ⟨by omega, Gr.adj_iff.2 (.inl hp)⟩
    have := pt_proper hR hs hn (show p.1.toNat < m by omega) hm
    simpa using this

end Go.Proofs.YtklanopgmlmjlaaDoor.Ha
