/-
  Plain facts on the reference's own answers on ways and rings, with no program in them: how far by all three points, rings by all ways. No statement of the program is proved here; there is no condition.
-/
import Derived.Test.YthlgloefeigcbaaDoorWalkQ
set_option linter.unusedSimpArgs false
set_option linter.unusedVariables false
namespace Go.Proofs.YthlgloefeigcbaaDoor.Wf
open Go.Proofs.YthlgloefeigcbaaDoor

/-- over a third point, or as it was -/
def rl (x y z : Int) : Int := if 0 ≤ x ∧ 0 ≤ y ∧ (z < 0 ∨ x + y < z) then x + y else z
/-- how far, over points below k alone -/
def dk (D : Nat → Nat → Int) : Nat → Nat → Nat → Int
  | 0, i, j => D i j
  | k + 1, i, j => rl (dk D k i k) (dk D k k j) (dk D k i j)

/-- what it starts with -/
structure Base (D : Nat → Nat → Int) : Prop where
  diag : ∀ i, D i i = 0
  low : ∀ i j, -1 ≤ D i j
  high : ∀ i j, D i j ≤ 1

theorem dk_low {D : Nat → Nat → Int} (h : Base D) : ∀ k i j, -1 ≤ dk D k i j
  | 0, i, j => h.low i j
  | k + 1, i, j => by
    have h1 := dk_low h k i j
    unfold dk rl
    split <;> omega
theorem dk_high {D : Nat → Nat → Int} (h : Base D) : ∀ k i j, dk D k i j ≤ ((2 ^ k : Nat) : Int)
  | 0, i, j => h.high i j
  | k + 1, i, j => by
    have h1 := dk_high h k i j
    have h2 := dk_high h k i k
    have h3 := dk_high h k k j
    have h4 : (2 ^ (k + 1) : Nat) = 2 ^ k + 2 ^ k := by rw [Nat.pow_succ]; omega
    rw [h4]
    generalize 2 ^ k = p at *
    unfold dk rl
    split <;> omega
theorem dk_diag {D : Nat → Nat → Int} (h : Base D) : ∀ k i, dk D k i i = 0
  | 0, i => h.diag i
  | k + 1, i => by
    have h1 := dk_diag h k i
    unfold dk rl
    split <;> omega
theorem dk_col {D : Nat → Nat → Int} (h : Base D) (k i : Nat) : dk D (k + 1) i k = dk D k i k := by
  have h1 := dk_diag h k k
  show rl _ _ _ = _
  unfold rl
  split <;> omega
theorem dk_row {D : Nat → Nat → Int} (h : Base D) (k j : Nat) : dk D (k + 1) k j = dk D k k j := by
  have h1 := dk_diag h k k
  show rl _ _ _ = _
  unfold rl
  split <;> omega
theorem dk_le (D : Nat → Nat → Int) (k i j : Nat) (h : 0 ≤ dk D k i j) : 0 ≤ dk D (k + 1) i j ∧ dk D (k + 1) i j ≤ dk D k i j := by
  show 0 ≤ rl _ _ _ ∧ rl _ _ _ ≤ _
  unfold rl
  split <;> omega
theorem dk_start (D : Nat → Nat → Int) (i j : Nat) (h : 0 ≤ D i j) : ∀ k, 0 ≤ dk D k i j ∧ dk D k i j ≤ D i j
  | 0 => ⟨h, Int.le_refl _⟩
  | k + 1 => by
    have h1 := dk_start D i j h k
    have h2 := dk_le D k i j h1.1
    omega
theorem dk_tri {D : Nat → Nat → Int} (h : Base D) : ∀ k c, c < k → ∀ i j, 0 ≤ dk D k i c → 0 ≤ dk D k c j → 0 ≤ dk D k i j ∧ dk D k i j ≤ dk D k i c + dk D k c j
  | 0, c, hc, _, _, _, _ => by omega
  | k + 1, c, hc, i, j, h1, h2 => by
    by_cases hk : c = k
    · subst hk
      rw [dk_col h] at h1 ⊢
      rw [dk_row h] at h2 ⊢
      show 0 ≤ rl _ _ _ ∧ rl _ _ _ ≤ _
      unfold rl
      split <;> omega
    · have hck : c < k := by omega
      have t1 := dk_tri h k c hck i j
      have t2 := dk_tri h k c hck k j
      have t3 := dk_tri h k c hck i k
      have l1 := dk_low h k i j
      have l2 := dk_low h k i k
      have l3 := dk_low h k k j
      have l4 := dk_low h k k c
      have l5 := dk_low h k c k
      revert h1 h2
      show 0 ≤ rl _ _ _ → 0 ≤ rl _ _ _ → 0 ≤ rl _ _ _ ∧ rl _ _ _ ≤ rl _ _ _ + rl _ _ _
      generalize dk D k i j = ij at *
      generalize dk D k i k = ik at *
      generalize dk D k k j = kj at *
      generalize dk D k i c = ic at *
      generalize dk D k c j = cj at *
      generalize dk D k k c = kc at *
      generalize dk D k c k = ck at *
      unfold rl
      split <;> split <;> split <;> omega

/-- one step from i to j -/
def Steps (m : Nat) (R : Nat → List Nat) (D : Nat → Nat → Int) : Prop := ∀ i j, i < m → j < m → D i j = if i = j then 0 else if (R i).contains j = true then 1 else -1

theorem dk_sound {m : Nat} {R : Nat → List Nat} {D : Nat → Nat → Int} (hS : Steps m R D) : ∀ k, k ≤ m → ∀ i j, i < m → j < m → 0 ≤ dk D k i j → Wa.wk m R (dk D k i j).toNat i j = true
  | 0, _, i, j, hi, hj, h => by
    have e := hS i j hi hj
    show Wa.wk m R (D i j).toNat i j = true
    have h' : 0 ≤ D i j := h
    rw [e] at h' ⊢
    split
    · rename_i he; subst he; exact Wa.wk_zero.2 rfl
    · rename_i he
      rw [if_neg he] at h'
      split
      · rename_i hc; exact Wa.wk_one hi (by simpa using hc)
      · rename_i hc; rw [if_neg hc] at h'; omega
  | k + 1, hk, i, j, hi, hj, h => by
    revert h
    show 0 ≤ rl _ _ _ → Wa.wk m R (rl _ _ _).toNat i j = true
    unfold rl
    split
    · rename_i hc
      intro _
      have h1 := dk_sound hS k (by omega) i k hi (by omega) hc.1
      have h2 := dk_sound hS k (by omega) k j (by omega) hj hc.2.1
      have := Wa.wk_add h1 h2
      rwa [← Int.toNat_add hc.1 hc.2.1] at this
    · intro h
      exact dk_sound hS k (by omega) i j hi hj h
theorem dk_full {m : Nat} {R : Nat → List Nat} {D : Nat → Nat → Int} (hB : Base D) (hR : Wa.Ok m R) (hS : Steps m R D) {i : Nat} (hi : i < m) : ∀ L j, Wa.wk m R L i j = true → 0 ≤ dk D m i j ∧ dk D m i j ≤ (L : Int)
  | 0, j, h => by
    have := Wa.wk_zero.1 h
    subst this
    rw [dk_diag hB]
    omega
  | L + 1, j, h => by
    obtain ⟨c, hc, h1, h2⟩ := Wa.wk_succ.1 h
    have ih := dk_full hB hR hS hi L c h1
    have hj := hR c hc j h2
    have e := hS c j hc hj
    have hn : 0 ≤ D c j ∧ D c j ≤ 1 := by
      rw [e]
      split
      · omega
      · rw [if_pos (by simpa using h2)]; omega
    have h3 := dk_start D c j hn.1 m
    have := dk_tri hB m c hc i j ih.1 h3.1
    omega
/-- how far by all three points is how far -/
theorem far_dist {m : Nat} {R : Nat → List Nat} {D : Nat → Nat → Int} (hB : Base D) (hR : Wa.Ok m R) (hS : Steps m R D) {i j : Nat} (hi : i < m) (hj : j < m) : dk D m i j = Wa.dist m R i j := by
  have hl := dk_low hB m i j
  rcases Wa.dist_cases j hR hi with ⟨k, hd, he⟩ | ⟨hn, he⟩
  · rw [he]
    have h1 := dk_full hB hR hS hi k j hd.1
    have h2 := dk_sound hS m (Nat.le_refl _) i j hi hj h1.1
    rcases Nat.lt_or_ge (dk D m i j).toNat k with h3 | h3
    · have := hd.2 _ h3
      rw [h2] at this
      cases this
    · omega
  · rw [he]
    by_cases h0 : 0 ≤ dk D m i j
    · have h2 := dk_sound hS m (Nat.le_refl _) i j hi hj h0
      rw [hn] at h2
      cases h2
    · omega

/-! ### rings by all ways -/
/-- may one go on by f points more, none twice, and come back? -/
def rg (m : Nat) (R : Nat → List Nat) : Nat → List Nat → Bool
  | 0, way => (R (way.getLastD 0)).contains (way.headD 0)
  | f + 1, way => (List.range m).any fun b => (R (way.getLastD 0)).contains b && (!way.contains b && rg m R f (way ++ [b]))
/-- is there a ring of so many points? -/
def ringOf (m : Nat) (R : Nat → List Nat) (many : Nat) : Bool := (List.range m).any fun a => rg m R (many - 1) [a]

theorem rg_succ {m : Nat} {R : Nat → List Nat} {f : Nat} {way : List Nat} : rg m R (f + 1) way = true ↔ ∃ b, b < m ∧ b ∈ R (way.getLastD 0) ∧ b ∉ way ∧ rg m R f (way ++ [b]) = true := by
  simp [rg]
theorem last_app (way : List Nat) (b : Nat) : (way ++ [b]).getLastD 0 = b := by simp
theorem head_app {way : List Nat} (h : way ≠ []) (b : Nat) : (way ++ [b]).headD 0 = way.headD 0 := by
  cases way with
  | nil => exact absurd rfl h
  | cons x xs => rfl

theorem rg_way {m : Nat} {R : Nat → List Nat} {a s : Nat} : ∀ (f : Nat) (way : List Nat) (L p : Nat), way ≠ [] → way.headD 0 = a → a ∈ way → s ∈ way → way.getLastD 0 = p → p < m → p ≠ a →
    (∀ x, x ≠ s → Wa.wk m (Wa.rest R a x) L a p = true) → rg m R (f + 1) way = true → ∃ b, b < m ∧ Wa.wk m (Wa.rest R a b) (L + f + 1) a b = true ∧ a ∈ R b
  | f, way, L, p, hne, hh, ha, hs, hl, hp, hpa, hw, h => by
    obtain ⟨b, hb, hbR, hbw, h2⟩ := rg_succ.1 h
    rw [hl] at hbR
    have hstep : ∀ x, x ≠ s → Wa.wk m (Wa.rest R a x) (L + 1) a b = true := fun x hx => Wa.wk_succ.2 ⟨p, hp, hw x hx, Wa.mem_rest.2 ⟨hbR, fun e => hpa e.1⟩⟩
    have hba : b ≠ a := fun e => hbw (e ▸ ha)
    have hbs : b ≠ s := fun e => hbw (e ▸ hs)
    cases f with
    | zero =>
      unfold rg at h2
      rw [last_app, head_app hne, hh] at h2
      exact ⟨b, hb, hstep b hbs, by simpa using h2⟩
    | succ f =>
      obtain ⟨c, hc, h3, h4⟩ := rg_way (a := a) (s := s) f (way ++ [b]) (L + 1) b (by simp) (by rw [head_app hne, hh]) (by simp [ha]) (by simp [hs]) (last_app _ _) hb hba hstep h2
      exact ⟨c, hc, by rw [show L + (f + 1) + 1 = L + 1 + f + 1 by omega]; exact h3, h4⟩
/-- a ring of so many points: the girth is no more -/
theorem ringOf_girth {m : Nat} {R : Nat → List Nat} (hR : Wa.Ok m R) (hs : Wa.Sym m R) {q : Nat} (hq : 3 ≤ q) (h : ringOf m R q = true) : 0 < Wa.girth m R ∧ Wa.girth m R ≤ (q : Int) := by
  obtain ⟨f, rfl⟩ : ∃ f, q = f + 3 := ⟨q - 3, by omega⟩
  have h' : ∃ a, a < m ∧ rg m R (f + 1 + 1) [a] = true := by simpa [ringOf] using h
  obtain ⟨a, ha, h1⟩ := h'
  obtain ⟨s, hs1, hsR, hsa, h2⟩ := rg_succ.1 h1
  have hsR' : s ∈ R a := by simpa using hsR
  have hsa' : s ≠ a := by simpa using hsa
  obtain ⟨b, hb, h3, h4⟩ := rg_way (a := a) (s := s) f ([a] ++ [s]) 1 s (by simp) rfl (by simp) (by simp) (last_app _ _) hs1 hsa'
    (fun x hx => Wa.wk_succ.2 ⟨a, ha, Wa.wk_zero.2 rfl, Wa.mem_rest.2 ⟨hsR', fun e => hx e.2.symm⟩⟩) h2
  have h5 := Wa.dist_le (Wa.rest_ok hR a b) ha h3
  have h6 : Wa.rt m R a b ≤ ((f + 3 : Nat) : Int) ∧ 0 < Wa.rt m R a b := by unfold Wa.rt; omega
  have hmem : b ∈ R a := hs b a hb ha h4
  rcases Wa.girth_best m R with ⟨_, h0⟩ | ⟨h0, _, h8⟩
  · have := h0 _ ⟨a, ha, b, hmem, rfl⟩
    omega
  · exact ⟨h0, Int.le_trans (h8 _ ⟨a, ha, b, hmem, rfl⟩ h6.2) h6.1⟩

theorem rg_of {m : Nat} {R : Nat → List Nat} (hR : Wa.Ok m R) {u b k : Nat} (hd : Wa.Dst m (Wa.rest R u b) u b k) (hub : u ∈ R b) : ∀ (f : Nat) (way : List Nat) (L p : Nat), L + f = k → way ≠ [] → way.headD 0 = u → way.getLastD 0 = p → p < m →
    (∀ v ∈ way, ∃ j, j ≤ L ∧ Wa.wk m (Wa.rest R u b) j u v = true) → Wa.wk m (Wa.rest R u b) f p b = true → rg m R f way = true
  | 0, way, L, p, hk, hne, hh, hl, hp, hw, h => by
    unfold rg
    rw [hl, hh, Wa.wk_zero.1 h]
    simpa using hub
  | f + 1, way, L, p, hk, hne, hh, hl, hp, hw, h => by
    obtain ⟨c, h1, h2⟩ := Wa.wk_split (i := 1) (j := f) (by rw [Nat.add_comm]; exact h)
    obtain ⟨e, he, h3, h4⟩ := Wa.wk_succ.1 h1
    have := Wa.wk_zero.1 h3
    subst this
    have hc := (Wa.mem_rest.1 h4).1
    have hcm := hR p hp c hc
    have hne2 : c ∉ way := by
      intro hcw
      obtain ⟨j, hj, h5⟩ := hw c hcw
      have := hd.2 (j + f) (by omega)
      rw [Wa.wk_add h5 h2] at this
      cases this
    have hlast : ∃ j, j ≤ L ∧ Wa.wk m (Wa.rest R u b) j u p = true := hw p (by
      rw [← hl]
      cases way with
      | nil => exact absurd rfl hne
      | cons x xs =>
        have : (x :: xs).getLastD 0 = (x :: xs).getLast (by simp) := by rw [List.getLastD_cons, List.getLast_eq_getLastD]
        rw [this]
        exact List.getLast_mem _)
    obtain ⟨j, hj, h6⟩ := hlast
    have h7 := rg_of hR hd hub f (way ++ [c]) (L + 1) c (by omega) (by simp) (by rw [head_app hne, hh]) (last_app _ _) hcm (by
      intro v hv
      rcases List.mem_append.1 hv with hv | hv
      · obtain ⟨i, hi, h8⟩ := hw v hv
        exact ⟨i, by omega, h8⟩
      · obtain rfl : v = c := by simpa using hv
        exact ⟨j + 1, by omega, Wa.wk_add h6 h1⟩) h2
    exact rg_succ.2 ⟨c, hcm, by rw [hl]; exact hc, hne2, h7⟩
/-- there is a ring of as many points as the girth says -/
theorem girth_ringOf {m : Nat} {R : Nat → List Nat} (hR : Wa.Ok m R) (hs : Wa.Sym m R) (hi : ∀ a, a < m → a ∉ R a) (h : 0 < Wa.girth m R) : ringOf m R (Wa.girth m R).toNat = true ∧ 3 ≤ Wa.girth m R ∧ Wa.girth m R ≤ (m : Int) := by
  rcases Wa.girth_best m R with ⟨h0, _⟩ | ⟨_, ⟨u, hu, b, hb, he⟩, _⟩
  · omega
  · have hub : u ≠ b := fun e => hi u hu (by rw [← e] at hb; exact hb)
    have hbm := hR u hu b hb
    rcases Wa.rt_cases hR hu hub with h1 | ⟨h1, h2⟩
    · omega
    · rw [he]
      refine ⟨?_, h1, h2⟩
      rcases Wa.dist_cases b (Wa.rest_ok hR u b) hu with ⟨k, hd, he2⟩ | ⟨_, he2⟩
      · have hk : (Wa.rt m R u b).toNat - 1 = k := by unfold Wa.rt; omega
        have := rg_of hR hd (hs u b hu hbm hb) k [u] 0 u (by omega) (by simp) rfl rfl hu (by
          intro v hv
          obtain rfl : v = u := by simpa using hv
          exact ⟨0, Nat.le_refl _, Wa.wk_zero.2 rfl⟩) hd.1
        unfold ringOf
        rw [hk]
        simp only [List.any_eq_true, List.mem_range]
        exact ⟨u, hu, this⟩
      · unfold Wa.rt at h1; omega
/-- the first ring, by number -/
theorem girth_first {m : Nat} {R : Nat → List Nat} (hR : Wa.Ok m R) (hs : Wa.Sym m R) (hi : ∀ a, a < m → a ∉ R a) {q : Nat} (hq : 3 ≤ q) (hn : ∀ t, 3 ≤ t → t < q → ringOf m R t = false) (h : ringOf m R q = true) : Wa.girth m R = (q : Int) := by
  obtain ⟨h1, h2⟩ := ringOf_girth hR hs hq h
  obtain ⟨h3, h4, h5⟩ := girth_ringOf hR hs hi h1
  rcases Nat.lt_or_ge (Wa.girth m R).toNat q with h6 | h6
  · rw [hn _ (by omega) h6] at h3
    cases h3
  · omega
theorem girth_none {m : Nat} {R : Nat → List Nat} (hR : Wa.Ok m R) (hs : Wa.Sym m R) (hi : ∀ a, a < m → a ∉ R a) (hn : ∀ t, 3 ≤ t → t ≤ m → ringOf m R t = false) : Wa.girth m R = 0 := by
  rcases Wa.girth_best m R with ⟨h0, _⟩ | ⟨h0, _, _⟩
  · exact h0
  · obtain ⟨h3, h4, h5⟩ := girth_ringOf hR hs hi h0
    rw [hn _ (by omega) (by omega)] at h3
    cases h3

end Go.Proofs.YthlgloefeigcbaaDoor.Wf
