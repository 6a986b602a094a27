/-
  Plain facts on two sides and pairs, with no program in them: how many pairs there are at most (by trying all), that it is as many as cover all lines (by sets of points and those that they have lines to), who is paired always, both sides seen from the other, one line more. No statement of the program is proved here; there is no condition.
-/
import Derived.WalkKit
set_option linter.unusedSimpArgs false
set_option linter.unusedVariables false
namespace Go.Proofs.Ytinglgnddmadaaa.Ma

/-! ### counting -/
/-- how many below n -/
def cnt (n : Nat) (p : Nat → Bool) : Nat := (List.range n).countP p
theorem countP_or_and {α : Type} (p q : α → Bool) : ∀ l : List α, l.countP (fun x => p x || q x) + l.countP (fun x => p x && q x) = l.countP p + l.countP q
  | [] => rfl
  | a :: l => by
    have ih := countP_or_and p q l
    simp only [List.countP_cons]
    cases p a <;> cases q a <;> simp <;> omega
theorem countP_mono {α : Type} {p q : α → Bool} : ∀ {l : List α}, (∀ x ∈ l, p x = true → q x = true) → l.countP p ≤ l.countP q
  | [], _ => Nat.le_refl _
  | a :: l, h => by
    have ih := countP_mono (l := l) fun x hx => h x (List.mem_cons_of_mem _ hx)
    have ha := h a List.mem_cons_self
    simp only [List.countP_cons]
    cases hp : p a
    · simp; omega
    · rw [ha hp]; simp; exact ih
theorem countP_eq {α : Type} {p q : α → Bool} {l : List α} (h : ∀ x ∈ l, p x = q x) : l.countP p = l.countP q := List.countP_congr fun x hx => by rw [h x hx]
theorem countP_not {α : Type} (p : α → Bool) : ∀ l : List α, l.countP p + l.countP (fun x => !p x) = l.length
  | [] => rfl
  | a :: l => by
    have ih := countP_not p l
    simp only [List.countP_cons, List.length_cons]
    cases p a <;> simp <;> omega
theorem cnt_mono {n : Nat} {p q : Nat → Bool} (h : ∀ x, x < n → p x = true → q x = true) : cnt n p ≤ cnt n q := countP_mono fun x hx => h x (List.mem_range.1 hx)
theorem cnt_eq {n : Nat} {p q : Nat → Bool} (h : ∀ x, x < n → p x = q x) : cnt n p = cnt n q := countP_eq fun x hx => h x (List.mem_range.1 hx)
theorem cnt_le (n : Nat) (p : Nat → Bool) : cnt n p ≤ n := by have := List.countP_le_length (p := p) (l := List.range n); rwa [List.length_range] at this
theorem cnt_not (n : Nat) (p : Nat → Bool) : cnt n p + cnt n (fun x => !p x) = n := by have := countP_not p (List.range n); rwa [List.length_range] at this
theorem cnt_one (j : Nat) : ∀ n, j < n → cnt n (fun x => decide (x = j)) = 1
  | 0, h => by omega
  | n + 1, h => by
    unfold cnt
    rw [List.range_succ, List.countP_append]
    by_cases e : n = j
    · subst e
      have : (List.range n).countP (fun x => decide (x = n)) = 0 := List.countP_eq_zero.2 fun x hx => by
        have := List.mem_range.1 hx
        simp; omega
      rw [this]
      simp
    · have := cnt_one j n (by omega)
      unfold cnt at this
      rw [this]
      simp [e]
/-- without j -/
theorem cnt_but {n : Nat} (p : Nat → Bool) {j : Nat} (hj : j < n) : cnt n p = cnt n (fun x => p x && !decide (x = j)) + if p j = true then 1 else 0 := by
  have h1 := countP_or_and (fun x => p x && !decide (x = j)) (fun x => p x && decide (x = j)) (List.range n)
  have h2 : (List.range n).countP (fun x => (p x && !decide (x = j)) || (p x && decide (x = j))) = cnt n p := countP_eq fun x _ => by cases p x <;> by_cases e : x = j <;> simp [e]
  have h3 : (List.range n).countP (fun x => (p x && !decide (x = j)) && (p x && decide (x = j))) = 0 := List.countP_eq_zero.2 fun x _ => by by_cases e : x = j <;> simp [e]
  have h4 : (List.range n).countP (fun x => p x && decide (x = j)) = if p j = true then 1 else 0 := by
    cases hp : p j
    · refine (List.countP_eq_zero.2 fun x _ => ?_).trans (by simp)
      by_cases e : x = j
      · subst e; simp [hp]
      · simp [e]
    · have : (List.range n).countP (fun x => p x && decide (x = j)) = cnt n fun x => decide (x = j) := countP_eq fun x _ => by
        by_cases e : x = j
        · subst e; simp [hp]
        · simp [e]
      rw [this, cnt_one j n hj]
      simp
  rw [h2, h3, h4, Nat.add_zero] at h1
  exact h1

/-! ### how many pairs at most -/
section
variable (G : Nat → Nat → Bool) (r : Nat)
/-- those that some of them have a line to -/
def nb (xs : List Nat) (S : Nat → Bool) (j : Nat) : Bool := xs.any fun i => S i && G i j
/-- the best of the first k on the right for i; f: how many of the others -/
def moTo (f : (Nat → Bool) → Nat) (i : Nat) (U : Nat → Bool) : Nat → Nat
  | 0 => f U
  | k + 1 => if (U k && G i k) = true then max (moTo f i U k) (1 + f fun x => U x && !decide (x = k)) else moTo f i U k
/-- by trying all: U are free on the right -/
def mo : List Nat → (Nat → Bool) → Nat
  | [], _ => 0
  | i :: xs, U => moTo G (mo xs) i U r
end
section
variable {G : Nat → Nat → Bool} {r : Nat}
theorem moTo_spec (f : (Nat → Bool) → Nat) (i : Nat) (U : Nat → Bool) : ∀ k, f U ≤ moTo G f i U k ∧ (∀ j, j < k → (U j && G i j) = true → 1 + f (fun x => U x && !decide (x = j)) ≤ moTo G f i U k) ∧ (moTo G f i U k = f U ∨ ∃ j, j < k ∧ (U j && G i j) = true ∧ moTo G f i U k = 1 + f fun x => U x && !decide (x = j))
  | 0 => ⟨Nat.le_refl _, fun j h => by omega, .inl rfl⟩
  | k + 1 => by
    obtain ⟨h1, h2, h3⟩ := moTo_spec f i U k
    have e : moTo G f i U (k + 1) = if (U k && G i k) = true then max (moTo G f i U k) (1 + f fun x => U x && !decide (x = k)) else moTo G f i U k := rfl
    by_cases hk : (U k && G i k) = true
    · rw [if_pos hk] at e
      rw [e]
      refine ⟨by omega, fun j hj hU => ?_, ?_⟩
      · rcases Nat.lt_or_ge j k with hl | hl
        · have := h2 j hl hU; omega
        · obtain rfl : j = k := by omega
          omega
      · rcases Nat.lt_or_ge (moTo G f i U k) (1 + f fun x => U x && !decide (x = k)) with hl | hl
        · exact .inr ⟨k, by omega, hk, by omega⟩
        · rw [Nat.max_eq_left hl]
          rcases h3 with h3 | ⟨j, hj, hU, h3⟩
          · exact .inl h3
          · exact .inr ⟨j, by omega, hU, h3⟩
    · rw [if_neg hk] at e
      rw [e]
      refine ⟨h1, fun j hj hU => ?_, ?_⟩
      · rcases Nat.lt_or_ge j k with hl | hl
        · exact h2 j hl hU
        · obtain rfl : j = k := by omega
          exact absurd hU hk
      · rcases h3 with h3 | ⟨j, hj, hU, h3⟩
        · exact .inl h3
        · exact .inr ⟨j, by omega, hU, h3⟩

/-- how many free ones they have lines to -/
def nn (G : Nat → Nat → Bool) (r : Nat) (xs : List Nat) (U S : Nat → Bool) : Nat := cnt r fun j => U j && nb G xs S j
theorem nn_mono {xs : List Nat} {U U' S : Nat → Bool} (h : ∀ j, U j = true → U' j = true) : nn G r xs U S ≤ nn G r xs U' S := cnt_mono fun j _ hj => by
  simp only [Bool.and_eq_true] at hj ⊢
  exact ⟨h j hj.1, hj.2⟩
theorem nn_but {xs : List Nat} {U S : Nat → Bool} {j : Nat} (hj : j < r) : nn G r xs U S = nn G r xs (fun x => U x && !decide (x = j)) S + if (U j && nb G xs S j) = true then 1 else 0 := by
  unfold nn
  rw [cnt_but (fun x => U x && nb G xs S x) hj]
  congr 1
  refine cnt_eq fun x _ => ?_
  show ((U x && nb G xs S x) && !decide (x = j)) = ((U x && !decide (x = j)) && nb G xs S x)
  generalize U x = a
  generalize nb G xs S x = b
  generalize decide (x = j) = d
  cases a <;> cases b <;> cases d <;> rfl
theorem nb_cons (i : Nat) (xs : List Nat) (S : Nat → Bool) (j : Nat) : nb G (i :: xs) S j = ((S i && G i j) || nb G xs S j) := by simp [nb]
/-- no more pairs than others and those that they have lines to -/
theorem weak : ∀ (xs : List Nat) (U S : Nat → Bool), mo G r xs U + xs.countP S ≤ xs.length + nn G r xs U S
  | [], U, S => by simp [mo]
  | i :: xs, U, S => by
    have hmono : nn G r xs U S ≤ nn G r (i :: xs) U S := cnt_mono fun j _ hj => by
      simp only [Bool.and_eq_true] at hj ⊢
      rw [nb_cons, hj.2, Bool.or_true]
      exact ⟨hj.1, rfl⟩
    have hs : (i :: xs).countP S ≤ xs.countP S + 1 := by rw [List.countP_cons]; split <;> omega
    obtain ⟨_, _, h3⟩ := moTo_spec (G := G) (mo G r xs) i U r
    show moTo G (mo G r xs) i U r + _ ≤ _
    rw [List.length_cons]
    rcases h3 with h3 | ⟨j, hj, hU, h3⟩
    · have := weak xs U S
      omega
    · have ih := weak xs (fun x => U x && !decide (x = j)) S
      rw [h3]
      simp only [Bool.and_eq_true] at hU
      cases hS : S i
      · have e : (i :: xs).countP S = xs.countP S := by rw [List.countP_cons, hS]; rfl
        have := nn_mono (G := G) (r := r) (xs := xs) (S := S) (U := fun x => U x && !decide (x = j)) (U' := U) fun x hx => by
          simp only [Bool.and_eq_true] at hx; exact hx.1
        omega
      · have hb := nn_but (G := G) (r := r) (xs := i :: xs) (U := U) (S := S) hj
        have hn : nb G (i :: xs) S j = true := by rw [nb_cons, hS, hU.2]; rfl
        rw [hU.1, hn] at hb
        simp only [Bool.and_self, if_true] at hb
        have h5 : nn G r xs (fun x => U x && !decide (x = j)) S ≤ nn G r (i :: xs) (fun x => U x && !decide (x = j)) S := cnt_mono fun x _ hx => by
          simp only [Bool.and_eq_true] at hx ⊢
          rw [nb_cons, hx.2, Bool.or_true]
          exact ⟨hx.1, rfl⟩
        omega

/-- a set for which there are just so many -/
def Tight (G : Nat → Nat → Bool) (r : Nat) (xs : List Nat) (U S : Nat → Bool) : Prop := mo G r xs U + xs.countP S = xs.length + nn G r xs U S
theorem nn_both (xs : List Nat) (U S T : Nat → Bool) : nn G r xs U (fun x => S x || T x) + nn G r xs U (fun x => S x && T x) ≤ nn G r xs U S + nn G r xs U T := by
  unfold nn cnt
  have h := countP_or_and (fun j => U j && nb G xs S j) (fun j => U j && nb G xs T j) (List.range r)
  have h1 : (List.range r).countP (fun j => U j && nb G xs (fun x => S x || T x) j) = (List.range r).countP fun j => (U j && nb G xs S j) || (U j && nb G xs T j) := countP_eq fun j _ => by
    have : nb G xs (fun x => S x || T x) j = (nb G xs S j || nb G xs T j) := by
      unfold nb
      rw [Bool.eq_iff_iff]
      simp only [List.any_eq_true, Bool.or_eq_true, Bool.and_eq_true]
      constructor
      · rintro ⟨i, hi, h1 | h1, h2⟩
        · exact .inl ⟨i, hi, h1, h2⟩
        · exact .inr ⟨i, hi, h1, h2⟩
      · rintro (⟨i, hi, h1, h2⟩ | ⟨i, hi, h1, h2⟩)
        · exact ⟨i, hi, .inl h1, h2⟩
        · exact ⟨i, hi, .inr h1, h2⟩
    rw [this]
    cases U j <;> simp
  have h2 : (List.range r).countP (fun j => U j && nb G xs (fun x => S x && T x) j) ≤ (List.range r).countP fun j => (U j && nb G xs S j) && (U j && nb G xs T j) := countP_mono fun j _ hj => by
    simp only [Bool.and_eq_true, nb, List.any_eq_true] at hj ⊢
    obtain ⟨hU, i, hi, ⟨h1, h2⟩, h3⟩ := hj
    exact ⟨⟨hU, i, hi, h1, h3⟩, hU, i, hi, h2, h3⟩
  omega
theorem Tight.both {xs : List Nat} {U S T : Nat → Bool} (h : Tight G r xs U S) (h' : Tight G r xs U T) : Tight G r xs U (fun x => S x || T x) ∧ Tight G r xs U (fun x => S x && T x) := by
  unfold Tight at *
  have h1 := nn_both (G := G) (r := r) xs U S T
  have h2 := countP_or_and S T xs
  have h3 := weak (G := G) (r := r) xs U fun x => S x || T x
  have h4 := weak (G := G) (r := r) xs U fun x => S x && T x
  omega
/-- there is such a set -/
theorem strong : ∀ (xs : List Nat), xs.Nodup → ∀ U : Nat → Bool, ∃ S, Tight G r xs U S
  | [], _, U => ⟨fun _ => false, by unfold Tight; simp [mo, nn, nb, cnt]⟩
  | i :: xs, hn, U => by
    obtain ⟨hi, hn'⟩ := List.nodup_cons.1 hn
    have ih := strong xs hn'
    have hne : ∀ x ∈ xs, x ≠ i := fun x hx e => hi (e ▸ hx)
    obtain ⟨S', hS'⟩ := ih U
    obtain ⟨m1, m2, m3⟩ := moTo_spec (G := G) (mo G r xs) i U r
    have hmo : mo G r (i :: xs) U = moTo G (mo G r xs) i U r := rfl
    by_cases hex : ∃ j, j < r ∧ (U j && G i j) = true ∧ mo G r xs U ≤ mo G r xs fun x => U x && !decide (x = j)
    · obtain ⟨j, hj, hU, hge⟩ := hex
      refine ⟨fun x => S' x && !decide (x = i), ?_⟩
      have hup : moTo G (mo G r xs) i U r ≤ mo G r xs U + 1 := by
        rcases m3 with m3 | ⟨j', hj', hU', m3⟩
        · omega
        · obtain ⟨T, hT⟩ := ih U
          have h1 := weak (G := G) (r := r) xs (fun x => U x && !decide (x = j')) T
          have h2 := nn_mono (G := G) (r := r) (xs := xs) (S := T) (U := fun x => U x && !decide (x = j')) (U' := U) fun x hx => by
            simp only [Bool.and_eq_true] at hx; exact hx.1
          unfold Tight at hT
          omega
      have hlow := m2 j hj hU
      unfold Tight at hS' ⊢
      rw [hmo]
      have c1 : (i :: xs).countP (fun x => S' x && !decide (x = i)) = xs.countP S' := by
        rw [List.countP_cons]
        have : xs.countP (fun x => S' x && !decide (x = i)) = xs.countP S' := countP_eq fun x hx => by simp [hne x hx]
        rw [this]
        simp
      have c2 : nn G r (i :: xs) U (fun x => S' x && !decide (x = i)) = nn G r xs U S' := cnt_eq fun x _ => by
        rw [nb_cons]
        have : nb G xs (fun x => S' x && !decide (x = i)) x = nb G xs S' x := by
          unfold nb
          rw [Bool.eq_iff_iff]
          simp only [List.any_eq_true, Bool.and_eq_true]
          constructor
          · rintro ⟨y, hy, ⟨h1, _⟩, h2⟩; exact ⟨y, hy, h1, h2⟩
          · rintro ⟨y, hy, h1, h2⟩; exact ⟨y, hy, ⟨h1, by simp [hne y hy]⟩, h2⟩
        rw [this]
        simp
      rw [c1, c2, List.length_cons]
      omega
    · have hall : ∀ j, j < r → (U j && G i j) = true → (mo G r xs fun x => U x && !decide (x = j)) < mo G r xs U := fun j hj hU => by
        rcases Nat.lt_or_ge (mo G r xs fun x => U x && !decide (x = j)) (mo G r xs U) with h | h
        · exact h
        · exact absurd ⟨j, hj, hU, h⟩ hex
      have hval : moTo G (mo G r xs) i U r = mo G r xs U := by
        rcases m3 with m3 | ⟨j, hj, hU, m3⟩
        · exact m3
        · have := hall j hj hU
          omega
      have hone : ∀ j, j < r → (U j && G i j) = true → ∃ S, Tight G r xs U S ∧ nb G xs S j = true := fun j hj hU => by
        obtain ⟨S, hS⟩ := ih fun x => U x && !decide (x = j)
        have h1 := weak (G := G) (r := r) xs U S
        have h2 := nn_but (G := G) (r := r) (xs := xs) (U := U) (S := S) hj
        have h3 := hall j hj hU
        unfold Tight at hS
        cases hb : (U j && nb G xs S j)
        · rw [hb] at h2; simp at h2; omega
        · rw [hb] at h2
          simp only [if_true] at h2
          refine ⟨S, ?_, (Bool.and_eq_true_iff.1 hb).2⟩
          unfold Tight
          omega
      have hmany : ∀ k, ∃ S, Tight G r xs U S ∧ ∀ j, j < k → j < r → (U j && G i j) = true → nb G xs S j = true := by
        intro k
        induction k with
        | zero => exact ⟨S', hS', fun j h => by omega⟩
        | succ k ihk =>
          obtain ⟨S, hS, h1⟩ := ihk
          by_cases hk : k < r ∧ (U k && G i k) = true
          · obtain ⟨T, hT, h2⟩ := hone k hk.1 hk.2
            refine ⟨_, (hS.both hT).1, fun j hj hjr hU => ?_⟩
            have : nb G xs S j = true ∨ nb G xs T j = true := by
              rcases Nat.lt_or_ge j k with h | h
              · exact .inl (h1 j h hjr hU)
              · obtain rfl : j = k := by omega
                exact .inr h2
            unfold nb at this ⊢
            simp only [List.any_eq_true, Bool.and_eq_true, Bool.or_eq_true] at this ⊢
            rcases this with ⟨y, hy, h3, h4⟩ | ⟨y, hy, h3, h4⟩
            · exact ⟨y, hy, .inl h3, h4⟩
            · exact ⟨y, hy, .inr h3, h4⟩
          · refine ⟨S, hS, fun j hj hjr hU => ?_⟩
            rcases Nat.lt_or_ge j k with h | h
            · exact h1 j h hjr hU
            · obtain rfl : j = k := by omega
              exact absurd ⟨hjr, hU⟩ hk
      obtain ⟨S, hS, hS2⟩ := hmany r
      refine ⟨fun x => decide (x = i) || S x, ?_⟩
      have c1 : (i :: xs).countP (fun x => decide (x = i) || S x) = xs.countP S + 1 := by
        rw [List.countP_cons]
        have : xs.countP (fun x => decide (x = i) || S x) = xs.countP S := countP_eq fun x hx => by simp [hne x hx]
        rw [this]
        simp
      have c2 : nn G r (i :: xs) U (fun x => decide (x = i) || S x) = nn G r xs U S := cnt_eq fun x hx => by
        rw [nb_cons]
        have : nb G xs (fun x => decide (x = i) || S x) x = nb G xs S x := by
          unfold nb
          rw [Bool.eq_iff_iff]
          simp only [List.any_eq_true, Bool.and_eq_true, Bool.or_eq_true]
          constructor
          · rintro ⟨y, hy, h1 | h1, h2⟩
            · exact absurd (of_decide_eq_true h1) (hne y hy)
            · exact ⟨y, hy, h1, h2⟩
          · rintro ⟨y, hy, h1, h2⟩; exact ⟨y, hy, .inr h1, h2⟩
        rw [this]
        cases hU : U x
        · simp
        · cases hG : G i x
          · simp
          · have := hS2 x hx hx (by rw [hU, hG]; rfl)
            simp [this]
      unfold Tight at hS ⊢
      rw [hmo, hval, c1, c2, List.length_cons]
      omega
end

/-! ### two sides -/
/-- how many pairs at most, of l on the left and r on the right -/
def nu (G : Nat → Nat → Bool) (l r : Nat) : Nat := mo G r (List.range l) fun _ => true
/-- those on the right that some on the left have lines to -/
def nbr (G : Nat → Nat → Bool) (l : Nat) (S : Nat → Bool) (j : Nat) : Bool := nb G (List.range l) S j
theorem nbr_iff {G : Nat → Nat → Bool} {l : Nat} {S : Nat → Bool} {j : Nat} : nbr G l S j = true ↔ ∃ i, i < l ∧ S i = true ∧ G i j = true := by
  simp [nbr, nb]
section
variable {G : Nat → Nat → Bool} {l r : Nat}
theorem hall_le (G : Nat → Nat → Bool) (l r : Nat) (S : Nat → Bool) : nu G l r + cnt l S ≤ l + cnt r (nbr G l S) := by
  have := weak (G := G) (r := r) (List.range l) (fun _ => true) S
  rw [List.length_range] at this
  unfold nu
  have e : nn G r (List.range l) (fun _ => true) S = cnt r (nbr G l S) := cnt_eq fun j _ => by simp [nbr]
  rw [e] at this
  exact this
/-- just so many -/
def Just (G : Nat → Nat → Bool) (l r : Nat) (S : Nat → Bool) : Prop := nu G l r + cnt l S = l + cnt r (nbr G l S)
theorem just_tight {S : Nat → Bool} : Just G l r S ↔ Tight G r (List.range l) (fun _ => true) S := by
  unfold Just Tight
  rw [List.length_range]
  have e : nn G r (List.range l) (fun _ => true) S = cnt r (nbr G l S) := cnt_eq fun j _ => by simp [nbr]
  rw [e]
  exact Iff.rfl
theorem hall_ex (G : Nat → Nat → Bool) (l r : Nat) : ∃ S, Just G l r S := by
  obtain ⟨S, hS⟩ := strong (G := G) (r := r) (List.range l) List.nodup_range fun _ => true
  exact ⟨S, just_tight.2 hS⟩
theorem Just.both {S T : Nat → Bool} (h : Just G l r S) (h' : Just G l r T) : Just G l r (fun x => S x || T x) ∧ Just G l r (fun x => S x && T x) := by
  obtain ⟨h1, h2⟩ := (just_tight.1 h).both (just_tight.1 h')
  exact ⟨just_tight.2 h1, just_tight.2 h2⟩
theorem nbr_congr {S T : Nat → Bool} (h : ∀ i, i < l → S i = T i) (j : Nat) : nbr G l S j = nbr G l T j := by
  rw [Bool.eq_iff_iff, nbr_iff, nbr_iff]
  constructor
  · rintro ⟨i, hi, h1, h2⟩; exact ⟨i, hi, by rw [← h i hi]; exact h1, h2⟩
  · rintro ⟨i, hi, h1, h2⟩; exact ⟨i, hi, by rw [h i hi]; exact h1, h2⟩
theorem Just.congr {S T : Nat → Bool} (h : Just G l r S) (he : ∀ i, i < l → S i = T i) : Just G l r T := by
  unfold Just at *
  rw [cnt_eq he, cnt_eq (fun j _ => nbr_congr he j)] at h
  exact h
theorem nu_le_left (G : Nat → Nat → Bool) (l r : Nat) : nu G l r ≤ l := by
  have h := hall_le G l r fun _ => false
  have e : cnt r (nbr G l fun _ => false) = 0 := List.countP_eq_zero.2 fun j _ => by simp [nbr, nb]
  rw [e] at h
  omega
theorem nu_le_right (G : Nat → Nat → Bool) (l r : Nat) : nu G l r ≤ r := by
  have h := hall_le G l r fun _ => true
  have e : cnt l (fun _ => true) = l := by simp [cnt]
  have := cnt_le r (nbr G l fun _ => true)
  omega
theorem nu_congr {G' : Nat → Nat → Bool} (h : ∀ i, i < l → ∀ j, j < r → G i j = G' i j) : nu G l r = nu G' l r := by
  have key : ∀ {A B : Nat → Nat → Bool}, (∀ i, i < l → ∀ j, j < r → A i j = B i j) → nu A l r ≤ nu B l r := fun {A B} h => by
    obtain ⟨S, hS⟩ := hall_ex B l r
    have h1 := hall_le A l r S
    have e : cnt r (nbr A l S) = cnt r (nbr B l S) := cnt_eq fun j hj => by
      rw [Bool.eq_iff_iff, nbr_iff, nbr_iff]
      constructor
      · rintro ⟨i, hi, h1, h2⟩; exact ⟨i, hi, h1, by rw [← h i hi j hj]; exact h2⟩
      · rintro ⟨i, hi, h1, h2⟩; exact ⟨i, hi, h1, by rw [h i hi j hj]; exact h2⟩
    unfold Just at hS
    omega
  exact Nat.le_antisymm (key h) (key fun i hi j hj => (h i hi j hj).symm)
/-- more lines, no fewer pairs -/
theorem nu_mono {G' : Nat → Nat → Bool} (h : ∀ i, i < l → ∀ j, j < r → G i j = true → G' i j = true) : nu G l r ≤ nu G' l r := by
  obtain ⟨S, hS⟩ := hall_ex G' l r
  have h1 := hall_le G l r S
  have e : cnt r (nbr G l S) ≤ cnt r (nbr G' l S) := cnt_mono fun j hj hh => by
    obtain ⟨i, hi, h1, h2⟩ := nbr_iff.1 hh
    exact nbr_iff.2 ⟨i, hi, h1, h i hi j hj h2⟩
  unfold Just at hS
  omega
/-- one line more, one pair more at most -/
theorem nu_more (a b : Nat) : nu (fun i j => G i j || (decide (i = a) && decide (j = b))) l r ≤ nu G l r + 1 := by
  obtain ⟨S, hS⟩ := hall_ex G l r
  have h1 := hall_le (fun i j => G i j || (decide (i = a) && decide (j = b))) l r S
  have e : cnt r (nbr (fun i j => G i j || (decide (i = a) && decide (j = b))) l S) ≤ cnt r (nbr G l S) + 1 := by
    by_cases hb : b < r
    · have h2 := cnt_but (nbr (fun i j => G i j || (decide (i = a) && decide (j = b))) l S) hb
      have h3 : cnt r (fun x => nbr (fun i j => G i j || (decide (i = a) && decide (j = b))) l S x && !decide (x = b)) ≤ cnt r (nbr G l S) := cnt_mono fun j _ hh => by
        simp only [Bool.and_eq_true, nbr_iff] at hh
        obtain ⟨⟨i, hi, h1, h2⟩, h3⟩ := hh
        refine nbr_iff.2 ⟨i, hi, h1, ?_⟩
        have h3' : ¬ j = b := by simpa using h3
        simpa [h3'] using h2
      rw [h2]
      split <;> omega
    · have : cnt r (nbr (fun i j => G i j || (decide (i = a) && decide (j = b))) l S) ≤ cnt r (nbr G l S) := cnt_mono fun j hj hh => by
        obtain ⟨i, hi, h1, h2⟩ := nbr_iff.1 hh
        have : ¬ j = b := by omega
        exact nbr_iff.2 ⟨i, hi, h1, by simpa [this] using h2⟩
      omega
  unfold Just at hS
  omega
/-- seen from the right there are as many -/
theorem nu_turn (G : Nat → Nat → Bool) (l r : Nat) : nu (fun j i => G i j) r l = nu G l r := by
  have key : ∀ (G : Nat → Nat → Bool) (l r : Nat), nu (fun j i => G i j) r l ≤ nu G l r := fun G l r => by
    obtain ⟨S, hS⟩ := hall_ex G l r
    have h1 := hall_le (fun j i => G i j) r l fun j => !nbr G l S j
    have h2 := cnt_not r (nbr G l S)
    have h3 := cnt_not l S
    have h4 : cnt l (nbr (fun j i => G i j) r fun j => !nbr G l S j) ≤ cnt l fun i => !S i := cnt_mono fun i hi hh => by
      obtain ⟨j, hj, h5, h6⟩ := nbr_iff.1 hh
      cases hSi : S i
      · rfl
      · have : nbr G l S j = true := nbr_iff.2 ⟨i, hi, hSi, h6⟩
        rw [this] at h5
        cases h5
    unfold Just at hS
    omega
  exact Nat.le_antisymm (key G l r) (key (fun j i => G i j) r l)

/-! ### who is paired always -/
/-- the lines without one on the left -/
def wo (G : Nat → Nat → Bool) (a : Nat) : Nat → Nat → Bool := fun i j => !decide (i = a) && G i j
/-- without a there are fewer -/
def ess (G : Nat → Nat → Bool) (l r a : Nat) : Bool := decide (nu (wo G a) l r < nu G l r)
theorem wo_nbr {S : Nat → Bool} {a j : Nat} : nbr (wo G a) l S j = nbr G l (fun x => S x && !decide (x = a)) j := by
  rw [Bool.eq_iff_iff, nbr_iff, nbr_iff]
  unfold wo
  simp only [Bool.and_eq_true]
  constructor
  · rintro ⟨i, hi, h1, h2, h3⟩; exact ⟨i, hi, ⟨h1, h2⟩, h3⟩
  · rintro ⟨i, hi, ⟨h1, h2⟩, h3⟩; exact ⟨i, hi, h1, h2, h3⟩
theorem nu_wo_le (a : Nat) : nu (wo G a) l r ≤ nu G l r := nu_mono fun i _ j _ h => by unfold wo at h; simp only [Bool.and_eq_true] at h; exact h.2
theorem nu_wo_ge {a : Nat} (ha : a < l) : nu G l r ≤ nu (wo G a) l r + 1 := by
  obtain ⟨S, hS⟩ := hall_ex (wo G a) l r
  have h1 := hall_le G l r fun x => S x && !decide (x = a)
  have e : cnt r (nbr (wo G a) l S) = cnt r (nbr G l fun x => S x && !decide (x = a)) := cnt_eq fun j _ => wo_nbr
  have h2 := cnt_but S ha
  unfold Just at hS
  split at h2 <;> omega
/-- one outside of a set that is just is paired always -/
theorem ess_out {S : Nat → Bool} {a : Nat} (ha : a < l) (h : Just G l r S) (hS : S a = false) : ess G l r a = true := by
  unfold ess
  rw [decide_eq_true_eq]
  have h1 := hall_le (wo G a) l r fun x => S x || decide (x = a)
  have e : cnt r (nbr (wo G a) l fun x => S x || decide (x = a)) = cnt r (nbr G l S) := cnt_eq fun j _ => by
    rw [wo_nbr]
    refine nbr_congr (fun i hi => ?_) j
    by_cases e : i = a
    · subst e; simp [hS]
    · simp [e]
  have h2 := cnt_but (fun x => S x || decide (x = a)) ha
  have e2 : cnt l (fun x => (S x || decide (x = a)) && !decide (x = a)) = cnt l S := cnt_eq fun i _ => by
    by_cases e : i = a
    · subst e; simp [hS]
    · simp [e]
  rw [e2] at h2
  simp at h2
  unfold Just at h
  omega
/-- one who is paired always lies outside of some set that is just -/
theorem ess_ex {a : Nat} (ha : a < l) (h : ess G l r a = true) : ∃ S, Just G l r S ∧ S a = false := by
  unfold ess at h
  rw [decide_eq_true_eq] at h
  obtain ⟨T, hT⟩ := hall_ex (wo G a) l r
  have e : cnt r (nbr (wo G a) l T) = cnt r (nbr G l fun x => T x && !decide (x = a)) := cnt_eq fun j _ => wo_nbr
  have h1 := hall_le G l r fun x => T x && !decide (x = a)
  have h2 := cnt_but T ha
  refine ⟨fun x => T x && !decide (x = a), ?_, by simp⟩
  unfold Just at hT ⊢
  split at h2 <;> omega
/-- those that are not paired always are the least such set -/
theorem ess_just (G : Nat → Nat → Bool) (l r : Nat) : Just G l r fun i => !ess G l r i := by
  have key : ∀ k, ∃ S, Just G l r S ∧ ∀ a, a < k → a < l → ess G l r a = true → S a = false := by
    intro k
    induction k with
    | zero =>
      obtain ⟨S, hS⟩ := hall_ex G l r
      exact ⟨S, hS, fun a h => by omega⟩
    | succ k ih =>
      obtain ⟨S, hS, h1⟩ := ih
      by_cases hk : k < l ∧ ess G l r k = true
      · obtain ⟨T, hT, h2⟩ := ess_ex hk.1 hk.2
        refine ⟨_, (hS.both hT).2, fun a ha hal he => ?_⟩
        rcases Nat.lt_or_ge a k with h | h
        · simp [h1 a h hal he]
        · obtain rfl : a = k := by omega
          simp [h2]
      · refine ⟨S, hS, fun a ha hal he => ?_⟩
        rcases Nat.lt_or_ge a k with h | h
        · exact h1 a h hal he
        · obtain rfl : a = k := by omega
          exact absurd ⟨hal, he⟩ hk
  obtain ⟨S, hS, h1⟩ := key l
  refine hS.congr fun i hi => ?_
  cases he : ess G l r i
  · cases hSi : S i
    · have := ess_out hi hS hSi
      rw [he] at this
      cases this
    · rfl
  · rw [h1 i hi hi he]
    rfl
/-- those that are paired always, and those that the others have lines to: as many as there are pairs -/
theorem cover_count (G : Nat → Nat → Bool) (l r : Nat) : cnt l (ess G l r) + cnt r (nbr G l fun i => !ess G l r i) = nu G l r := by
  have h := ess_just G l r
  have h2 := cnt_not l (ess G l r)
  unfold Just at h
  omega
theorem ess_wo {a : Nat} (ha : a < l) : nu (wo G a) l r + (if ess G l r a = true then 1 else 0) = nu G l r := by
  have h1 := nu_wo_le (G := G) (l := l) (r := r) a
  have h2 := nu_wo_ge (G := G) (l := l) (r := r) ha
  cases he : ess G l r a
  · unfold ess at he
    have : ¬ nu (wo G a) l r < nu G l r := of_decide_eq_false he
    simp
    omega
  · unfold ess at he
    have := of_decide_eq_true he
    simp
    omega

/-! ### pairs that are there -/
/-- so many pairs are no more than there are at most -/
theorem pairs_le {M : List (Nat × Nat)} (hM : ∀ p ∈ M, p.1 < l ∧ p.2 < r ∧ G p.1 p.2 = true) (h1 : (M.map Prod.fst).Nodup) (h2 : (M.map Prod.snd).Nodup) : M.length ≤ nu G l r := by
  obtain ⟨S, hS⟩ := hall_ex G l r
  have hsplit := countP_not (fun p : Nat × Nat => S p.1) M
  have hsub1 : ((M.filter fun p => !S p.1).map Prod.fst).length ≤ ((List.range l).filter fun i => !S i).length := by
    refine List.Nodup.length_le_of_subset (h1.sublist (List.filter_sublist.map _)) fun x hx => ?_
    obtain ⟨p, hp, rfl⟩ := List.mem_map.1 hx
    obtain ⟨hp1, hp2⟩ := List.mem_filter.1 hp
    exact List.mem_filter.2 ⟨List.mem_range.2 (hM p hp1).1, hp2⟩
  have hsub2 : ((M.filter fun p => S p.1).map Prod.snd).length ≤ ((List.range r).filter (nbr G l S)).length := by
    refine List.Nodup.length_le_of_subset (h2.sublist (List.filter_sublist.map _)) fun x hx => ?_
    obtain ⟨p, hp, rfl⟩ := List.mem_map.1 hx
    obtain ⟨hp1, hp2⟩ := List.mem_filter.1 hp
    obtain ⟨g1, g2, g3⟩ := hM p hp1
    exact List.mem_filter.2 ⟨List.mem_range.2 g2, nbr_iff.2 ⟨p.1, g1, hp2, g3⟩⟩
  rw [List.length_map, ← List.countP_eq_length_filter, ← List.countP_eq_length_filter] at hsub1 hsub2
  have h3 := cnt_not l S
  unfold Just at hS
  unfold cnt at h3 hS
  omega
/-- if some have only so few to go to, there are no more pairs -/
theorem pairs_ge {n : Nat} {S : Nat → Bool} (h : l + cnt r (nbr G l S) ≤ n + cnt l S) : nu G l r ≤ n := by
  have := hall_le G l r S
  omega
end

end Go.Proofs.Ytinglgnddmadaaa.Ma
