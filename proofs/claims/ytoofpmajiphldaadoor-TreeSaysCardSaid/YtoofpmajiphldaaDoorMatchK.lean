/-
  Plain facts on two sides and pairs, with no program in them: how many pairs there are at most (by trying all), that it is as many as cover all lines (by sets of points and those that they have lines to), who is paired always, both sides seen from the other, one line more. No statement of the program is proved here; there is no condition.
  Plain facts on pairing one after the other by ways that swap, with no program in them: what one try leaves behind, and that after all tries there are as many pairs as there can be. No statement of the program is proved here; there is no condition.
-/
import Derived.WalkKit
import Derived.Test.YtoofpmajiphldaaDoorGraphL
set_option linter.unusedSimpArgs false
set_option linter.unusedVariables false
namespace Go.Proofs.YtoofpmajiphldaaDoor.Ma

/-! ### counting -/
/-- how many below n -/
def cnt (n : Nat) (p : Nat → Bool) : Nat := (List.range n).countP p
theorem countP_or_and {α : Type} (p q : α → Bool) : ∀ l : List α, l.countP (fun x => p x || q x) + l.countP (fun x => p x && q x) = l.countP p + l.countP q
  | [] => rfl
  | a :: l => by
    have ih := countP_or_and p q l
    simp only [List.countP_cons]
    cases p a <;> cases q a <;> simp <;> omega
theorem countP_mono {α : Type} {p q : α → Bool} : ∀ {l : List α}, (∀ x ∈ l, p x = true → q x = true) → l.countP p ≤ l.countP q
  | [], _ => Nat.le_refl _
  | a :: l, h => by
    have ih := countP_mono (l := l) fun x hx => h x (List.mem_cons_of_mem _ hx)
    have ha := h a List.mem_cons_self
    simp only [List.countP_cons]
    cases hp : p a
    · simp; omega
    · rw [ha hp]; simp; exact ih
theorem countP_eq {α : Type} {p q : α → Bool} {l : List α} (h : ∀ x ∈ l, p x = q x) : l.countP p = l.countP q := List.countP_congr fun x hx => by rw [h x hx]
theorem countP_not {α : Type} (p : α → Bool) : ∀ l : List α, l.countP p + l.countP (fun x => !p x) = l.length
  | [] => rfl
  | a :: l => by
    have ih := countP_not p l
    simp only [List.countP_cons, List.length_cons]
    cases p a <;> simp <;> omega
theorem cnt_mono {n : Nat} {p q : Nat → Bool} (h : ∀ x, x < n → p x = true → q x = true) : cnt n p ≤ cnt n q := countP_mono fun x hx => h x (List.mem_range.1 hx)
theorem cnt_eq {n : Nat} {p q : Nat → Bool} (h : ∀ x, x < n → p x = q x) : cnt n p = cnt n q := countP_eq fun x hx => h x (List.mem_range.1 hx)
theorem cnt_le (n : Nat) (p : Nat → Bool) : cnt n p ≤ n := by have := List.countP_le_length (p := p) (l := List.range n); rwa [List.length_range] at this
theorem cnt_not (n : Nat) (p : Nat → Bool) : cnt n p + cnt n (fun x => !p x) = n := by have := countP_not p (List.range n); rwa [List.length_range] at this
theorem cnt_one (j : Nat) : ∀ n, j < n → cnt n (fun x => decide (x = j)) = 1
  | 0, h => by omega
  | n + 1, h => by
    unfold cnt
    rw [List.range_succ, List.countP_append]
    by_cases e : n = j
    · subst e
      have : (List.range n).countP (fun x => decide (x = n)) = 0 := List.countP_eq_zero.2 fun x hx => by
        have := List.mem_range.1 hx
        simp; omega
      rw [this]
      simp
    · have := cnt_one j n (by omega)
      unfold cnt at this
      rw [this]
      simp [e]
/-- without j -/
theorem cnt_but {n : Nat} (p : Nat → Bool) {j : Nat} (hj : j < n) : cnt n p = cnt n (fun x => p x && !decide (x = j)) + if p j = true then 1 else 0 := by
  have h1 := countP_or_and (fun x => p x && !decide (x = j)) (fun x => p x && decide (x = j)) (List.range n)
  have h2 : (List.range n).countP (fun x => (p x && !decide (x = j)) || (p x && decide (x = j))) = cnt n p := countP_eq fun x _ => by cases p x <;> by_cases e : x = j <;> simp [e]
  have h3 : (List.range n).countP (fun x => (p x && !decide (x = j)) && (p x && decide (x = j))) = 0 := List.countP_eq_zero.2 fun x _ => by by_cases e : x = j <;> simp [e]
  have h4 : (List.range n).countP (fun x => p x && decide (x = j)) = if p j = true then 1 else 0 := by
    cases hp : p j
    · refine (List.countP_eq_zero.2 fun x _ => ?_).trans (by simp)
      by_cases e : x = j
      · subst e; simp [hp]
      · simp [e]
    · have : (List.range n).countP (fun x => p x && decide (x = j)) = cnt n fun x => decide (x = j) := countP_eq fun x _ => by
        by_cases e : x = j
        · subst e; simp [hp]
        · simp [e]
      rw [this, cnt_one j n hj]
      simp
  rw [h2, h3, h4, Nat.add_zero] at h1
  exact h1

/-! ### how many pairs at most -/
section
variable (G : Nat → Nat → Bool) (r : Nat)
/-- those that some of them have a line to -/
def nb (xs : List Nat) (S : Nat → Bool) (j : Nat) : Bool := xs.any fun i => S i && G i j
/-- the best of the first k on the right for i; f: how many of the others -/
def moTo (f : (Nat → Bool) → Nat) (i : Nat) (U : Nat → Bool) : Nat → Nat
  | 0 => f U
  | k + 1 => if (U k && G i k) = true then max (moTo f i U k) (1 + f fun x => U x && !decide (x = k)) else moTo f i U k
/-- by trying all: U are free on the right -/
def mo : List Nat → (Nat → Bool) → Nat
  | [], _ => 0
  | i :: xs, U => moTo G (mo xs) i U r
end
section
variable {G : Nat → Nat → Bool} {r : Nat}
theorem moTo_spec (f : (Nat → Bool) → Nat) (i : Nat) (U : Nat → Bool) : ∀ k, f U ≤ moTo G f i U k ∧ (∀ j, j < k → (U j && G i j) = true → 1 + f (fun x => U x && !decide (x = j)) ≤ moTo G f i U k) ∧ (moTo G f i U k = f U ∨ ∃ j, j < k ∧ (U j && G i j) = true ∧ moTo G f i U k = 1 + f fun x => U x && !decide (x = j))
  | 0 => ⟨Nat.le_refl _, fun j h => by omega, .inl rfl⟩
  | k + 1 => by
    obtain ⟨h1, h2, h3⟩ := moTo_spec f i U k
    have e : moTo G f i U (k + 1) = if (U k && G i k) = true then max (moTo G f i U k) (1 + f fun x => U x && !decide (x = k)) else moTo G f i U k := rfl
    by_cases hk : (U k && G i k) = true
    · rw [if_pos hk] at e
      rw [e]
      refine ⟨by omega, fun j hj hU => ?_, ?_⟩
      · rcases Nat.lt_or_ge j k with hl | hl
        · have := h2 j hl hU; omega
        · obtain rfl : j = k := by omega
          omega
      · rcases Nat.lt_or_ge (moTo G f i U k) (1 + f fun x => U x && !decide (x = k)) with hl | hl
        · exact .inr ⟨k, by omega, hk, by omega⟩
        · rw [Nat.max_eq_left hl]
          rcases h3 with h3 | ⟨j, hj, hU, h3⟩
          · exact .inl h3
          · exact .inr ⟨j, by omega, hU, h3⟩
    · rw [if_neg hk] at e
      rw [e]
      refine ⟨h1, fun j hj hU => ?_, ?_⟩
      · rcases Nat.lt_or_ge j k with hl | hl
        · exact h2 j hl hU
        · obtain rfl : j = k := by omega
          exact absurd hU hk
      · rcases h3 with h3 | ⟨j, hj, hU, h3⟩
        · exact .inl h3
        · exact .inr ⟨j, by omega, hU, h3⟩

/-- how many free ones they have lines to -/
def nn (G : Nat → Nat → Bool) (r : Nat) (xs : List Nat) (U S : Nat → Bool) : Nat := cnt r fun j => U j && nb G xs S j
theorem nn_mono {xs : List Nat} {U U' S : Nat → Bool} (h : ∀ j, U j = true → U' j = true) : nn G r xs U S ≤ nn G r xs U' S := cnt_mono fun j _ hj => by
  simp only [Bool.and_eq_true] at hj ⊢
  exact ⟨h j hj.1, hj.2⟩
theorem nn_but {xs : List Nat} {U S : Nat → Bool} {j : Nat} (hj : j < r) : nn G r xs U S = nn G r xs (fun x => U x && !decide (x = j)) S + if (U j && nb G xs S j) = true then 1 else 0 := by
  unfold nn
  rw [cnt_but (fun x => U x && nb G xs S x) hj]
  congr 1
  refine cnt_eq fun x _ => ?_
  show ((U x && nb G xs S x) && !decide (x = j)) = ((U x && !decide (x = j)) && nb G xs S x)
  generalize U x = a
  generalize nb G xs S x = b
  generalize decide (x = j) = d
  cases a <;> cases b <;> cases d <;> rfl
theorem nb_cons (i : Nat) (xs : List Nat) (S : Nat → Bool) (j : Nat) : nb G (i :: xs) S j = ((S i && G i j) || nb G xs S j) := by simp [nb]
/-- no more pairs than others and those that they have lines to -/
theorem weak : ∀ (xs : List Nat) (U S : Nat → Bool), mo G r xs U + xs.countP S ≤ xs.length + nn G r xs U S
  | [], U, S => by simp [mo]
  | i :: xs, U, S => by
    have hmono : nn G r xs U S ≤ nn G r (i :: xs) U S := cnt_mono fun j _ hj => by
      simp only [Bool.and_eq_true] at hj ⊢
      rw [nb_cons, hj.2, Bool.or_true]
      exact ⟨hj.1, rfl⟩
    have hs : (i :: xs).countP S ≤ xs.countP S + 1 := by rw [List.countP_cons]; split <;> omega
    obtain ⟨_, _, h3⟩ := moTo_spec (G := G) (mo G r xs) i U r
    show moTo G (mo G r xs) i U r + _ ≤ _
    rw [List.length_cons]
    rcases h3 with h3 | ⟨j, hj, hU, h3⟩
    · have := weak xs U S
      omega
    · have ih := weak xs (fun x => U x && !decide (x = j)) S
      rw [h3]
      simp only [Bool.and_eq_true] at hU
      cases hS : S i
      · have e : (i :: xs).countP S = xs.countP S := by rw [List.countP_cons, hS]; rfl
        have := nn_mono (G := G) (r := r) (xs := xs) (S := S) (U := fun x => U x && !decide (x = j)) (U' := U) fun x hx => by
          simp only [Bool.and_eq_true] at hx; exact hx.1
        omega
      · have hb := nn_but (G := G) (r := r) (xs := i :: xs) (U := U) (S := S) hj
        have hn : nb G (i :: xs) S j = true := by rw [nb_cons, hS, hU.2]; rfl
        rw [hU.1, hn] at hb
        simp only [Bool.and_self, if_true] at hb
        have h5 : nn G r xs (fun x => U x && !decide (x = j)) S ≤ nn G r (i :: xs) (fun x => U x && !decide (x = j)) S := cnt_mono fun x _ hx => by
          simp only [Bool.and_eq_true] at hx ⊢
          rw [nb_cons, hx.2, Bool.or_true]
          exact ⟨hx.1, rfl⟩
        omega

/-- a set for which there are just so many -/
def Tight (G : Nat → Nat → Bool) (r : Nat) (xs : List Nat) (U S : Nat → Bool) : Prop := mo G r xs U + xs.countP S = xs.length + nn G r xs U S
theorem nn_both (xs : List Nat) (U S T : Nat → Bool) : nn G r xs U (fun x => S x || T x) + nn G r xs U (fun x => S x && T x) ≤ nn G r xs U S + nn G r xs U T := by
  unfold nn cnt
  have h := countP_or_and (fun j => U j && nb G xs S j) (fun j => U j && nb G xs T j) (List.range r)
  have h1 : (List.range r).countP (fun j => U j && nb G xs (fun x => S x || T x) j) = (List.range r).countP fun j => (U j && nb G xs S j) || (U j && nb G xs T j) := countP_eq fun j _ => by
    have : nb G xs (fun x => S x || T x) j = (nb G xs S j || nb G xs T j) := by
      unfold nb
      rw [Bool.eq_iff_iff]
      simp only [List.any_eq_true, Bool.or_eq_true, Bool.and_eq_true]
      constructor
      · rintro ⟨i, hi, h1 | h1, h2⟩
        · exact .inl ⟨i, hi, h1, h2⟩
        · exact .inr ⟨i, hi, h1, h2⟩
      · rintro (⟨i, hi, h1, h2⟩ | ⟨i, hi, h1, h2⟩)
        · exact ⟨i, hi, .inl h1, h2⟩
        · exact ⟨i, hi, .inr h1, h2⟩
    rw [this]
    cases U j <;> simp
  have h2 : (List.range r).countP (fun j => U j && nb G xs (fun x => S x && T x) j) ≤ (List.range r).countP fun j => (U j && nb G xs S j) && (U j && nb G xs T j) := countP_mono fun j _ hj => by
    simp only [Bool.and_eq_true, nb, List.any_eq_true] at hj ⊢
    obtain ⟨hU, i, hi, ⟨h1, h2⟩, h3⟩ := hj
    exact ⟨⟨hU, i, hi, h1, h3⟩, hU, i, hi, h2, h3⟩
  omega
theorem Tight.both {xs : List Nat} {U S T : Nat → Bool} (h : Tight G r xs U S) (h' : Tight G r xs U T) : Tight G r xs U (fun x => S x || T x) ∧ Tight G r xs U (fun x => S x && T x) := by
  unfold Tight at *
  have h1 := nn_both (G := G) (r := r) xs U S T
  have h2 := countP_or_and S T xs
  have h3 := weak (G := G) (r := r) xs U fun x => S x || T x
  have h4 := weak (G := G) (r := r) xs U fun x => S x && T x
  omega
/-- there is such a set -/
theorem strong : ∀ (xs : List Nat), xs.Nodup → ∀ U : Nat → Bool, ∃ S, Tight G r xs U S
  | [], _, U => ⟨fun _ => false, by unfold Tight; simp [mo, nn, nb, cnt]⟩
  | i :: xs, hn, U => by
    obtain ⟨hi, hn'⟩ := List.nodup_cons.1 hn
    have ih := strong xs hn'
    have hne : ∀ x ∈ xs, x ≠ i := fun x hx e => hi (e ▸ hx)
    obtain ⟨S', hS'⟩ := ih U
    obtain ⟨m1, m2, m3⟩ := moTo_spec (G := G) (mo G r xs) i U r
    have hmo : mo G r (i :: xs) U = moTo G (mo G r xs) i U r := rfl
    by_cases hex : ∃ j, j < r ∧ (U j && G i j) = true ∧ mo G r xs U ≤ mo G r xs fun x => U x && !decide (x = j)
    · obtain ⟨j, hj, hU, hge⟩ := hex
      refine ⟨fun x => S' x && !decide (x = i), ?_⟩
      have hup : moTo G (mo G r xs) i U r ≤ mo G r xs U + 1 := by
        rcases m3 with m3 | ⟨j', hj', hU', m3⟩
        · omega
        · obtain ⟨T, hT⟩ := ih U
          have h1 := weak (G := G) (r := r) xs (fun x => U x && !decide (x = j')) T
          have h2 := nn_mono (G := G) (r := r) (xs := xs) (S := T) (U := fun x => U x && !decide (x = j')) (U' := U) fun x hx => by
            simp only [Bool.and_eq_true] at hx; exact hx.1
          unfold Tight at hT
          omega
      have hlow := m2 j hj hU
      unfold Tight at hS' ⊢
      rw [hmo]
      have c1 : (i :: xs).countP (fun x => S' x && !decide (x = i)) = xs.countP S' := by
        rw [List.countP_cons]
        have : xs.countP (fun x => S' x && !decide (x = i)) = xs.countP S' := countP_eq fun x hx => by simp [hne x hx]
        rw [this]
        simp
      have c2 : nn G r (i :: xs) U (fun x => S' x && !decide (x = i)) = nn G r xs U S' := cnt_eq fun x _ => by
        rw [nb_cons]
        have : nb G xs (fun x => S' x && !decide (x = i)) x = nb G xs S' x := by
          unfold nb
          rw [Bool.eq_iff_iff]
          simp only [List.any_eq_true, Bool.and_eq_true]
          constructor
          · rintro ⟨y, hy, ⟨h1, _⟩, h2⟩; exact ⟨y, hy, h1, h2⟩
          · rintro ⟨y, hy, h1, h2⟩; exact ⟨y, hy, ⟨h1, by simp [hne y hy]⟩, h2⟩
        rw [this]
        simp
      rw [c1, c2, List.length_cons]
      omega
    · have hall : ∀ j, j < r → (U j && G i j) = true → (mo G r xs fun x => U x && !decide (x = j)) < mo G r xs U := fun j hj hU => by
        rcases Nat.lt_or_ge (mo G r xs fun x => U x && !decide (x = j)) (mo G r xs U) with h | h
        · exact h
        · exact absurd ⟨j, hj, hU, h⟩ hex
      have hval : moTo G (mo G r xs) i U r = mo G r xs U := by
        rcases m3 with m3 | ⟨j, hj, hU, m3⟩
        · exact m3
        · have := hall j hj hU
          omega
      have hone : ∀ j, j < r → (U j && G i j) = true → ∃ S, Tight G r xs U S ∧ nb G xs S j = true := fun j hj hU => by
        obtain ⟨S, hS⟩ := ih fun x => U x && !decide (x = j)
        have h1 := weak (G := G) (r := r) xs U S
        have h2 := nn_but (G := G) (r := r) (xs := xs) (U := U) (S := S) hj
        have h3 := hall j hj hU
        unfold Tight at hS
        cases hb : (U j && nb G xs S j)
        · rw [hb] at h2; simp at h2; omega
        · rw [hb] at h2
          simp only [if_true] at h2
          refine ⟨S, ?_, (Bool.and_eq_true_iff.1 hb).2⟩
          unfold Tight
          omega
      have hmany : ∀ k, ∃ S, Tight G r xs U S ∧ ∀ j, j < k → j < r → (U j && G i j) = true → nb G xs S j = true := by
        intro k
        induction k with
        | zero => exact ⟨S', hS', fun j h => by omega⟩
        | succ k ihk =>
          obtain ⟨S, hS, h1⟩ := ihk
          by_cases hk : k < r ∧ (U k && G i k) = true
          · obtain ⟨T, hT, h2⟩ := hone k hk.1 hk.2
            refine ⟨_, (hS.both hT).1, fun j hj hjr hU => ?_⟩
            have : nb G xs S j = true ∨ nb G xs T j = true := by
              rcases Nat.lt_or_ge j k with h | h
              · exact .inl (h1 j h hjr hU)
              · obtain rfl : j = k := by omega
                exact .inr h2
            unfold nb at this ⊢
            simp only [List.any_eq_true, Bool.and_eq_true, Bool.or_eq_true] at this ⊢
            rcases this with ⟨y, hy, h3, h4⟩ | ⟨y, hy, h3, h4⟩
            · exact ⟨y, hy, .inl h3, h4⟩
            · exact ⟨y, hy, .inr h3, h4⟩
          · refine ⟨S, hS, fun j hj hjr hU => ?_⟩
            rcases Nat.lt_or_ge j k with h | h
            · exact h1 j h hjr hU
            · obtain rfl : j = k := by omega
              exact absurd ⟨hjr, hU⟩ hk
      obtain ⟨S, hS, hS2⟩ := hmany r
      refine ⟨fun x => decide (x = i) || S x, ?_⟩
      have c1 : (i :: xs).countP (fun x => decide (x = i) || S x) = xs.countP S + 1 := by
        rw [List.countP_cons]
        have : xs.countP (fun x => decide (x = i) || S x) = xs.countP S := countP_eq fun x hx => by simp [hne x hx]
        rw [this]
        simp
      have c2 : nn G r (i :: xs) U (fun x => decide (x = i) || S x) = nn G r xs U S := cnt_eq fun x hx => by
        rw [nb_cons]
        have : nb G xs (fun x => decide (x = i) || S x) x = nb G xs S x := by
          unfold nb
          rw [Bool.eq_iff_iff]
          simp only [List.any_eq_true, Bool.and_eq_true, Bool.or_eq_true]
          constructor
          · rintro ⟨y, hy, h1 | h1, h2⟩
            · exact absurd (of_decide_eq_true h1) (hne y hy)
            · exact ⟨y, hy, h1, h2⟩
          · rintro ⟨y, hy, h1, h2⟩; exact ⟨y, hy, .inr h1, h2⟩
        rw [this]
        cases hU : U x
        · simp
        · cases hG : G i x
          · simp
          · have := hS2 x hx hx (by rw [hU, hG]; rfl)
            simp [this]
      unfold Tight at hS ⊢
      rw [hmo, hval, c1, c2, List.length_cons]
      omega
end

/-! ### two sides -/
/-- how many pairs at most, of l on the left and r on the right -/
def nu (G : Nat → Nat → Bool) (l r : Nat) : Nat := mo G r (List.range l) fun _ => true
/-- those on the right that some on the left have lines to -/
def nbr (G : Nat → Nat → Bool) (l : Nat) (S : Nat → Bool) (j : Nat) : Bool := nb G (List.range l) S j
theorem nbr_iff {G : Nat → Nat → Bool} {l : Nat} {S : Nat → Bool} {j : Nat} : nbr G l S j = true ↔ ∃ i, i < l ∧ S i = true ∧ G i j = true := by
  simp [nbr, nb]
section
variable {G : Nat → Nat → Bool} {l r : Nat}
theorem hall_le (G : Nat → Nat → Bool) (l r : Nat) (S : Nat → Bool) : nu G l r + cnt l S ≤ l + cnt r (nbr G l S) := by
  have := weak (G := G) (r := r) (List.range l) (fun _ => true) S
  rw [List.length_range] at this
  unfold nu
  have e : nn G r (List.range l) (fun _ => true) S = cnt r (nbr G l S) := cnt_eq fun j _ => by simp [nbr]
  rw [e] at this
  exact this
/-- just so many -/
def Just (G : Nat → Nat → Bool) (l r : Nat) (S : Nat → Bool) : Prop := nu G l r + cnt l S = l + cnt r (nbr G l S)
theorem just_tight {S : Nat → Bool} : Just G l r S ↔ Tight G r (List.range l) (fun _ => true) S := by
  unfold Just Tight
  rw [List.length_range]
  have e : nn G r (List.range l) (fun _ => true) S = cnt r (nbr G l S) := cnt_eq fun j _ => by simp [nbr]
  rw [e]
  exact Iff.rfl
theorem hall_ex (G : Nat → Nat → Bool) (l r : Nat) : ∃ S, Just G l r S := by
  obtain ⟨S, hS⟩ := strong (G := G) (r := r) (List.range l) List.nodup_range fun _ => true
  exact ⟨S, just_tight.2 hS⟩
theorem Just.both {S T : Nat → Bool} (h : Just G l r S) (h' : Just G l r T) : Just G l r (fun x => S x || T x) ∧ Just G l r (fun x => S x && T x) := by
  obtain ⟨h1, h2⟩ := (just_tight.1 h).both (just_tight.1 h')
  exact ⟨just_tight.2 h1, just_tight.2 h2⟩
theorem nbr_congr {S T : Nat → Bool} (h : ∀ i, i < l → S i = T i) (j : Nat) : nbr G l S j = nbr G l T j := by
  rw [Bool.eq_iff_iff, nbr_iff, nbr_iff]
  constructor
  · rintro ⟨i, hi, h1, h2⟩; exact ⟨i, hi, by rw [← h i hi]; exact h1, h2⟩
  · rintro ⟨i, hi, h1, h2⟩; exact ⟨i, hi, by rw [h i hi]; exact h1, h2⟩
theorem Just.congr {S T : Nat → Bool} (h : Just G l r S) (he : ∀ i, i < l → S i = T i) : Just G l r T := by
  unfold Just at *
  rw [cnt_eq he, cnt_eq (fun j _ => nbr_congr he j)] at h
  exact h
theorem nu_le_left (G : Nat → Nat → Bool) (l r : Nat) : nu G l r ≤ l := by
  have h := hall_le G l r fun _ => false
  have e : cnt r (nbr G l fun _ => false) = 0 := List.countP_eq_zero.2 fun j _ => by simp [nbr, nb]
  rw [e] at h
  omega
theorem nu_le_right (G : Nat → Nat → Bool) (l r : Nat) : nu G l r ≤ r := by
  have h := hall_le G l r fun _ => true
  have e : cnt l (fun _ => true) = l := by simp [cnt]
  have := cnt_le r (nbr G l fun _ => true)
  omega
theorem nu_congr {G' : Nat → Nat → Bool} (h : ∀ i, i < l → ∀ j, j < r → G i j = G' i j) : nu G l r = nu G' l r := by
  have key : ∀ {A B : Nat → Nat → Bool}, (∀ i, i < l → ∀ j, j < r → A i j = B i j) → nu A l r ≤ nu B l r := fun {A B} h => by
    obtain ⟨S, hS⟩ := hall_ex B l r
    have h1 := hall_le A l r S
    have e : cnt r (nbr A l S) = cnt r (nbr B l S) := cnt_eq fun j hj => by
      rw [Bool.eq_iff_iff, nbr_iff, nbr_iff]
      constructor
      · rintro ⟨i, hi, h1, h2⟩; exact ⟨i, hi, h1, by rw [← h i hi j hj]; exact h2⟩
      · rintro ⟨i, hi, h1, h2⟩; exact ⟨i, hi, h1, by rw [h i hi j hj]; exact h2⟩
    unfold Just at hS
    omega
  exact Nat.le_antisymm (key h) (key fun i hi j hj => (h i hi j hj).symm)
/-- more lines, no fewer pairs -/
theorem nu_mono {G' : Nat → Nat → Bool} (h : ∀ i, i < l → ∀ j, j < r → G i j = true → G' i j = true) : nu G l r ≤ nu G' l r := by
  obtain ⟨S, hS⟩ := hall_ex G' l r
  have h1 := hall_le G l r S
  have e : cnt r (nbr G l S) ≤ cnt r (nbr G' l S) := cnt_mono fun j hj hh => by
    obtain ⟨i, hi, h1, h2⟩ := nbr_iff.1 hh
    exact nbr_iff.2 ⟨i, hi, h1, h i hi j hj h2⟩
  unfold Just at hS
  omega
/-- one line more, one pair more at most -/
theorem nu_more (a b : Nat) : nu (fun i j => G i j || (decide (i = a) && decide (j = b))) l r ≤ nu G l r + 1 := by
  obtain ⟨S, hS⟩ := hall_ex G l r
  have h1 := hall_le (fun i j => G i j || (decide (i = a) && decide (j = b))) l r S
  have e : cnt r (nbr (fun i j => G i j || (decide (i = a) && decide (j = b))) l S) ≤ cnt r (nbr G l S) + 1 := by
    by_cases hb : b < r
    · have h2 := cnt_but (nbr (fun i j => G i j || (decide (i = a) && decide (j = b))) l S) hb
      have h3 : cnt r (fun x => nbr (fun i j => G i j || (decide (i = a) && decide (j = b))) l S x && !decide (x = b)) ≤ cnt r (nbr G l S) := cnt_mono fun j _ hh => by
        simp only [Bool.and_eq_true, nbr_iff] at hh
        obtain ⟨⟨i, hi, h1, h2⟩, h3⟩ := hh
        refine nbr_iff.2 ⟨i, hi, h1, ?_⟩
        have h3' : ¬ j = b := by simpa using h3
        simpa [h3'] using h2
      rw [h2]
      split <;> omega
    · have : cnt r (nbr (fun i j => G i j || (decide (i = a) && decide (j = b))) l S) ≤ cnt r (nbr G l S) := cnt_mono fun j hj hh => by
        obtain ⟨i, hi, h1, h2⟩ := nbr_iff.1 hh
        have : ¬ j = b := by omega
        exact nbr_iff.2 ⟨i, hi, h1, by simpa [this] using h2⟩
      omega
  unfold Just at hS
  omega
/-- seen from the right there are as many -/
theorem nu_turn (G : Nat → Nat → Bool) (l r : Nat) : nu (fun j i => G i j) r l = nu G l r := by
  have key : ∀ (G : Nat → Nat → Bool) (l r : Nat), nu (fun j i => G i j) r l ≤ nu G l r := fun G l r => by
    obtain ⟨S, hS⟩ := hall_ex G l r
    have h1 := hall_le (fun j i => G i j) r l fun j => !nbr G l S j
    have h2 := cnt_not r (nbr G l S)
    have h3 := cnt_not l S
    have h4 : cnt l (nbr (fun j i => G i j) r fun j => !nbr G l S j) ≤ cnt l fun i => !S i := cnt_mono fun i hi hh => by
      obtain ⟨j, hj, h5, h6⟩ := nbr_iff.1 hh
      cases hSi : S i
      · rfl
      · have : nbr G l S j = true := nbr_iff.2 ⟨i, hi, hSi, h6⟩
        rw [this] at h5
        cases h5
    unfold Just at hS
    omega
  exact Nat.le_antisymm (key G l r) (key (fun j i => G i j) r l)

/-! ### who is paired always -/
/-- the lines without one on the left -/
def wo (G : Nat → Nat → Bool) (a : Nat) : Nat → Nat → Bool := fun i j => !decide (i = a) && G i j
/-- without a there are fewer -/
def ess (G : Nat → Nat → Bool) (l r a : Nat) : Bool := decide (nu (wo G a) l r < nu G l r)
theorem wo_nbr {S : Nat → Bool} {a j : Nat} : nbr (wo G a) l S j = nbr G l (fun x => S x && !decide (x = a)) j := by
  rw [Bool.eq_iff_iff, nbr_iff, nbr_iff]
  unfold wo
  simp only [Bool.and_eq_true]
  constructor
  · rintro ⟨i, hi, h1, h2, h3⟩; exact ⟨i, hi, ⟨h1, h2⟩, h3⟩
  · rintro ⟨i, hi, ⟨h1, h2⟩, h3⟩; exact ⟨i, hi, h1, h2, h3⟩
theorem nu_wo_le (a : Nat) : nu (wo G a) l r ≤ nu G l r := nu_mono fun i _ j _ h => by unfold wo at h; simp only [Bool.and_eq_true] at h; exact h.2
theorem nu_wo_ge {a : Nat} (ha : a < l) : nu G l r ≤ nu (wo G a) l r + 1 := by
  obtain ⟨S, hS⟩ := hall_ex (wo G a) l r
  have h1 := hall_le G l r fun x => S x && !decide (x = a)
  have e : cnt r (nbr (wo G a) l S) = cnt r (nbr G l fun x => S x && !decide (x = a)) := cnt_eq fun j _ => wo_nbr
  have h2 := cnt_but S ha
  unfold Just at hS
  split at h2 <;> omega
/-- one outside of a set that is just is paired always -/
theorem ess_out {S : Nat → Bool} {a : Nat} (ha : a < l) (h : Just G l r S) (hS : S a = false) : ess G l r a = true := by
  unfold ess
  rw [decide_eq_true_eq]
  have h1 := hall_le (wo G a) l r fun x => S x || decide (x = a)
  have e : cnt r (nbr (wo G a) l fun x => S x || decide (x = a)) = cnt r (nbr G l S) := cnt_eq fun j _ => by
    rw [wo_nbr]
    refine nbr_congr (fun i hi => ?_) j
    by_cases e : i = a
    · subst e; simp [hS]
    · simp [e]
  have h2 := cnt_but (fun x => S x || decide (x = a)) ha
  have e2 : cnt l (fun x => (S x || decide (x = a)) && !decide (x = a)) = cnt l S := cnt_eq fun i _ => by
    by_cases e : i = a
    · subst e; simp [hS]
    · simp [e]
  rw [e2] at h2
  simp at h2
  unfold Just at h
  omega
/-- one who is paired always lies outside of some set that is just -/
theorem ess_ex {a : Nat} (ha : a < l) (h : ess G l r a = true) : ∃ S, Just G l r S ∧ S a = false := by
  unfold ess at h
  rw [decide_eq_true_eq] at h
  obtain ⟨T, hT⟩ := hall_ex (wo G a) l r
  have e : cnt r (nbr (wo G a) l T) = cnt r (nbr G l fun x => T x && !decide (x = a)) := cnt_eq fun j _ => wo_nbr
  have h1 := hall_le G l r fun x => T x && !decide (x = a)
  have h2 := cnt_but T ha
  refine ⟨fun x => T x && !decide (x = a), ?_, by simp⟩
  unfold Just at hT ⊢
  split at h2 <;> omega
/-- those that are not paired always are the least such set -/
theorem ess_just (G : Nat → Nat → Bool) (l r : Nat) : Just G l r fun i => !ess G l r i := by
  have key : ∀ k, ∃ S, Just G l r S ∧ ∀ a, a < k → a < l → ess G l r a = true → S a = false := by
    intro k
    induction k with
    | zero =>
      obtain ⟨S, hS⟩ := hall_ex G l r
      exact ⟨S, hS, fun a h => by omega⟩
    | succ k ih =>
      obtain ⟨S, hS, h1⟩ := ih
      by_cases hk : k < l ∧ ess G l r k = true
      · obtain ⟨T, hT, h2⟩ := ess_ex hk.1 hk.2
        refine ⟨_, (hS.both hT).2, fun a ha hal he => ?_⟩
        rcases Nat.lt_or_ge a k with h | h
        · simp [h1 a h hal he]
        · obtain rfl : a = k := by omega
          simp [h2]
      · refine ⟨S, hS, fun a ha hal he => ?_⟩
        rcases Nat.lt_or_ge a k with h | h
        · exact h1 a h hal he
        · obtain rfl : a = k := by omega
          exact absurd ⟨hal, he⟩ hk
  obtain ⟨S, hS, h1⟩ := key l
  refine hS.congr fun i hi => ?_
  cases he : ess G l r i
  · cases hSi : S i
    · have := ess_out hi hS hSi
      rw [he] at this
      cases this
    · rfl
  · rw [h1 i hi hi he]
    rfl
/-- those that are paired always, and those that the others have lines to: as many as there are pairs -/
theorem cover_count (G : Nat → Nat → Bool) (l r : Nat) : cnt l (ess G l r) + cnt r (nbr G l fun i => !ess G l r i) = nu G l r := by
  have h := ess_just G l r
  have h2 := cnt_not l (ess G l r)
  unfold Just at h
  omega
theorem ess_wo {a : Nat} (ha : a < l) : nu (wo G a) l r + (if ess G l r a = true then 1 else 0) = nu G l r := by
  have h1 := nu_wo_le (G := G) (l := l) (r := r) a
  have h2 := nu_wo_ge (G := G) (l := l) (r := r) ha
  cases he : ess G l r a
  · unfold ess at he
    have : ¬ nu (wo G a) l r < nu G l r := of_decide_eq_false he
    simp
    omega
  · unfold ess at he
    have := of_decide_eq_true he
    simp
    omega

/-! ### pairs that are there -/
/-- so many pairs are no more than there are at most -/
theorem pairs_le {M : List (Nat × Nat)} (hM : ∀ p ∈ M, p.1 < l ∧ p.2 < r ∧ G p.1 p.2 = true) (h1 : (M.map Prod.fst).Nodup) (h2 : (M.map Prod.snd).Nodup) : M.length ≤ nu G l r := by
  obtain ⟨S, hS⟩ := hall_ex G l r
  have hsplit := countP_not (fun p : Nat × Nat => S p.1) M
  have hsub1 : ((M.filter fun p => !S p.1).map Prod.fst).length ≤ ((List.range l).filter fun i => !S i).length := by
    refine List.Nodup.length_le_of_subset (h1.sublist (List.filter_sublist.map _)) fun x hx => ?_
    obtain ⟨p, hp, rfl⟩ := List.mem_map.1 hx
    obtain ⟨hp1, hp2⟩ := List.mem_filter.1 hp
    exact List.mem_filter.2 ⟨List.mem_range.2 (hM p hp1).1, hp2⟩
  have hsub2 : ((M.filter fun p => S p.1).map Prod.snd).length ≤ ((List.range r).filter (nbr G l S)).length := by
    refine List.Nodup.length_le_of_subset (h2.sublist (List.filter_sublist.map _)) fun x hx => ?_
    obtain ⟨p, hp, rfl⟩ := List.mem_map.1 hx
    obtain ⟨hp1, hp2⟩ := List.mem_filter.1 hp
    obtain ⟨g1, g2, g3⟩ := hM p hp1
    exact List.mem_filter.2 ⟨List.mem_range.2 g2, nbr_iff.2 ⟨p.1, g1, hp2, g3⟩⟩
  rw [List.length_map, ← List.countP_eq_length_filter, ← List.countP_eq_length_filter] at hsub1 hsub2
  have h3 := cnt_not l S
  unfold Just at hS
  unfold cnt at h3 hS
  omega
/-- if some have only so few to go to, there are no more pairs -/
theorem pairs_ge {n : Nat} {S : Nat → Bool} (h : l + cnt r (nbr G l S) ≤ n + cnt l S) : nu G l r ≤ n := by
  have := hall_le G l r S
  omega
end

end Go.Proofs.YtoofpmajiphldaaDoor.Ma

set_option linter.unusedSimpArgs false
set_option linter.unusedVariables false
namespace Go.Proofs.YtoofpmajiphldaaDoor.Ma

/-- who has a line to whom -/
def gl (ls : List Gr.Ln) : Nat → Nat → Bool := fun i j => Gr.has ls (i : Int) (j : Int)
/-- those that one has lines to, in the order of the lines -/
def jl (ls : List Gr.Ln) (a : Int) : List Int := (ls.filter fun p => decide (p.1 = a)).map Prod.snd
theorem mem_jl {ls : List Gr.Ln} {a b : Int} : b ∈ jl ls a ↔ Gr.has ls a b = true := by
  unfold jl Gr.has
  simp only [List.mem_map, List.mem_filter, decide_eq_true_eq, List.contains_iff_mem]
  constructor
  · rintro ⟨⟨x, y⟩, ⟨h1, h2⟩, h3⟩
    simp only at h2 h3
    subst h2 h3
    exact h1
  · intro h
    exact ⟨(a, b), ⟨h, rfl⟩, rfl⟩

/-- who is paired -/
def fr (par : List Int) : List Int := par.filter fun x => decide (0 ≤ x)
/-- pairs have lines -/
def Ok (ls : List Gr.Ln) (l r : Nat) (par : List Int) : Prop := par.length = r ∧ ∀ b, b < r → par.getD b (-1) = -1 ∨ (0 ≤ par.getD b (-1) ∧ par.getD b (-1) < (l : Int) ∧ Gr.has ls (par.getD b (-1)) (b : Int) = true)
/-- a set on the right that is all paired, and whose partners have no line out of it -/
def Shut (ls : List Gr.Ln) (r : Nat) (par : List Int) (T : Nat → Bool) : Prop := ∀ b, b < r → T b = true → 0 ≤ par.getD b (-1) ∧ ∀ j, j < r → Gr.has ls (par.getD b (-1)) (j : Int) = true → T j = true
/-- behind a try that went well -/
structure Yes (ls : List Gr.Ln) (l r : Nat) (a : Int) (ask : List Bool) (par par' : List Int) : Prop where
  ok : Ok ls l r par'
  perm : (fr par').Perm (a :: fr par)
  keep : ∀ b, b < r → ask.getD b false = true → par'.getD b (-1) = par.getD b (-1)
  out : ∀ T, Shut ls r par T → (∃ j, j < r ∧ Gr.has ls a (j : Int) = true ∧ T j = false) ∧ ∀ b, b < r → T b = true → par'.getD b (-1) = par.getD b (-1)
/-- all newly asked are paired, and their partners have lines only to those that are asked -/
structure Mid (ls : List Gr.Ln) (r : Nat) (par : List Int) (ask ask' : List Bool) : Prop where
  len : ask'.length = r
  grow : ∀ b, b < r → ask.getD b false = true → ask'.getD b false = true
  shut : ∀ b, b < r → ask'.getD b false = true → ask.getD b false = true ∨ (0 ≤ par.getD b (-1) ∧ ∀ j, j < r → Gr.has ls (par.getD b (-1)) (j : Int) = true → ask'.getD j false = true)
/-- behind a try that did not -/
structure No (ls : List Gr.Ln) (r : Nat) (a : Int) (par : List Int) (ask ask' : List Bool) : Prop where
  mid : Mid ls r par ask ask'
  all : ∀ j, j < r → Gr.has ls a (j : Int) = true → ask'.getD j false = true

theorem getD_set {α : Type} (xs : List α) (i j : Nat) (x d : α) (hi : i < xs.length) : (xs.set i x).getD j d = if j = i then x else xs.getD j d := by
  simp only [List.getD, List.getElem?_set]
  by_cases e : i = j
  · subst e; simp [hi]
  · have : ¬ j = i := fun h => e h.symm
    simp [e, this]
theorem set_perm (x : Int) : ∀ (xs : List Int) (i : Nat), i < xs.length → (xs.getD i (-1) :: xs.set i x).Perm (x :: xs)
  | [], i, h => by simp at h
  | y :: ys, 0, h => by simp; exact List.Perm.swap _ _ _
  | y :: ys, i + 1, h => by
    have ih := set_perm x ys i (by simpa using h)
    simp only [List.getD_cons_succ, List.set_cons_succ]
    exact (List.Perm.swap _ _ _).trans ((ih.cons y).trans (List.Perm.swap _ _ _))
theorem fr_new {par : List Int} {b : Nat} {a : Int} (hb : b < par.length) (ha : 0 ≤ a) (h : par.getD b (-1) = -1) : (fr (par.set b a)).Perm (a :: fr par) := by
  have := (set_perm a par b hb).filter fun x => decide (0 ≤ x)
  rw [h] at this
  rw [List.filter_cons_of_neg (by decide), List.filter_cons_of_pos (by simpa using ha)] at this
  exact this
theorem fr_swap {par : List Int} {b : Nat} {a : Int} (hb : b < par.length) (ha : 0 ≤ a) (h : 0 ≤ par.getD b (-1)) : (par.getD b (-1) :: fr (par.set b a)).Perm (a :: fr par) := by
  have := (set_perm a par b hb).filter fun x => decide (0 ≤ x)
  rw [List.filter_cons_of_pos (by simpa using h), List.filter_cons_of_pos (by simpa using ha)] at this
  exact this

section
variable {ls : List Gr.Ln} {l r : Nat} {a : Int} {ask ask' : List Bool} {par par' : List Int}
theorem Mid.refl (h : ask.length = r) : Mid ls r par ask ask := ⟨h, fun _ _ h => h, fun _ _ h => .inl h⟩
theorem Ok.set (h : Ok ls l r par) {b : Nat} (hb : b < r) (ha : 0 ≤ a) (hal : a < (l : Int)) (hg : Gr.has ls a (b : Int) = true) : Ok ls l r (par.set b a) := by
  refine ⟨by rw [List.length_set]; exact h.1, fun j hj => ?_⟩
  rw [getD_set _ _ _ _ _ (by rw [h.1]; exact hb)]
  by_cases e : j = b
  · subst e; simp only [if_true]; exact .inr ⟨ha, hal, hg⟩
  · rw [if_neg e]; exact h.2 j hj
/-- one that is free -/
theorem Mid.free (hm : Mid ls r par ask ask') (hok : Ok ls l r par) {b : Nat} (hb : b < r) (ha : 0 ≤ a) (hal : a < (l : Int)) (hg : Gr.has ls a (b : Int) = true) (hn : ask'.getD b false = false) (hf : par.getD b (-1) = -1) : Yes ls l r a ask par (par.set b a) := by
  have hbl : b < par.length := by rw [hok.1]; exact hb
  refine ⟨hok.set hb ha hal hg, fr_new hbl ha hf, fun j hj hjt => ?_, fun T hT => ⟨⟨b, hb, hg, ?_⟩, fun j hj hjT => ?_⟩⟩
  · rw [getD_set _ _ _ _ _ hbl, if_neg]
    rintro rfl
    have := hm.grow j hj hjt
    rw [hn] at this
    cases this
  · cases h : T b
    · rfl
    · have := (hT b hb h).1
      omega
  · rw [getD_set _ _ _ _ _ hbl, if_neg]
    rintro rfl
    have := (hT j hj hjT).1
    omega
/-- one whose partner finds another -/
theorem Mid.swap (hm : Mid ls r par ask ask') (hok : Ok ls l r par) {b : Nat} (hb : b < r) (ha : 0 ≤ a) (hal : a < (l : Int)) (hg : Gr.has ls a (b : Int) = true) (hn : ask'.getD b false = false) (hf : 0 ≤ par.getD b (-1))
    (hy : Yes ls l r (par.getD b (-1)) (ask'.set b true) par par') : Yes ls l r a ask par (par'.set b a) := by
  have hbl : b < par'.length := by rw [hy.ok.1]; exact hb
  have hba : b < ask'.length := by rw [hm.len]; exact hb
  have hsame : par'.getD b (-1) = par.getD b (-1) := hy.keep b hb (by rw [getD_set _ _ _ _ _ hba, if_pos rfl])
  refine ⟨hy.ok.set hb ha hal hg, ?_, fun j hj hjt => ?_, fun T hT => ?_⟩
  · have h1 := fr_swap hbl ha (by rw [hsame]; exact hf)
    rw [hsame] at h1
    exact ((h1.trans (hy.perm.cons a)).trans (List.Perm.swap _ _ _)).cons_inv
  · have hjb : j ≠ b := by
      rintro rfl
      have := hm.grow j hj hjt
      rw [hn] at this
      cases this
    rw [getD_set _ _ _ _ _ hbl, if_neg hjb]
    exact hy.keep j hj (by rw [getD_set _ _ _ _ _ hba, if_neg hjb]; exact hm.grow j hj hjt)
  · obtain ⟨⟨j, hj, h1, h2⟩, h3⟩ := hy.out T hT
    have hTb : T b = false := by
      cases h : T b
      · rfl
      · have := (hT b hb h).2 j hj h1
        rw [h2] at this
        cases this
    refine ⟨⟨b, hb, hg, hTb⟩, fun i hi hiT => ?_⟩
    rw [getD_set _ _ _ _ _ hbl, if_neg, h3 i hi hiT]
    rintro rfl
    rw [hTb] at hiT
    cases hiT
/-- one whose partner finds none -/
theorem Mid.fail {ask2 : List Bool} (hm : Mid ls r par ask ask') {b : Nat} (hb : b < r) (hf : 0 ≤ par.getD b (-1)) (hno : No ls r (par.getD b (-1)) par (ask'.set b true) ask2) : Mid ls r par ask ask2 ∧ ask2.getD b false = true ∧ ∀ j, j < r → ask'.getD j false = true → ask2.getD j false = true := by
  have hba : b < ask'.length := by rw [hm.len]; exact hb
  have hset : ∀ j, (ask'.set b true).getD j false = if j = b then true else ask'.getD j false := fun j => getD_set _ _ _ _ _ hba
  have hup : ∀ j, j < r → ask'.getD j false = true → ask2.getD j false = true := fun j hj h => hno.mid.grow j hj (by rw [hset]; split <;> simp_all)
  have hbt : ask2.getD b false = true := hno.mid.grow b hb (by rw [hset, if_pos rfl])
  refine ⟨⟨hno.mid.len, fun j hj h => hup j hj (hm.grow j hj h), fun j hj h => ?_⟩, hbt, hup⟩
  rcases hno.mid.shut j hj h with h1 | h1
  · rw [hset] at h1
    by_cases e : j = b
    · subst e
      exact .inr ⟨hf, fun i hi hg => hno.all i hi hg⟩
    · rw [if_neg e] at h1
      rcases hm.shut j hj h1 with h2 | h2
      · exact .inl h2
      · exact .inr ⟨h2.1, fun i hi hg => hup i hi (h2.2 i hi hg)⟩
  · exact .inr h1

/-- how many are not asked yet -/
def opn (ask : List Bool) : Nat := ask.countP fun b => !b
theorem opn_set : ∀ (ask : List Bool) (b : Nat), b < ask.length → ask.getD b false = false → opn (ask.set b true) + 1 = opn ask
  | [], b, h, _ => by simp at h
  | x :: xs, 0, _, hx => by
    obtain rfl : x = false := by simpa using hx
    simp [opn]
  | x :: xs, b + 1, h, hx => by
    have ih := opn_set xs b (by simpa using h) (by simpa using hx)
    unfold opn at ih ⊢
    rw [List.set_cons_succ, List.countP_cons, List.countP_cons]
    omega
theorem opn_le : ∀ (xs ys : List Bool), xs.length = ys.length → (∀ b, b < xs.length → xs.getD b false = true → ys.getD b false = true) → opn ys ≤ opn xs
  | [], ys, h, _ => by
    obtain rfl : ys = [] := List.eq_nil_of_length_eq_zero h.symm
    exact Nat.le_refl _
  | x :: xs, [], h, _ => by simp at h
  | x :: xs, y :: ys, h, hg => by
    have ih := opn_le xs ys (by simpa using h) (fun b hb hx => by have := hg (b + 1) (by simpa using hb) (by simpa using hx); simpa using this)
    have h0 := hg 0 (by simp)
    simp only [List.getD_cons_zero] at h0
    unfold opn at ih ⊢
    rw [List.countP_cons, List.countP_cons]
    cases x
    · cases y <;> simp <;> omega
    · rw [h0 rfl]; simp; omega
theorem Mid.opn (hm : Mid ls r par ask ask') (h : ask.length = r) : opn ask' ≤ opn ask := opn_le _ _ (by rw [h, hm.len]) (fun b hb => hm.grow b (by rw [← h]; exact hb))

/-! ### one after the other -/
/-- i on the left have had their try, s of them are paired -/
structure Run (ls : List Gr.Ln) (l r : Nat) (i s : Nat) (par : List Int) : Prop where
  ok : Ok ls l r par
  nodup : (fr par).Nodup
  lt : ∀ x ∈ fr par, x < (i : Int)
  len : (fr par).length = s
  shut : ∃ T, Shut ls r par T ∧ ∀ k : Nat, k < i → (k : Int) ∉ fr par → ∀ j, j < r → Gr.has ls (k : Int) (j : Int) = true → T j = true
theorem Run.start (ls : List Gr.Ln) (l r : Nat) : Run ls l r 0 0 (List.replicate r (-1)) := by
  have h : fr (List.replicate r (-1)) = [] := List.filter_eq_nil_iff.2 fun x hx => by
    rw [(List.mem_replicate.1 hx).2]
    decide
  refine ⟨⟨by simp, fun b hb => .inl (by simp [List.getD, hb])⟩, by rw [h]; exact List.nodup_nil, by rw [h]; simp, by rw [h]; rfl, ⟨fun _ => false, ⟨fun b _ hb => (nomatch hb), fun k hk => by omega⟩⟩⟩
theorem Run.yes {i s : Nat} (h : Run ls l r i s par) (hil : i < l) (hy : Yes ls l r (i : Int) (List.replicate r false) par par') : Run ls l r (i + 1) (s + 1) par' := by
  have hni : (i : Int) ∉ fr par := fun hh => by have := h.lt _ hh; omega
  refine ⟨hy.ok, hy.perm.nodup_iff.2 (List.nodup_cons.2 ⟨hni, h.nodup⟩), fun x hx => ?_, by rw [hy.perm.length_eq, List.length_cons, h.len], ?_⟩
  · rcases List.mem_cons.1 (hy.perm.mem_iff.1 hx) with rfl | hx
    · omega
    · have := h.lt x hx
      omega
  · obtain ⟨T, hT, hk⟩ := h.shut
    obtain ⟨_, hsame⟩ := hy.out T hT
    refine ⟨T, fun b hb hTb => ?_, fun k hk1 hk2 => ?_⟩
    · rw [hsame b hb hTb]
      exact hT b hb hTb
    · have hk3 : (k : Int) ∉ (i : Int) :: fr par := fun hh => hk2 (hy.perm.mem_iff.2 hh)
      have hne : k ≠ i := fun e => hk3 (by rw [e]; exact List.mem_cons_self)
      exact hk k (by omega) (fun hh => hk3 (List.mem_cons_of_mem _ hh))
theorem Run.no {i s : Nat} (h : Run ls l r i s par) (hn : No ls r (i : Int) par (List.replicate r false) ask') : Run ls l r (i + 1) s par := by
  refine ⟨h.ok, h.nodup, fun x hx => by have := h.lt x hx; omega, h.len, ?_⟩
  obtain ⟨T, hT, hk⟩ := h.shut
  have hrep : ∀ b, ¬ (List.replicate r false).getD b false = true := fun b hh => by
    simp only [List.getD] at hh
    rcases Nat.lt_or_ge b r with hb | hb
    · simp [hb] at hh
    · rw [List.getElem?_eq_none (by simpa using hb)] at hh; cases hh
  refine ⟨fun b => T b || ask'.getD b false, fun b hb hTb => ?_, fun k hk1 hk2 j hj hg => ?_⟩
  · rcases Bool.or_eq_true_iff.1 hTb with h1 | h1
    · exact ⟨(hT b hb h1).1, fun j hj hg => by show (T j || ask'.getD j false) = true; rw [(hT b hb h1).2 j hj hg, Bool.true_or]⟩
    · rcases hn.mid.shut b hb h1 with h2 | h2
      · exact absurd h2 (hrep b)
      · exact ⟨h2.1, fun j hj hg => by show (T j || ask'.getD j false) = true; rw [h2.2 j hj hg, Bool.or_true]⟩
  · show (T j || ask'.getD j false) = true
    by_cases e : k = i
    · subst e
      rw [hn.all j hj hg, Bool.or_true]
    · rw [hk k (by omega) hk2 j hj hg, Bool.true_or]

theorem list_range (xs : List Int) : xs = (List.range xs.length).map fun b => xs.getD b (-1) := by
  refine List.ext_getElem (by simp) fun i h1 h2 => ?_
  simp [List.getD, h1]
theorem fr_range (hl : par.length = r) : fr par = ((List.range r).filter fun b => decide (0 ≤ par.getD b (-1))).map fun b => par.getD b (-1) := by
  conv => lhs; rw [list_range par]
  unfold fr
  rw [List.filter_map, hl]
  rfl
/-- all have had their try: there are as many pairs as there can be -/
theorem Run.done {s : Nat} (h : Run ls l r l s par) : nu (gl ls) l r = s := by
  have hfr := fr_range h.ok.1
  have hs : ((List.range r).filter fun b => decide (0 ≤ par.getD b (-1))).length = s := by
    have := h.len
    rw [hfr, List.length_map] at this
    exact this
  refine Nat.le_antisymm ?_ ?_
  · obtain ⟨T, hT, hk⟩ := h.shut
    -- those with no line out of T
    let S : Nat → Bool := fun k => (List.range r).all fun j => !Gr.has ls (k : Int) (j : Int) || T j
    have hS : ∀ k, S k = true ↔ ∀ j, j < r → Gr.has ls (k : Int) (j : Int) = true → T j = true := fun k => by
      simp only [S, List.all_eq_true, List.mem_range, Bool.or_eq_true, Bool.not_eq_true']
      constructor
      · intro hh j hj hg
        rcases hh j hj with h1 | h1
        · rw [hg] at h1; cases h1
        · exact h1
      · intro hh j hj
        cases hg : Gr.has ls (k : Int) (j : Int)
        · exact .inl rfl
        · exact .inr (hh j hj hg)
    refine pairs_ge (S := S) ?_
    have h1 : cnt r (nbr (gl ls) l S) ≤ cnt r T := cnt_mono fun j hj hh => by
      obtain ⟨k, _, h2, h3⟩ := nbr_iff.1 hh
      exact (hS k).1 h2 j hj h3
    have h2 := cnt_not l S
    have h3 : ((List.range l).filter fun k => !S k).length ≤ (((List.range r).filter fun b => decide (0 ≤ par.getD b (-1)) && !T b).map fun b => (par.getD b (-1)).toNat).length := by
      refine List.Nodup.length_le_of_subset (List.nodup_range.sublist List.filter_sublist) fun k hk2 => ?_
      obtain ⟨hk3, hk4⟩ := List.mem_filter.1 hk2
      have hkl := List.mem_range.1 hk3
      have hmem : (k : Int) ∈ fr par := by
        rcases Classical.em ((k : Int) ∈ fr par) with hh | hh
        · exact hh
        · have := (hS k).2 (hk k hkl hh)
          rw [this] at hk4
          cases hk4
      rw [hfr] at hmem
      obtain ⟨b, hb, hbk⟩ := List.mem_map.1 hmem
      obtain ⟨hb1, hb2⟩ := List.mem_filter.1 hb
      refine List.mem_map.2 ⟨b, List.mem_filter.2 ⟨hb1, ?_⟩, by rw [hbk]; omega⟩
      rw [hb2, Bool.true_and]
      cases hTb : T b
      · rfl
      · have h4 := (hT b (List.mem_range.1 hb1) hTb).2
        rw [hbk] at h4
        have := (hS k).2 h4
        rw [this] at hk4
        cases hk4
    rw [List.length_map, ← List.countP_eq_length_filter, ← List.countP_eq_length_filter] at h3
    have h4 := countP_or_and (fun b => decide (0 ≤ par.getD b (-1)) && !T b) T (List.range r)
    have h5 : (List.range r).countP (fun b => (decide (0 ≤ par.getD b (-1)) && !T b) && T b) = 0 := List.countP_eq_zero.2 fun b _ => by cases T b <;> simp
    have h6 : (List.range r).countP (fun b => (decide (0 ≤ par.getD b (-1)) && !T b) || T b) = (List.range r).countP fun b => decide (0 ≤ par.getD b (-1)) := countP_eq fun b hb => by
      cases hTb : T b
      · simp
      · have := (hT b (List.mem_range.1 hb) hTb).1
        rw [decide_eq_true this]
        rfl
    rw [← List.countP_eq_length_filter] at hs
    unfold cnt at h1 h2 ⊢
    omega
  · have hle := pairs_le (G := gl ls) (l := l) (r := r) (M := ((List.range r).filter fun b => decide (0 ≤ par.getD b (-1))).map fun b => ((par.getD b (-1)).toNat, b)) ?_ ?_ ?_
    · rw [List.length_map, hs] at hle
      exact hle
    · intro p hp
      obtain ⟨b, hb, rfl⟩ := List.mem_map.1 hp
      obtain ⟨hb1, hb2⟩ := List.mem_filter.1 hb
      have hbr := List.mem_range.1 hb1
      have hb3 : 0 ≤ par.getD b (-1) := of_decide_eq_true hb2
      rcases h.ok.2 b hbr with h1 | ⟨_, h2, h3⟩
      · omega
      · refine ⟨by simp only; omega, hbr, ?_⟩
        unfold gl
        simp only
        rw [Int.toNat_of_nonneg hb3]
        exact h3
    · rw [List.map_map]
      have hn := h.nodup
      rw [hfr] at hn
      unfold List.Nodup at hn ⊢
      rw [List.pairwise_map] at hn ⊢
      refine hn.imp_of_mem fun {x y} hx hy hxy e => hxy ?_
      have hx3 : 0 ≤ par.getD x (-1) := of_decide_eq_true (List.mem_filter.1 hx).2
      have hy3 : 0 ≤ par.getD y (-1) := of_decide_eq_true (List.mem_filter.1 hy).2
      have e' : (par.getD x (-1)).toNat = (par.getD y (-1)).toNat := e
      omega
    · rw [List.map_map]
      have : (Prod.snd ∘ fun b : Nat => ((par.getD b (-1)).toNat, b)) = id := rfl
      rw [this, List.map_id]
      exact List.nodup_range.sublist List.filter_sublist
end

/-! ### what is wrong with two sides and lines -/
/-- the first wrong line -/
def fault (l r : Int) : List Gr.Ln → Int
  | [] => 0
  | p :: ps => if p.1 < 0 ∨ l ≤ p.1 ∨ p.2 < 0 ∨ r ≤ p.2 then 1 else fault l r ps
def code (l r : Int) (ls : List Gr.Ln) : Int := if l < 0 ∨ 6 < l ∨ r < 0 ∨ 6 < r then 1 else if 24 < ls.length then 4 else fault l r ls
theorem fault_bad {l r : Int} {ls : List Gr.Ln} {k : Nat} (hk : k < ls.length) (h : (ls.getD k (0, 0)).1 < 0 ∨ l ≤ (ls.getD k (0, 0)).1 ∨ (ls.getD k (0, 0)).2 < 0 ∨ r ≤ (ls.getD k (0, 0)).2) : fault l r (ls.drop k) = 1 := by
  rw [List.drop_eq_getElem_cons hk, fault, if_pos]
  simpa [List.getD, hk] using h
theorem fault_on {l r : Int} {ls : List Gr.Ln} {k : Nat} (hk : k < ls.length) (h : ¬ ((ls.getD k (0, 0)).1 < 0 ∨ l ≤ (ls.getD k (0, 0)).1 ∨ (ls.getD k (0, 0)).2 < 0 ∨ r ≤ (ls.getD k (0, 0)).2)) : fault l r (ls.drop k) = fault l r (ls.drop (k + 1)) := by
  rw [List.drop_eq_getElem_cons hk, fault, if_neg]
  simpa [List.getD, hk] using h
/-- a good line -/
def Good (l r : Int) (p : Gr.Ln) : Prop := 0 ≤ p.1 ∧ p.1 < l ∧ 0 ≤ p.2 ∧ p.2 < r
theorem fault_zero {l r : Int} : ∀ {ls : List Gr.Ln}, fault l r ls = 0 ↔ ∀ p ∈ ls, Good l r p := by
  intro ls
  induction ls with
  | nil => simp [fault]
  | cons p ps ih =>
    unfold fault
    split
    · rename_i h
      constructor
      · intro h0; omega
      · intro hg
        have := hg p (by simp)
        unfold Good at this
        omega
    · rename_i h
      rw [ih]
      constructor
      · intro hg q hq
        rcases List.mem_cons.1 hq with rfl | hq
        · unfold Good; omega
        · exact hg q hq
      · intro hg q hq
        exact hg q (List.mem_cons_of_mem _ hq)
theorem code_zero {l r : Int} {ls : List Gr.Ln} : code l r ls = 0 ↔ 0 ≤ l ∧ l ≤ 6 ∧ 0 ≤ r ∧ r ≤ 6 ∧ ls.length ≤ 24 ∧ ∀ p ∈ ls, Good l r p := by
  unfold code
  split
  · constructor
    · intro h; omega
    · intro h; omega
  · split
    · constructor
      · intro h; omega
      · intro h; omega
    · rw [fault_zero]
      constructor
      · intro h; exact ⟨by omega, by omega, by omega, by omega, by omega, h⟩
      · intro h; exact h.2.2.2.2.2
theorem fault_cases (l r : Int) : ∀ ls : List Gr.Ln, fault l r ls = 0 ∨ fault l r ls = 1
  | [] => .inl rfl
  | p :: ps => by
    unfold fault
    split
    · exact .inr rfl
    · exact fault_cases l r ps
theorem code_cases (l r : Int) (ls : List Gr.Ln) : code l r ls = 0 ∨ code l r ls = 1 ∨ code l r ls = 4 := by
  unfold code
  split
  · exact .inr (.inl rfl)
  · split
    · exact .inr (.inr rfl)
    · rcases fault_cases l r ls with h | h
      · exact .inl h
      · exact .inr (.inl h)
/-- both sides as they are counted -/
theorem code_nat {l r : Int} {ls : List Gr.Ln} (h : code l r ls = 0) : ∃ m n : Nat, l = (m : Int) ∧ r = (n : Int) ∧ m ≤ 6 ∧ n ≤ 6 := by
  have := code_zero.1 h
  exact ⟨l.toNat, r.toNat, by omega, by omega, by omega, by omega⟩
/-- the lines without one on the left -/
def wl (ls : List Gr.Ln) (a : Int) : List Gr.Ln := ls.filter fun p => !decide (p.1 = a)
theorem wl_len (ls : List Gr.Ln) (a : Int) : (wl ls a).length ≤ ls.length := List.length_filter_le _ _
theorem wl_gl (ls : List Gr.Ln) (a : Nat) : gl (wl ls (a : Int)) = wo (gl ls) a := by
  funext i j
  unfold gl wo wl Gr.has
  rw [Bool.eq_iff_iff]
  simp only [List.contains_iff_mem, List.mem_filter, Bool.and_eq_true, Bool.not_eq_true', decide_eq_false_iff_not]
  constructor
  · rintro ⟨h1, h2⟩; exact ⟨fun e => h2 (by omega), h1⟩
  · rintro ⟨h1, h2⟩; exact ⟨h2, fun e => h1 (by omega)⟩
theorem wl_code {l r : Int} {ls : List Gr.Ln} (h : code l r ls = 0) (a : Int) : code l r (wl ls a) = 0 := by
  have := code_zero.1 h
  have h2 := wl_len ls a
  exact code_zero.2 ⟨this.1, this.2.1, this.2.2.1, this.2.2.2.1, by omega, fun p hp => this.2.2.2.2.2 p (List.mem_filter.1 hp).1⟩

end Go.Proofs.YtoofpmajiphldaaDoor.Ma
