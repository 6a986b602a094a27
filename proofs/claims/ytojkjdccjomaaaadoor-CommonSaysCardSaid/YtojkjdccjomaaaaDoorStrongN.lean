/-
  Plain facts on two sides and pairs, with no program in them: how many pairs there are at most (by trying all), that it is as many as cover all lines (by sets of points and those that they have lines to), who is paired always, both sides seen from the other, one line more. No statement of the program is proved here; there is no condition.
  Plain facts on pairing one after the other by ways that swap, with no program in them: what one try leaves behind, and that after all tries there are as many pairs as there can be. No statement of the program is proved here; there is no condition.
  Plain facts on ways of one line or more, with no program in them: they go on, lines along them change nothing, the lines that no way goes round are enough and none of them can be spared, all of it turned. No statement of the program is proved here; there is no condition.
  Plain facts on ways, with no program in them: a table of eight times eight truth values that is filled in place, point by point in between (Warshall), says where ways of one line or more lead. No statement of the program is proved here; there is no condition.
  Plain facts on points that ways lead to and back from, with no program in them: the least one of each part, the parts' numbers, the parts folded up (no way comes back, the same ways, folded once more it stays), turned lines, more lines. No statement of the program is proved here; there is no condition.
-/
import Derived.WalkKit
import Derived.Test.YtojkjdccjomaaaaDoorGraphL
import Derived.Test.YtojkjdccjomaaaaDoorTopoP
set_option linter.unusedSimpArgs false
set_option linter.unusedVariables false
namespace Go.Proofs.YtojkjdccjomaaaaDoor.Ma

/-! ### counting -/
/-- how many below n -/
def cnt (n : Nat) (p : Nat → Bool) : Nat := (List.range n).countP p
theorem countP_or_and {α : Type} (p q : α → Bool) : ∀ l : List α, l.countP (fun x => p x || q x) + l.countP (fun x => p x && q x) = l.countP p + l.countP q
  | [] => rfl
  | a :: l => by
    have ih := countP_or_and p q l
    simp only [List.countP_cons]
    cases p a <;> cases q a <;> simp <;> omega
theorem countP_mono {α : Type} {p q : α → Bool} : ∀ {l : List α}, (∀ x ∈ l, p x = true → q x = true) → l.countP p ≤ l.countP q
  | [], _ => Nat.le_refl _
  | a :: l, h => by
    have ih := countP_mono (l := l) fun x hx => h x (List.mem_cons_of_mem _ hx)
    have ha := h a List.mem_cons_self
    simp only [List.countP_cons]
    cases hp : p a
    · simp; omega
    · rw [ha hp]; simp; exact ih
theorem countP_eq {α : Type} {p q : α → Bool} {l : List α} (h : ∀ x ∈ l, p x = q x) : l.countP p = l.countP q := List.countP_congr fun x hx => by rw [h x hx]
theorem countP_not {α : Type} (p : α → Bool) : ∀ l : List α, l.countP p + l.countP (fun x => !p x) = l.length
  | [] => rfl
  | a :: l => by
    have ih := countP_not p l
    simp only [List.countP_cons, List.length_cons]
    cases p a <;> simp <;> omega
theorem cnt_mono {n : Nat} {p q : Nat → Bool} (h : ∀ x, x < n → p x = true → q x = true) : cnt n p ≤ cnt n q := countP_mono fun x hx => h x (List.mem_range.1 hx)
theorem cnt_eq {n : Nat} {p q : Nat → Bool} (h : ∀ x, x < n → p x = q x) : cnt n p = cnt n q := countP_eq fun x hx => h x (List.mem_range.1 hx)
theorem cnt_le (n : Nat) (p : Nat → Bool) : cnt n p ≤ n := by have := List.countP_le_length (p := p) (l := List.range n); rwa [List.length_range] at this
theorem cnt_not (n : Nat) (p : Nat → Bool) : cnt n p + cnt n (fun x => !p x) = n := by have := countP_not p (List.range n); rwa [List.length_range] at this
theorem cnt_one (j : Nat) : ∀ n, j < n → cnt n (fun x => decide (x = j)) = 1
  | 0, h => by omega
  | n + 1, h => by
    unfold cnt
    rw [List.range_succ, List.countP_append]
    by_cases e : n = j
    · subst e
      have : (List.range n).countP (fun x => decide (x = n)) = 0 := List.countP_eq_zero.2 fun x hx => by
        have := List.mem_range.1 hx
        simp; omega
      rw [this]
      simp
    · have := cnt_one j n (by omega)
      unfold cnt at this
      rw [this]
      simp [e]
/-- without j -/
theorem cnt_but {n : Nat} (p : Nat → Bool) {j : Nat} (hj : j < n) : cnt n p = cnt n (fun x => p x && !decide (x = j)) + if p j = true then 1 else 0 := by
  have h1 := countP_or_and (fun x => p x && !decide (x = j)) (fun x => p x && decide (x = j)) (List.range n)
  have h2 : (List.range n).countP (fun x => (p x && !decide (x = j)) || (p x && decide (x = j))) = cnt n p := countP_eq fun x _ => by cases p x <;> by_cases e : x = j <;> simp [e]
  have h3 : (List.range n).countP (fun x => (p x && !decide (x = j)) && (p x && decide (x = j))) = 0 := List.countP_eq_zero.2 fun x _ => by by_cases e : x = j <;> simp [e]
  have h4 : (List.range n).countP (fun x => p x && decide (x = j)) = if p j = true then 1 else 0 := by
    cases hp : p j
    · refine (List.countP_eq_zero.2 fun x _ => ?_).trans (by simp)
      by_cases e : x = j
      · subst e; simp [hp]
      · simp [e]
    · have : (List.range n).countP (fun x => p x && decide (x = j)) = cnt n fun x => decide (x = j) := countP_eq fun x _ => by
        by_cases e : x = j
        · subst e; simp [hp]
        · simp [e]
      rw [this, cnt_one j n hj]
      simp
  rw [h2, h3, h4, Nat.add_zero] at h1
  exact h1

/-! ### how many pairs at most -/
section
variable (G : Nat → Nat → Bool) (r : Nat)
/-- those that some of them have a line to -/
def nb (xs : List Nat) (S : Nat → Bool) (j : Nat) : Bool := xs.any fun i => S i && G i j
/-- the best of the first k on the right for i; f: how many of the others -/
def moTo (f : (Nat → Bool) → Nat) (i : Nat) (U : Nat → Bool) : Nat → Nat
  | 0 => f U
  | k + 1 => if (U k && G i k) = true then max (moTo f i U k) (1 + f fun x => U x && !decide (x = k)) else moTo f i U k
/-- by trying all: U are free on the right -/
def mo : List Nat → (Nat → Bool) → Nat
  | [], _ => 0
  | i :: xs, U => moTo G (mo xs) i U r
end
section
variable {G : Nat → Nat → Bool} {r : Nat}
theorem moTo_spec (f : (Nat → Bool) → Nat) (i : Nat) (U : Nat → Bool) : ∀ k, f U ≤ moTo G f i U k ∧ (∀ j, j < k → (U j && G i j) = true → 1 + f (fun x => U x && !decide (x = j)) ≤ moTo G f i U k) ∧ (moTo G f i U k = f U ∨ ∃ j, j < k ∧ (U j && G i j) = true ∧ moTo G f i U k = 1 + f fun x => U x && !decide (x = j))
  | 0 => ⟨Nat.le_refl _, fun j h => by omega, .inl rfl⟩
  | k + 1 => by
    obtain ⟨h1, h2, h3⟩ := moTo_spec f i U k
    have e : moTo G f i U (k + 1) = if (U k && G i k) = true then max (moTo G f i U k) (1 + f fun x => U x && !decide (x = k)) else moTo G f i U k := rfl
    by_cases hk : (U k && G i k) = true
    · rw [if_pos hk] at e
      rw [e]
      refine ⟨by omega, fun j hj hU => ?_, ?_⟩
      · rcases Nat.lt_or_ge j k with hl | hl
        · have := h2 j hl hU; omega
        · obtain rfl : j = k := by omega
          omega
      · rcases Nat.lt_or_ge (moTo G f i U k) (1 + f fun x => U x && !decide (x = k)) with hl | hl
        · exact .inr ⟨k, by omega, hk, by omega⟩
        · rw [Nat.max_eq_left hl]
          rcases h3 with h3 | ⟨j, hj, hU, h3⟩
          · exact .inl h3
          · exact .inr ⟨j, by omega, hU, h3⟩
    · rw [if_neg hk] at e
      rw [e]
      refine ⟨h1, fun j hj hU => ?_, ?_⟩
      · rcases Nat.lt_or_ge j k with hl | hl
        · exact h2 j hl hU
        · obtain rfl : j = k := by omega
          exact absurd hU hk
      · rcases h3 with h3 | ⟨j, hj, hU, h3⟩
        · exact .inl h3
        · exact .inr ⟨j, by omega, hU, h3⟩

/-- how many free ones they have lines to -/
def nn (G : Nat → Nat → Bool) (r : Nat) (xs : List Nat) (U S : Nat → Bool) : Nat := cnt r fun j => U j && nb G xs S j
theorem nn_mono {xs : List Nat} {U U' S : Nat → Bool} (h : ∀ j, U j = true → U' j = true) : nn G r xs U S ≤ nn G r xs U' S := cnt_mono fun j _ hj => by
  simp only [Bool.and_eq_true] at hj ⊢
  exact ⟨h j hj.1, hj.2⟩
theorem nn_but {xs : List Nat} {U S : Nat → Bool} {j : Nat} (hj : j < r) : nn G r xs U S = nn G r xs (fun x => U x && !decide (x = j)) S + if (U j && nb G xs S j) = true then 1 else 0 := by
  unfold nn
  rw [cnt_but (fun x => U x && nb G xs S x) hj]
  congr 1
  refine cnt_eq fun x _ => ?_
  show ((U x && nb G xs S x) && !decide (x = j)) = ((U x && !decide (x = j)) && nb G xs S x)
  generalize U x = a
  generalize nb G xs S x = b
  generalize decide (x = j) = d
  cases a <;> cases b <;> cases d <;> rfl
theorem nb_cons (i : Nat) (xs : List Nat) (S : Nat → Bool) (j : Nat) : nb G (i :: xs) S j = ((S i && G i j) || nb G xs S j) := by simp [nb]
/-- no more pairs than others and those that they have lines to -/
theorem weak : ∀ (xs : List Nat) (U S : Nat → Bool), mo G r xs U + xs.countP S ≤ xs.length + nn G r xs U S
  | [], U, S => by simp [mo]
  | i :: xs, U, S => by
    have hmono : nn G r xs U S ≤ nn G r (i :: xs) U S := cnt_mono fun j _ hj => by
      simp only [Bool.and_eq_true] at hj ⊢
      rw [nb_cons, hj.2, Bool.or_true]
      exact ⟨hj.1, rfl⟩
    have hs : (i :: xs).countP S ≤ xs.countP S + 1 := by rw [List.countP_cons]; split <;> omega
    obtain ⟨_, _, h3⟩ := moTo_spec (G := G) (mo G r xs) i U r
    show moTo G (mo G r xs) i U r + _ ≤ _
    rw [List.length_cons]
    rcases h3 with h3 | ⟨j, hj, hU, h3⟩
    · have := weak xs U S
      omega
    · have ih := weak xs (fun x => U x && !decide (x = j)) S
      rw [h3]
      simp only [Bool.and_eq_true] at hU
      cases hS : S i
      · have e : (i :: xs).countP S = xs.countP S := by rw [List.countP_cons, hS]; rfl
        have := nn_mono (G := G) (r := r) (xs := xs) (S := S) (U := fun x => U x && !decide (x = j)) (U' := U) fun x hx => by
          simp only [Bool.and_eq_true] at hx; exact hx.1
        omega
      · have hb := nn_but (G := G) (r := r) (xs := i :: xs) (U := U) (S := S) hj
        have hn : nb G (i :: xs) S j = true := by rw [nb_cons, hS, hU.2]; rfl
        rw [hU.1, hn] at hb
        simp only [Bool.and_self, if_true] at hb
        have h5 : nn G r xs (fun x => U x && !decide (x = j)) S ≤ nn G r (i :: xs) (fun x => U x && !decide (x = j)) S := cnt_mono fun x _ hx => by
          simp only [Bool.and_eq_true] at hx ⊢
          rw [nb_cons, hx.2, Bool.or_true]
          exact ⟨hx.1, rfl⟩
        omega

/-- a set for which there are just so many -/
def Tight (G : Nat → Nat → Bool) (r : Nat) (xs : List Nat) (U S : Nat → Bool) : Prop := mo G r xs U + xs.countP S = xs.length + nn G r xs U S
theorem nn_both (xs : List Nat) (U S T : Nat → Bool) : nn G r xs U (fun x => S x || T x) + nn G r xs U (fun x => S x && T x) ≤ nn G r xs U S + nn G r xs U T := by
  unfold nn cnt
  have h := countP_or_and (fun j => U j && nb G xs S j) (fun j => U j && nb G xs T j) (List.range r)
  have h1 : (List.range r).countP (fun j => U j && nb G xs (fun x => S x || T x) j) = (List.range r).countP fun j => (U j && nb G xs S j) || (U j && nb G xs T j) := countP_eq fun j _ => by
    have : nb G xs (fun x => S x || T x) j = (nb G xs S j || nb G xs T j) := by
      unfold nb
      rw [Bool.eq_iff_iff]
      simp only [List.any_eq_true, Bool.or_eq_true, Bool.and_eq_true]
      constructor
      · rintro ⟨i, hi, h1 | h1, h2⟩
        · exact .inl ⟨i, hi, h1, h2⟩
        · exact .inr ⟨i, hi, h1, h2⟩
      · rintro (⟨i, hi, h1, h2⟩ | ⟨i, hi, h1, h2⟩)
        · exact ⟨i, hi, .inl h1, h2⟩
        · exact ⟨i, hi, .inr h1, h2⟩
    rw [this]
    cases U j <;> simp
  have h2 : (List.range r).countP (fun j => U j && nb G xs (fun x => S x && T x) j) ≤ (List.range r).countP fun j => (U j && nb G xs S j) && (U j && nb G xs T j) := countP_mono fun j _ hj => by
    simp only [Bool.and_eq_true, nb, List.any_eq_true] at hj ⊢
    obtain ⟨hU, i, hi, ⟨h1, h2⟩, h3⟩ := hj
    exact ⟨⟨hU, i, hi, h1, h3⟩, hU, i, hi, h2, h3⟩
  omega
theorem Tight.both {xs : List Nat} {U S T : Nat → Bool} (h : Tight G r xs U S) (h' : Tight G r xs U T) : Tight G r xs U (fun x => S x || T x) ∧ Tight G r xs U (fun x => S x && T x) := by
  unfold Tight at *
  have h1 := nn_both (G := G) (r := r) xs U S T
  have h2 := countP_or_and S T xs
  have h3 := weak (G := G) (r := r) xs U fun x => S x || T x
  have h4 := weak (G := G) (r := r) xs U fun x => S x && T x
  omega
/-- there is such a set -/
theorem strong : ∀ (xs : List Nat), xs.Nodup → ∀ U : Nat → Bool, ∃ S, Tight G r xs U S
  | [], _, U => ⟨fun _ => false, by unfold Tight; simp [mo, nn, nb, cnt]⟩
  | i :: xs, hn, U => by
    obtain ⟨hi, hn'⟩ := List.nodup_cons.1 hn
    have ih := strong xs hn'
    have hne : ∀ x ∈ xs, x ≠ i := fun x hx e => hi (e ▸ hx)
    obtain ⟨S', hS'⟩ := ih U
    obtain ⟨m1, m2, m3⟩ := moTo_spec (G := G) (mo G r xs) i U r
    have hmo : mo G r (i :: xs) U = moTo G (mo G r xs) i U r := rfl
    by_cases hex : ∃ j, j < r ∧ (U j && G i j) = true ∧ mo G r xs U ≤ mo G r xs fun x => U x && !decide (x = j)
    · obtain ⟨j, hj, hU, hge⟩ := hex
      refine ⟨fun x => S' x && !decide (x = i), ?_⟩
      have hup : moTo G (mo G r xs) i U r ≤ mo G r xs U + 1 := by
        rcases m3 with m3 | ⟨j', hj', hU', m3⟩
        · omega
        · obtain ⟨T, hT⟩ := ih U
          have h1 := weak (G := G) (r := r) xs (fun x => U x && !decide (x = j')) T
          have h2 := nn_mono (G := G) (r := r) (xs := xs) (S := T) (U := fun x => U x && !decide (x = j')) (U' := U) fun x hx => by
            simp only [Bool.and_eq_true] at hx; exact hx.1
          unfold Tight at hT
          omega
      have hlow := m2 j hj hU
      unfold Tight at hS' ⊢
      rw [hmo]
      have c1 : (i :: xs).countP (fun x => S' x && !decide (x = i)) = xs.countP S' := by
        rw [List.countP_cons]
        have : xs.countP (fun x => S' x && !decide (x = i)) = xs.countP S' := countP_eq fun x hx => by simp [hne x hx]
        rw [this]
        simp
      have c2 : nn G r (i :: xs) U (fun x => S' x && !decide (x = i)) = nn G r xs U S' := cnt_eq fun x _ => by
        rw [nb_cons]
        have : nb G xs (fun x => S' x && !decide (x = i)) x = nb G xs S' x := by
          unfold nb
          rw [Bool.eq_iff_iff]
          simp only [List.any_eq_true, Bool.and_eq_true]
          constructor
          · rintro ⟨y, hy, ⟨h1, _⟩, h2⟩; exact ⟨y, hy, h1, h2⟩
          · rintro ⟨y, hy, h1, h2⟩; exact ⟨y, hy, ⟨h1, by simp [hne y hy]⟩, h2⟩
        rw [this]
        simp
      rw [c1, c2, List.length_cons]
      omega
    · have hall : ∀ j, j < r → (U j && G i j) = true → (mo G r xs fun x => U x && !decide (x = j)) < mo G r xs U := fun j hj hU => by
        rcases Nat.lt_or_ge (mo G r xs fun x => U x && !decide (x = j)) (mo G r xs U) with h | h
        · exact h
        · exact absurd ⟨j, hj, hU, h⟩ hex
      have hval : moTo G (mo G r xs) i U r = mo G r xs U := by
        rcases m3 with m3 | ⟨j, hj, hU, m3⟩
        · exact m3
        · have := hall j hj hU
          omega
      have hone : ∀ j, j < r → (U j && G i j) = true → ∃ S, Tight G r xs U S ∧ nb G xs S j = true := fun j hj hU => by
        obtain ⟨S, hS⟩ := ih fun x => U x && !decide (x = j)
        have h1 := weak (G := G) (r := r) xs U S
        have h2 := nn_but (G := G) (r := r) (xs := xs) (U := U) (S := S) hj
        have h3 := hall j hj hU
        unfold Tight at hS
        cases hb : (U j && nb G xs S j)
        · rw [hb] at h2; simp at h2; omega
        · rw [hb] at h2
          simp only [if_true] at h2
          refine ⟨S, ?_, (Bool.and_eq_true_iff.1 hb).2⟩
          unfold Tight
          omega
      have hmany : ∀ k, ∃ S, Tight G r xs U S ∧ ∀ j, j < k → j < r → (U j && G i j) = true → nb G xs S j = true := by
        intro k
        induction k with
        | zero => exact ⟨S', hS', fun j h => by omega⟩
        | succ k ihk =>
          obtain ⟨S, hS, h1⟩ := ihk
          by_cases hk : k < r ∧ (U k && G i k) = true
          · obtain ⟨T, hT, h2⟩ := hone k hk.1 hk.2
            refine ⟨_, (hS.both hT).1, fun j hj hjr hU => ?_⟩
            have : nb G xs S j = true ∨ nb G xs T j = true := by
              rcases Nat.lt_or_ge j k with h | h
              · exact .inl (h1 j h hjr hU)
              · obtain rfl : j = k := by omega
                exact .inr h2
            unfold nb at this ⊢
            simp only [List.any_eq_true, Bool.and_eq_true, Bool.or_eq_true] at this ⊢
            rcases this with ⟨y, hy, h3, h4⟩ | ⟨y, hy, h3, h4⟩
            · exact ⟨y, hy, .inl h3, h4⟩
            · exact ⟨y, hy, .inr h3, h4⟩
          · refine ⟨S, hS, fun j hj hjr hU => ?_⟩
            rcases Nat.lt_or_ge j k with h | h
            · exact h1 j h hjr hU
            · obtain rfl : j = k := by omega
              exact absurd ⟨hjr, hU⟩ hk
      obtain ⟨S, hS, hS2⟩ := hmany r
      refine ⟨fun x => decide (x = i) || S x, ?_⟩
      have c1 : (i :: xs).countP (fun x => decide (x = i) || S x) = xs.countP S + 1 := by
        rw [List.countP_cons]
        have : xs.countP (fun x => decide (x = i) || S x) = xs.countP S := countP_eq fun x hx => by simp [hne x hx]
        rw [this]
        simp
      have c2 : nn G r (i :: xs) U (fun x => decide (x = i) || S x) = nn G r xs U S := cnt_eq fun x hx => by
        rw [nb_cons]
        have : nb G xs (fun x => decide (x = i) || S x) x = nb G xs S x := by
          unfold nb
          rw [Bool.eq_iff_iff]
          simp only [List.any_eq_true, Bool.and_eq_true, Bool.or_eq_true]
          constructor
          · rintro ⟨y, hy, h1 | h1, h2⟩
            · exact absurd (of_decide_eq_true h1) (hne y hy)
            · exact ⟨y, hy, h1, h2⟩
          · rintro ⟨y, hy, h1, h2⟩; exact ⟨y, hy, .inr h1, h2⟩
        rw [this]
        cases hU : U x
        · simp
        · cases hG : G i x
          · simp
          · have := hS2 x hx hx (by rw [hU, hG]; rfl)
            simp [this]
      unfold Tight at hS ⊢
      rw [hmo, hval, c1, c2, List.length_cons]
      omega
end

/-! ### two sides -/
/-- how many pairs at most, of l on the left and r on the right -/
def nu (G : Nat → Nat → Bool) (l r : Nat) : Nat := mo G r (List.range l) fun _ => true
/-- those on the right that some on the left have lines to -/
def nbr (G : Nat → Nat → Bool) (l : Nat) (S : Nat → Bool) (j : Nat) : Bool := nb G (List.range l) S j
theorem nbr_iff {G : Nat → Nat → Bool} {l : Nat} {S : Nat → Bool} {j : Nat} : nbr G l S j = true ↔ ∃ i, i < l ∧ S i = true ∧ G i j = true := by
  simp [nbr, nb]
section
variable {G : Nat → Nat → Bool} {l r : Nat}
theorem hall_le (G : Nat → Nat → Bool) (l r : Nat) (S : Nat → Bool) : nu G l r + cnt l S ≤ l + cnt r (nbr G l S) := by
  have := weak (G := G) (r := r) (List.range l) (fun _ => true) S
  rw [List.length_range] at this
  unfold nu
  have e : nn G r (List.range l) (fun _ => true) S = cnt r (nbr G l S) := cnt_eq fun j _ => by simp [nbr]
  rw [e] at this
  exact this
/-- just so many -/
def Just (G : Nat → Nat → Bool) (l r : Nat) (S : Nat → Bool) : Prop := nu G l r + cnt l S = l + cnt r (nbr G l S)
theorem just_tight {S : Nat → Bool} : Just G l r S ↔ Tight G r (List.range l) (fun _ => true) S := by
  unfold Just Tight
  rw [List.length_range]
  have e : nn G r (List.range l) (fun _ => true) S = cnt r (nbr G l S) := cnt_eq fun j _ => by simp [nbr]
  rw [e]
  exact Iff.rfl
theorem hall_ex (G : Nat → Nat → Bool) (l r : Nat) : ∃ S, Just G l r S := by
  obtain ⟨S, hS⟩ := strong (G := G) (r := r) (List.range l) List.nodup_range fun _ => true
  exact ⟨S, just_tight.2 hS⟩
theorem Just.both {S T : Nat → Bool} (h : Just G l r S) (h' : Just G l r T) : Just G l r (fun x => S x || T x) ∧ Just G l r (fun x => S x && T x) := by
  obtain ⟨h1, h2⟩ := (just_tight.1 h).both (just_tight.1 h')
  exact ⟨just_tight.2 h1, just_tight.2 h2⟩
theorem nbr_congr {S T : Nat → Bool} (h : ∀ i, i < l → S i = T i) (j : Nat) : nbr G l S j = nbr G l T j := by
  rw [Bool.eq_iff_iff, nbr_iff, nbr_iff]
  constructor
  · rintro ⟨i, hi, h1, h2⟩; exact ⟨i, hi, by rw [← h i hi]; exact h1, h2⟩
  · rintro ⟨i, hi, h1, h2⟩; exact ⟨i, hi, by rw [h i hi]; exact h1, h2⟩
theorem Just.congr {S T : Nat → Bool} (h : Just G l r S) (he : ∀ i, i < l → S i = T i) : Just G l r T := by
  unfold Just at *
  rw [cnt_eq he, cnt_eq (fun j _ => nbr_congr he j)] at h
  exact h
theorem nu_le_left (G : Nat → Nat → Bool) (l r : Nat) : nu G l r ≤ l := by
  have h := hall_le G l r fun _ => false
  have e : cnt r (nbr G l fun _ => false) = 0 := List.countP_eq_zero.2 fun j _ => by simp [nbr, nb]
  rw [e] at h
  omega
theorem nu_le_right (G : Nat → Nat → Bool) (l r : Nat) : nu G l r ≤ r := by
  have h := hall_le G l r fun _ => true
  have e : cnt l (fun _ => true) = l := by simp [cnt]
  have := cnt_le r (nbr G l fun _ => true)
  omega
theorem nu_congr {G' : Nat → Nat → Bool} (h : ∀ i, i < l → ∀ j, j < r → G i j = G' i j) : nu G l r = nu G' l r := by
  have key : ∀ {A B : Nat → Nat → Bool}, (∀ i, i < l → ∀ j, j < r → A i j = B i j) → nu A l r ≤ nu B l r := fun {A B} h => by
    obtain ⟨S, hS⟩ := hall_ex B l r
    have h1 := hall_le A l r S
    have e : cnt r (nbr A l S) = cnt r (nbr B l S) := cnt_eq fun j hj => by
      rw [Bool.eq_iff_iff, nbr_iff, nbr_iff]
      constructor
      · rintro ⟨i, hi, h1, h2⟩; exact ⟨i, hi, h1, by rw [← h i hi j hj]; exact h2⟩
      · rintro ⟨i, hi, h1, h2⟩; exact ⟨i, hi, h1, by rw [h i hi j hj]; exact h2⟩
    unfold Just at hS
    omega
  exact Nat.le_antisymm (key h) (key fun i hi j hj => (h i hi j hj).symm)
/-- more lines, no fewer pairs -/
theorem nu_mono {G' : Nat → Nat → Bool} (h : ∀ i, i < l → ∀ j, j < r → G i j = true → G' i j = true) : nu G l r ≤ nu G' l r := by
  obtain ⟨S, hS⟩ := hall_ex G' l r
  have h1 := hall_le G l r S
  have e : cnt r (nbr G l S) ≤ cnt r (nbr G' l S) := cnt_mono fun j hj hh => by
    obtain ⟨i, hi, h1, h2⟩ := nbr_iff.1 hh
    exact nbr_iff.2 ⟨i, hi, h1, h i hi j hj h2⟩
  unfold Just at hS
  omega
/-- one line more, one pair more at most -/
theorem nu_more (a b : Nat) : nu (fun i j => G i j || (decide (i = a) && decide (j = b))) l r ≤ nu G l r + 1 := by
  obtain ⟨S, hS⟩ := hall_ex G l r
  have h1 := hall_le (fun i j => G i j || (decide (i = a) && decide (j = b))) l r S
  have e : cnt r (nbr (fun i j => G i j || (decide (i = a) && decide (j = b))) l S) ≤ cnt r (nbr G l S) + 1 := by
    by_cases hb : b < r
    · have h2 := cnt_but (nbr (fun i j => G i j || (decide (i = a) && decide (j = b))) l S) hb
      have h3 : cnt r (fun x => nbr (fun i j => G i j || (decide (i = a) && decide (j = b))) l S x && !decide (x = b)) ≤ cnt r (nbr G l S) := cnt_mono fun j _ hh => by
        simp only [Bool.and_eq_true, nbr_iff] at hh
        obtain ⟨⟨i, hi, h1, h2⟩, h3⟩ := hh
        refine nbr_iff.2 ⟨i, hi, h1, ?_⟩
        have h3' : ¬ j = b := by simpa using h3
        simpa [h3'] using h2
      rw [h2]
      split <;> omega
    · have : cnt r (nbr (fun i j => G i j || (decide (i = a) && decide (j = b))) l S) ≤ cnt r (nbr G l S) := cnt_mono fun j hj hh => by
        obtain ⟨i, hi, h1, h2⟩ := nbr_iff.1 hh
        have : ¬ j = b := by omega
        exact nbr_iff.2 ⟨i, hi, h1, by simpa [this] using h2⟩
      omega
  unfold Just at hS
  omega
/-- seen from the right there are as many -/
theorem nu_turn (G : Nat → Nat → Bool) (l r : Nat) : nu (fun j i => G i j) r l = nu G l r := by
  have key : ∀ (G : Nat → Nat → Bool) (l r : Nat), nu (fun j i => G i j) r l ≤ nu G l r := fun G l r => by
    obtain ⟨S, hS⟩ := hall_ex G l r
    have h1 := hall_le (fun j i => G i j) r l fun j => !nbr G l S j
    have h2 := cnt_not r (nbr G l S)
    have h3 := cnt_not l S
    have h4 : cnt l (nbr (fun j i => G i j) r fun j => !nbr G l S j) ≤ cnt l fun i => !S i := cnt_mono fun i hi hh => by
      obtain ⟨j, hj, h5, h6⟩ := nbr_iff.1 hh
      cases hSi : S i
      · rfl
      · have : nbr G l S j = true := nbr_iff.2 ⟨i, hi, hSi, h6⟩
        rw [this] at h5
        cases h5
    unfold Just at hS
    omega
  exact Nat.le_antisymm (key G l r) (key (fun j i => G i j) r l)

/-! ### who is paired always -/
/-- the lines without one on the left -/
def wo (G : Nat → Nat → Bool) (a : Nat) : Nat → Nat → Bool := fun i j => !decide (i = a) && G i j
/-- without a there are fewer -/
def ess (G : Nat → Nat → Bool) (l r a : Nat) : Bool := decide (nu (wo G a) l r < nu G l r)
theorem wo_nbr {S : Nat → Bool} {a j : Nat} : nbr (wo G a) l S j = nbr G l (fun x => S x && !decide (x = a)) j := by
  rw [Bool.eq_iff_iff, nbr_iff, nbr_iff]
  unfold wo
  simp only [Bool.and_eq_true]
  constructor
  · rintro ⟨i, hi, h1, h2, h3⟩; exact ⟨i, hi, ⟨h1, h2⟩, h3⟩
  · rintro ⟨i, hi, ⟨h1, h2⟩, h3⟩; exact ⟨i, hi, h1, h2, h3⟩
theorem nu_wo_le (a : Nat) : nu (wo G a) l r ≤ nu G l r := nu_mono fun i _ j _ h => by unfold wo at h; simp only [Bool.and_eq_true] at h; exact h.2
theorem nu_wo_ge {a : Nat} (ha : a < l) : nu G l r ≤ nu (wo G a) l r + 1 := by
  obtain ⟨S, hS⟩ := hall_ex (wo G a) l r
  have h1 := hall_le G l r fun x => S x && !decide (x = a)
  have e : cnt r (nbr (wo G a) l S) = cnt r (nbr G l fun x => S x && !decide (x = a)) := cnt_eq fun j _ => wo_nbr
  have h2 := cnt_but S ha
  unfold Just at hS
  split at h2 <;> omega
/-- one outside of a set that is just is paired always -/
theorem ess_out {S : Nat → Bool} {a : Nat} (ha : a < l) (h : Just G l r S) (hS : S a = false) : ess G l r a = true := by
  unfold ess
  rw [decide_eq_true_eq]
  have h1 := hall_le (wo G a) l r fun x => S x || decide (x = a)
  have e : cnt r (nbr (wo G a) l fun x => S x || decide (x = a)) = cnt r (nbr G l S) := cnt_eq fun j _ => by
    rw [wo_nbr]
    refine nbr_congr (fun i hi => ?_) j
    by_cases e : i = a
    · subst e; simp [hS]
    · simp [e]
  have h2 := cnt_but (fun x => S x || decide (x = a)) ha
  have e2 : cnt l (fun x => (S x || decide (x = a)) && !decide (x = a)) = cnt l S := cnt_eq fun i _ => by
    by_cases e : i = a
    · subst e; simp [hS]
    · simp [e]
  rw [e2] at h2
  simp at h2
  unfold Just at h
  omega
/-- one who is paired always lies outside of some set that is just -/
theorem ess_ex {a : Nat} (ha : a < l) (h : ess G l r a = true) : ∃ S, Just G l r S ∧ S a = false := by
  unfold ess at h
  rw [decide_eq_true_eq] at h
  obtain ⟨T, hT⟩ := hall_ex (wo G a) l r
  have e : cnt r (nbr (wo G a) l T) = cnt r (nbr G l fun x => T x && !decide (x = a)) := cnt_eq fun j _ => wo_nbr
  have h1 := hall_le G l r fun x => T x && !decide (x = a)
  have h2 := cnt_but T ha
  refine ⟨fun x => T x && !decide (x = a), ?_, by simp⟩
  unfold Just at hT ⊢
  split at h2 <;> omega
/-- those that are not paired always are the least such set -/
theorem ess_just (G : Nat → Nat → Bool) (l r : Nat) : Just G l r fun i => !ess G l r i := by
  have key : ∀ k, ∃ S, Just G l r S ∧ ∀ a, a < k → a < l → ess G l r a = true → S a = false := by
    intro k
    induction k with
    | zero =>
      obtain ⟨S, hS⟩ := hall_ex G l r
      exact ⟨S, hS, fun a h => by omega⟩
    | succ k ih =>
      obtain ⟨S, hS, h1⟩ := ih
      by_cases hk : k < l ∧ ess G l r k = true
      · obtain ⟨T, hT, h2⟩ := ess_ex hk.1 hk.2
        refine ⟨_, (hS.both hT).2, fun a ha hal he => ?_⟩
        rcases Nat.lt_or_ge a k with h | h
        · simp [h1 a h hal he]
        · obtain rfl : a = k := by omega
          simp [h2]
      · refine ⟨S, hS, fun a ha hal he => ?_⟩
        rcases Nat.lt_or_ge a k with h | h
        · exact h1 a h hal he
        · obtain rfl : a = k := by omega
          exact absurd ⟨hal, he⟩ hk
  obtain ⟨S, hS, h1⟩ := key l
  refine hS.congr fun i hi => ?_
  cases he : ess G l r i
  · cases hSi : S i
    · have := ess_out hi hS hSi
      rw [he] at this
      cases this
    · rfl
  · rw [h1 i hi hi he]
    rfl
/-- those that are paired always, and those that the others have lines to: as many as there are pairs -/
theorem cover_count (G : Nat → Nat → Bool) (l r : Nat) : cnt l (ess G l r) + cnt r (nbr G l fun i => !ess G l r i) = nu G l r := by
  have h := ess_just G l r
  have h2 := cnt_not l (ess G l r)
  unfold Just at h
  omega
theorem ess_wo {a : Nat} (ha : a < l) : nu (wo G a) l r + (if ess G l r a = true then 1 else 0) = nu G l r := by
  have h1 := nu_wo_le (G := G) (l := l) (r := r) a
  have h2 := nu_wo_ge (G := G) (l := l) (r := r) ha
  cases he : ess G l r a
  · unfold ess at he
    have : ¬ nu (wo G a) l r < nu G l r := of_decide_eq_false he
    simp
    omega
  · unfold ess at he
    have := of_decide_eq_true he
    simp
    omega

/-! ### pairs that are there -/
/-- so many pairs are no more than there are at most -/
theorem pairs_le {M : List (Nat × Nat)} (hM : ∀ p ∈ M, p.1 < l ∧ p.2 < r ∧ G p.1 p.2 = true) (h1 : (M.map Prod.fst).Nodup) (h2 : (M.map Prod.snd).Nodup) : M.length ≤ nu G l r := by
  obtain ⟨S, hS⟩ := hall_ex G l r
  have hsplit := countP_not (fun p : Nat × Nat => S p.1) M
  have hsub1 : ((M.filter fun p => !S p.1).map Prod.fst).length ≤ ((List.range l).filter fun i => !S i).length := by
    refine List.Nodup.length_le_of_subset (h1.sublist (List.filter_sublist.map _)) fun x hx => ?_
    obtain ⟨p, hp, rfl⟩ := List.mem_map.1 hx
    obtain ⟨hp1, hp2⟩ := List.mem_filter.1 hp
    exact List.mem_filter.2 ⟨List.mem_range.2 (hM p hp1).1, hp2⟩
  have hsub2 : ((M.filter fun p => S p.1).map Prod.snd).length ≤ ((List.range r).filter (nbr G l S)).length := by
    refine List.Nodup.length_le_of_subset (h2.sublist (List.filter_sublist.map _)) fun x hx => ?_
    obtain ⟨p, hp, rfl⟩ := List.mem_map.1 hx
    obtain ⟨hp1, hp2⟩ := List.mem_filter.1 hp
    obtain ⟨g1, g2, g3⟩ := hM p hp1
    exact List.mem_filter.2 ⟨List.mem_range.2 g2, nbr_iff.2 ⟨p.1, g1, hp2, g3⟩⟩
  rw [List.length_map, ← List.countP_eq_length_filter, ← List.countP_eq_length_filter] at hsub1 hsub2
  have h3 := cnt_not l S
  unfold Just at hS
  unfold cnt at h3 hS
  omega
/-- if some have only so few to go to, there are no more pairs -/
theorem pairs_ge {n : Nat} {S : Nat → Bool} (h : l + cnt r (nbr G l S) ≤ n + cnt l S) : nu G l r ≤ n := by
  have := hall_le G l r S
  omega
end

end Go.Proofs.YtojkjdccjomaaaaDoor.Ma

set_option linter.unusedSimpArgs false
set_option linter.unusedVariables false
namespace Go.Proofs.YtojkjdccjomaaaaDoor.Ma

/-- who has a line to whom -/
def gl (ls : List Gr.Ln) : Nat → Nat → Bool := fun i j => Gr.has ls (i : Int) (j : Int)
/-- those that one has lines to, in the order of the lines -/
def jl (ls : List Gr.Ln) (a : Int) : List Int := (ls.filter fun p => decide (p.1 = a)).map Prod.snd
theorem mem_jl {ls : List Gr.Ln} {a b : Int} : b ∈ jl ls a ↔ Gr.has ls a b = true := by
  unfold jl Gr.has
  simp only [List.mem_map, List.mem_filter, decide_eq_true_eq, List.contains_iff_mem]
  constructor
  · rintro ⟨⟨x, y⟩, ⟨h1, h2⟩, h3⟩
    simp only at h2 h3
    subst h2 h3
    exact h1
  · intro h
    exact ⟨(a, b), ⟨h, rfl⟩, rfl⟩

/-- who is paired -/
def fr (par : List Int) : List Int := par.filter fun x => decide (0 ≤ x)
/-- pairs have lines -/
def Ok (ls : List Gr.Ln) (l r : Nat) (par : List Int) : Prop := par.length = r ∧ ∀ b, b < r → par.getD b (-1) = -1 ∨ (0 ≤ par.getD b (-1) ∧ par.getD b (-1) < (l : Int) ∧ Gr.has ls (par.getD b (-1)) (b : Int) = true)
/-- a set on the right that is all paired, and whose partners have no line out of it -/
def Shut (ls : List Gr.Ln) (r : Nat) (par : List Int) (T : Nat → Bool) : Prop := ∀ b, b < r → T b = true → 0 ≤ par.getD b (-1) ∧ ∀ j, j < r → Gr.has ls (par.getD b (-1)) (j : Int) = true → T j = true
/-- behind a try that went well -/
structure Yes (ls : List Gr.Ln) (l r : Nat) (a : Int) (ask : List Bool) (par par' : List Int) : Prop where
  ok : Ok ls l r par'
  perm : (fr par').Perm (a :: fr par)
  keep : ∀ b, b < r → ask.getD b false = true → par'.getD b (-1) = par.getD b (-1)
  out : ∀ T, Shut ls r par T → (∃ j, j < r ∧ Gr.has ls a (j : Int) = true ∧ T j = false) ∧ ∀ b, b < r → T b = true → par'.getD b (-1) = par.getD b (-1)
/-- all newly asked are paired, and their partners have lines only to those that are asked -/
structure Mid (ls : List Gr.Ln) (r : Nat) (par : List Int) (ask ask' : List Bool) : Prop where
  len : ask'.length = r
  grow : ∀ b, b < r → ask.getD b false = true → ask'.getD b false = true
  shut : ∀ b, b < r → ask'.getD b false = true → ask.getD b false = true ∨ (0 ≤ par.getD b (-1) ∧ ∀ j, j < r → Gr.has ls (par.getD b (-1)) (j : Int) = true → ask'.getD j false = true)
/-- behind a try that did not -/
structure No (ls : List Gr.Ln) (r : Nat) (a : Int) (par : List Int) (ask ask' : List Bool) : Prop where
  mid : Mid ls r par ask ask'
  all : ∀ j, j < r → Gr.has ls a (j : Int) = true → ask'.getD j false = true

theorem getD_set {α : Type} (xs : List α) (i j : Nat) (x d : α) (hi : i < xs.length) : (xs.set i x).getD j d = if j = i then x else xs.getD j d := by
  simp only [List.getD, List.getElem?_set]
  by_cases e : i = j
  · subst e; simp [hi]
  · have : ¬ j = i := fun h => e h.symm
    simp [e, this]
theorem set_perm (x : Int) : ∀ (xs : List Int) (i : Nat), i < xs.length → (xs.getD i (-1) :: xs.set i x).Perm (x :: xs)
  | [], i, h => by simp at h
  | y :: ys, 0, h => by simp; exact List.Perm.swap _ _ _
  | y :: ys, i + 1, h => by
    have ih := set_perm x ys i (by simpa using h)
    simp only [List.getD_cons_succ, List.set_cons_succ]
    exact (List.Perm.swap _ _ _).trans ((ih.cons y).trans (List.Perm.swap _ _ _))
theorem fr_new {par : List Int} {b : Nat} {a : Int} (hb : b < par.length) (ha : 0 ≤ a) (h : par.getD b (-1) = -1) : (fr (par.set b a)).Perm (a :: fr par) := by
  have := (set_perm a par b hb).filter fun x => decide (0 ≤ x)
  rw [h] at this
  rw [List.filter_cons_of_neg (by decide), List.filter_cons_of_pos (by simpa using ha)] at this
  exact this
theorem fr_swap {par : List Int} {b : Nat} {a : Int} (hb : b < par.length) (ha : 0 ≤ a) (h : 0 ≤ par.getD b (-1)) : (par.getD b (-1) :: fr (par.set b a)).Perm (a :: fr par) := by
  have := (set_perm a par b hb).filter fun x => decide (0 ≤ x)
  rw [List.filter_cons_of_pos (by simpa using h), List.filter_cons_of_pos (by simpa using ha)] at this
  exact this

section
variable {ls : List Gr.Ln} {l r : Nat} {a : Int} {ask ask' : List Bool} {par par' : List Int}
theorem Mid.refl (h : ask.length = r) : Mid ls r par ask ask := ⟨h, fun _ _ h => h, fun _ _ h => .inl h⟩
theorem Ok.set (h : Ok ls l r par) {b : Nat} (hb : b < r) (ha : 0 ≤ a) (hal : a < (l : Int)) (hg : Gr.has ls a (b : Int) = true) : Ok ls l r (par.set b a) := by
  refine ⟨by rw [List.length_set]; exact h.1, fun j hj => ?_⟩
  rw [getD_set _ _ _ _ _ (by rw [h.1]; exact hb)]
  by_cases e : j = b
  · subst e; simp only [if_true]; exact .inr ⟨ha, hal, hg⟩
  · rw [if_neg e]; exact h.2 j hj
/-- one that is free -/
theorem Mid.free (hm : Mid ls r par ask ask') (hok : Ok ls l r par) {b : Nat} (hb : b < r) (ha : 0 ≤ a) (hal : a < (l : Int)) (hg : Gr.has ls a (b : Int) = true) (hn : ask'.getD b false = false) (hf : par.getD b (-1) = -1) : Yes ls l r a ask par (par.set b a) := by
  have hbl : b < par.length := by rw [hok.1]; exact hb
  refine ⟨hok.set hb ha hal hg, fr_new hbl ha hf, fun j hj hjt => ?_, fun T hT => ⟨⟨b, hb, hg, ?_⟩, fun j hj hjT => ?_⟩⟩
  · rw [getD_set _ _ _ _ _ hbl, if_neg]
    rintro rfl
    have := hm.grow j hj hjt
    rw [hn] at this
    cases this
  · cases h : T b
    · rfl
    · have := (hT b hb h).1
      omega
  · rw [getD_set _ _ _ _ _ hbl, if_neg]
    rintro rfl
    have := (hT j hj hjT).1
    omega
/-- one whose partner finds another -/
theorem Mid.swap (hm : Mid ls r par ask ask') (hok : Ok ls l r par) {b : Nat} (hb : b < r) (ha : 0 ≤ a) (hal : a < (l : Int)) (hg : Gr.has ls a (b : Int) = true) (hn : ask'.getD b false = false) (hf : 0 ≤ par.getD b (-1))
    (hy : Yes ls l r (par.getD b (-1)) (ask'.set b true) par par') : Yes ls l r a ask par (par'.set b a) := by
  have hbl : b < par'.length := by rw [hy.ok.1]; exact hb
  have hba : b < ask'.length := by rw [hm.len]; exact hb
  have hsame : par'.getD b (-1) = par.getD b (-1) := hy.keep b hb (by rw [getD_set _ _ _ _ _ hba, if_pos rfl])
  refine ⟨hy.ok.set hb ha hal hg, ?_, fun j hj hjt => ?_, fun T hT => ?_⟩
  · have h1 := fr_swap hbl ha (by rw [hsame]; exact hf)
    rw [hsame] at h1
    exact ((h1.trans (hy.perm.cons a)).trans (List.Perm.swap _ _ _)).cons_inv
  · have hjb : j ≠ b := by
      rintro rfl
      have := hm.grow j hj hjt
      rw [hn] at this
      cases this
    rw [getD_set _ _ _ _ _ hbl, if_neg hjb]
    exact hy.keep j hj (by rw [getD_set _ _ _ _ _ hba, if_neg hjb]; exact hm.grow j hj hjt)
  · obtain ⟨⟨j, hj, h1, h2⟩, h3⟩ := hy.out T hT
    have hTb : T b = false := by
      cases h : T b
      · rfl
      · have := (hT b hb h).2 j hj h1
        rw [h2] at this
        cases this
    refine ⟨⟨b, hb, hg, hTb⟩, fun i hi hiT => ?_⟩
    rw [getD_set _ _ _ _ _ hbl, if_neg, h3 i hi hiT]
    rintro rfl
    rw [hTb] at hiT
    cases hiT
/-- one whose partner finds none -/
theorem Mid.fail {ask2 : List Bool} (hm : Mid ls r par ask ask') {b : Nat} (hb : b < r) (hf : 0 ≤ par.getD b (-1)) (hno : No ls r (par.getD b (-1)) par (ask'.set b true) ask2) : Mid ls r par ask ask2 ∧ ask2.getD b false = true ∧ ∀ j, j < r → ask'.getD j false = true → ask2.getD j false = true := by
  have hba : b < ask'.length := by rw [hm.len]; exact hb
  have hset : ∀ j, (ask'.set b true).getD j false = if j = b then true else ask'.getD j false := fun j => getD_set _ _ _ _ _ hba
  have hup : ∀ j, j < r → ask'.getD j false = true → ask2.getD j false = true := fun j hj h => hno.mid.grow j hj (by rw [hset]; split <;> simp_all)
  have hbt : ask2.getD b false = true := hno.mid.grow b hb (by rw [hset, if_pos rfl])
  refine ⟨⟨hno.mid.len, fun j hj h => hup j hj (hm.grow j hj h), fun j hj h => ?_⟩, hbt, hup⟩
  rcases hno.mid.shut j hj h with h1 | h1
  · rw [hset] at h1
    by_cases e : j = b
    · subst e
      exact .inr ⟨hf, fun i hi hg => hno.all i hi hg⟩
    · rw [if_neg e] at h1
      rcases hm.shut j hj h1 with h2 | h2
      · exact .inl h2
      · exact .inr ⟨h2.1, fun i hi hg => hup i hi (h2.2 i hi hg)⟩
  · exact .inr h1

/-- how many are not asked yet -/
def opn (ask : List Bool) : Nat := ask.countP fun b => !b
theorem opn_set : ∀ (ask : List Bool) (b : Nat), b < ask.length → ask.getD b false = false → opn (ask.set b true) + 1 = opn ask
  | [], b, h, _ => by simp at h
  | x :: xs, 0, _, hx => by
    obtain rfl : x = false := by simpa using hx
    simp [opn]
  | x :: xs, b + 1, h, hx => by
    have ih := opn_set xs b (by simpa using h) (by simpa using hx)
    unfold opn at ih ⊢
    rw [List.set_cons_succ, List.countP_cons, List.countP_cons]
    omega
theorem opn_le : ∀ (xs ys : List Bool), xs.length = ys.length → (∀ b, b < xs.length → xs.getD b false = true → ys.getD b false = true) → opn ys ≤ opn xs
  | [], ys, h, _ => by
    obtain rfl : ys = [] := List.eq_nil_of_length_eq_zero h.symm
    exact Nat.le_refl _
  | x :: xs, [], h, _ => by simp at h
  | x :: xs, y :: ys, h, hg => by
    have ih := opn_le xs ys (by simpa using h) (fun b hb hx => by have := hg (b + 1) (by simpa using hb) (by simpa using hx); simpa using this)
    have h0 := hg 0 (by simp)
    simp only [List.getD_cons_zero] at h0
    unfold opn at ih ⊢
    rw [List.countP_cons, List.countP_cons]
    cases x
    · cases y <;> simp <;> omega
    · rw [h0 rfl]; simp; omega
theorem Mid.opn (hm : Mid ls r par ask ask') (h : ask.length = r) : opn ask' ≤ opn ask := opn_le _ _ (by rw [h, hm.len]) (fun b hb => hm.grow b (by rw [← h]; exact hb))

/-! ### one after the other -/
/-- i on the left have had their try, s of them are paired -/
structure Run (ls : List Gr.Ln) (l r : Nat) (i s : Nat) (par : List Int) : Prop where
  ok : Ok ls l r par
  nodup : (fr par).Nodup
  lt : ∀ x ∈ fr par, x < (i : Int)
  len : (fr par).length = s
  shut : ∃ T, Shut ls r par T ∧ ∀ k : Nat, k < i → (k : Int) ∉ fr par → ∀ j, j < r → Gr.has ls (k : Int) (j : Int) = true → T j = true
theorem Run.start (ls : List Gr.Ln) (l r : Nat) : Run ls l r 0 0 (List.replicate r (-1)) := by
  have h : fr (List.replicate r (-1)) = [] := List.filter_eq_nil_iff.2 fun x hx => by
    rw [(List.mem_replicate.1 hx).2]
    decide
  refine ⟨⟨by simp, fun b hb => .inl (by simp [List.getD, hb])⟩, by rw [h]; exact List.nodup_nil, by rw [h]; simp, by rw [h]; rfl, ⟨fun _ => false, ⟨fun b _ hb => (nomatch hb), fun k hk => by omega⟩⟩⟩
theorem Run.yes {i s : Nat} (h : Run ls l r i s par) (hil : i < l) (hy : Yes ls l r (i : Int) (List.replicate r false) par par') : Run ls l r (i + 1) (s + 1) par' := by
  have hni : (i : Int) ∉ fr par := fun hh => by have := h.lt _ hh; omega
  refine ⟨hy.ok, hy.perm.nodup_iff.2 (List.nodup_cons.2 ⟨hni, h.nodup⟩), fun x hx => ?_, by rw [hy.perm.length_eq, List.length_cons, h.len], ?_⟩
  · rcases List.mem_cons.1 (hy.perm.mem_iff.1 hx) with rfl | hx
    · omega
    · have := h.lt x hx
      omega
  · obtain ⟨T, hT, hk⟩ := h.shut
    obtain ⟨_, hsame⟩ := hy.out T hT
    refine ⟨T, fun b hb hTb => ?_, fun k hk1 hk2 => ?_⟩
    · rw [hsame b hb hTb]
      exact hT b hb hTb
    · have hk3 : (k : Int) ∉ (i : Int) :: fr par := fun hh => hk2 (hy.perm.mem_iff.2 hh)
      have hne : k ≠ i := fun e => hk3 (by rw [e]; exact List.mem_cons_self)
      exact hk k (by omega) (fun hh => hk3 (List.mem_cons_of_mem _ hh))
theorem Run.no {i s : Nat} (h : Run ls l r i s par) (hn : No ls r (i : Int) par (List.replicate r false) ask') : Run ls l r (i + 1) s par := by
  refine ⟨h.ok, h.nodup, fun x hx => by have := h.lt x hx; omega, h.len, ?_⟩
  obtain ⟨T, hT, hk⟩ := h.shut
  have hrep : ∀ b, ¬ (List.replicate r false).getD b false = true := fun b hh => by
    simp only [List.getD] at hh
    rcases Nat.lt_or_ge b r with hb | hb
    · simp [hb] at hh
    · rw [List.getElem?_eq_none (by simpa using hb)] at hh; cases hh
  refine ⟨fun b => T b || ask'.getD b false, fun b hb hTb => ?_, fun k hk1 hk2 j hj hg => ?_⟩
  · rcases Bool.or_eq_true_iff.1 hTb with h1 | h1
    · exact ⟨(hT b hb h1).1, fun j hj hg => by show (T j || ask'.getD j false) = true; rw [(hT b hb h1).2 j hj hg, Bool.true_or]⟩
    · rcases hn.mid.shut b hb h1 with h2 | h2
      · exact absurd h2 (hrep b)
      · exact ⟨h2.1, fun j hj hg => by show (T j || ask'.getD j false) = true; rw [h2.2 j hj hg, Bool.or_true]⟩
  · show (T j || ask'.getD j false) = true
    by_cases e : k = i
    · subst e
      rw [hn.all j hj hg, Bool.or_true]
    · rw [hk k (by omega) hk2 j hj hg, Bool.true_or]

theorem list_range (xs : List Int) : xs = (List.range xs.length).map fun b => xs.getD b (-1) := by
  refine List.ext_getElem (by simp) fun i h1 h2 => ?_
  simp [List.getD, h1]
theorem fr_range (hl : par.length = r) : fr par = ((List.range r).filter fun b => decide (0 ≤ par.getD b (-1))).map fun b => par.getD b (-1) := by
  conv => lhs; rw [list_range par]
  unfold fr
  rw [List.filter_map, hl]
  rfl
/-- all have had their try: there are as many pairs as there can be -/
theorem Run.done {s : Nat} (h : Run ls l r l s par) : nu (gl ls) l r = s := by
  have hfr := fr_range h.ok.1
  have hs : ((List.range r).filter fun b => decide (0 ≤ par.getD b (-1))).length = s := by
    have := h.len
    rw [hfr, List.length_map] at this
    exact this
  refine Nat.le_antisymm ?_ ?_
  · obtain ⟨T, hT, hk⟩ := h.shut
    -- those with no line out of T
    let S : Nat → Bool := fun k => (List.range r).all fun j => !Gr.has ls (k : Int) (j : Int) || T j
    have hS : ∀ k, S k = true ↔ ∀ j, j < r → Gr.has ls (k : Int) (j : Int) = true → T j = true := fun k => by
      simp only [S, List.all_eq_true, List.mem_range, Bool.or_eq_true, Bool.not_eq_true']
      constructor
      · intro hh j hj hg
        rcases hh j hj with h1 | h1
        · rw [hg] at h1; cases h1
        · exact h1
      · intro hh j hj
        cases hg : Gr.has ls (k : Int) (j : Int)
        · exact .inl rfl
        · exact .inr (hh j hj hg)
    refine pairs_ge (S := S) ?_
    have h1 : cnt r (nbr (gl ls) l S) ≤ cnt r T := cnt_mono fun j hj hh => by
      obtain ⟨k, _, h2, h3⟩ := nbr_iff.1 hh
      exact (hS k).1 h2 j hj h3
    have h2 := cnt_not l S
    have h3 : ((List.range l).filter fun k => !S k).length ≤ (((List.range r).filter fun b => decide (0 ≤ par.getD b (-1)) && !T b).map fun b => (par.getD b (-1)).toNat).length := by
      refine List.Nodup.length_le_of_subset (List.nodup_range.sublist List.filter_sublist) fun k hk2 => ?_
      obtain ⟨hk3, hk4⟩ := List.mem_filter.1 hk2
      have hkl := List.mem_range.1 hk3
      have hmem : (k : Int) ∈ fr par := by
        rcases Classical.em ((k : Int) ∈ fr par) with hh | hh
        · exact hh
        · have := (hS k).2 (hk k hkl hh)
          rw [this] at hk4
          cases hk4
      rw [hfr] at hmem
      obtain ⟨b, hb, hbk⟩ := List.mem_map.1 hmem
      obtain ⟨hb1, hb2⟩ := List.mem_filter.1 hb
      refine List.mem_map.2 ⟨b, List.mem_filter.2 ⟨hb1, ?_⟩, by rw [hbk]; omega⟩
      rw [hb2, Bool.true_and]
      cases hTb : T b
      · rfl
      · have h4 := (hT b (List.mem_range.1 hb1) hTb).2
        rw [hbk] at h4
        have := (hS k).2 h4
        rw [this] at hk4
        cases hk4
    rw [List.length_map, ← List.countP_eq_length_filter, ← List.countP_eq_length_filter] at h3
    have h4 := countP_or_and (fun b => decide (0 ≤ par.getD b (-1)) && !T b) T (List.range r)
    have h5 : (List.range r).countP (fun b => (decide (0 ≤ par.getD b (-1)) && !T b) && T b) = 0 := List.countP_eq_zero.2 fun b _ => by cases T b <;> simp
    have h6 : (List.range r).countP (fun b => (decide (0 ≤ par.getD b (-1)) && !T b) || T b) = (List.range r).countP fun b => decide (0 ≤ par.getD b (-1)) := countP_eq fun b hb => by
      cases hTb : T b
      · simp
      · have := (hT b (List.mem_range.1 hb) hTb).1
        rw [decide_eq_true this]
        rfl
    rw [← List.countP_eq_length_filter] at hs
    unfold cnt at h1 h2 ⊢
    omega
  · have hle := pairs_le (G := gl ls) (l := l) (r := r) (M := ((List.range r).filter fun b => decide (0 ≤ par.getD b (-1))).map fun b => ((par.getD b (-1)).toNat, b)) ?_ ?_ ?_
    · rw [List.length_map, hs] at hle
      exact hle
    · intro p hp
      obtain ⟨b, hb, rfl⟩ := List.mem_map.1 hp
      obtain ⟨hb1, hb2⟩ := List.mem_filter.1 hb
      have hbr := List.mem_range.1 hb1
      have hb3 : 0 ≤ par.getD b (-1) := of_decide_eq_true hb2
      rcases h.ok.2 b hbr with h1 | ⟨_, h2, h3⟩
      · omega
      · refine ⟨by simp only; omega, hbr, ?_⟩
        unfold gl
        simp only
        rw [Int.toNat_of_nonneg hb3]
        exact h3
    · rw [List.map_map]
      have hn := h.nodup
      rw [hfr] at hn
      unfold List.Nodup at hn ⊢
      rw [List.pairwise_map] at hn ⊢
      refine hn.imp_of_mem fun {x y} hx hy hxy e => hxy ?_
      have hx3 : 0 ≤ par.getD x (-1) := of_decide_eq_true (List.mem_filter.1 hx).2
      have hy3 : 0 ≤ par.getD y (-1) := of_decide_eq_true (List.mem_filter.1 hy).2
      have e' : (par.getD x (-1)).toNat = (par.getD y (-1)).toNat := e
      omega
    · rw [List.map_map]
      have : (Prod.snd ∘ fun b : Nat => ((par.getD b (-1)).toNat, b)) = id := rfl
      rw [this, List.map_id]
      exact List.nodup_range.sublist List.filter_sublist
end

/-! ### what is wrong with two sides and lines -/
/-- the first wrong line -/
def fault (l r : Int) : List Gr.Ln → Int
  | [] => 0
  | p :: ps => if p.1 < 0 ∨ l ≤ p.1 ∨ p.2 < 0 ∨ r ≤ p.2 then 1 else fault l r ps
def code (l r : Int) (ls : List Gr.Ln) : Int := if l < 0 ∨ 6 < l ∨ r < 0 ∨ 6 < r then 1 else if 24 < ls.length then 4 else fault l r ls
theorem fault_bad {l r : Int} {ls : List Gr.Ln} {k : Nat} (hk : k < ls.length) (h : (ls.getD k (0, 0)).1 < 0 ∨ l ≤ (ls.getD k (0, 0)).1 ∨ (ls.getD k (0, 0)).2 < 0 ∨ r ≤ (ls.getD k (0, 0)).2) : fault l r (ls.drop k) = 1 := by
  rw [List.drop_eq_getElem_cons hk, fault, if_pos]
  simpa [List.getD, hk] using h
theorem fault_on {l r : Int} {ls : List Gr.Ln} {k : Nat} (hk : k < ls.length) (h : ¬ ((ls.getD k (0, 0)).1 < 0 ∨ l ≤ (ls.getD k (0, 0)).1 ∨ (ls.getD k (0, 0)).2 < 0 ∨ r ≤ (ls.getD k (0, 0)).2)) : fault l r (ls.drop k) = fault l r (ls.drop (k + 1)) := by
  rw [List.drop_eq_getElem_cons hk, fault, if_neg]
  simpa [List.getD, hk] using h
/-- a good line -/
def Good (l r : Int) (p : Gr.Ln) : Prop := 0 ≤ p.1 ∧ p.1 < l ∧ 0 ≤ p.2 ∧ p.2 < r
theorem fault_zero {l r : Int} : ∀ {ls : List Gr.Ln}, fault l r ls = 0 ↔ ∀ p ∈ ls, Good l r p := by
  intro ls
  induction ls with
  | nil => simp [fault]
  | cons p ps ih =>
    unfold fault
    split
    · rename_i h
      constructor
      · intro h0; omega
      · intro hg
        have := hg p (by simp)
        unfold Good at this
        omega
    · rename_i h
      rw [ih]
      constructor
      · intro hg q hq
        rcases List.mem_cons.1 hq with rfl | hq
        · unfold Good; omega
        · exact hg q hq
      · intro hg q hq
        exact hg q (List.mem_cons_of_mem _ hq)
theorem code_zero {l r : Int} {ls : List Gr.Ln} : code l r ls = 0 ↔ 0 ≤ l ∧ l ≤ 6 ∧ 0 ≤ r ∧ r ≤ 6 ∧ ls.length ≤ 24 ∧ ∀ p ∈ ls, Good l r p := by
  unfold code
  split
  · constructor
    · intro h; omega
    · intro h; omega
  · split
    · constructor
      · intro h; omega
      · intro h; omega
    · rw [fault_zero]
      constructor
      · intro h; exact ⟨by omega, by omega, by omega, by omega, by omega, h⟩
      · intro h; exact h.2.2.2.2.2
theorem fault_cases (l r : Int) : ∀ ls : List Gr.Ln, fault l r ls = 0 ∨ fault l r ls = 1
  | [] => .inl rfl
  | p :: ps => by
    unfold fault
    split
    · exact .inr rfl
    · exact fault_cases l r ps
theorem code_cases (l r : Int) (ls : List Gr.Ln) : code l r ls = 0 ∨ code l r ls = 1 ∨ code l r ls = 4 := by
  unfold code
  split
  · exact .inr (.inl rfl)
  · split
    · exact .inr (.inr rfl)
    · rcases fault_cases l r ls with h | h
      · exact .inl h
      · exact .inr (.inl h)
/-- both sides as they are counted -/
theorem code_nat {l r : Int} {ls : List Gr.Ln} (h : code l r ls = 0) : ∃ m n : Nat, l = (m : Int) ∧ r = (n : Int) ∧ m ≤ 6 ∧ n ≤ 6 := by
  have := code_zero.1 h
  exact ⟨l.toNat, r.toNat, by omega, by omega, by omega, by omega⟩
/-- the lines without one on the left -/
def wl (ls : List Gr.Ln) (a : Int) : List Gr.Ln := ls.filter fun p => !decide (p.1 = a)
theorem wl_len (ls : List Gr.Ln) (a : Int) : (wl ls a).length ≤ ls.length := List.length_filter_le _ _
theorem wl_gl (ls : List Gr.Ln) (a : Nat) : gl (wl ls (a : Int)) = wo (gl ls) a := by
  funext i j
  unfold gl wo wl Gr.has
  rw [Bool.eq_iff_iff]
  simp only [List.contains_iff_mem, List.mem_filter, Bool.and_eq_true, Bool.not_eq_true', decide_eq_false_iff_not]
  constructor
  · rintro ⟨h1, h2⟩; exact ⟨fun e => h2 (by omega), h1⟩
  · rintro ⟨h1, h2⟩; exact ⟨h2, fun e => h1 (by omega)⟩
theorem wl_code {l r : Int} {ls : List Gr.Ln} (h : code l r ls = 0) (a : Int) : code l r (wl ls a) = 0 := by
  have := code_zero.1 h
  have h2 := wl_len ls a
  exact code_zero.2 ⟨this.1, this.2.1, this.2.2.1, this.2.2.2.1, by omega, fun p hp => this.2.2.2.2.2 p (List.mem_filter.1 hp).1⟩

end Go.Proofs.YtojkjdccjomaaaaDoor.Ma

set_option linter.unusedSimpArgs false
set_option linter.unusedVariables false
namespace Go.Proofs.YtojkjdccjomaaaaDoor.Cl
open Wa (wk wk_zero wk_succ wk_add wk_one)
open To (frow mem_frow frow_ok comes comes_iff Step Ring)

section
variable {n : Nat} {ls ks : List Gr.Ln}
theorem way_line (hg : ∀ p ∈ ls, Gr.Good (n : Int) p) {a b : Nat} (h : Gr.has ls (a : Int) (b : Int) = true) : comes n ls a b = true := by
  obtain ⟨i, j, e1, e2, hi, hj, _⟩ := To.ends hg h
  have ha : a < n := by omega
  exact (comes_iff hg ha).2 ⟨1, Nat.le_refl _, wk_one ha (mem_frow.2 ⟨by omega, h⟩)⟩
theorem way_lt (hg : ∀ p ∈ ls, Gr.Good (n : Int) p) {a b : Nat} (ha : a < n) (h : comes n ls a b = true) : b < n := by
  obtain ⟨k, _, hw⟩ := (comes_iff hg ha).1 h
  exact Wa.wk_lt (frow_ok n ls) ha hw
theorem way_trans (hg : ∀ p ∈ ls, Gr.Good (n : Int) p) {a b c : Nat} (ha : a < n) (h1 : comes n ls a b = true) (h2 : comes n ls b c = true) : comes n ls a c = true := by
  have hb := way_lt hg ha h1
  obtain ⟨k, hk, hw⟩ := (comes_iff hg ha).1 h1
  obtain ⟨j, hj, hv⟩ := (comes_iff hg hb).1 h2
  exact (comes_iff hg ha).2 ⟨k + j, by omega, wk_add hw hv⟩
/-- the first line of a way -/
theorem way_first (hg : ∀ p ∈ ls, Gr.Good (n : Int) p) {a b : Nat} (ha : a < n) (h : comes n ls a b = true) : Gr.has ls (a : Int) (b : Int) = true ∨ ∃ c, c < n ∧ Gr.has ls (a : Int) (c : Int) = true ∧ comes n ls c b = true := by
  obtain ⟨k, hk, hw⟩ := (comes_iff hg ha).1 h
  obtain ⟨d, rfl⟩ : ∃ d, k = 1 + d := ⟨k - 1, by omega⟩
  obtain ⟨c, h1, h2⟩ := Wa.wk_split hw
  have h3 : ∃ x, x < n ∧ wk n (frow n ls) 0 a x = true ∧ c ∈ frow n ls x := wk_succ.1 h1
  obtain ⟨x, hx, h4, h5⟩ := h3
  obtain rfl := wk_zero.1 h4
  have h6 := mem_frow.1 h5
  cases d with
  | zero =>
    obtain rfl := wk_zero.1 h2
    exact .inl h6.2
  | succ d => exact .inr ⟨c, h6.1, h6.2, (comes_iff hg h6.1).2 ⟨d + 1, by omega, h2⟩⟩
/-- other lines that all go along ways -/
theorem way_along (hg : ∀ p ∈ ls, Gr.Good (n : Int) p) (hk : ∀ p ∈ ks, Gr.Good (n : Int) p) (h : ∀ a b : Nat, Gr.has ks (a : Int) (b : Int) = true → comes n ls a b = true) {a b : Nat} (ha : a < n) (hw : comes n ks a b = true) : comes n ls a b = true := by
  obtain ⟨k, h1, hw⟩ := (comes_iff hk ha).1 hw
  have key : ∀ k b, wk n (frow n ks) (k + 1) a b = true → comes n ls a b = true := by
    intro k
    induction k with
    | zero =>
      intro b hb
      obtain ⟨c, hc, h2, h3⟩ := wk_succ.1 hb
      obtain rfl := wk_zero.1 h2
      exact h _ _ (mem_frow.1 h3).2
    | succ k ih =>
      intro b hb
      obtain ⟨c, hc, h2, h3⟩ := wk_succ.1 hb
      exact way_trans hg ha (ih c h2) (h _ _ (mem_frow.1 h3).2)
  obtain ⟨d, rfl⟩ : ∃ d, k = d + 1 := ⟨k - 1, by omega⟩
  exact key d b hw
theorem way_same (hg : ∀ p ∈ ls, Gr.Good (n : Int) p) (hk : ∀ p ∈ ks, Gr.Good (n : Int) p) (h1 : ∀ a b : Nat, Gr.has ks (a : Int) (b : Int) = true → comes n ls a b = true) (h2 : ∀ a b : Nat, Gr.has ls (a : Int) (b : Int) = true → comes n ks a b = true) {a b : Nat} (ha : a < n) : comes n ks a b = comes n ls a b := by
  rw [Bool.eq_iff_iff]
  exact ⟨way_along hg hk h1 ha, way_along hk hg h2 ha⟩
/-- a line along a way -/
theorem way_more (hg : ∀ p ∈ ls, Gr.Good (n : Int) p) {a b : Nat} (ha : a < n) (hb : b < n) (hne : a ≠ b) (h : comes n ls a b = true) :
    (∀ p ∈ ls ++ [((a : Int), (b : Int))], Gr.Good (n : Int) p) ∧ ∀ x y : Nat, x < n → comes n (ls ++ [((a : Int), (b : Int))]) x y = comes n ls x y := by
  have hk : ∀ p ∈ ls ++ [((a : Int), (b : Int))], Gr.Good (n : Int) p := by
    intro p hp
    rcases List.mem_append.1 hp with hp | hp
    · exact hg p hp
    · obtain rfl : p = ((a : Int), (b : Int)) := by simpa using hp
      unfold Gr.Good
      simp only
      omega
  refine ⟨hk, fun x y hx => way_same hg hk (fun u v huv => ?_) (fun u v huv => way_line hk (Gr.has_iff.2 (List.mem_append_left _ (Gr.has_iff.1 huv)))) hx⟩
  rcases List.mem_append.1 (Gr.has_iff.1 huv) with hp | hp
  · exact way_line hg (Gr.has_iff.2 hp)
  · have hp' : ((u : Int), (v : Int)) = ((a : Int), (b : Int)) := by simpa using hp
    have e1 := (Prod.mk.inj hp').1
    have e2 := (Prod.mk.inj hp').2
    have e1' : u = a := by omega
    have e2' : v = b := by omega
    rw [e1', e2']
    exact h
/-- along an order -/
theorem way_up {o : List Int} (hg : ∀ p ∈ ls, Gr.Good (n : Int) p) (hs : Step n ls o) (hl : o.length = n) {a b : Nat} (ha : a < n) (h : comes n ls a b = true) : St.plc o (a : Int) < St.plc o (b : Int) := by
  obtain ⟨k, hk, hw⟩ := (comes_iff hg ha).1 h
  have := hs.way hl ha k b hw
  omega
theorem way_not_back {o : List Int} (hg : ∀ p ∈ ls, Gr.Good (n : Int) p) (hs : Step n ls o) (hl : o.length = n) {a : Nat} (ha : a < n) : comes n ls a a = false := by
  cases h : comes n ls a a with
  | false => rfl
  | true => have := way_up hg hs hl ha h; omega
end

/-! ### lists of lines by a test -/
/-- the pairs that a test takes, as lines -/
def lst (n : Nat) (r : Nat → Nat → Bool) : List Gr.Ln := (Gr.full n r).map fun p => ((p.1 : Int), (p.2 : Int))
theorem mem_lst {n : Nat} {r : Nat → Nat → Bool} {a b : Nat} : (((a : Int), (b : Int)) : Gr.Ln) ∈ lst n r ↔ a < n ∧ b < n ∧ r a b = true := by
  unfold lst
  rw [List.mem_map]
  constructor
  · rintro ⟨⟨x, y⟩, hp, e⟩
    have e1 := (Prod.mk.inj e).1
    have e2 := (Prod.mk.inj e).2
    have e1' : x = a := by simp only at e1; omega
    have e2' : y = b := by simp only at e2; omega
    have := Gr.mem_full.1 hp
    simp only [e1', e2'] at this
    exact this
  · intro h
    exact ⟨(a, b), Gr.mem_full.2 h, rfl⟩
theorem lst_ends {n : Nat} {r : Nat → Nat → Bool} {p : Gr.Ln} (h : p ∈ lst n r) : ∃ a b : Nat, p = ((a : Int), (b : Int)) ∧ a < n ∧ b < n ∧ r a b = true := by
  obtain ⟨⟨x, y⟩, hp, rfl⟩ := List.mem_map.1 h
  have := Gr.mem_full.1 hp
  exact ⟨x, y, rfl, this⟩
theorem has_lst {n : Nat} {r : Nat → Nat → Bool} {a b : Nat} (ha : a < n) (hb : b < n) : Gr.has (lst n r) (a : Int) (b : Int) = r a b := by
  rw [Bool.eq_iff_iff, Gr.has_iff, mem_lst]
  exact ⟨fun h => h.2.2, fun h => ⟨ha, hb, h⟩⟩
theorem lst_congr {n : Nat} {r s : Nat → Nat → Bool} (h : ∀ a b, a < n → b < n → r a b = s a b) : lst n r = lst n s := by
  unfold lst Gr.full
  have : ∀ a ∈ List.range n, ((List.range n).filter (r a)).map (fun b => (a, b)) = ((List.range n).filter (s a)).map (fun b => (a, b)) := fun a ha => by
    rw [List.filter_congr fun b hb => h a b (List.mem_range.1 ha) (List.mem_range.1 hb)]
  rw [List.flatMap_def, List.flatMap_def, List.map_congr_left this]
theorem full_nodup (n : Nat) (r : Nat → Nat → Bool) : (Gr.full n r).Nodup := by
  unfold Gr.full
  show List.Pairwise (· ≠ ·) _
  rw [List.pairwise_flatMap]
  refine ⟨fun a _ => ?_, ?_⟩
  · exact List.Pairwise.map _ (fun b c hbc e => hbc (Prod.mk.inj e).2) (List.Pairwise.filter (r a) (show List.Pairwise (· ≠ ·) (List.range n) from List.nodup_range))
  · refine List.Pairwise.imp_of_mem (fun {a b} _ _ hab => ?_) List.nodup_range
    intro x hx y hy exy
    obtain ⟨u, _, rfl⟩ := List.mem_map.1 hx
    obtain ⟨v, _, e⟩ := List.mem_map.1 hy
    rw [← e] at exy
    exact hab (Prod.mk.inj exy).1
theorem lst_nodup (n : Nat) (r : Nat → Nat → Bool) : (lst n r).Nodup := by
  unfold lst
  refine List.Pairwise.map _ (fun p q hpq e => hpq ?_) (full_nodup n r)
  have e1 := (Prod.mk.inj e).1
  have e2 := (Prod.mk.inj e).2
  exact Prod.ext (by omega) (by omega)
theorem lst_filter (n : Nat) (r s : Nat → Nat → Bool) : (Gr.full n r).filter (fun p => s p.1 p.2) = Gr.full n fun a b => r a b && s a b := by
  unfold Gr.full
  rw [List.filter_flatMap]
  congr 1
  funext a
  rw [List.filter_map, List.filter_filter]
  congr 1
  refine List.filter_congr fun b _ => ?_
  simp [Bool.and_comm]

/-! ### the lines that no way goes round -/
/-- a way goes there, and none goes round by another point -/
def thin (n : Nat) (ls : List Gr.Ln) (a b : Nat) : Bool := comes n ls a b && (List.range n).all fun k => !(comes n ls a k && comes n ls k b)
theorem thin_iff {n : Nat} {ls : List Gr.Ln} {a b : Nat} : thin n ls a b = true ↔ comes n ls a b = true ∧ ∀ k, k < n → ¬ (comes n ls a k = true ∧ comes n ls k b = true) := by
  unfold thin
  simp only [Bool.and_eq_true, List.all_eq_true, List.mem_range, Bool.not_eq_true', Bool.and_eq_false_iff, not_and, Bool.not_eq_true]
  constructor
  · rintro ⟨h1, h2⟩
    exact ⟨h1, fun k hk ha => (h2 k hk).elim (fun e => by rw [ha] at e; cases e) id⟩
  · rintro ⟨h1, h2⟩
    refine ⟨h1, fun k hk => ?_⟩
    cases h : comes n ls a k with
    | false => exact .inl rfl
    | true => exact .inr (h2 k hk h)
/-- all ways, as lines -/
def clos (n : Nat) (ls : List Gr.Ln) : List Gr.Ln := lst n (comes n ls)
def few (n : Nat) (ls : List Gr.Ln) : List Gr.Ln := lst n (thin n ls)
section
variable {n : Nat} {ls : List Gr.Ln}
theorem thin_line (hg : ∀ p ∈ ls, Gr.Good (n : Int) p) {a b : Nat} (ha : a < n) (h : thin n ls a b = true) : Gr.has ls (a : Int) (b : Int) = true := by
  obtain ⟨h1, h2⟩ := thin_iff.1 h
  rcases way_first hg ha h1 with h3 | ⟨c, hc, h3, h4⟩
  · exact h3
  · exact absurd ⟨way_line hg h3, h4⟩ (h2 c hc)
theorem few_sub (hg : ∀ p ∈ ls, Gr.Good (n : Int) p) : ∀ p ∈ few n ls, p ∈ ls := by
  intro p hp
  obtain ⟨a, b, rfl, ha, hb, h⟩ := lst_ends hp
  exact Gr.has_iff.1 (thin_line hg ha h)
theorem few_good (hg : ∀ p ∈ ls, Gr.Good (n : Int) p) : ∀ p ∈ few n ls, Gr.Good (n : Int) p := fun p hp => hg p (few_sub hg p hp)
theorem few_len (hg : ∀ p ∈ ls, Gr.Good (n : Int) p) : (few n ls).length ≤ ls.length := List.Nodup.length_le_of_subset (lst_nodup n _) (few_sub hg)
/-- they are enough -/
theorem few_way {o : List Int} (hg : ∀ p ∈ ls, Gr.Good (n : Int) p) (hs : Step n ls o) (hl : o.length = n) {a b : Nat} (ha : a < n) : comes n (few n ls) a b = comes n ls a b := by
  have hf := few_good hg
  have key : ∀ d : Nat, ∀ a b : Nat, a < n → St.plc o (b : Int) - St.plc o (a : Int) ≤ (d : Int) → comes n ls a b = true → comes n (few n ls) a b = true := by
    intro d
    induction d with
    | zero =>
      intro a b ha hd h
      have := way_up hg hs hl ha h
      omega
    | succ d ih =>
      intro a b ha hd h
      have hb := way_lt hg ha h
      cases ht : thin n ls a b with
      | true => exact way_line hf (Gr.has_iff.2 (mem_lst.2 ⟨ha, hb, ht⟩))
      | false =>
        have hn : ¬ (∀ k, k < n → ¬ (comes n ls a k = true ∧ comes n ls k b = true)) := fun hall => by
          have := thin_iff.2 ⟨h, hall⟩
          rw [ht] at this
          cases this
        obtain ⟨k, hk, h1, h2⟩ : ∃ k, k < n ∧ comes n ls a k = true ∧ comes n ls k b = true := Classical.byContradiction fun hne => hn fun k hk hh => hne ⟨k, hk, hh.1, hh.2⟩
        have u1 := way_up hg hs hl ha h1
        have u2 := way_up hg hs hl hk h2
        exact way_trans hf ha (ih a k ha (by omega) h1) (ih k b hk (by omega) h2)
  rw [Bool.eq_iff_iff]
  constructor
  · exact way_along hg hf (fun u v huv => way_line hg (Gr.has_iff.2 (few_sub hg _ (Gr.has_iff.1 huv)))) ha
  · intro h
    exact key (St.plc o (b : Int) - St.plc o (a : Int)).toNat a b ha (by omega) h
/-- none can be spared -/
theorem few_least (hg : ∀ p ∈ ls, Gr.Good (n : Int) p) {ks : List Gr.Ln} {a b : Nat} (ha : a < n) (h : thin n ls a b = true) (hsub : ∀ p ∈ ks, p ∈ few n ls) (hno : (((a : Int), (b : Int)) : Gr.Ln) ∉ ks) : comes n ks a b = false := by
  have hk : ∀ p ∈ ks, Gr.Good (n : Int) p := fun p hp => few_good hg p (hsub p hp)
  have hst : ∀ u v : Nat, Gr.has ks (u : Int) (v : Int) = true → comes n ls u v = true := fun u v huv => way_line hg (Gr.has_iff.2 (few_sub hg _ (hsub _ (Gr.has_iff.1 huv))))
  cases hc : comes n ks a b with
  | false => rfl
  | true =>
    exfalso
    rcases way_first hk ha hc with h1 | ⟨c, hc, h1, h2⟩
    · exact hno (Gr.has_iff.1 h1)
    · exact (thin_iff.1 h).2 c hc ⟨hst _ _ h1, way_along hg hk hst hc h2⟩

/-! ### turned -/
theorem way_turn (hg : ∀ p ∈ ls, Gr.Good (n : Int) p) {a b : Nat} (ha : a < n) (hb : b < n) : comes n (Gr.back ls) b a = comes n ls a b := by
  rw [Bool.eq_iff_iff, comes_iff (To.good_back hg) hb, comes_iff hg ha]
  constructor
  · rintro ⟨k, hk, h⟩; exact ⟨k, hk, (To.wk_back ha hb).1 h⟩
  · rintro ⟨k, hk, h⟩; exact ⟨k, hk, (To.wk_back ha hb).2 h⟩
theorem thin_turn (hg : ∀ p ∈ ls, Gr.Good (n : Int) p) {a b : Nat} (ha : a < n) (hb : b < n) : thin n (Gr.back ls) b a = thin n ls a b := by
  rw [Bool.eq_iff_iff, thin_iff, thin_iff, way_turn hg ha hb]
  constructor
  · rintro ⟨h1, h2⟩
    exact ⟨h1, fun k hk h => h2 k hk ⟨by rw [way_turn hg hk hb]; exact h.2, by rw [way_turn hg ha hk]; exact h.1⟩⟩
  · rintro ⟨h1, h2⟩
    exact ⟨h1, fun k hk h => h2 k hk ⟨by rw [← way_turn hg ha hk]; exact h.2, by rw [← way_turn hg hk hb]; exact h.1⟩⟩
theorem few_turn (hg : ∀ p ∈ ls, Gr.Good (n : Int) p) : (few n ls).length = (few n (Gr.back ls)).length := by
  have key : ∀ ks : List Gr.Ln, (∀ p ∈ ks, Gr.Good (n : Int) p) → (few n ks).length ≤ (few n (Gr.back ks)).length := by
    intro ks hk
    have : ((few n ks).map fun p : Gr.Ln => (p.2, p.1)).length ≤ (few n (Gr.back ks)).length := by
      have hnd : ((few n ks).map fun p : Gr.Ln => (p.2, p.1)).Nodup := List.Pairwise.map _ (fun p q hpq e => hpq (Prod.ext (Prod.mk.inj e).2 (Prod.mk.inj e).1)) (lst_nodup n _)
      refine List.Nodup.length_le_of_subset hnd fun p hp => ?_
      obtain ⟨q, hq, rfl⟩ := List.mem_map.1 hp
      obtain ⟨a, b, rfl, ha, hb, h⟩ := lst_ends hq
      exact mem_lst.2 ⟨hb, ha, by rw [thin_turn hk ha hb]; exact h⟩
    simpa using this
  have h1 := key ls hg
  have h2 := key (Gr.back ls) (To.good_back hg)
  have e : few n (Gr.back (Gr.back ls)) = few n ls := by
    refine lst_congr fun a b ha hb => ?_
    rw [thin_turn (To.good_back hg) hb ha, thin_turn hg ha hb]
  rw [e] at h2
  omega
end

/-! ### rows -/
/-- where ways lead from a point -/
def crow (n : Nat) (ls : List Gr.Ln) (a : Nat) : List Int := ((List.range n).filter (comes n ls a)).map fun b => ((b : Nat) : Int)
def crows (n : Nat) (ls : List Gr.Ln) : List (List Int) := (List.range n).map (crow n ls)
theorem crow_has {n : Nat} {ls : List Gr.Ln} {a b : Nat} (hb : b < n) : (crow n ls a).contains (b : Int) = comes n ls a b := by
  rw [Bool.eq_iff_iff, List.contains_iff_mem]
  unfold crow
  rw [List.mem_map]
  constructor
  · rintro ⟨c, hc, e⟩
    obtain rfl : c = b := by omega
    exact (List.mem_filter.1 hc).2
  · intro h
    exact ⟨b, List.mem_filter.2 ⟨List.mem_range.2 hb, h⟩, rfl⟩
theorem mem_crow {n : Nat} {ls : List Gr.Ln} {a : Nat} {x : Int} (h : x ∈ crow n ls a) : ∃ b : Nat, x = (b : Int) ∧ b < n ∧ comes n ls a b = true := by
  obtain ⟨b, hb, rfl⟩ := List.mem_map.1 h
  exact ⟨b, rfl, List.mem_range.1 (List.mem_filter.1 hb).1, (List.mem_filter.1 hb).2⟩
theorem crows_same {n : Nat} {ls ks : List Gr.Ln} (h : ∀ a b : Nat, a < n → b < n → comes n ls a b = comes n ks a b) : crows n ls = crows n ks := by
  refine List.map_congr_left fun a ha => ?_
  unfold crow
  rw [List.filter_congr fun b hb => h a b (List.mem_range.1 ha) (List.mem_range.1 hb)]
theorem crows_len (n : Nat) (ls : List Gr.Ln) : (crows n ls).length = n := by simp [crows]
theorem crows_at {n : Nat} (ls : List Gr.Ln) {a : Nat} (ha : a < n) : (crows n ls).getD a [] = crow n ls a := by simp [crows, List.getD, ha]
theorem crow_len (n : Nat) (ls : List Gr.Ln) (a : Nat) : (crow n ls a).length ≤ n := by
  unfold crow
  rw [List.length_map]
  have := List.length_filter_le (comes n ls a) (List.range n)
  simpa using this
/-- rows of other ways differ -/
theorem crows_ne {n : Nat} {ls ks : List Gr.Ln} {a b : Nat} (ha : a < n) (hb : b < n) (h : comes n ls a b ≠ comes n ks a b) : crows n ls ≠ crows n ks := fun e => by
  have e1 : crow n ls a = crow n ks a := by rw [← crows_at ls ha, ← crows_at ks ha, e]
  have e2 := crow_has (ls := ls) (a := a) hb
  rw [e1, crow_has hb] at e2
  exact h e2.symm
end Go.Proofs.YtojkjdccjomaaaaDoor.Cl

set_option linter.unusedSimpArgs false
set_option linter.unusedVariables false
namespace Go.Proofs.YtojkjdccjomaaaaDoor.Cl
open To (comes comes_iff)
open Wa (wk wk_zero wk_succ)

/-- from a to b with points below k in between -/
def cl (ls : List Gr.Ln) : Nat → Nat → Nat → Bool
  | 0, a, b => Gr.has ls (a : Int) (b : Int)
  | k + 1, a, b => cl ls k a b || (cl ls k a k && cl ls k k b)
theorem cl_col (ls : List Gr.Ln) (k a : Nat) : cl ls (k + 1) a k = cl ls k a k := by
  show (cl ls k a k || (cl ls k a k && cl ls k k k)) = _
  cases cl ls k a k <;> simp
theorem cl_row (ls : List Gr.Ln) (k b : Nat) : cl ls (k + 1) k b = cl ls k k b := by
  show (cl ls k k b || (cl ls k k k && cl ls k k b)) = _
  cases cl ls k k b <;> simp
theorem cl_mono {ls : List Gr.Ln} {k a b : Nat} (h : cl ls k a b = true) : cl ls (k + 1) a b = true := by
  show (cl ls k a b || _) = true
  rw [h]; rfl
theorem cl_le {ls : List Gr.Ln} {a b : Nat} : ∀ {k j : Nat}, k ≤ j → cl ls k a b = true → cl ls j a b = true := by
  intro k j hkj
  induction hkj with
  | refl => exact id
  | step _ ih => exact fun h => cl_mono (ih h)
theorem cl_trans {ls : List Gr.Ln} : ∀ {k a b c : Nat}, c < k → cl ls k a c = true → cl ls k c b = true → cl ls k a b = true := by
  intro k
  induction k with
  | zero => intro a b c h; omega
  | succ k ih =>
    intro a b c hc h1 h2
    have g1 : cl ls k a c = true ∨ (cl ls k a k = true ∧ cl ls k k c = true) := by
      have : (cl ls k a c || (cl ls k a k && cl ls k k c)) = true := h1
      simpa [Bool.or_eq_true, Bool.and_eq_true] using this
    have g2 : cl ls k c b = true ∨ (cl ls k c k = true ∧ cl ls k k b = true) := by
      have : (cl ls k c b || (cl ls k c k && cl ls k k b)) = true := h2
      simpa [Bool.or_eq_true, Bool.and_eq_true] using this
    show (cl ls k a b || (cl ls k a k && cl ls k k b)) = true
    rw [Bool.or_eq_true, Bool.and_eq_true]
    rcases Nat.lt_or_ge c k with h | h
    · rcases g1 with g1 | ⟨g1, g1'⟩
      · rcases g2 with g2 | ⟨g2, g2'⟩
        · exact .inl (ih h g1 g2)
        · exact .inr ⟨ih h g1 g2, g2'⟩
      · rcases g2 with g2 | ⟨g2, g2'⟩
        · exact .inr ⟨g1, ih h g1' g2⟩
        · exact .inr ⟨g1, g2'⟩
    · obtain rfl : c = k := by omega
      refine .inr ⟨?_, ?_⟩
      · rcases g1 with g1 | g1
        · exact g1
        · exact g1.1
      · rcases g2 with g2 | g2
        · exact g2
        · exact g2.2
section
variable {n : Nat} {ls : List Gr.Ln}
theorem cl_way (hg : ∀ p ∈ ls, Gr.Good (n : Int) p) : ∀ {k a b : Nat}, cl ls k a b = true → a < n ∧ b < n ∧ comes n ls a b = true := by
  intro k
  induction k with
  | zero =>
    intro a b h
    obtain ⟨i, j, e1, e2, hi, hj, _⟩ := To.ends hg h
    exact ⟨by omega, by omega, way_line hg h⟩
  | succ k ih =>
    intro a b h
    have : cl ls k a b = true ∨ (cl ls k a k = true ∧ cl ls k k b = true) := by
      have : (cl ls k a b || (cl ls k a k && cl ls k k b)) = true := h
      simpa [Bool.or_eq_true, Bool.and_eq_true] using this
    rcases this with h1 | ⟨h1, h2⟩
    · exact ih h1
    · obtain ⟨a1, a2, a3⟩ := ih h1
      obtain ⟨b1, b2, b3⟩ := ih h2
      exact ⟨a1, b2, way_trans hg a1 a3 b3⟩
theorem way_cl (hg : ∀ p ∈ ls, Gr.Good (n : Int) p) (h8 : n ≤ 8) {a b : Nat} (ha : a < n) (h : comes n ls a b = true) : cl ls 8 a b = true := by
  obtain ⟨k, h1, hw⟩ := (comes_iff hg ha).1 h
  have key : ∀ k b, wk n (To.frow n ls) (k + 1) a b = true → cl ls 8 a b = true := by
    intro k
    induction k with
    | zero =>
      intro b hb
      obtain ⟨c, hc, h2, h3⟩ := wk_succ.1 hb
      obtain rfl := wk_zero.1 h2
      exact cl_le (k := 0) (by omega) (To.mem_frow.1 h3).2
    | succ k ih =>
      intro b hb
      obtain ⟨c, hc, h2, h3⟩ := wk_succ.1 hb
      exact cl_trans (by omega) (ih c h2) (cl_le (k := 0) (by omega) (To.mem_frow.1 h3).2)
  obtain ⟨d, rfl⟩ : ∃ d, k = d + 1 := ⟨k - 1, by omega⟩
  exact key d b hw
theorem cl_is (hg : ∀ p ∈ ls, Gr.Good (n : Int) p) (h8 : n ≤ 8) {a b : Nat} (ha : a < n) : cl ls 8 a b = comes n ls a b := by
  rw [Bool.eq_iff_iff]
  exact ⟨fun h => (cl_way hg h).2.2, way_cl hg h8 ha⟩
/-- whom ways lead to, as the table says it, and what it says of other points -/
def tb (n : Nat) (ls : List Gr.Ln) (a b : Nat) : Bool := decide (a < n) && comes n ls a b
theorem tb_at {a b : Nat} (ha : a < n) : tb n ls a b = comes n ls a b := by simp [tb, ha]
theorem tb_lt (hg : ∀ p ∈ ls, Gr.Good (n : Int) p) {a b : Nat} (h : tb n ls a b = true) : a < n ∧ b < n := by
  unfold tb at h
  rw [Bool.and_eq_true] at h
  have ha : a < n := by simpa using h.1
  exact ⟨ha, way_lt hg ha h.2⟩
theorem cl_tb (hg : ∀ p ∈ ls, Gr.Good (n : Int) p) (h8 : n ≤ 8) (a b : Nat) : cl ls 8 a b = tb n ls a b := by
  by_cases ha : a < n
  · rw [tb_at ha, cl_is hg h8 ha]
  · cases h : cl ls 8 a b with
    | true => exact absurd (cl_way hg h).1 ha
    | false => simp [tb, ha]
/-- tables that say nothing of points from n on -/
theorem full_cut {m n : Nat} {r : Nat → Nat → Bool} (hm : n ≤ m) (hr : ∀ a b, r a b = true → a < n ∧ b < n) : Gr.full m r = Gr.full n r := by
  obtain ⟨d, rfl⟩ : ∃ d, m = n + d := ⟨m - n, by omega⟩
  have hrow : ∀ a, (List.range (n + d)).filter (r a) = (List.range n).filter (r a) := by
    intro a
    rw [List.range_add, List.filter_append]
    have : ((List.range d).map (fun x => n + x)).filter (r a) = [] := by
      rw [List.filter_eq_nil_iff]
      intro x hx
      obtain ⟨y, _, rfl⟩ := List.mem_map.1 hx
      intro h
      have := (hr _ _ h).2
      omega
    rw [this, List.append_nil]
  unfold Gr.full
  simp only [hrow]
  rw [List.range_add, List.flatMap_append]
  have : ((List.range d).map (fun x => n + x)).flatMap (fun a => ((List.range n).filter (r a)).map fun b => (a, b)) = [] := by
    rw [List.flatMap_eq_nil_iff]
    intro x hx
    obtain ⟨y, _, rfl⟩ := List.mem_map.1 hx
    rw [List.map_eq_nil_iff, List.filter_eq_nil_iff]
    intro b _ h
    have := (hr _ _ h).1
    omega
  rw [this, List.append_nil]
end

/-! ### the table as a list -/
/-- sixty-four truth values, row by row -/
def tbl (r : Nat → Nat → Bool) : List Bool := (List.range 64).map fun p => r (p / 8) (p % 8)
theorem tbl_len (r : Nat → Nat → Bool) : (tbl r).length = 64 := by simp [tbl]
theorem tbl_at (r : Nat → Nat → Bool) {a b : Nat} (ha : a < 8) (hb : b < 8) : (tbl r).getD (a * 8 + b) false = r a b := by
  have h : a * 8 + b < 64 := by omega
  have h1 : (a * 8 + b) / 8 = a := by omega
  have h2 : (a * 8 + b) % 8 = b := by omega
  simp [tbl, List.getD, h, h1, h2]
theorem tbl_congr {r s : Nat → Nat → Bool} (h : ∀ a b, a < 8 → b < 8 → r a b = s a b) : tbl r = tbl s := by
  unfold tbl
  refine List.map_congr_left fun p hp => ?_
  have := List.mem_range.1 hp
  exact h _ _ (by omega) (by omega)
theorem tbl_set (r : Nat → Nat → Bool) {a b : Nat} (ha : a < 8) (hb : b < 8) (t : Bool) : (tbl r).set (a * 8 + b) t = tbl fun x y => if x = a ∧ y = b then t else r x y := by
  apply List.ext_getElem
  · simp [tbl]
  · intro i h1 h2
    have hi : i < 64 := by simpa [tbl] using h2
    rw [List.getElem_set]
    simp only [tbl, List.getElem_map, List.getElem_range]
    by_cases e : a * 8 + b = i
    · rw [if_pos e, if_pos (by omega)]
    · rw [if_neg e, if_neg (by omega)]
/-- lines up to the k-th -/
def hasTo (ls : List Gr.Ln) (k : Nat) (a b : Nat) : Bool := Gr.has (ls.take k) (a : Int) (b : Int)
theorem hasTo_zero (ls : List Gr.Ln) (a b : Nat) : hasTo ls 0 a b = false := by simp [hasTo, Gr.has]
theorem tbl_zero (ls : List Gr.Ln) : tbl (hasTo ls 0) = List.replicate 64 false := by
  rw [tbl_congr (s := fun _ _ => false) (fun a b _ _ => hasTo_zero ls a b)]
  decide
theorem hasTo_next {ls : List Gr.Ln} {k a b : Nat} (hk : k < ls.length) (hp : (((a : Int), (b : Int)) : Gr.Ln) = ls.getD k (0, 0)) (x y : Nat) : hasTo ls (k + 1) x y = if x = a ∧ y = b then true else hasTo ls k x y := by
  unfold hasTo
  have e : ls.getD k (0, 0) = ls[k] := by simp [List.getD, hk]
  rw [List.take_succ_eq_append_getElem hk, ← e, ← hp]
  by_cases h : x = a ∧ y = b
  · obtain ⟨rfl, rfl⟩ := h
    rw [if_pos ⟨rfl, rfl⟩]
    simp [Gr.has]
  · rw [if_neg h]
    have : ((x : Int), (y : Int)) ≠ ((a : Int), (b : Int)) := fun e => h ⟨by have := (Prod.mk.inj e).1; omega, by have := (Prod.mk.inj e).2; omega⟩
    have h2 : ¬ ((x : Int) = (a : Int) ∧ (y : Int) = (b : Int)) := fun e => h ⟨by omega, by omega⟩
    rw [Bool.eq_iff_iff]
    simp only [Gr.has, List.contains_iff_mem, List.mem_append, List.mem_singleton, Prod.mk.injEq]
    constructor
    · rintro (h3 | h3)
      · exact h3
      · exact absurd h3 h2
    · exact .inl
theorem tbl_next {ls : List Gr.Ln} {k a b : Nat} (hk : k < ls.length) (hp : (((a : Int), (b : Int)) : Gr.Ln) = ls.getD k (0, 0)) (ha : a < 8) (hb : b < 8) : (tbl (hasTo ls k)).set (a * 8 + b) true = tbl (hasTo ls (k + 1)) := by
  rw [tbl_set _ ha hb]
  exact tbl_congr fun x y _ _ => (hasTo_next hk hp x y).symm
theorem tbl_lines (ls : List Gr.Ln) {k : Nat} (hk : ls.length ≤ k) : tbl (hasTo ls k) = tbl (cl ls 0) := tbl_congr fun x y _ _ => by
  unfold hasTo
  rw [List.take_of_length_le hk]
  rfl
/-- in round k, all ahead of (a, b) is done -/
def mid (ls : List Gr.Ln) (k a b : Nat) (x y : Nat) : Bool := if x * 8 + y < a * 8 + b then cl ls (k + 1) x y else cl ls k x y
theorem mid_col (ls : List Gr.Ln) (k a b x : Nat) : mid ls k a b x k = cl ls k x k := by
  unfold mid
  split
  · exact cl_col ls k x
  · rfl
theorem mid_row (ls : List Gr.Ln) (k a b y : Nat) : mid ls k a b k y = cl ls k k y := by
  unfold mid
  split
  · exact cl_row ls k y
  · rfl
theorem mid_start (ls : List Gr.Ln) (k : Nat) : tbl (mid ls k 0 0) = tbl (cl ls k) := tbl_congr fun x y _ _ => by
  unfold mid
  rw [if_neg (by omega)]
theorem mid_end (ls : List Gr.Ln) (k : Nat) : tbl (mid ls k 8 0) = tbl (cl ls (k + 1)) := tbl_congr fun x y hx hy => by
  unfold mid
  rw [if_pos (by omega)]
theorem mid_rowend (ls : List Gr.Ln) (k a : Nat) : tbl (mid ls k a 8) = tbl (mid ls k (a + 1) 0) := tbl_congr fun x y hx hy => by
  unfold mid
  have : (x * 8 + y < a * 8 + 8) = (x * 8 + y < (a + 1) * 8 + 0) := by rw [show a * 8 + 8 = (a + 1) * 8 + 0 by omega]
  simp only [this]
theorem mid_yes {ls : List Gr.Ln} {k a b : Nat} (ha : a < 8) (hb : b < 8) (h1 : cl ls k a k = true) (h2 : cl ls k k b = true) : (tbl (mid ls k a b)).set (a * 8 + b) true = tbl (mid ls k a (b + 1)) := by
  rw [tbl_set _ ha hb]
  refine tbl_congr fun x y hx hy => ?_
  by_cases e : x = a ∧ y = b
  · obtain ⟨rfl, rfl⟩ := e
    rw [if_pos ⟨rfl, rfl⟩]
    unfold mid
    rw [if_pos (by omega)]
    show true = (cl ls k x y || (cl ls k x k && cl ls k k y))
    rw [h1, h2]
    simp
  · rw [if_neg e]
    unfold mid
    by_cases h : x * 8 + y < a * 8 + b
    · rw [if_pos h, if_pos (by omega)]
    · rw [if_neg h, if_neg (by omega)]
theorem mid_no {ls : List Gr.Ln} {k a b : Nat} (ha : a < 8) (hb : b < 8) (h : (cl ls k a k && cl ls k k b) = false) : tbl (mid ls k a b) = tbl (mid ls k a (b + 1)) := by
  refine tbl_congr fun x y hx hy => ?_
  unfold mid
  by_cases e : x * 8 + y < a * 8 + b
  · rw [if_pos e, if_pos (by omega)]
  · rw [if_neg e]
    by_cases e2 : x * 8 + y < a * 8 + (b + 1)
    · rw [if_pos e2]
      obtain rfl : x = a := by omega
      obtain rfl : y = b := by omega
      show _ = (cl ls k x y || (cl ls k x k && cl ls k k y))
      rw [h, Bool.or_false]
    · rw [if_neg e2]

/-! ### ways by a third -/
def thr (r : Nat → Nat → Bool) (a b k : Nat) : Bool := (List.range k).any fun c => r a c && r c b
theorem thr_zero (r : Nat → Nat → Bool) (a b : Nat) : thr r a b 0 = false := by simp [thr]
theorem thr_succ (r : Nat → Nat → Bool) (a b k : Nat) : thr r a b (k + 1) = (thr r a b k || (r a k && r k b)) := by simp [thr, List.range_succ]
theorem thr_hit {r : Nat → Nat → Bool} {a b k m : Nat} (hk : k < m) (h1 : r a k = true) (h2 : r k b = true) : thr r a b m = true := by
  unfold thr
  rw [List.any_eq_true]
  exact ⟨k, List.mem_range.2 hk, by rw [h1, h2]; rfl⟩
theorem thr_thin {n : Nat} {ls : List Gr.Ln} (hg : ∀ p ∈ ls, Gr.Good (n : Int) p) (h8 : n ≤ 8) {a b : Nat} : (tb n ls a b && !thr (tb n ls) a b 8) = (decide (a < n) && thin n ls a b) := by
  by_cases ha : a < n
  · rw [Bool.eq_iff_iff]
    simp only [Bool.and_eq_true, Bool.not_eq_true', decide_eq_true_eq]
    rw [tb_at ha, thin_iff]
    constructor
    · rintro ⟨h1, h2⟩
      refine ⟨ha, h1, fun k hk hh => ?_⟩
      have := thr_hit (r := tb n ls) (m := 8) (a := a) (b := b) (k := k) (by omega) (by rw [tb_at ha]; exact hh.1) (by rw [tb_at hk]; exact hh.2)
      rw [h2] at this
      cases this
    · rintro ⟨_, h1, h2⟩
      refine ⟨h1, ?_⟩
      cases h : thr (tb n ls) a b 8 with
      | false => rfl
      | true =>
        exfalso
        unfold thr at h
        rw [List.any_eq_true] at h
        obtain ⟨k, _, hk⟩ := h
        rw [Bool.and_eq_true] at hk
        have hkn := (tb_lt hg hk.2).1
        rw [tb_at ha, tb_at hkn] at hk
        exact h2 k hkn hk
  · simp [tb, ha]
/-- the program's list of ways -/
theorem full_tb {n : Nat} {ls : List Gr.Ln} (hg : ∀ p ∈ ls, Gr.Good (n : Int) p) : Gr.full n (tb n ls) = Gr.full n (comes n ls) := by
  unfold Gr.full
  rw [List.flatMap_def, List.flatMap_def]
  congr 1
  refine List.map_congr_left fun a ha => ?_
  rw [List.filter_congr fun b _ => tb_at (List.mem_range.1 ha)]
theorem side_tb {n : Nat} {ls : List Gr.Ln} (hg : ∀ p ∈ ls, Gr.Good (n : Int) p) {a : Nat} (ha : a < n) : Gr.side (Gr.full n (tb n ls)) a = crow n ls a := by
  rw [Gr.side_full n _ ha]
  unfold crow
  rw [List.filter_congr fun b _ => tb_at ha]
theorem few_is {n : Nat} {ls : List Gr.Ln} (hg : ∀ p ∈ ls, Gr.Good (n : Int) p) (h8 : n ≤ 8) : ((Gr.full n (tb n ls)).filter fun p => !thr (tb n ls) p.1 p.2 8).map (fun p => ((p.1 : Int), (p.2 : Int))) = few n ls := by
  unfold few lst
  have e : ((Gr.full n (tb n ls)).filter fun p => !thr (tb n ls) p.1 p.2 8) = Gr.full n fun a b => tb n ls a b && !thr (tb n ls) a b 8 := lst_filter n (tb n ls) (fun a b => !thr (tb n ls) a b 8)
  rw [e]
  congr 1
  unfold Gr.full
  rw [List.flatMap_def, List.flatMap_def]
  congr 1
  refine List.map_congr_left fun a ha => ?_
  rw [List.filter_congr fun b _ => ?_]
  show (tb n ls a b && !thr (tb n ls) a b 8) = thin n ls a b
  rw [thr_thin hg h8]
  simp [List.mem_range.1 ha]
end Go.Proofs.YtojkjdccjomaaaaDoor.Cl

set_option linter.unusedSimpArgs false
set_option linter.unusedVariables false
namespace Go.Proofs.YtojkjdccjomaaaaDoor.Sg
open Wa (wk wk_zero wk_succ wk_add wk_one)
open To (frow mem_frow frow_ok comes comes_iff Step Ring)
open Cl (way_line way_lt way_trans way_first way_up way_along lst mem_lst has_lst lst_congr lst_ends)
open Ma (cnt)

/-- does a way lead there, of no line or more? -/
def reach (n : Nat) (ls : List Gr.Ln) (a b : Nat) : Bool := decide (0 ≤ Wa.dist n (frow n ls) a b)
/-- there and back -/
def both (n : Nat) (ls : List Gr.Ln) (a b : Nat) : Bool := reach n ls a b && reach n ls b a
section
variable {n : Nat} {ls : List Gr.Ln}
theorem reach_iff {a b : Nat} (ha : a < n) : reach n ls a b = true ↔ ∃ k, wk n (frow n ls) k a b = true := by
  unfold reach
  rw [decide_eq_true_eq]
  exact Wa.dist_nn (frow_ok n ls) ha
theorem reach_refl {a : Nat} (ha : a < n) : reach n ls a a = true := (reach_iff ha).2 ⟨0, wk_zero.2 rfl⟩
theorem reach_lt {a b : Nat} (ha : a < n) (h : reach n ls a b = true) : b < n := by
  obtain ⟨k, hk⟩ := (reach_iff ha).1 h
  exact Wa.wk_lt (frow_ok n ls) ha hk
theorem reach_trans {a b c : Nat} (ha : a < n) (h1 : reach n ls a b = true) (h2 : reach n ls b c = true) : reach n ls a c = true := by
  have hb := reach_lt ha h1
  obtain ⟨k, hk⟩ := (reach_iff ha).1 h1
  obtain ⟨j, hj⟩ := (reach_iff hb).1 h2
  exact (reach_iff ha).2 ⟨k + j, wk_add hk hj⟩
theorem reach_comes (hg : ∀ p ∈ ls, Gr.Good (n : Int) p) {a b : Nat} (ha : a < n) : reach n ls a b = true ↔ a = b ∨ comes n ls a b = true := by
  rw [reach_iff ha, comes_iff hg ha]
  constructor
  · rintro ⟨k, hk⟩
    cases k with
    | zero => exact .inl (wk_zero.1 hk)
    | succ k => exact .inr ⟨k + 1, by omega, hk⟩
  · rintro (rfl | ⟨k, _, hk⟩)
    · exact ⟨0, wk_zero.2 rfl⟩
    · exact ⟨k, hk⟩
theorem both_refl {a : Nat} (ha : a < n) : both n ls a a = true := by unfold both; rw [reach_refl ha]; rfl
theorem both_comm (a b : Nat) : both n ls a b = both n ls b a := by unfold both; rw [Bool.and_comm]
theorem both_lt {a b : Nat} (ha : a < n) (h : both n ls a b = true) : b < n := by
  unfold both at h
  simp only [Bool.and_eq_true] at h
  exact reach_lt ha h.1
theorem both_trans {a b c : Nat} (ha : a < n) (h1 : both n ls a b = true) (h2 : both n ls b c = true) : both n ls a c = true := by
  have hb := both_lt ha h1
  have hc := both_lt hb h2
  unfold both at *
  simp only [Bool.and_eq_true] at *
  exact ⟨reach_trans ha h1.1 h2.1, reach_trans hc h2.2 h1.2⟩
theorem both_iff (hg : ∀ p ∈ ls, Gr.Good (n : Int) p) {a b : Nat} (ha : a < n) (hb : b < n) : both n ls a b = true ↔ a = b ∨ (comes n ls a b = true ∧ comes n ls b a = true) := by
  unfold both
  rw [Bool.and_eq_true, reach_comes hg ha, reach_comes hg hb]
  constructor
  · rintro ⟨h1 | h1, h2 | h2⟩
    · exact .inl h1
    · exact .inl h1
    · exact .inl h2.symm
    · exact .inr ⟨h1, h2⟩
  · rintro (h | ⟨h1, h2⟩)
    · exact ⟨.inl h, .inl h.symm⟩
    · exact ⟨.inr h1, .inr h2⟩

/-! ### the least one -/
/-- the first from k on that a test takes -/
def first (p : Nat → Bool) : Nat → Nat → Nat
  | 0, k => k
  | f + 1, k => if p k then k else first p f (k + 1)
theorem first_spec {p : Nat → Bool} : ∀ (f k i : Nat), k ≤ i → i < k + f → p i = true → k ≤ first p f k ∧ first p f k ≤ i ∧ p (first p f k) = true ∧ ∀ j, k ≤ j → j < first p f k → p j = false
  | 0, k, i, h1, h2, _ => by omega
  | f + 1, k, i, h1, h2, hp => by
    unfold first
    by_cases hk : p k = true
    · rw [if_pos hk]
      exact ⟨Nat.le_refl _, h1, hk, fun j h3 h4 => by omega⟩
    · rw [if_neg hk]
      have hne : k ≠ i := fun e => hk (by rw [e]; exact hp)
      obtain ⟨a1, a2, a3, a4⟩ := first_spec f (k + 1) i (by omega) (by omega) hp
      refine ⟨by omega, a2, a3, fun j h3 h4 => ?_⟩
      by_cases e : j = k
      · rw [e]; simpa using hk
      · exact a4 j (by omega) h4
/-- the least one of a point's part -/
def pt (n : Nat) (ls : List Gr.Ln) (i : Nat) : Nat := first (both n ls i) n 0
theorem pt_spec {i : Nat} (hi : i < n) : pt n ls i ≤ i ∧ both n ls i (pt n ls i) = true ∧ ∀ j, j < pt n ls i → both n ls i j = false := by
  obtain ⟨_, a2, a3, a4⟩ := first_spec (p := both n ls i) n 0 i (Nat.zero_le _) (by omega) (both_refl hi)
  exact ⟨a2, a3, fun j hj => a4 j (Nat.zero_le _) hj⟩
theorem pt_only {i k : Nat} (hi : i < n) (h1 : both n ls i k = true) (h2 : ∀ j, j < k → both n ls i j = false) : k = pt n ls i := by
  obtain ⟨_, a2, a3⟩ := pt_spec (ls := ls) hi
  rcases Nat.lt_trichotomy k (pt n ls i) with h | h | h
  · rw [a3 k h] at h1; cases h1
  · exact h
  · rw [h2 _ h] at a2; cases a2
theorem pt_eq {a b : Nat} (ha : a < n) (hb : b < n) : pt n ls a = pt n ls b ↔ both n ls a b = true := by
  obtain ⟨_, a2, a3⟩ := pt_spec (ls := ls) ha
  obtain ⟨_, b2, b3⟩ := pt_spec (ls := ls) hb
  constructor
  · intro e
    rw [← e, both_comm] at b2
    exact both_trans ha a2 b2
  · intro h
    refine pt_only hb (both_trans hb (by rw [both_comm]; exact h) a2) fun j hj => ?_
    cases hh : both n ls b j with
    | false => rfl
    | true => rw [← a3 j hj]; exact (both_trans ha h hh).symm
theorem pt_pt {i : Nat} (hi : i < n) : pt n ls (pt n ls i) = pt n ls i := by
  obtain ⟨a1, a2, _⟩ := pt_spec (ls := ls) hi
  exact (pt_eq (by omega) hi).2 (by rw [both_comm]; exact a2)
def parts (n : Nat) (ls : List Gr.Ln) : List Int := (List.range n).map fun i => ((pt n ls i : Nat) : Int)
theorem parts_len (n : Nat) (ls : List Gr.Ln) : (parts n ls).length = n := by simp [parts]
theorem parts_at {i : Nat} (hi : i < n) : (parts n ls).getD i 0 = ((pt n ls i : Nat) : Int) := by simp [parts, List.getD, hi]

/-! ### the parts' numbers -/
/-- is it the least one of its part? -/
def isl (n : Nat) (ls : List Gr.Ln) (i : Nat) : Bool := decide (pt n ls i = i)
/-- how many parts begin below k -/
def below (n : Nat) (ls : List Gr.Ln) (k : Nat) : Nat := cnt k (isl n ls)
def many (n : Nat) (ls : List Gr.Ln) : Nat := below n ls n
/-- the number of a point's part -/
def nm (n : Nat) (ls : List Gr.Ln) (i : Nat) : Nat := below n ls (pt n ls i)
theorem below_succ (k : Nat) : below n ls (k + 1) = below n ls k + if isl n ls k = true then 1 else 0 := by
  unfold below cnt
  rw [List.range_succ, List.countP_append, List.countP_singleton]
theorem below_mono {j : Nat} : ∀ {k : Nat}, j ≤ k → below n ls j ≤ below n ls k
  | 0, h => by obtain rfl : j = 0 := by omega
               exact Nat.le_refl _
  | k + 1, h => by
    by_cases e : j = k + 1
    · rw [e]; exact Nat.le_refl _
    · have := below_mono (j := j) (k := k) (by omega)
      rw [below_succ]
      omega
theorem below_lt {j k : Nat} (h : j < k) (hl : isl n ls j = true) : below n ls j < below n ls k := by
  have := below_succ (n := n) (ls := ls) j
  rw [if_pos hl] at this
  have := below_mono (n := n) (ls := ls) (show j + 1 ≤ k from h)
  omega
theorem isl_pt {i : Nat} (hi : i < n) : isl n ls (pt n ls i) = true := by unfold isl; rw [decide_eq_true_eq]; exact pt_pt hi
theorem nm_lt {i : Nat} (hi : i < n) : nm n ls i < many n ls := by
  have := (pt_spec (ls := ls) hi).1
  exact below_lt (by omega) (isl_pt hi)
theorem nm_eq {a b : Nat} (ha : a < n) (hb : b < n) : nm n ls a = nm n ls b ↔ both n ls a b = true := by
  rw [← pt_eq ha hb]
  constructor
  · intro h
    rcases Nat.lt_trichotomy (pt n ls a) (pt n ls b) with hl | hl | hl
    · have := below_lt hl (isl_pt ha); unfold nm at h; omega
    · exact hl
    · have := below_lt hl (isl_pt hb); unfold nm at h; omega
  · intro h; unfold nm; rw [h]
/-- the numbers as they come: a new one is the next one -/
theorem nm_next {i : Nat} (hi : i < n) : (isl n ls i = true ∧ nm n ls i = below n ls i) ∨ (isl n ls i = false ∧ nm n ls i < below n ls i) := by
  obtain ⟨a1, _, _⟩ := pt_spec (ls := ls) hi
  by_cases h : pt n ls i = i
  · exact .inl ⟨by unfold isl; simpa using h, by unfold nm; rw [h]⟩
  · exact .inr ⟨by unfold isl; simpa using h, below_lt (by omega) (isl_pt hi)⟩
theorem many_le (n : Nat) (ls : List Gr.Ln) : many n ls ≤ n := Ma.cnt_le n _
theorem many_pos (h : 0 < n) : 0 < many n ls := by have := nm_lt (ls := ls) h; omega
/-- each number is one of a point -/
theorem nm_ex : ∀ k, k ≤ n → ∀ c, c < below n ls k → ∃ i, i < k ∧ isl n ls i = true ∧ nm n ls i = c
  | 0, _, c, hc => by simp [below, cnt] at hc
  | k + 1, hk, c, hc => by
    rw [below_succ] at hc
    by_cases hl : isl n ls k = true
    · rw [if_pos hl] at hc
      by_cases e : c = below n ls k
      · refine ⟨k, by omega, hl, ?_⟩
        have hp : pt n ls k = k := by unfold isl at hl; simpa using hl
        unfold nm; rw [hp, e]
      · obtain ⟨i, hi, h1, h2⟩ := nm_ex k (by omega) c (by omega)
        exact ⟨i, by omega, h1, h2⟩
    · rw [if_neg hl] at hc
      obtain ⟨i, hi, h1, h2⟩ := nm_ex k (by omega) c (by omega)
      exact ⟨i, by omega, h1, h2⟩
def nums (n : Nat) (ls : List Gr.Ln) : List Int := (List.range n).map fun i => ((nm n ls i : Nat) : Int)
theorem nums_len (n : Nat) (ls : List Gr.Ln) : (nums n ls).length = n := by simp [nums]
theorem nums_at {i : Nat} (hi : i < n) : (nums n ls).getD i 0 = ((nm n ls i : Nat) : Int) := by simp [nums, List.getD, hi]
/-- the least ones, rising -/
def leasts (n : Nat) (ls : List Gr.Ln) (k : Nat) : List Int := ((List.range k).filter (isl n ls)).map fun i => ((i : Nat) : Int)
theorem leasts_succ (k : Nat) : leasts n ls (k + 1) = if isl n ls k = true then leasts n ls k ++ [(k : Int)] else leasts n ls k := by
  unfold leasts
  rw [List.range_succ, List.filter_append]
  by_cases h : isl n ls k = true
  · rw [if_pos h]; simp [h]
  · rw [if_neg h]; simp [h]
theorem leasts_len (k : Nat) : (leasts n ls k).length = below n ls k := by
  unfold leasts below cnt
  rw [List.length_map, List.countP_eq_length_filter]

/-! ### folded up -/
/-- does a line lead from one part to another one? -/
def fr (n : Nat) (ls : List Gr.Ln) (a b : Nat) : Bool := !decide (a = b) && ls.any fun p => decide (nm n ls p.1.toNat = a) && decide (nm n ls p.2.toNat = b)
def folded (n : Nat) (ls : List Gr.Ln) : List Gr.Ln := lst (many n ls) (fr n ls)
theorem fr_iff (hg : ∀ p ∈ ls, Gr.Good (n : Int) p) {a b : Nat} : fr n ls a b = true ↔ a ≠ b ∧ ∃ u v : Nat, u < n ∧ v < n ∧ Gr.has ls (u : Int) (v : Int) = true ∧ nm n ls u = a ∧ nm n ls v = b := by
  unfold fr
  rw [Bool.and_eq_true, List.any_eq_true]
  simp only [Bool.not_eq_true', decide_eq_false_iff_not, Bool.and_eq_true, decide_eq_true_eq]
  constructor
  · rintro ⟨h1, p, hp, h2, h3⟩
    have := hg p hp
    unfold Gr.Good at this
    refine ⟨h1, p.1.toNat, p.2.toNat, by omega, by omega, Gr.has_iff.2 ?_, h2, h3⟩
    rw [show ((p.1.toNat : Nat) : Int) = p.1 by omega, show ((p.2.toNat : Nat) : Int) = p.2 by omega]
    exact hp
  · rintro ⟨h1, u, v, hu, hv, hh, h2, h3⟩
    exact ⟨h1, ((u : Int), (v : Int)), Gr.has_iff.1 hh, by simpa using h2, by simpa using h3⟩
theorem folded_good : ∀ p ∈ folded n ls, Gr.Good (many n ls : Int) p := by
  intro p hp
  obtain ⟨a, b, rfl, ha, hb, h⟩ := lst_ends hp
  have hne : a ≠ b := by unfold fr at h; simp only [Bool.and_eq_true, Bool.not_eq_true', decide_eq_false_iff_not] at h; exact h.1
  unfold Gr.Good
  simp only
  omega
theorem fold_line (hg : ∀ p ∈ ls, Gr.Good (n : Int) p) {x y : Nat} (h : Gr.has (folded n ls) (x : Int) (y : Int) = true) : x ≠ y ∧ ∃ u v : Nat, u < n ∧ v < n ∧ Gr.has ls (u : Int) (v : Int) = true ∧ nm n ls u = x ∧ nm n ls v = y := (fr_iff hg).1 (mem_lst.1 (Gr.has_iff.1 h)).2.2
/-- a way of the folded lines is one of the lines -/
theorem fold_way (hg : ∀ p ∈ ls, Gr.Good (n : Int) p) : ∀ (k x y : Nat), wk (many n ls) (frow (many n ls) (folded n ls)) (k + 1) x y = true → ∀ a b, a < n → b < n → nm n ls a = x → nm n ls b = y → comes n ls a b = true
  | 0, x, y, h, a, b, ha, hb, ea, eb => by
    obtain ⟨c, hc, h1, h2⟩ := wk_succ.1 h
    obtain rfl := wk_zero.1 h1
    obtain ⟨_, u, v, hu, hv, hh, e1, e2⟩ := fold_line hg (mem_frow.1 h2).2
    have r1 := (nm_eq (ls := ls) ha hu).1 (ea.trans e1.symm)
    have r2 := (nm_eq (ls := ls) hv hb).1 (e2.trans eb.symm)
    unfold both at r1 r2
    simp only [Bool.and_eq_true] at r1 r2
    have h3 := way_line hg hh
    rcases (reach_comes hg ha).1 r1.1 with rfl | r1
    · rcases (reach_comes hg hv).1 r2.1 with rfl | r2
      · exact h3
      · exact way_trans hg ha h3 r2
    · rcases (reach_comes hg hv).1 r2.1 with rfl | r2
      · exact way_trans hg ha r1 h3
      · exact way_trans hg ha (way_trans hg ha r1 h3) r2
  | k + 1, x, y, h, a, b, ha, hb, ea, eb => by
    obtain ⟨c, hc, h1, h2⟩ := wk_succ.1 h
    obtain ⟨_, u, v, hu, hv, hh, e1, e2⟩ := fold_line hg (mem_frow.1 h2).2
    have h3 := fold_way hg k x c h1 a u ha hu ea e1
    have r2 := (nm_eq (ls := ls) hv hb).1 (e2.trans eb.symm)
    unfold both at r2
    simp only [Bool.and_eq_true] at r2
    have h4 := way_trans hg ha h3 (way_line hg hh)
    rcases (reach_comes hg hv).1 r2.1 with rfl | r2
    · exact h4
    · exact way_trans hg ha h4 r2
/-- and the other way round -/
theorem way_fold (hg : ∀ p ∈ ls, Gr.Good (n : Int) p) {a : Nat} (ha : a < n) : ∀ (k b : Nat), wk n (frow n ls) k a b = true → reach (many n ls) (folded n ls) (nm n ls a) (nm n ls b) = true
  | 0, b, h => by
    obtain rfl := wk_zero.1 h
    exact reach_refl (nm_lt ha)
  | k + 1, b, h => by
    obtain ⟨c, hc, h1, h2⟩ := wk_succ.1 h
    have ih := way_fold hg ha k c h1
    have hl := mem_frow.1 h2
    by_cases e : nm n ls c = nm n ls b
    · rw [← e]; exact ih
    · have hf : Gr.has (folded n ls) ((nm n ls c : Nat) : Int) ((nm n ls b : Nat) : Int) = true := Gr.has_iff.2 (mem_lst.2 ⟨nm_lt hc, nm_lt hl.1, (fr_iff hg).2 ⟨e, c, b, hc, hl.1, hl.2, rfl, rfl⟩⟩)
      exact reach_trans (nm_lt ha) ih ((reach_comes folded_good (nm_lt hc)).2 (.inr (way_line folded_good hf)))
/-- the same ways -/
theorem fold_same (hg : ∀ p ∈ ls, Gr.Good (n : Int) p) {a b : Nat} (ha : a < n) (hb : b < n) (hne : nm n ls a ≠ nm n ls b) : comes (many n ls) (folded n ls) (nm n ls a) (nm n ls b) = comes n ls a b := by
  rw [Bool.eq_iff_iff]
  constructor
  · intro h
    obtain ⟨k, hk, hw⟩ := (comes_iff folded_good (nm_lt ha)).1 h
    obtain ⟨d, rfl⟩ : ∃ d, k = d + 1 := ⟨k - 1, by omega⟩
    exact fold_way hg d _ _ hw a b ha hb rfl rfl
  · intro h
    obtain ⟨k, hk, hw⟩ := (comes_iff hg ha).1 h
    rcases (reach_comes folded_good (nm_lt ha)).1 (way_fold hg ha k b hw) with h1 | h1
    · exact absurd h1 hne
    · exact h1
/-- no way comes back -/
theorem fold_no_ring (hg : ∀ p ∈ ls, Gr.Good (n : Int) p) {x : Nat} (hx : x < many n ls) : comes (many n ls) (folded n ls) x x = false := by
  cases hc : comes (many n ls) (folded n ls) x x with
  | false => rfl
  | true =>
    exfalso
    have hf := folded_good (n := n) (ls := ls)
    obtain ⟨a, ha, _, ea⟩ := nm_ex (ls := ls) n (Nat.le_refl _) x hx
    rcases way_first hf hx hc with h | ⟨c, hcm, h1, h2⟩
    · exact (fold_line hg h).1 rfl
    · obtain ⟨hne, u, v, hu, hv, hh, e1, e2⟩ := fold_line hg h1
      obtain ⟨k, hk, hw⟩ := (comes_iff hf hcm).1 h2
      obtain ⟨d, rfl⟩ : ∃ d, k = d + 1 := ⟨k - 1, by omega⟩
      have h3 := fold_way hg d _ _ hw v u hv hu e2 e1
      have : both n ls u v = true := (both_iff hg hu hv).2 (.inr ⟨way_line hg hh, h3⟩)
      exact hne (by rw [← e1, ← e2]; exact (nm_eq hu hv).2 this)
theorem fold_order (hg : ∀ p ∈ ls, Gr.Good (n : Int) p) : ∃ o, Step (many n ls) (folded n ls) o ∧ o.length = many n ls := by
  rcases To.order_or_ring (folded_good (n := n) (ls := ls)) with h | ⟨i, k, hi, hk, hw⟩
  · exact h
  · have := (comes_iff (folded_good (n := n) (ls := ls)) hi).2 ⟨k, hk, hw⟩
    rw [fold_no_ring hg hi] at this
    cases this
/-- where no way comes back each point is a part of its own -/
theorem alone (hg : ∀ p ∈ ls, Gr.Good (n : Int) p) (h : ∀ i, i < n → comes n ls i i = false) : (∀ i, i < n → pt n ls i = i) ∧ (∀ k, k ≤ n → below n ls k = k) ∧ ∀ i, i < n → nm n ls i = i := by
  have h1 : ∀ i, i < n → pt n ls i = i := fun i hi => by
    obtain ⟨a1, a2, _⟩ := pt_spec (ls := ls) hi
    rcases (both_iff hg hi (by omega)).1 a2 with e | ⟨b1, b2⟩
    · exact e.symm
    · have := way_trans hg hi b1 b2
      rw [h i hi] at this
      cases this
  have h2 : ∀ k, k ≤ n → below n ls k = k := by
    intro k
    induction k with
    | zero => intro _; rfl
    | succ k ih =>
      intro hk
      rw [below_succ, ih (by omega), if_pos (by unfold isl; simpa using h1 k (by omega))]
  exact ⟨h1, h2, fun i hi => by unfold nm; rw [h1 i hi, h2 i (by omega)]⟩
/-- folded once more it stays -/
theorem fold_fold (hg : ∀ p ∈ ls, Gr.Good (n : Int) p) : many (many n ls) (folded n ls) = many n ls ∧ (∀ i, i < many n ls → nm (many n ls) (folded n ls) i = i) ∧ folded (many n ls) (folded n ls) = folded n ls := by
  obtain ⟨_, h2, h3⟩ := alone (folded_good (n := n) (ls := ls)) (fun i hi => fold_no_ring hg hi)
  have hm : many (many n ls) (folded n ls) = many n ls := h2 _ (Nat.le_refl _)
  refine ⟨hm, h3, ?_⟩
  have e : folded (many n ls) (folded n ls) = lst (many n ls) (fr (many n ls) (folded n ls)) := by unfold folded; rw [show many (many n ls) (lst (many n ls) (fr n ls)) = many n ls from hm]
  rw [e]
  refine lst_congr fun a b ha hb => ?_
  rw [Bool.eq_iff_iff, fr_iff folded_good]
  constructor
  · rintro ⟨hne, u, v, hu, hv, hh, e1, e2⟩
    rw [h3 u hu] at e1
    rw [h3 v hv] at e2
    subst e1 e2
    exact (mem_lst.1 (Gr.has_iff.1 hh)).2.2
  · intro h
    have hne : a ≠ b := ((fr_iff hg).1 h).1
    exact ⟨hne, a, b, ha, hb, Gr.has_iff.2 (mem_lst.2 ⟨ha, hb, h⟩), h3 a ha, h3 b hb⟩

/-! ### turned lines, and more of them -/
theorem both_turn (hg : ∀ p ∈ ls, Gr.Good (n : Int) p) {a b : Nat} (ha : a < n) (hb : b < n) : both n (Gr.back ls) a b = both n ls a b := by
  rw [Bool.eq_iff_iff, both_iff (To.good_back hg) ha hb, both_iff hg ha hb, Cl.way_turn hg hb ha, Cl.way_turn hg ha hb]
  constructor <;> (rintro (h | ⟨h1, h2⟩); exact .inl h; exact .inr ⟨h2, h1⟩)
theorem first_congr {p q : Nat → Bool} : ∀ (f k : Nat), (∀ j, k ≤ j → j < k + f → p j = q j) → first p f k = first q f k
  | 0, _, _ => rfl
  | f + 1, k, h => by
    unfold first
    rw [h k (Nat.le_refl _) (by omega), first_congr f (k + 1) fun j h1 h2 => h j (by omega) (by omega)]
theorem parts_turn (hg : ∀ p ∈ ls, Gr.Good (n : Int) p) : parts n (Gr.back ls) = parts n ls := by
  refine List.map_congr_left fun i hi => ?_
  have hi' := List.mem_range.1 hi
  unfold pt
  rw [first_congr n 0 fun j _ hj => both_turn hg hi' (by omega)]
theorem both_more {ks : List Gr.Ln} (hg : ∀ p ∈ ls, Gr.Good (n : Int) p) (hk : ∀ p ∈ ks, Gr.Good (n : Int) p) (hsub : ∀ p ∈ ls, p ∈ ks) {a b : Nat} (ha : a < n) (hb : b < n) (h : both n ls a b = true) : both n ks a b = true := by
  have key : ∀ u v : Nat, u < n → comes n ls u v = true → comes n ks u v = true := fun u v hu h => way_along hk hg (fun x y hxy => way_line hk (Gr.has_iff.2 (hsub _ (Gr.has_iff.1 hxy)))) hu h
  rcases (both_iff hg ha hb).1 h with e | ⟨h1, h2⟩
  · exact (both_iff hk ha hb).2 (.inl e)
  · exact (both_iff hk ha hb).2 (.inr ⟨key a b ha h1, key b a hb h2⟩)
end
end Go.Proofs.YtojkjdccjomaaaaDoor.Sg
