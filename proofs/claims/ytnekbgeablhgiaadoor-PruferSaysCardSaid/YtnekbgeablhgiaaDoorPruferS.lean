/-
  Plain facts on trees written as rows, with no program in them: the least end is taken away again and again, and its neighbour written down; how often each point is written; reading gives back what was written, and the other way round (Pruefer). No statement of the program is proved here; there is no condition.
  Plain facts on trees written as rows, with no program in them: a tree as the taking apart wants it, and back; what is read from a row is a tree, and is written as that row. No statement of the program is proved here; there is no condition.
  Plain facts on trees written as rows by taking lines out of a list, with no program in them: the lines that are left are those between the points that are left, each once; how often a point stands in them; the least end among all ends of lines; the least one that is free. No statement of the program is proved here; there is no condition.
  Plain facts on trees and their rows, with no program in them, as whole lists: a row's tree has that row, a tree's row that tree; each point stands once less often than it has lines; who is gone, as a list. No statement of the program is proved here; there is no condition.
-/
import Derived.Test.YtnekbgeablhgiaaDoorTreeU
import Derived.Test.YtnekbgeablhgiaaDoorStrongN
import Derived.Test.YtnekbgeablhgiaaDoorTreeL
set_option linter.unusedSimpArgs false
set_option linter.unusedVariables false
namespace Go.Proofs.YtnekbgeablhgiaaDoor.Pf
open Sg (first first_spec first_congr)
open Tr (Tree Met ad far)

/-! ### sums -/
def sm (f : Nat → Nat) : Nat → Nat
  | 0 => 0
  | k + 1 => sm f k + f k
theorem sm_congr {f g : Nat → Nat} : ∀ {k : Nat}, (∀ i, i < k → f i = g i) → sm f k = sm g k
  | 0, _ => rfl
  | k + 1, h => by
    have := sm_congr (k := k) fun i hi => h i (by omega)
    show sm f k + f k = sm g k + g k
    rw [this, h k (by omega)]
theorem sm_le {f g : Nat → Nat} : ∀ {k : Nat}, (∀ i, i < k → f i ≤ g i) → sm f k ≤ sm g k
  | 0, _ => Nat.le_refl _
  | k + 1, h => by
    have := sm_le (k := k) fun i hi => h i (by omega)
    have := h k (by omega)
    show sm f k + f k ≤ sm g k + g k
    omega
theorem sm_add (f g : Nat → Nat) : ∀ k, sm (fun i => f i + g i) k = sm f k + sm g k
  | 0 => rfl
  | k + 1 => by
    have := sm_add f g k
    show sm (fun i => f i + g i) k + (f k + g k) = (sm f k + f k) + (sm g k + g k)
    omega
theorem sm_zero : ∀ k, sm (fun _ => 0) k = 0
  | 0 => rfl
  | k + 1 => by show sm (fun _ => 0) k + 0 = 0; rw [sm_zero k]
theorem sm_mul (c : Nat) (f : Nat → Nat) : ∀ k, sm (fun i => c * f i) k = c * sm f k
  | 0 => by simp [sm]
  | k + 1 => by
    have := sm_mul c f k
    show sm (fun i => c * f i) k + c * f k = c * (sm f k + f k)
    rw [this, Nat.mul_add]
theorem sm_swap (f : Nat → Nat → Nat) (m : Nat) : ∀ k, sm (fun i => sm (f i) m) k = sm (fun j => sm (fun i => f i j) k) m
  | 0 => by rw [show (fun j => sm (fun i => f i j) 0) = fun _ => 0 from rfl, sm_zero]; rfl
  | k + 1 => by
    have := sm_swap f m k
    show sm (fun i => sm (f i) m) k + sm (f k) m = sm (fun j => sm (fun i => f i j) k + f k j) m
    rw [this, sm_add]
theorem sm_one {f : Nat → Nat} {x : Nat} : ∀ {k : Nat}, x < k → (∀ i, i < k → i ≠ x → f i = 0) → sm f k = f x
  | k + 1, hx, h => by
    show sm f k + f k = f x
    by_cases e : x = k
    · subst e
      have : sm f x = sm (fun _ => 0) x := sm_congr fun i hi => h i (by omega) (by omega)
      rw [this, sm_zero, Nat.zero_add]
    · rw [sm_one (k := k) (by omega) fun i hi => h i (by omega), h k (by omega) (fun e2 => e e2.symm), Nat.add_zero]
/-- one and the others -/
theorem sm_but {f : Nat → Nat} {x : Nat} {k : Nat} (hx : x < k) : sm f k = f x + sm (fun i => if i = x then 0 else f i) k := by
  have h : sm f k = sm (fun i => (if i = x then f i else 0) + (if i = x then 0 else f i)) k := sm_congr fun i _ => by by_cases e : i = x <;> simp [e]
  rw [h, sm_add]
  congr 1
  rw [sm_one (f := fun i => if i = x then f i else 0) hx fun i _ e => by simp [e]]
  simp

/-! ### a tree that is taken apart: g are gone -/
/-- how many are beside v -/
def deg (n : Nat) (A : Nat → Nat → Bool) (g : Nat → Bool) (v : Nat) : Nat := sm (fun w => Bool.toNat (A v w && !g w)) n
/-- all of them -/
def tot (n : Nat) (A : Nat → Nat → Bool) (g : Nat → Bool) : Nat := sm (fun v => if g v = true then 0 else deg n A g v) n
def alive (n : Nat) (g : Nat → Bool) : Nat := sm (fun v => Bool.toNat (!g v)) n
def off (g : Nat → Bool) (v : Nat) : Nat → Bool := fun w => g w || decide (w = v)
structure TS (n : Nat) (A : Nat → Nat → Bool) (g : Nat → Bool) (m : Nat) : Prop where
  sym : ∀ a b, A a b = A b a
  irr : ∀ a, a < n → A a a = false
  liv : alive n g = m
  tot : tot n A g + 2 = 2 * m
  con : ∀ S : Nat → Bool, (∃ a, a < n ∧ g a = false ∧ S a = true) → (∃ b, b < n ∧ g b = false ∧ S b = false) → ∃ a b, a < n ∧ b < n ∧ g a = false ∧ g b = false ∧ S a = true ∧ S b = false ∧ A a b = true
section
variable {n : Nat} {A : Nat → Nat → Bool} {g : Nat → Bool} {m : Nat}
theorem deg_pos {v w : Nat} (hw : w < n) (hA : A v w = true) (hg : g w = false) : 1 ≤ deg n A g v := by
  unfold deg
  rw [sm_but hw]
  simp only [hA, hg]
  simp
/-- another one is alive -/
theorem other {v : Nat} (hv : v < n) (h : 2 ≤ alive n g) : ∃ w, w < n ∧ g w = false ∧ w ≠ v := by
  refine Classical.byContradiction fun hno => ?_
  have hall : ∀ w, w < n → w ≠ v → g w = true := fun w hw hne => by
    cases hg : g w with
    | true => rfl
    | false => exact absurd ⟨w, hw, hg, hne⟩ hno
  have : alive n g = Bool.toNat (!g v) := sm_one hv fun i hi hne => by rw [hall i hi hne]; rfl
  rw [this] at h
  cases hg : g v <;> simp [hg] at h
theorem TS.pos (h : TS n A g m) (hm : 2 ≤ m) {v : Nat} (hv : v < n) (hg : g v = false) : 1 ≤ deg n A g v := by
  obtain ⟨w, hw, hgw, hne⟩ := other hv (by rw [h.liv]; exact hm)
  obtain ⟨a, b, ha, hb, h1, h2, h3, h4, h5⟩ := h.con (fun x => decide (x = v)) ⟨v, hv, hg, by simp⟩ ⟨w, hw, hgw, by simpa using hne⟩
  obtain rfl : a = v := by simpa using h3
  exact deg_pos hb h5 h2
theorem TS.leaf (h : TS n A g m) (hm : 2 ≤ m) : ∃ v, v < n ∧ g v = false ∧ deg n A g v = 1 := by
  refine Classical.byContradiction fun hno => ?_
  have h2 : ∀ v, v < n → 2 * Bool.toNat (!g v) ≤ if g v = true then 0 else deg n A g v := fun v hv => by
    cases hg : g v with
    | true => simp
    | false =>
      have := h.pos hm hv hg
      have : deg n A g v ≠ 1 := fun e => hno ⟨v, hv, hg, e⟩
      simp
      omega
  have h3 := sm_le (k := n) h2
  rw [sm_mul] at h3
  have h4 := h.tot
  have h5 := h.liv
  unfold Pf.tot at h4
  unfold alive at h5
  omega
/-- the one beside an end -/
theorem only_one {v : Nat} (hd : deg n A g v = 1) : ∃ u, u < n ∧ A v u = true ∧ g u = false ∧ ∀ w, w < n → A v w = true → g w = false → w = u := by
  have hex : ∃ u, u < n ∧ A v u = true ∧ g u = false := by
    refine Classical.byContradiction fun hno => ?_
    have : deg n A g v = sm (fun _ => 0) n := sm_congr fun w hw => by
      have : (A v w && !g w) = false := by
        cases h1 : A v w with
        | false => rfl
        | true =>
          cases h2 : g w with
          | true => rfl
          | false => exact absurd ⟨w, hw, h1, h2⟩ hno
      rw [this]; rfl
    rw [sm_zero] at this
    omega
  obtain ⟨u, hu, h1, h2⟩ := hex
  refine ⟨u, hu, h1, h2, fun w hw h3 h4 => Classical.byContradiction fun hne => ?_⟩
  unfold deg at hd
  rw [sm_but hu, sm_but (x := w) hw] at hd
  simp only [h1, h2, h3, h4, if_neg hne] at hd
  simp at hd
theorem off_false {v w : Nat} : off g v w = false ↔ g w = false ∧ w ≠ v := by unfold off; simp
theorem alive_off {v : Nat} (hv : v < n) (hg : g v = false) : alive n (off g v) + 1 = alive n g := by
  unfold alive
  rw [sm_but (f := fun w => Bool.toNat (!g w)) hv]
  have : sm (fun w => Bool.toNat (!off g v w)) n = sm (fun i => if i = v then 0 else Bool.toNat (!g i)) n := sm_congr fun i _ => by
    unfold off
    by_cases e : i = v
    · simp [e]
    · simp [e]
  rw [this]
  simp [hg]
  omega
theorem deg_off {v w : Nat} (hv : v < n) (hg : g v = false) : deg n A g w = deg n A (off g v) w + Bool.toNat (A w v) := by
  unfold deg
  rw [sm_but (f := fun x => Bool.toNat (A w x && !g x)) hv]
  have : sm (fun x => Bool.toNat (A w x && !off g v x)) n = sm (fun i => if i = v then 0 else Bool.toNat (A w i && !g i)) n := sm_congr fun i _ => by
    unfold off
    by_cases e : i = v
    · simp [e]
    · simp [e]
  rw [this]
  simp [hg]
  omega
theorem TS.less (h : TS n A g (m + 1)) (hm : 1 ≤ m) {v : Nat} (hv : v < n) (hg : g v = false) (hd : deg n A g v = 1) : TS n A (off g v) m := by
  obtain ⟨u, hu, hA, hgu, hone⟩ := only_one hd
  have huv : u ≠ v := fun e => by rw [e, h.irr v hv] at hA; cases hA
  refine ⟨h.sym, h.irr, by have := alive_off hv hg; have := h.liv; omega, ?_, fun S ⟨a, ha, h1, h2⟩ ⟨b, hb, h3, h4⟩ => ?_⟩
  · have e1 : Pf.tot n A g = Pf.tot n A (off g v) + sm (fun w => if g w = true then 0 else if w = v then deg n A g v else Bool.toNat (A w v)) n := by
      unfold Pf.tot
      rw [← sm_add]
      refine sm_congr fun w hw => ?_
      cases hgw : g w with
      | true => simp [off, hgw]
      | false =>
        by_cases e : w = v
        · subst e; simp [off, hgw]
        · have := deg_off (A := A) (w := w) hv hg
          simp [off, hgw, e]
          omega
    have e2 : sm (fun w => if g w = true then 0 else if w = v then deg n A g v else Bool.toNat (A w v)) n = 2 := by
      rw [sm_but hv, sm_but hu]
      have : sm (fun i => if i = u then 0 else if i = v then 0 else if g i = true then 0 else if i = v then deg n A g v else Bool.toNat (A i v)) n = sm (fun _ => 0) n := sm_congr fun i hi => by
        by_cases e : i = u
        · simp [e]
        · by_cases e' : i = v
          · simp [e']
          · cases hgi : g i with
            | true => simp
            | false =>
              have : A i v = false := by
                cases hh : A i v with
                | false => rfl
                | true => exact absurd (hone i hi (by rw [h.sym]; exact hh) hgi) e
              simp [e, e', this]
      rw [this, sm_zero]
      have hAu : A u v = true := by rw [h.sym]; exact hA
      simp [hg, hgu, huv, hd, hAu]
    have := h.tot
    omega
  · -- v goes with u
    rw [off_false] at h1 h3
    obtain ⟨x, y, hx, hy, k1, k2, k3, k4, k5⟩ := h.con (fun w => if w = v then S u else S w) ⟨a, ha, h1.1, by simp [h1.2, h2]⟩ ⟨b, hb, h3.1, by simp [h3.2, h4]⟩
    have hxv : x ≠ v := fun e => by
      subst e
      have : y = u := hone y hy k5 k2
      subst this
      simp [huv] at k3 k4
      rw [k3] at k4; cases k4
    have hyv : y ≠ v := fun e => by
      subst e
      have : x = u := hone x hx (by rw [h.sym]; exact k5) k1
      subst this
      simp [huv] at k3 k4
      rw [k3] at k4; cases k4
    simp [hxv] at k3
    simp [hyv] at k4
    exact ⟨x, y, hx, hy, off_false.2 ⟨k1, hxv⟩, off_false.2 ⟨k2, hyv⟩, k3, k4, k5⟩

/-! ### written as a row -/
/-- the least end -/
def lf (n : Nat) (A : Nat → Nat → Bool) (g : Nat → Bool) : Nat := first (fun v => !g v && decide (deg n A g v = 1)) n 0
/-- the first one beside -/
def nb (n : Nat) (A : Nat → Nat → Bool) (g : Nat → Bool) (v : Nat) : Nat := first (fun w => A v w && !g w) n 0
def code (n : Nat) (A : Nat → Nat → Bool) : Nat → (Nat → Bool) → List Nat
  | 0, _ => []
  | r + 1, g => nb n A g (lf n A g) :: code n A r (off g (lf n A g))
theorem TS.lf_spec (h : TS n A g m) (hm : 2 ≤ m) : lf n A g < n ∧ g (lf n A g) = false ∧ deg n A g (lf n A g) = 1 ∧ ∀ j, j < lf n A g → g j = false → deg n A g j ≠ 1 := by
  obtain ⟨v, hv, hg, hd⟩ := h.leaf hm
  obtain ⟨_, a2, a3, a4⟩ := first_spec (p := fun v => !g v && decide (deg n A g v = 1)) n 0 v (Nat.zero_le _) (by omega) (by simp [hg, hd])
  simp only [Bool.and_eq_true, Bool.not_eq_true', decide_eq_true_eq] at a3
  refine ⟨Nat.lt_of_le_of_lt a2 hv, a3.1, a3.2, fun j hj hgj e => ?_⟩
  have := a4 j (Nat.zero_le _) hj
  simp [hgj, e] at this
theorem nb_spec {v : Nat} (hd : deg n A g v = 1) : nb n A g v < n ∧ A v (nb n A g v) = true ∧ g (nb n A g v) = false ∧ ∀ w, w < n → A v w = true → g w = false → w = nb n A g v := by
  obtain ⟨u, hu, h1, h2, h3⟩ := only_one hd
  obtain ⟨_, a2, a3, _⟩ := first_spec (p := fun w => A v w && !g w) n 0 u (Nat.zero_le _) (by omega) (by simp [h1, h2])
  simp only [Bool.and_eq_true, Bool.not_eq_true'] at a3
  have hlt := Nat.lt_of_le_of_lt a2 hu
  have e := h3 _ hlt a3.1 a3.2
  exact ⟨hlt, a3.1, a3.2, fun w hw k1 k2 => (h3 w hw k1 k2).trans e.symm⟩
theorem code_len (n : Nat) (A : Nat → Nat → Bool) : ∀ (r : Nat) (g : Nat → Bool), (code n A r g).length = r
  | 0, _ => rfl
  | r + 1, g => by
    show (nb n A g (lf n A g) :: code n A r (off g (lf n A g))).length = r + 1
    rw [List.length_cons, code_len n A r]
theorem code_alive : ∀ (r : Nat) (g : Nat → Bool), TS n A g (r + 2) → ∀ x ∈ code n A r g, x < n ∧ g x = false
  | 0, _, _, x, hx => absurd hx (by simp [code])
  | r + 1, g, h, x, hx => by
    obtain ⟨l1, l2, l3, _⟩ := h.lf_spec (by omega)
    obtain ⟨n1, n2, n3, _⟩ := nb_spec l3
    have e : code n A (r + 1) g = nb n A g (lf n A g) :: code n A r (off g (lf n A g)) := rfl
    rw [e] at hx
    rcases List.mem_cons.1 hx with rfl | hx
    · exact ⟨n1, n3⟩
    · have := code_alive r _ (h.less (by omega) l1 l2 l3) x hx
      exact ⟨this.1, (off_false.1 this.2).1⟩
/-- how often each point is written -/
theorem deg_count : ∀ (r : Nat) (g : Nat → Bool), TS n A g (r + 2) → ∀ v, v < n → g v = false → deg n A g v = 1 + (code n A r g).count v
  | 0, g, h, v, hv, hg => by
    have h1 := h.pos (by omega) hv hg
    obtain ⟨w, hw, hgw, hne⟩ := other hv (by rw [h.liv]; omega)
    have h2 := h.pos (by omega) hw hgw
    have ht := h.tot
    unfold Pf.tot at ht
    rw [sm_but hv, sm_but hw] at ht
    simp only [hg, hgw, if_neg hne] at ht
    simp at ht
    simp [code]
    omega
  | r + 1, g, h, v, hv, hg => by
    obtain ⟨l1, l2, l3, _⟩ := h.lf_spec (by omega)
    obtain ⟨n1, n2, n3, n4⟩ := nb_spec l3
    have h' := h.less (by omega) l1 l2 l3
    have e : code n A (r + 1) g = nb n A g (lf n A g) :: code n A r (off g (lf n A g)) := rfl
    rw [e, List.count_cons]
    have hnl : nb n A g (lf n A g) ≠ lf n A g := fun e => by rw [e, h.irr _ l1] at n2; cases n2
    by_cases ev : v = lf n A g
    · subst ev
      have hno : lf n A g ∉ code n A r (off g (lf n A g)) := fun hm => (off_false.1 (code_alive r _ h' _ hm).2).2 rfl
      rw [List.count_eq_zero.2 hno, l3]
      simp [hnl]
    · have ih := deg_count r _ h' v hv (off_false.2 ⟨hg, ev⟩)
      have hd := deg_off (A := A) (w := v) l1 l2
      rw [hd, ih]
      have : A v (lf n A g) = decide (nb n A g (lf n A g) = v) := by
        rw [h.sym]
        cases hh : A (lf n A g) v with
        | true => exact (decide_eq_true (n4 v hv hh hg).symm).symm
        | false => exact (decide_eq_false fun e => by rw [e] at n2; rw [hh] at n2; cases n2).symm
      rw [this]
      by_cases ex : nb n A g (lf n A g) = v <;> simp [ex] <;> omega

/-! ### read from a row -/
/-- the least one that is there and is not written any more -/
def free (n : Nat) (g : Nat → Bool) (row : List Nat) : Nat := first (fun v => !g v && !row.contains v) n 0
/-- the two that are left -/
def fst2 (n : Nat) (g : Nat → Bool) : Nat := first (fun v => !g v) n 0
def dec (n : Nat) : List Nat → (Nat → Bool) → List (Nat × Nat)
  | [], g => [(fst2 n g, fst2 n (off g (fst2 n g)))]
  | x :: row, g => (free n g (x :: row), x) :: dec n row (off g (free n g (x :: row)))
/-- beside each other by some lines -/
def by_ (L : List (Nat × Nat)) (a b : Nat) : Bool := L.contains (a, b) || L.contains (b, a)
theorem by_comm (L : List (Nat × Nat)) (a b : Nat) : by_ L a b = by_ L b a := by unfold by_; rw [Bool.or_comm]
theorem by_iff {L : List (Nat × Nat)} {a b : Nat} : by_ L a b = true ↔ (a, b) ∈ L ∨ (b, a) ∈ L := by unfold by_; simp
theorem by_cons (p : Nat × Nat) (L : List (Nat × Nat)) (a b : Nat) : by_ (p :: L) a b = (decide ((a, b) = p ∨ (b, a) = p) || by_ L a b) := by
  rw [Bool.eq_iff_iff, by_iff, Bool.or_eq_true, by_iff, decide_eq_true_eq, List.mem_cons, List.mem_cons]
  constructor
  · rintro ((h | h) | (h | h))
    · exact .inl (.inl h)
    · exact .inr (.inl h)
    · exact .inl (.inr h)
    · exact .inr (.inr h)
  · rintro ((h | h) | (h | h))
    · exact .inl (.inl h)
    · exact .inr (.inl h)
    · exact .inl (.inr h)
    · exact .inr (.inr h)
theorem fst2_spec (h : 1 ≤ alive n g) : fst2 n g < n ∧ g (fst2 n g) = false ∧ ∀ j, j < fst2 n g → g j = true := by
  have hex : ∃ v, v < n ∧ g v = false := by
    refine Classical.byContradiction fun hno => ?_
    have : alive n g = sm (fun _ => 0) n := sm_congr fun v hv => by
      cases hg : g v with
      | true => rfl
      | false => exact absurd ⟨v, hv, hg⟩ hno
    rw [sm_zero] at this
    omega
  obtain ⟨v, hv, hg⟩ := hex
  obtain ⟨_, a2, a3, a4⟩ := first_spec (p := fun v => !g v) n 0 v (Nat.zero_le _) (by omega) (by simp [hg])
  simp only [Bool.not_eq_true'] at a3
  exact ⟨Nat.lt_of_le_of_lt a2 hv, a3, fun j hj => by simpa using a4 j (Nat.zero_le _) hj⟩
theorem free_spec {n : Nat} {g : Nat → Bool} {row : List Nat} (h : row.length < alive n g) : free n g row < n ∧ g (free n g row) = false ∧ free n g row ∉ row ∧ ∀ j, j < free n g row → g j = false → j ∈ row := by
  have hex : ∃ v, v < n ∧ g v = false ∧ v ∉ row := by
    refine Classical.byContradiction fun hno => ?_
    have hle : alive n g ≤ row.length := by
      have h1 : alive n g = ((List.range n).filter fun v => !g v).length := by
        unfold alive
        have : ∀ k, sm (fun v => Bool.toNat (!g v)) k = ((List.range k).filter fun v => !g v).length := by
          intro k
          induction k with
          | zero => rfl
          | succ k ih =>
            rw [List.range_succ, List.filter_append, List.length_append, ← ih]
            show _ + Bool.toNat (!g k) = _
            cases hgk : g k <;> simp [hgk]
        exact this n
      rw [h1]
      refine List.Nodup.length_le_of_subset (List.Pairwise.filter _ (show List.Pairwise (· ≠ ·) (List.range n) from List.nodup_range)) fun v hv => ?_
      have := List.mem_filter.1 hv
      refine Classical.byContradiction fun hn => hno ⟨v, List.mem_range.1 this.1, by simpa using this.2, hn⟩
    omega
  obtain ⟨v, hv, hg, hn⟩ := hex
  obtain ⟨_, a2, a3, a4⟩ := first_spec (p := fun v => !g v && !row.contains v) n 0 v (Nat.zero_le _) (by omega) (by simp [hg, hn])
  simp only [Bool.and_eq_true, Bool.not_eq_true'] at a3
  have hno : free n g row ∉ row := fun hm => by
    have hm' : row.contains (first (fun v => !g v && !row.contains v) n 0) = true := List.contains_iff_mem.2 hm
    rw [a3.2] at hm'
    cases hm'
  refine ⟨Nat.lt_of_le_of_lt a2 hv, a3.1, hno, fun j hj hgj => ?_⟩
  have := a4 j (Nat.zero_le _) hj
  simp [hgj] at this
  exact this
theorem dec_off {n : Nat} {g : Nat → Bool} {v : Nat} {row : List Nat} {r : Nat} (hrow : ∀ x ∈ row, x < n ∧ off g v x = false) (hlen : row.length = r) (hal : alive n (off g v) = r + 2) : ∀ p ∈ dec n row (off g v), p.1 ≠ v ∧ p.2 ≠ v := by
  have key : ∀ (row : List Nat) (g : Nat → Bool) (r : Nat), (∀ x ∈ row, x < n ∧ g x = false) → row.length = r → alive n g = r + 2 → ∀ p ∈ dec n row g, (p.1 < n ∧ g p.1 = false) ∧ (p.2 < n ∧ g p.2 = false) := by
    intro row
    induction row with
    | nil =>
      intro g r _ hl ha p hp
      obtain ⟨p1, p2, _⟩ := fst2_spec (n := n) (g := g) (by omega)
      have hal := alive_off p1 p2
      obtain ⟨q1, q2, _⟩ := fst2_spec (n := n) (g := off g (fst2 n g)) (by omega)
      have : p = (fst2 n g, fst2 n (off g (fst2 n g))) := by simpa [dec] using hp
      subst this
      exact ⟨⟨p1, p2⟩, q1, (off_false.1 q2).1⟩
    | cons x row ih =>
      intro g r hr hl ha p hp
      have hf := free_spec (n := n) (g := g) (row := x :: row) (by rw [hl, ha]; omega)
      have ed : dec n (x :: row) g = (free n g (x :: row), x) :: dec n row (off g (free n g (x :: row))) := rfl
      rw [ed] at hp
      rcases List.mem_cons.1 hp with rfl | hp
      · exact ⟨⟨hf.1, hf.2.1⟩, hr x (by simp)⟩
      · have hal := alive_off hf.1 hf.2.1
        have hl' : row.length + 1 = r := by simpa using hl
        have := ih (off g (free n g (x :: row))) row.length (fun y hy => ⟨(hr y (List.mem_cons_of_mem _ hy)).1, off_false.2 ⟨(hr y (List.mem_cons_of_mem _ hy)).2, fun e => hf.2.2.1 (by rw [← e]; exact List.mem_cons_of_mem _ hy)⟩⟩) rfl (by omega) p hp
        exact ⟨⟨this.1.1, (off_false.1 this.1.2).1⟩, this.2.1, (off_false.1 this.2.2).1⟩
  intro p hp
  have := key row (off g v) r hrow hlen hal p hp
  exact ⟨(off_false.1 this.1.2).2, (off_false.1 this.2.2).2⟩
/-- reading gives back what was written -/
theorem dec_code : ∀ (r : Nat) (g : Nat → Bool), TS n A g (r + 2) → ∀ a b, a < n → b < n → g a = false → g b = false → by_ (dec n (code n A r g) g) a b = A a b
  | 0, g, h, a, b, ha, hb, hga, hgb => by
    obtain ⟨p1, p2, _⟩ := fst2_spec (n := n) (g := g) (by rw [h.liv]; omega)
    have hal := alive_off p1 p2
    have hl := h.liv
    obtain ⟨q1, q2, _⟩ := fst2_spec (n := n) (g := off g (fst2 n g)) (by omega)
    obtain ⟨q3, q4⟩ := off_false.1 q2
    have htwo : ∀ w, w < n → g w = false → w = fst2 n g ∨ w = fst2 n (off g (fst2 n g)) := fun w hw hgw => by
      refine Classical.byContradiction fun hno => ?_
      have h1 : w ≠ fst2 n g := fun e => hno (.inl e)
      have h2 : w ≠ fst2 n (off g (fst2 n g)) := fun e => hno (.inr e)
      have a1 := alive_off q1 q2
      have a2 := alive_off (g := off (off g (fst2 n g)) (fst2 n (off g (fst2 n g)))) hw (off_false.2 ⟨off_false.2 ⟨hgw, h1⟩, h2⟩)
      omega
    have e : dec n (code n A 0 g) g = [(fst2 n g, fst2 n (off g (fst2 n g)))] := rfl
    rw [e]
    have hAxy : A (fst2 n g) (fst2 n (off g (fst2 n g))) = true := by
      obtain ⟨u, w, hu, hw, k1, k2, k3, k4, k5⟩ := h.con (fun z => decide (z = fst2 n g)) ⟨_, p1, p2, by simp⟩ ⟨_, q1, q3, by simpa using q4⟩
      have e1 : u = fst2 n g := by simpa using k3
      have e2 : w = fst2 n (off g (fst2 n g)) := (htwo w hw k2).resolve_left (by simpa using k4)
      rw [e1, e2] at k5
      exact k5
    generalize fst2 n (off g (fst2 n g)) = y at *
    generalize fst2 n g = x at *
    have hxx := h.irr x p1
    have hyy := h.irr y q1
    have hyx : A y x = true := by rw [h.sym]; exact hAxy
    rcases htwo a ha hga with rfl | rfl <;> rcases htwo b hb hgb with rfl | rfl
    · rw [hxx]; simp [by_, Ne.symm q4, q4]
    · rw [hAxy]; simp [by_]
    · rw [hyx]; simp [by_]
    · rw [hyy]; simp [by_, q4]
  | r + 1, g, h, a, b, ha, hb, hga, hgb => by
    obtain ⟨l1, l2, l3, l4⟩ := h.lf_spec (by omega)
    obtain ⟨n1, n2, n3, n4⟩ := nb_spec l3
    have h' := h.less (by omega) l1 l2 l3
    have ec : code n A (r + 1) g = nb n A g (lf n A g) :: code n A r (off g (lf n A g)) := rfl
    have ef : free n g (code n A (r + 1) g) = lf n A g := by
      unfold free lf
      refine first_congr n 0 fun v _ hv => ?_
      cases hg : g v with
      | true => rfl
      | false =>
        have hd := deg_count (r + 1) g h v (by omega) hg
        simp only [Bool.not_false, Bool.true_and]
        rw [Bool.eq_iff_iff]
        simp only [Bool.not_eq_true', decide_eq_true_eq]
        rw [hd]
        constructor
        · intro hc
          have hn : v ∉ code n A (r + 1) g := fun hm => by rw [← List.contains_iff_mem, hc] at hm; cases hm
          rw [List.count_eq_zero.2 hn]
        · intro hc
          have hz : (code n A (r + 1) g).count v = 0 := by omega
          have hn := List.count_eq_zero.1 hz
          cases hcc : (code n A (r + 1) g).contains v with
          | false => rfl
          | true => exact absurd (List.contains_iff_mem.1 hcc) hn
    have ed : dec n (code n A (r + 1) g) g = (lf n A g, nb n A g (lf n A g)) :: dec n (code n A r (off g (lf n A g))) (off g (lf n A g)) := by
      have e1 : dec n (code n A (r + 1) g) g = (free n g (code n A (r + 1) g), nb n A g (lf n A g)) :: dec n (code n A r (off g (lf n A g))) (off g (free n g (code n A (r + 1) g))) := rfl
      rw [ef] at e1
      exact e1
    rw [ed, by_cons]
    have hnl : nb n A g (lf n A g) ≠ lf n A g := fun e => by rw [e, h.irr _ l1] at n2; cases n2
    have hin : ∀ p ∈ dec n (code n A r (off g (lf n A g))) (off g (lf n A g)), p.1 ≠ lf n A g ∧ p.2 ≠ lf n A g := fun p hp => dec_off (r := r) (hrow := fun x hx => code_alive r _ h' x hx) (hlen := code_len n A r _) (hal := h'.liv) p hp
    have hside : ∀ w, w < n → g w = false → (decide ((lf n A g, w) = (lf n A g, nb n A g (lf n A g)) ∨ (w, lf n A g) = (lf n A g, nb n A g (lf n A g))) || by_ (dec n (code n A r (off g (lf n A g))) (off g (lf n A g))) (lf n A g) w) = A (lf n A g) w := fun w hw hgw => by
      have hb0 : by_ (dec n (code n A r (off g (lf n A g))) (off g (lf n A g))) (lf n A g) w = false := by
        cases hh : by_ (dec n (code n A r (off g (lf n A g))) (off g (lf n A g))) (lf n A g) w with
        | false => rfl
        | true =>
          rcases by_iff.1 hh with hm | hm
          · exact absurd rfl (hin _ hm).1
          · exact absurd rfl (hin _ hm).2
      rw [hb0, Bool.or_false]
      cases hA : A (lf n A g) w with
      | true =>
        have := n4 w hw hA hgw
        rw [this]; simp
      | false =>
        refine decide_eq_false fun hh => ?_
        rcases hh with hh | hh
        · have := (Prod.mk.inj hh).2
          rw [this, n2] at hA; cases hA
        · have := (Prod.mk.inj hh).2
          exact hnl this.symm
    by_cases ea : a = lf n A g
    · subst ea; exact hside b hb hgb
    · by_cases eb : b = lf n A g
      · subst eb
        rw [h.sym a, ← hside a ha hga, by_comm]
        congr 1
        rw [decide_eq_decide]
        exact ⟨fun h => h.symm, fun h => h.symm⟩
      · have ih := dec_code r _ h' a b ha hb (off_false.2 ⟨hga, ea⟩) (off_false.2 ⟨hgb, eb⟩)
        rw [ih]
        have : decide ((a, b) = (lf n A g, nb n A g (lf n A g)) ∨ (b, a) = (lf n A g, nb n A g (lf n A g))) = false := decide_eq_false fun hh => by
          rcases hh with hh | hh
          · exact ea (Prod.mk.inj hh).1
          · exact eb (Prod.mk.inj hh).1
        rw [this, Bool.false_or]
end
end Go.Proofs.YtnekbgeablhgiaaDoor.Pf

set_option linter.unusedSimpArgs false
set_option linter.unusedVariables false
namespace Go.Proofs.YtnekbgeablhgiaaDoor.Pf
open Sg (first first_spec first_congr)
open Tr (Tree Met ad far)
open Cl (lst mem_lst lst_ends)

theorem sm_const (c : Nat) : ∀ k, sm (fun _ => c) k = c * k
  | 0 => by simp [sm]
  | k + 1 => by show sm (fun _ => c) k + c = c * (k + 1); rw [sm_const c k, Nat.mul_succ]
section
variable {n : Nat} {ls : List Gr.Ln}
/-- a tree -/
theorem tree_ts (h : Tree n ls) : TS n (ad ls) (fun _ => false) n := by
  have hm := h.met
  refine ⟨Tr.ad_comm ls, fun a ha => ?_, ?_, ?_, fun S ⟨a, ha, _, h2⟩ ⟨b, hb, _, h4⟩ => ?_⟩
  · cases hA : ad ls a a with
    | false => rfl
    | true =>
      have := hm.beside ha ha hA
      have := (hm.zero a a ha ha).2 rfl
      omega
  · show sm (fun v => Bool.toNat (!false)) n = n
    have := sm_const 1 n
    rw [Nat.one_mul] at this
    exact this
  · have hn : 0 < n := by have := h.len; omega
    have e1 : Pf.tot n (ad ls) (fun _ => false) = sm (fun v => sm (fun w => Bool.toNat (ad ls v w)) n) n := by
      unfold Pf.tot deg
      refine sm_congr fun v _ => ?_
      simp
    have e2 : ∀ v w, v < n → w < n → Bool.toNat (ad ls v w) = Bool.toNat (ad ls v w && decide (far n ls 0 v = far n ls 0 w + 1)) + Bool.toNat (ad ls w v && decide (far n ls 0 w = far n ls 0 v + 1)) := fun v w hv hw => by
      rw [Tr.ad_comm ls w v]
      cases hA : ad ls v w with
      | false => simp
      | true =>
        rcases hm.one 0 v w hn hv hw hA with e | e
        · simp [e, show ¬ far n ls 0 w = far n ls 0 w + 1 + 1 by omega]
        · simp [e, show ¬ far n ls 0 v = far n ls 0 v + 1 + 1 by omega]
    have e3 : sm (fun v => sm (fun w => Bool.toNat (ad ls v w)) n) n = sm (fun v => sm (fun w => Bool.toNat (ad ls v w && decide (far n ls 0 v = far n ls 0 w + 1))) n) n + sm (fun v => sm (fun w => Bool.toNat (ad ls w v && decide (far n ls 0 w = far n ls 0 v + 1))) n) n := by
      rw [← sm_add]
      refine sm_congr fun v hv => ?_
      rw [← sm_add]
      exact sm_congr fun w hw => e2 v w hv hw
    have e4 : sm (fun v => sm (fun w => Bool.toNat (ad ls w v && decide (far n ls 0 w = far n ls 0 v + 1))) n) n = sm (fun v => sm (fun w => Bool.toNat (ad ls v w && decide (far n ls 0 v = far n ls 0 w + 1))) n) n := by
      rw [sm_swap]
    have e5 : sm (fun v => sm (fun w => Bool.toNat (ad ls v w && decide (far n ls 0 v = far n ls 0 w + 1))) n) n + 1 = n := by
      have hrow : ∀ v, v < n → sm (fun w => Bool.toNat (ad ls v w && decide (far n ls 0 v = far n ls 0 w + 1))) n = if v = 0 then 0 else 1 := fun v hv => by
        by_cases e : v = 0
        · subst e
          rw [if_pos rfl]
          have h0 := (hm.zero 0 0 hn hn).2 rfl
          have : sm (fun w => Bool.toNat (ad ls 0 w && decide (far n ls 0 0 = far n ls 0 w + 1))) n = sm (fun _ => 0) n := sm_congr fun w _ => by
            rw [h0, decide_eq_false (show ¬ 0 = far n ls 0 w + 1 by omega)]
            simp
          rw [this, sm_zero]
        · rw [if_neg e]
          obtain ⟨u, hu, hA, hd⟩ := hm.near 0 v hn hv e
          rw [sm_one hu fun w hw hne => by
            cases hB : ad ls v w with
            | false => simp
            | true =>
              have : ¬ far n ls 0 v = far n ls 0 w + 1 := fun e2 => hne (hm.only 0 v w u hn hv hw hu hB hA e2 hd)
              simp [this]]
          rw [hA, decide_eq_true hd]
          rfl
      rw [sm_congr hrow]
      have h1 : sm (fun v => if v = 0 then 0 else 1) n + 1 = sm (fun _ => 1) n := by
        rw [sm_but (f := fun _ => 1) hn]
        omega
      rw [h1, sm_const]
      omega
    rw [e1, e3, e4]
    omega
  · -- a step that leaves S
    have key : ∀ d x, x < n → S x = true → far n ls b x ≤ d → ∃ a b, a < n ∧ b < n ∧ false = false ∧ false = false ∧ S a = true ∧ S b = false ∧ ad ls a b = true := by
      intro d
      induction d with
      | zero =>
        intro x hx hS hd
        have := (hm.zero b x hb hx).1 (by omega)
        subst this
        rw [h4] at hS; cases hS
      | succ d ih =>
        intro x hx hS hd
        by_cases e : x = b
        · subst e; rw [h4] at hS; cases hS
        · obtain ⟨u, hu, hA, he⟩ := hm.near b x hb hx e
          cases hSu : S u with
          | false => exact ⟨x, u, hx, hu, rfl, rfl, hS, hSu, hA⟩
          | true => exact ih u hu hSu (by omega)
    exact key (far n ls b a) a ha h2 (Nat.le_refl _)
end

/-! ### only those that are there count -/
section
variable {n : Nat} {A B : Nat → Nat → Bool} {g : Nat → Bool}
theorem deg_congr {v : Nat} (h : ∀ w, w < n → g w = false → A v w = B v w) : deg n A g v = deg n B g v := sm_congr fun w hw => by
  cases hg : g w with
  | true => simp
  | false => rw [h w hw hg]
theorem code_congr : ∀ (r : Nat) (g : Nat → Bool), r + 2 ≤ alive n g → (∀ a b, a < n → b < n → g a = false → g b = false → A a b = B a b) → TS n A g (r + 2) → code n A r g = code n B r g
  | 0, _, _, _, _ => rfl
  | r + 1, g, hal, h, hT => by
    obtain ⟨l1, l2, l3, _⟩ := hT.lf_spec (by omega)
    have e1 : lf n A g = lf n B g := first_congr n 0 fun v _ hv => by
      cases hg : g v with
      | true => rfl
      | false => rw [deg_congr fun w hw hgw => h v w (by omega) hw hg hgw]
    have e2 : nb n A g (lf n A g) = nb n B g (lf n A g) := first_congr n 0 fun w _ hw => by
      cases hg : g w with
      | true => simp
      | false => rw [h _ w l1 (by omega) l2 hg]
    show nb n A g (lf n A g) :: code n A r (off g (lf n A g)) = nb n B g (lf n B g) :: code n B r (off g (lf n B g))
    rw [← e1, e2, code_congr r (off g (lf n A g)) (by have := alive_off l1 l2; omega) (fun a b ha hb h1 h2 => h a b ha hb (off_false.1 h1).1 (off_false.1 h2).1) (hT.less (by omega) l1 l2 l3)]
theorem TS.congr {m : Nat} (hT : TS n A g m) (hsym : ∀ a b, B a b = B b a) (hirr : ∀ a, a < n → B a a = false) (h : ∀ a b, a < n → b < n → g a = false → g b = false → A a b = B a b) : TS n B g m := by
  refine ⟨hsym, hirr, hT.liv, ?_, fun S hS hS' => ?_⟩
  · have : Pf.tot n B g = Pf.tot n A g := sm_congr fun v hv => by
      cases hg : g v with
      | true => rfl
      | false => rw [deg_congr fun w hw hgw => (h v w hv hw hg hgw).symm]
    rw [this]; exact hT.tot
  · obtain ⟨a, b, ha, hb, h1, h2, h3, h4, h5⟩ := hT.con S hS hS'
    exact ⟨a, b, ha, hb, h1, h2, h3, h4, by rw [← h a b ha hb h1 h2]; exact h5⟩
end

/-! ### what is read from a row -/
section
variable {n : Nat}
theorem dec_alive : ∀ (row : List Nat) (g : Nat → Bool), (∀ x ∈ row, x < n ∧ g x = false) → alive n g = row.length + 2 → ∀ p ∈ dec n row g, (p.1 < n ∧ g p.1 = false) ∧ (p.2 < n ∧ g p.2 = false) ∧ p.1 ≠ p.2
  | [], g, _, ha, p, hp => by
    obtain ⟨p1, p2, _⟩ := fst2_spec (n := n) (g := g) (by omega)
    have hal := alive_off p1 p2
    obtain ⟨q1, q2, _⟩ := fst2_spec (n := n) (g := off g (fst2 n g)) (by simp at ha; omega)
    have : p = (fst2 n g, fst2 n (off g (fst2 n g))) := by simpa [dec] using hp
    subst this
    exact ⟨⟨p1, p2⟩, ⟨q1, (off_false.1 q2).1⟩, fun e => (off_false.1 q2).2 e.symm⟩
  | x :: row, g, hr, ha, p, hp => by
    have hf := free_spec (n := n) (g := g) (row := x :: row) (by rw [ha]; omega)
    have ed : dec n (x :: row) g = (free n g (x :: row), x) :: dec n row (off g (free n g (x :: row))) := rfl
    rw [ed] at hp
    rcases List.mem_cons.1 hp with rfl | hp
    · exact ⟨⟨hf.1, hf.2.1⟩, hr x (by simp), fun e => hf.2.2.1 (by have e' : free n g (x :: row) = x := e; rw [e']; simp)⟩
    · have hal := alive_off hf.1 hf.2.1
      have := dec_alive row (off g (free n g (x :: row))) (fun y hy => ⟨(hr y (List.mem_cons_of_mem _ hy)).1, off_false.2 ⟨(hr y (List.mem_cons_of_mem _ hy)).2, fun e => hf.2.2.1 (by rw [← e]; exact List.mem_cons_of_mem _ hy)⟩⟩) (by simp at ha; omega) p hp
      exact ⟨⟨this.1.1, (off_false.1 this.1.2).1⟩, ⟨this.2.1.1, (off_false.1 this.2.1.2).1⟩, this.2.2⟩
theorem by_irr {row : List Nat} {g : Nat → Bool} (hr : ∀ x ∈ row, x < n ∧ g x = false) (ha : alive n g = row.length + 2) (a : Nat) : by_ (dec n row g) a a = false := by
  cases h : by_ (dec n row g) a a with
  | false => rfl
  | true => rcases by_iff.1 h with h | h <;> exact absurd rfl (dec_alive row g hr ha _ h).2.2
/-- how often each point is there; all hang together; it is written as the row -/
theorem dec_tree : ∀ (row : List Nat) (g : Nat → Bool), (∀ x ∈ row, x < n ∧ g x = false) → alive n g = row.length + 2 →
    (∀ w, w < n → g w = false → deg n (by_ (dec n row g)) g w = 1 + row.count w) ∧
    (∀ S : Nat → Bool, (∃ a, a < n ∧ g a = false ∧ S a = true) → (∃ b, b < n ∧ g b = false ∧ S b = false) → ∃ a b, a < n ∧ b < n ∧ g a = false ∧ g b = false ∧ S a = true ∧ S b = false ∧ by_ (dec n row g) a b = true)
  | [], g, hr, ha => by
    obtain ⟨p1, p2, _⟩ := fst2_spec (n := n) (g := g) (by omega)
    have hal := alive_off p1 p2
    obtain ⟨q1, q2, _⟩ := fst2_spec (n := n) (g := off g (fst2 n g)) (by simp at ha; omega)
    obtain ⟨q3, q4⟩ := off_false.1 q2
    have htwo : ∀ w, w < n → g w = false → w = fst2 n g ∨ w = fst2 n (off g (fst2 n g)) := fun w hw hgw => by
      refine Classical.byContradiction fun hno => ?_
      have h1 : w ≠ fst2 n g := fun e => hno (.inl e)
      have h2 : w ≠ fst2 n (off g (fst2 n g)) := fun e => hno (.inr e)
      have a1 := alive_off q1 q2
      have a2 := alive_off (g := off (off g (fst2 n g)) (fst2 n (off g (fst2 n g)))) hw (off_false.2 ⟨off_false.2 ⟨hgw, h1⟩, h2⟩)
      simp at ha
      omega
    have e : dec n [] g = [(fst2 n g, fst2 n (off g (fst2 n g)))] := rfl
    rw [e]
    generalize fst2 n (off g (fst2 n g)) = y at *
    generalize fst2 n g = x at *
    have hxy : by_ [(x, y)] x y = true := by simp [by_]
    have hyx : by_ [(x, y)] y x = true := by simp [by_]
    have hxx : by_ [(x, y)] x x = false := by simp [by_, Ne.symm q4, q4]
    have hyy : by_ [(x, y)] y y = false := by simp [by_, q4]
    constructor
    · intro w hw hgw
      rcases htwo w hw hgw with rfl | rfl
      · unfold deg
        rw [sm_one q1 fun i hi hne => by
          cases hgi : g i with
          | true => simp
          | false => rcases htwo i hi hgi with rfl | rfl
                     · simp [hxx]
                     · exact absurd rfl hne]
        simp [hxy, q3]
      · unfold deg
        rw [sm_one p1 fun i hi hne => by
          cases hgi : g i with
          | true => simp
          | false => rcases htwo i hi hgi with rfl | rfl
                     · exact absurd rfl hne
                     · simp [hyy]]
        simp [hyx, p2]
    · rintro S ⟨a, ha', h1, h2⟩ ⟨b, hb', h3, h4⟩
      refine ⟨a, b, ha', hb', h1, h3, h2, h4, ?_⟩
      rcases htwo a ha' h1 with rfl | rfl <;> rcases htwo b hb' h3 with rfl | rfl
      · rw [h2] at h4; cases h4
      · exact hxy
      · exact hyx
      · rw [h2] at h4; cases h4
  | x :: row, g, hr, ha => by
    have hf := free_spec (n := n) (g := g) (row := x :: row) (by rw [ha]; omega)
    obtain ⟨f1, f2, f3, _⟩ := hf
    have ed : dec n (x :: row) g = (free n g (x :: row), x) :: dec n row (off g (free n g (x :: row))) := rfl
    rw [ed]
    have hal := alive_off f1 f2
    have hr' : ∀ y ∈ row, y < n ∧ off g (free n g (x :: row)) y = false := fun y hy => ⟨(hr y (List.mem_cons_of_mem _ hy)).1, off_false.2 ⟨(hr y (List.mem_cons_of_mem _ hy)).2, fun e => f3 (by rw [← e]; exact List.mem_cons_of_mem _ hy)⟩⟩
    have ha' : alive n (off g (free n g (x :: row))) = row.length + 2 := by simp at ha; omega
    obtain ⟨ih1, ih2⟩ := dec_tree row _ hr' ha'
    have hin := dec_alive row _ hr' ha'
    have hx := hr x (by simp)
    have hfx : x ≠ free n g (x :: row) := fun e => f3 (by rw [← e]; simp)
    generalize dec n row (off g (free n g (x :: row))) = L at *
    generalize free n g (x :: row) = v at *
    have hLv : ∀ w, by_ L v w = false := fun w => by
      cases hh : by_ L v w with
      | false => rfl
      | true =>
        rcases by_iff.1 hh with hm | hm
        · exact absurd rfl (off_false.1 (hin _ hm).1.2).2
        · exact absurd rfl (off_false.1 (hin _ hm).2.1.2).2
    have hv1 : ∀ w, by_ ((v, x) :: L) v w = decide (w = x) := fun w => by
      rw [by_cons, hLv, Bool.or_false]
      by_cases e : w = x
      · simp [e]
      · have : ¬ (w, v) = (v, x) := fun h => hfx (Prod.mk.inj h).2.symm
        simp [e, this]
    have hoth : ∀ a b, a ≠ v → b ≠ v → by_ ((v, x) :: L) a b = by_ L a b := fun a b h1 h2 => by
      rw [by_cons]
      have : decide ((a, b) = (v, x) ∨ (b, a) = (v, x)) = false := decide_eq_false fun h => by
        rcases h with h | h
        · exact h1 (Prod.mk.inj h).1
        · exact h2 (Prod.mk.inj h).1
      rw [this, Bool.false_or]
    constructor
    · intro w hw hgw
      rw [List.count_cons]
      by_cases e : w = v
      · subst e
        have hno : w ∉ row := fun hm => f3 (List.mem_cons_of_mem _ hm)
        rw [List.count_eq_zero.2 hno]
        unfold deg
        rw [sm_one hx.1 fun i hi hne => by rw [hv1]; simp [hne]]
        rw [hv1]
        simp [hx.2, hfx]
      · rw [deg_off f1 f2, by_comm, hv1]
        have := ih1 w hw (off_false.2 ⟨hgw, e⟩)
        rw [deg_congr (A := by_ ((v, x) :: L)) (B := by_ L) fun u hu hgu => hoth w u e (off_false.1 hgu).2, this]
        by_cases ex : w = x
        · simp [ex]; omega
        · simp [ex, Ne.symm ex]
    · rintro S ⟨a, ha1, h1, h2⟩ ⟨b, hb1, h3, h4⟩
      by_cases hs1 : ∃ a, a < n ∧ off g v a = false ∧ S a = true
      · by_cases hs2 : ∃ b, b < n ∧ off g v b = false ∧ S b = false
        · obtain ⟨p, q, hp, hq, k1, k2, k3, k4, k5⟩ := ih2 S hs1 hs2
          exact ⟨p, q, hp, hq, (off_false.1 k1).1, (off_false.1 k2).1, k3, k4, by rw [hoth p q (off_false.1 k1).2 (off_false.1 k2).2]; exact k5⟩
        · have hbv : b = v := Classical.byContradiction fun e => hs2 ⟨b, hb1, off_false.2 ⟨h3, e⟩, h4⟩
          subst hbv
          have hSx : S x = true := by
            cases hS : S x with
            | true => rfl
            | false => exact absurd ⟨x, hx.1, off_false.2 ⟨hx.2, hfx⟩, hS⟩ hs2
          exact ⟨x, b, hx.1, hb1, hx.2, h3, hSx, h4, by rw [by_comm, hv1]; simp⟩
      · have hav : a = v := Classical.byContradiction fun e => hs1 ⟨a, ha1, off_false.2 ⟨h1, e⟩, h2⟩
        subst hav
        have hSx : S x = false := by
          cases hS : S x with
          | false => rfl
          | true => exact absurd ⟨x, hx.1, off_false.2 ⟨hx.2, hfx⟩, hS⟩ hs1
        exact ⟨a, x, ha1, hx.1, h1, hx.2, h2, hSx, by rw [hv1]; simp⟩
/-- the counts of a row add up -/
theorem count_sum : ∀ (row : List Nat) (g : Nat → Bool), (∀ x ∈ row, x < n ∧ g x = false) → sm (fun v => if g v = true then 0 else row.count v) n = row.length
  | [], g, _ => by
    have : sm (fun v => if g v = true then 0 else ([] : List Nat).count v) n = sm (fun _ => 0) n := sm_congr fun v _ => by split <;> rfl
    rw [this, sm_zero]; rfl
  | x :: row, g, h => by
    have ih := count_sum row g fun y hy => h y (List.mem_cons_of_mem _ hy)
    have hx := h x (by simp)
    have e : sm (fun v => if g v = true then 0 else (x :: row).count v) n = sm (fun v => (if g v = true then 0 else row.count v) + (if v = x then 1 else 0)) n := sm_congr fun v _ => by
      rw [List.count_cons]
      by_cases ev : v = x
      · subst ev; simp [hx.2]
      · cases g v <;> simp [ev, Ne.symm ev]
    rw [e, sm_add, ih, sm_one (f := fun v => if v = x then 1 else 0) hx.1 fun i _ hne => by simp [hne]]
    simp
theorem dec_ts {row : List Nat} {g : Nat → Bool} (hr : ∀ x ∈ row, x < n ∧ g x = false) (ha : alive n g = row.length + 2) : TS n (by_ (dec n row g)) g (row.length + 2) := by
  obtain ⟨h1, h2⟩ := dec_tree row g hr ha
  refine ⟨by_comm _, fun a _ => by_irr hr ha a, ha, ?_, h2⟩
  have e : Pf.tot n (by_ (dec n row g)) g = sm (fun v => Bool.toNat (!g v) + (if g v = true then 0 else row.count v)) n := sm_congr fun v hv => by
    cases hg : g v with
    | true => simp
    | false => rw [h1 v hv hg]; simp
  rw [e, sm_add, count_sum row g hr]
  have : sm (fun v => Bool.toNat (!g v)) n = row.length + 2 := ha
  omega
/-- it is written as the row -/
theorem code_dec : ∀ (row : List Nat) (g : Nat → Bool), (∀ x ∈ row, x < n ∧ g x = false) → alive n g = row.length + 2 → code n (by_ (dec n row g)) row.length g = row
  | [], _, _, _ => rfl
  | x :: row, g, hr, ha => by
    have hT := dec_ts hr ha
    obtain ⟨h1, _⟩ := dec_tree (x :: row) g hr ha
    have hf := free_spec (n := n) (g := g) (row := x :: row) (by rw [ha]; omega)
    obtain ⟨f1, f2, f3, f4⟩ := hf
    have el : lf n (by_ (dec n (x :: row) g)) g = free n g (x :: row) := first_congr n 0 fun v _ hv => by
      cases hg : g v with
      | true => rfl
      | false =>
        rw [h1 v (by omega) hg]
        simp only [Bool.not_false, Bool.true_and]
        rw [Bool.eq_iff_iff, decide_eq_true_eq, Bool.not_eq_true']
        constructor
        · intro hc
          have hn := List.count_eq_zero.1 (show (x :: row).count v = 0 by omega)
          cases hcc : (x :: row).contains v with
          | false => rfl
          | true => exact absurd (List.contains_iff_mem.1 hcc) hn
        · intro hc
          have hn : v ∉ x :: row := fun hm => by rw [List.contains_iff_mem.2 hm] at hc; cases hc
          rw [List.count_eq_zero.2 hn]
    have hd := (hT.lf_spec (by rw [List.length_cons]; omega)).2.2.1
    obtain ⟨n1, n2, n3, n4⟩ := nb_spec hd
    have hx := hr x (by simp)
    have en : nb n (by_ (dec n (x :: row) g)) g (lf n (by_ (dec n (x :: row) g)) g) = x := (n4 x hx.1 (by rw [el]; exact by_iff.2 (.inl (by show _ ∈ (free n g (x :: row), x) :: _; simp))) hx.2).symm
    have hr' : ∀ y ∈ row, y < n ∧ off g (free n g (x :: row)) y = false := fun y hy => ⟨(hr y (List.mem_cons_of_mem _ hy)).1, off_false.2 ⟨(hr y (List.mem_cons_of_mem _ hy)).2, fun e => f3 (by rw [← e]; exact List.mem_cons_of_mem _ hy)⟩⟩
    have hal := alive_off f1 f2
    have ha' : alive n (off g (free n g (x :: row))) = row.length + 2 := by simp at ha; omega
    have ih := code_dec row _ hr' ha'
    show nb n (by_ (dec n (x :: row) g)) g (lf n (by_ (dec n (x :: row) g)) g) :: code n (by_ (dec n (x :: row) g)) row.length (off g (lf n (by_ (dec n (x :: row) g)) g)) = x :: row
    rw [en, el]
    congr 1
    have hsame : ∀ a b, a < n → b < n → off g (free n g (x :: row)) a = false → off g (free n g (x :: row)) b = false → by_ (dec n row (off g (free n g (x :: row)))) a b = by_ (dec n (x :: row) g) a b := fun a b _ _ h1 h2 => by
      have ed : dec n (x :: row) g = (free n g (x :: row), x) :: dec n row (off g (free n g (x :: row))) := rfl
      rw [ed, by_cons]
      have : decide ((a, b) = (free n g (x :: row), x) ∨ (b, a) = (free n g (x :: row), x)) = false := decide_eq_false fun h => by
        rcases h with h | h
        · exact (off_false.1 h1).2 (Prod.mk.inj h).1
        · exact (off_false.1 h2).2 (Prod.mk.inj h).1
      rw [this, Bool.false_or]
    rw [← code_congr row.length _ (by omega) hsame (dec_ts hr' ha')]
    exact ih
end

/-! ### a tree again -/
section
variable {n : Nat} {B : Nat → Nat → Bool}
/-- how many lines a list by a test has -/
theorem lst_len (n : Nat) (r : Nat → Nat → Bool) : (lst n r).length = sm (fun a => sm (fun b => Bool.toNat (r a b)) n) n := by
  have h2 : ∀ a k, ((List.range k).filter (r a)).length = sm (fun b => Bool.toNat (r a b)) k := by
    intro a k
    induction k with
    | zero => rfl
    | succ k ih =>
      rw [List.range_succ, List.filter_append, List.length_append, ih]
      show _ = sm (fun b => Bool.toNat (r a b)) k + Bool.toNat (r a k)
      cases h : r a k <;> simp [h]
  have h1 : ∀ k, ((List.range k).flatMap fun a => ((List.range n).filter (r a)).map fun b => (a, b)).length = sm (fun a => sm (fun b => Bool.toNat (r a b)) n) k := by
    intro k
    induction k with
    | zero => rfl
    | succ k ih =>
      rw [List.range_succ, List.flatMap_append, List.length_append, ih]
      show _ = _ + sm (fun b => Bool.toNat (r k b)) n
      simp [h2]
  unfold lst
  rw [List.length_map]
  exact h1 n
/-- the lines of a tree that was taken together again, each once -/
def lines (n : Nat) (B : Nat → Nat → Bool) : List Gr.Ln := lst n fun a b => decide (a < b) && B a b
theorem lines_ad (hs : ∀ a b, B a b = B b a) (hi : ∀ a, a < n → B a a = false) {a b : Nat} (ha : a < n) (hb : b < n) : ad (lines n B) a b = B a b := by
  rw [Bool.eq_iff_iff]
  unfold ad
  rw [Gr.adj_iff]
  unfold lines
  rw [mem_lst, mem_lst]
  simp only [Bool.and_eq_true, decide_eq_true_eq]
  constructor
  · rintro (⟨_, _, _, h⟩ | ⟨_, _, _, h⟩)
    · exact h
    · rw [hs]; exact h
  · intro h
    rcases Nat.lt_trichotomy a b with hl | rfl | hl
    · exact .inl ⟨ha, hb, hl, h⟩
    · rw [hi a ha] at h; cases h
    · exact .inr ⟨hb, ha, hl, by rw [hs]; exact h⟩
theorem ts_tree (h : TS n B (fun _ => false) n) (hn : 0 < n) : Tree n (lines n B) := by
  refine ⟨fun p hp => ?_, ?_, fun a b ha hb => ?_⟩
  · obtain ⟨a, b, rfl, ha, hb, hr⟩ := lst_ends hp
    simp only [Bool.and_eq_true, decide_eq_true_eq] at hr
    unfold Gr.Good
    simp only
    omega
  · have e1 : (lines n B).length = sm (fun a => sm (fun b => Bool.toNat (decide (a < b) && B a b)) n) n := lst_len n _
    have e2 : Pf.tot n B (fun _ => false) = sm (fun a => sm (fun b => Bool.toNat (decide (a < b) && B a b)) n) n + sm (fun a => sm (fun b => Bool.toNat (decide (b < a) && B b a)) n) n := by
      rw [← sm_add]
      refine sm_congr fun a ha => ?_
      rw [← sm_add]
      unfold deg
      simp only [Bool.false_eq_true, if_false]
      refine sm_congr fun b hb => ?_
      rw [h.sym b a]
      rcases Nat.lt_trichotomy a b with hl | rfl | hl
      · simp [hl, show ¬ b < a by omega]
      · rw [h.irr a ha]; simp
      · simp [hl, show ¬ a < b by omega]
    have e3 : sm (fun a => sm (fun b => Bool.toNat (decide (b < a) && B b a)) n) n = sm (fun a => sm (fun b => Bool.toNat (decide (a < b) && B a b)) n) n := sm_swap _ _ _
    have ht := h.tot
    rw [e2, e3] at ht
    rw [e1]
    omega
  · refine Classical.byContradiction fun hno => ?_
    have hSb : decide (0 ≤ Wa.dist n (Wa.nrow n (lines n B)) a b) = false := decide_eq_false hno
    obtain ⟨x, y, hx, hy, _, _, h3, h4, h5⟩ := h.con (fun z => decide (0 ≤ Wa.dist n (Wa.nrow n (lines n B)) a z)) ⟨a, ha, rfl, decide_eq_true ((Wa.dist_nn (Wa.nrow_ok n _) ha).2 ⟨0, Wa.wk_zero.2 rfl⟩)⟩ ⟨b, hb, rfl, hSb⟩
    obtain ⟨k, hk⟩ := (Wa.dist_nn (Wa.nrow_ok n _) ha).1 (of_decide_eq_true h3)
    exact of_decide_eq_false h4 ((Wa.dist_nn (Wa.nrow_ok n _) ha).2 ⟨k + 1, Wa.wk_succ.2 ⟨x, hx, hk, Wa.mem_nrow.2 ⟨hy, by
      have := lines_ad h.sym h.irr hx hy
      rw [h5] at this
      exact this⟩⟩⟩)
end
end Go.Proofs.YtnekbgeablhgiaaDoor.Pf

set_option linter.unusedSimpArgs false
set_option linter.unusedVariables false
namespace Go.Proofs.YtnekbgeablhgiaaDoor.Pf
open Sg (first first_spec first_congr)
open Tr (Tree Met ad far tch)

/-! ### sums that are the same -/
theorem sm_eq {f g : Nat → Nat} : ∀ {k : Nat}, (∀ i, i < k → f i ≤ g i) → sm f k = sm g k → ∀ i, i < k → f i = g i
  | 0, _, _, i, hi => by omega
  | k + 1, h, e, i, hi => by
    have h1 := sm_le (k := k) fun i hi => h i (by omega)
    have h2 := h k (by omega)
    have e' : sm f k + f k = sm g k + g k := e
    by_cases hk : i = k
    · subst hk; omega
    · exact sm_eq (k := k) (fun i hi => h i (by omega)) (by omega) i (by omega)

/-! ### the lines that are left -/
/-- does a line lead between a and b? -/
def jo (a b : Nat) (p : Gr.Ln) : Bool := decide (p = ((a : Int), (b : Int)) ∨ p = ((b : Int), (a : Int)))
/-- two points below n -/
def Pt (n : Nat) (p : Gr.Ln) : Prop := ∃ a b : Nat, p = ((a : Int), (b : Int)) ∧ a < n ∧ b < n ∧ a ≠ b
structure Lns (n : Nat) (A : Nat → Nat → Bool) (g : Nat → Bool) (L : List Gr.Ln) : Prop where
  of : ∀ p ∈ L, ∃ a b : Nat, p = ((a : Int), (b : Int)) ∧ a < n ∧ b < n ∧ a ≠ b ∧ g a = false ∧ g b = false ∧ A a b = true
  one : ∀ a b, a < n → b < n → g a = false → g b = false → A a b = true → L.countP (jo a b) = 1
section
variable {n : Nat} {A : Nat → Nat → Bool} {g : Nat → Bool} {L : List Gr.Ln}
theorem tch_sum {p : Gr.Ln} (hp : Pt n p) {v : Nat} (hv : v < n) : sm (fun w => if jo v w p = true then 1 else 0) n = if tch (v : Int) p = true then 1 else 0 := by
  obtain ⟨a, b, rfl, ha, hb, hab⟩ := hp
  have hj : ∀ w, jo v w ((a : Int), (b : Int)) = true ↔ (a = v ∧ b = w) ∨ (a = w ∧ b = v) := fun w => by
    unfold jo
    rw [decide_eq_true_iff, Prod.mk.injEq, Prod.mk.injEq]
    omega
  have ht : tch (v : Int) ((a : Int), (b : Int)) = true ↔ a = v ∨ b = v := by
    unfold tch
    rw [decide_eq_true_iff]
    simp only
    omega
  by_cases h1 : a = v
  · rw [if_pos (ht.2 (.inl h1)), sm_one hb fun w hw hne => if_neg fun h => by rcases (hj w).1 h with h | h <;> omega, if_pos ((hj b).2 (.inl ⟨h1, rfl⟩))]
  · by_cases h2 : b = v
    · rw [if_pos (ht.2 (.inr h2)), sm_one ha fun w hw hne => if_neg fun h => by rcases (hj w).1 h with h | h <;> omega, if_pos ((hj a).2 (.inr ⟨rfl, h2⟩))]
    · rw [if_neg (fun h => by rcases ht.1 h with h | h; exact h1 h; exact h2 h)]
      have : sm (fun w => if jo v w ((a : Int), (b : Int)) = true then 1 else 0) n = sm (fun _ => 0) n := sm_congr fun w hw => if_neg fun h => by rcases (hj w).1 h with h | h <;> omega
      rw [this, sm_zero]
theorem count_tch : ∀ {L : List Gr.Ln}, (∀ p ∈ L, Pt n p) → ∀ {v : Nat}, v < n → L.countP (tch (v : Int)) = sm (fun w => L.countP (jo v w)) n
  | [], _, v, hv => by
    have : sm (fun w => List.countP (jo v w) []) n = sm (fun _ => 0) n := sm_congr fun w _ => rfl
    rw [this, sm_zero]
    rfl
  | p :: L, h, v, hv => by
    have ih := count_tch (L := L) (fun q hq => h q (List.mem_cons_of_mem _ hq)) hv
    have e : sm (fun w => List.countP (jo v w) (p :: L)) n = sm (fun w => L.countP (jo v w)) n + sm (fun w => if jo v w p = true then 1 else 0) n := by
      rw [← sm_add]
      exact sm_congr fun w _ => List.countP_cons
    rw [e, tch_sum (h p List.mem_cons_self) hv, List.countP_cons, ih]
theorem Lns.pt (h : Lns n A g L) : ∀ p ∈ L, Pt n p := fun p hp => by
  obtain ⟨a, b, e, ha, hb, hab, _⟩ := h.of p hp
  exact ⟨a, b, e, ha, hb, hab⟩
/-- how often a point stands in them -/
theorem Lns.count (h : Lns n A g L) (hs : ∀ a b, A a b = A b a) {v : Nat} (hv : v < n) (hg : g v = false) : L.countP (tch (v : Int)) = deg n A g v := by
  rw [count_tch h.pt hv]
  unfold deg
  refine sm_congr fun w hw => ?_
  cases hb : (A v w && !g w) with
  | true =>
    rw [Bool.and_eq_true] at hb
    rw [h.one v w hv hw hg (by simpa using hb.2) hb.1]
    rfl
  | false =>
    refine List.countP_eq_zero.2 fun p hp hj => ?_
    obtain ⟨a, b, rfl, ha, hb', hab, ga, gb, hA⟩ := h.of p hp
    unfold jo at hj
    rw [decide_eq_true_iff, Prod.mk.injEq, Prod.mk.injEq] at hj
    rcases hj with ⟨e1, e2⟩ | ⟨e1, e2⟩
    · obtain rfl : a = v := by omega
      obtain rfl : b = w := by omega
      rw [hA, gb] at hb
      cases hb
    · obtain rfl : a = w := by omega
      obtain rfl : b = v := by omega
      rw [hs, hA, ga] at hb
      cases hb
theorem both_sum {p : Gr.Ln} (hp : Pt n p) : sm (fun v => if tch (v : Int) p = true then 1 else 0) n = 2 := by
  obtain ⟨a, b, rfl, ha, hb, hab⟩ := hp
  have ht : ∀ v : Nat, tch (v : Int) ((a : Int), (b : Int)) = true ↔ a = v ∨ b = v := fun v => by
    unfold tch
    rw [decide_eq_true_iff]
    simp only
    omega
  rw [sm_but ha, if_pos ((ht a).2 (.inl rfl)), sm_one hb fun i hi hne => ?_, if_neg (fun e => hab e.symm), if_pos ((ht b).2 (.inr rfl))]
  by_cases e : i = a
  · rw [if_pos e]
  · rw [if_neg e, if_neg fun h => by rcases (ht i).1 h with h | h; exact e h.symm; exact hne h.symm]
theorem all_sum : ∀ {L : List Gr.Ln}, (∀ p ∈ L, Pt n p) → sm (fun v => L.countP (tch (v : Int))) n = 2 * L.length
  | [], _ => by
    have : sm (fun v : Nat => List.countP (tch (v : Int)) []) n = sm (fun _ => 0) n := sm_congr fun w _ => rfl
    rw [this, sm_zero]
    rfl
  | p :: L, h => by
    have ih := all_sum (L := L) fun q hq => h q (List.mem_cons_of_mem _ hq)
    have e : sm (fun v : Nat => List.countP (tch (v : Int)) (p :: L)) n = sm (fun v : Nat => L.countP (tch (v : Int))) n + sm (fun v : Nat => if tch (v : Int) p = true then 1 else 0) n := by
      rw [← sm_add]
      exact sm_congr fun w _ => List.countP_cons
    rw [e, ih, both_sum (h p List.mem_cons_self), List.length_cons]
    omega
/-- a tree's lines are such -/
theorem tree_lns {ls : List Gr.Ln} (h : Tree n ls) : Lns n (ad ls) (fun _ => false) ls := by
  have hpt : ∀ p ∈ ls, Pt n p := fun p hp => by
    obtain ⟨g1, g2, g3, g4, g5⟩ := h.good p hp
    obtain ⟨x, y⟩ := p
    simp only at g1 g2 g3 g4 g5
    exact ⟨x.toNat, y.toNat, by rw [Int.toNat_of_nonneg g1, Int.toNat_of_nonneg g3], by omega, by omega, by omega⟩
  have hge : ∀ v w, v < n → w < n → Bool.toNat (ad ls v w && !false) ≤ ls.countP (jo v w) := fun v w hv hw => by
    cases hA : ad ls v w with
    | false => simp
    | true =>
      have : 0 < ls.countP (jo v w) := by
        rw [List.countP_pos_iff]
        rcases Gr.adj_iff.1 hA with hm | hm
        · exact ⟨_, hm, by unfold jo; simp⟩
        · exact ⟨_, hm, by unfold jo; simp⟩
      simpa using this
  have hdeg : ∀ v, v < n → deg n (ad ls) (fun _ => false) v ≤ ls.countP (tch (v : Int)) := fun v hv => by
    rw [count_tch hpt hv]
    exact sm_le fun w hw => hge v w hv hw
  have htot : sm (fun v => deg n (ad ls) (fun _ => false) v) n = sm (fun v : Nat => ls.countP (tch (v : Int))) n := by
    have h1 := (tree_ts h).tot
    have h2 : tot n (ad ls) (fun _ => false) = sm (fun v => deg n (ad ls) (fun _ => false) v) n := sm_congr fun v _ => by simp
    rw [h2] at h1
    rw [all_sum hpt]
    have := h.len
    omega
  refine ⟨fun p hp => ?_, fun a b ha hb _ _ hA => ?_⟩
  · obtain ⟨a, b, rfl, ha, hb, hab⟩ := hpt p hp
    exact ⟨a, b, rfl, ha, hb, hab, rfl, rfl, Gr.adj_iff.2 (.inl hp)⟩
  · have h1 := sm_eq hdeg htot a ha
    rw [count_tch hpt ha] at h1
    have h2 := sm_eq (fun w hw => hge a w ha hw) h1 b hb
    rw [← h2, hA]
    rfl
theorem erase_at {k : Nat} (hk : k < L.length) : L = L.take k ++ L[k] :: L.drop (k + 1) ∧ L.eraseIdx k = L.take k ++ L.drop (k + 1) :=
  ⟨by rw [← List.drop_eq_getElem_cons hk, List.take_append_drop], List.eraseIdx_eq_take_drop_succ _ _⟩
theorem erase_count {q : Gr.Ln → Bool} {k : Nat} (hk : k < L.length) : L.countP q = (L.eraseIdx k).countP q + if q L[k] = true then 1 else 0 := by
  obtain ⟨h1, h2⟩ := erase_at hk
  rw [h2]
  conv => lhs; rw [h1]
  rw [List.countP_append, List.countP_append, List.countP_cons]
  omega
/-- without an end, and without its line -/
theorem Lns.less (h : Lns n A g L) (hs : ∀ a b, A a b = A b a) {v k : Nat} (hv : v < n) (hg : g v = false) (hd : deg n A g v = 1) (hk : k < L.length) (ht : tch (v : Int) L[k] = true) : Lns n A (off g v) (L.eraseIdx k) := by
  have hz : (L.eraseIdx k).countP (tch (v : Int)) = 0 := by
    have h1 := h.count hs hv hg
    have h2 := erase_count (q := tch (v : Int)) hk
    rw [if_pos ht] at h2
    omega
  refine ⟨fun p hp => ?_, fun a b ha hb ga gb hA => ?_⟩
  · have hpL : p ∈ L := List.mem_of_mem_eraseIdx hp
    obtain ⟨a, b, rfl, ha, hb, hab, ga, gb, hA⟩ := h.of p hpL
    have hn := List.countP_eq_zero.1 hz _ hp
    have hn' : ¬ ((a : Int) = (v : Int) ∨ (b : Int) = (v : Int)) := by
      unfold tch at hn
      simpa using hn
    exact ⟨a, b, rfl, ha, hb, hab, off_false.2 ⟨ga, fun e => hn' (.inl (by omega))⟩, off_false.2 ⟨gb, fun e => hn' (.inr (by omega))⟩, hA⟩
  · obtain ⟨g1, n1⟩ := off_false.1 ga
    obtain ⟨g2, n2⟩ := off_false.1 gb
    have h1 := h.one a b ha hb g1 g2 hA
    have h2 := erase_count (q := jo a b) hk
    have hj : ¬ jo a b L[k] = true := fun hj => by
      unfold jo at hj
      unfold tch at ht
      rw [decide_eq_true_iff] at hj ht
      rcases hj with e | e <;> rw [e] at ht <;> simp only at ht <;> omega
    rw [if_neg hj] at h2
    omega

/-! ### the least end among all ends of lines -/
def en (L : List Gr.Ln) (j t : Nat) : Int := if t = 0 then (L.getD j (0, 0)).1 else (L.getD j (0, 0)).2
def many (L : List Gr.Ln) (p : Int) : Nat := L.countP (tch p)
/-- some points of the first k lines: how often p stands in them -/
def manyTo (L : List Gr.Ln) (p : Int) (k : Nat) : Nat := (L.take k).countP (tch p)
theorem manyTo_zero (L : List Gr.Ln) (p : Int) : manyTo L p 0 = 0 := by simp [manyTo]
theorem manyTo_all (L : List Gr.Ln) (p : Int) : manyTo L p L.length = many L p := by simp [manyTo, many]
theorem manyTo_le (L : List Gr.Ln) (p : Int) (k : Nat) : manyTo L p k ≤ k := by
  unfold manyTo
  exact Nat.le_trans List.countP_le_length (by rw [List.length_take]; exact Nat.min_le_left _ _)
theorem manyTo_succ {L : List Gr.Ln} {p : Int} {k : Nat} (hk : k < L.length) : manyTo L p (k + 1) = manyTo L p k + if (L.getD k (0, 0)).1 = p ∨ (L.getD k (0, 0)).2 = p then 1 else 0 := by
  unfold manyTo
  rw [List.take_succ_eq_append_getElem hk, List.countP_append]
  have e : L.getD k (0, 0) = L[k] := by simp [List.getD, hk]
  rw [e]
  by_cases h : L[k].1 = p ∨ L[k].2 = p
  · rw [if_pos h, List.countP_singleton, if_pos (by simpa [tch] using h)]
  · rw [if_neg h, List.countP_singleton, if_neg (by simpa [tch] using h)]
/-- which ends have been looked at -/
def Bef (i s j t : Nat) : Prop := j < i ∨ (j = i ∧ t < s)
structure Ch (n : Nat) (L : List Gr.Ln) (i s : Nat) (b at_ : Int) : Prop where
  low : ∀ j t, t < 2 → Bef i s j t → many L (en L j t) = 1 → b ≤ en L j t
  is : (b = (n : Int) ∧ at_ = -1) ∨ ∃ j t, t < 2 ∧ Bef i s j t ∧ at_ = (j : Int) ∧ b = en L j t ∧ many L b = 1
theorem Ch.start (n : Nat) (L : List Gr.Ln) : Ch n L 0 0 (n : Int) (-1) := ⟨fun j t _ h => by unfold Bef at h; omega, .inl ⟨rfl, rfl⟩⟩
theorem Ch.no {i s : Nat} {b a : Int} (h : Ch n L i s b a) (hn : many L (en L i s) ≠ 1 ∨ b ≤ en L i s) : Ch n L i (s + 1) b a := by
  refine ⟨fun j t ht hb hm => ?_, ?_⟩
  · by_cases e : j = i ∧ t = s
    · obtain ⟨rfl, rfl⟩ := e
      rcases hn with hn | hn
      · exact absurd hm hn
      · exact hn
    · exact h.low j t ht (by unfold Bef at *; omega) hm
  · rcases h.is with h1 | ⟨j, t, ht, hb, h2⟩
    · exact .inl h1
    · exact .inr ⟨j, t, ht, by unfold Bef at *; omega, h2⟩
theorem Ch.yes {i s : Nat} {b a : Int} (h : Ch n L i s b a) (hs : s < 2) (hm : many L (en L i s) = 1) (hl : en L i s < b) : Ch n L i (s + 1) (en L i s) (i : Int) := by
  refine ⟨fun j t ht hb hmm => ?_, .inr ⟨i, s, hs, by unfold Bef; omega, rfl, rfl, hm⟩⟩
  by_cases e : j = i ∧ t = s
  · obtain ⟨rfl, rfl⟩ := e
    exact Int.le_refl _
  · have := h.low j t ht (by unfold Bef at *; omega) hmm
    omega
theorem Ch.next {i : Nat} {b a : Int} (h : Ch n L i 2 b a) : Ch n L (i + 1) 0 b a := by
  refine ⟨fun j t ht hb hm => h.low j t ht (by unfold Bef at *; omega) hm, ?_⟩
  rcases h.is with h1 | ⟨j, t, ht, hb, h2⟩
  · exact .inl h1
  · exact .inr ⟨j, t, ht, by unfold Bef at *; omega, h2⟩
theorem en_mem {j t : Nat} (hj : j < L.length) : tch (en L j t) L[j] = true := by
  have e : L.getD j (0, 0) = L[j] := by simp [List.getD, hj]
  unfold en tch
  rw [e]
  by_cases h : t = 0
  · simp [h]
  · simp [h]
/-- the least end of all, its line, and the one beside it -/
theorem Ch.end_ {m : Nat} {b a : Int} (h : Ch n L L.length 0 b a) (hL : Lns n A g L) (hT : TS n A g m) (hm : 2 ≤ m) :
    ∃ k, ∃ hk : k < L.length, a = (k : Int) ∧ b = ((lf n A g : Nat) : Int) ∧ (L.getD k (0, 0)).1 + (L.getD k (0, 0)).2 - b = ((nb n A g (lf n A g) : Nat) : Int) ∧ Lns n A (off g (lf n A g)) (L.eraseIdx k) := by
  obtain ⟨l1, l2, l3, l4⟩ := hT.lf_spec hm
  have hc := hL.count hT.sym l1 l2
  rw [l3] at hc
  -- the least end stands in some line
  have hle : b ≤ ((lf n A g : Nat) : Int) := by
    have : 0 < L.countP (tch ((lf n A g : Nat) : Int)) := by omega
    obtain ⟨p, hp, ht⟩ := List.countP_pos_iff.1 this
    obtain ⟨j, hj, e⟩ := List.mem_iff_getElem.1 hp
    have eg : L.getD j (0, 0) = L[j] := by simp [List.getD, hj]
    unfold tch at ht
    rw [decide_eq_true_iff, ← e, ← eg] at ht
    rcases ht with ht | ht
    · have := h.low j 0 (by omega) (by unfold Bef; omega) (by unfold en; rw [if_pos rfl, ht]; exact hc)
      unfold en at this
      rw [if_pos rfl, ht] at this
      exact this
    · have := h.low j 1 (by omega) (by unfold Bef; omega) (by unfold en; rw [if_neg (by omega), ht]; exact hc)
      unfold en at this
      rw [if_neg (by omega), ht] at this
      exact this
  rcases h.is with ⟨h1, _⟩ | ⟨k, t, ht, hb, ha, hbe, hmb⟩
  · omega
  have hk : k < L.length := by unfold Bef at hb; omega
  have eg : L.getD k (0, 0) = L[k] := by simp [List.getD, hk]
  obtain ⟨x, y, exy, hx, hy, hxy, gx, gy, hA⟩ := hL.of L[k] (List.getElem_mem hk)
  -- it is an end itself
  have hbv : ∃ v u : Nat, b = (v : Int) ∧ v < n ∧ g v = false ∧ u < n ∧ g u = false ∧ A v u = true ∧ (L.getD k (0, 0)).1 + (L.getD k (0, 0)).2 - b = (u : Int) := by
    rw [eg, exy]
    unfold en at hbe
    rw [eg, exy] at hbe
    by_cases e : t = 0
    · rw [if_pos e] at hbe
      simp only at hbe
      exact ⟨x, y, hbe, hx, gx, hy, gy, hA, by simp only; omega⟩
    · rw [if_neg e] at hbe
      simp only at hbe
      exact ⟨y, x, hbe, hy, gy, hx, gx, by rw [hT.sym]; exact hA, by simp only; omega⟩
  obtain ⟨v, u, hv, hvn, gv, hun, gu, hvu, hsum⟩ := hbv
  have hdv : deg n A g v = 1 := by rw [← hL.count hT.sym hvn gv, ← hv]; exact hmb
  have hvl : v = lf n A g := by
    rcases Nat.lt_or_ge v (lf n A g) with hlt | hge
    · exact absurd hdv (l4 v hlt gv)
    · omega
  subst hvl
  obtain ⟨_, _, _, hn4⟩ := nb_spec l3
  refine ⟨k, hk, ha, hv, ?_, ?_⟩
  · rw [hsum, hn4 u hun hvu gu]
  · refine hL.less hT.sym l1 l2 l3 hk ?_
    have := en_mem (L := L) (t := t) hk
    rw [← hbe, hv] at this
    exact this

/-! ### the least one that is free -/
theorem free_is {row : List Nat} {v : Nat} (hl : row.length < alive n g) (hv : v < n) (h1 : g v = false) (h2 : v ∉ row) (h3 : ∀ j, j < v → g j = true ∨ j ∈ row) : free n g row = v := by
  obtain ⟨f1, f2, f3, f4⟩ := free_spec hl
  rcases Nat.lt_trichotomy (free n g row) v with h | h | h
  · rcases h3 _ h with h | h
    · rw [f2] at h; cases h
    · exact absurd h f3
  · exact h
  · exact absurd (f4 v h h1) h2
theorem fst2_is {v : Nat} (hv : v < n) (h1 : g v = false) (h3 : ∀ j, j < v → g j = true) : fst2 n g = v := by
  have hal : 1 ≤ alive n g := by
    unfold alive
    have : sm (fun v => Bool.toNat (!g v)) n = Bool.toNat (!g v) + sm (fun i => if i = v then 0 else Bool.toNat (!g i)) n := sm_but hv
    rw [this, h1]
    show 1 ≤ 1 + _
    omega
  obtain ⟨f1, f2, f3⟩ := fst2_spec hal
  rcases Nat.lt_trichotomy (fst2 n g) v with h | h | h
  · rw [h3 _ h] at f2; cases f2
  · exact h
  · have := f3 v h; rw [h1] at this; cases this
end
end Go.Proofs.YtnekbgeablhgiaaDoor.Pf

set_option linter.unusedSimpArgs false
set_option linter.unusedVariables false
namespace Go.Proofs.YtnekbgeablhgiaaDoor.Pf
open Sg (first first_spec first_congr)
open Tr (Tree Met ad far tch)

/-! ### who is gone, as a list -/
def gl (o : List Nat) : Nat → Bool := fun v => o.contains v
theorem gl_nil : gl [] = fun _ => false := rfl
theorem gl_off (o : List Nat) (v : Nat) : off (gl o) v = gl (o ++ [v]) := by
  funext w
  unfold off gl
  rw [Bool.eq_iff_iff]
  simp
theorem alive_none (n : Nat) : alive n (fun _ => false) = n := by
  have := sm_const 1 n
  rw [Nat.one_mul] at this
  exact this
theorem alive_gl {n : Nat} {o : List Nat} {v : Nat} (hv : v < n) (h : v ∉ o) : alive n (gl (o ++ [v])) + 1 = alive n (gl o) := by
  rw [← gl_off]
  exact alive_off hv (by unfold gl; simpa using h)
theorem sm_filter (p : Nat → Bool) : ∀ k, sm (fun w => Bool.toNat (p w)) k = ((List.range k).filter p).length
  | 0 => rfl
  | k + 1 => by
    rw [List.range_succ, List.filter_append, List.length_append, ← sm_filter p k]
    show sm _ k + Bool.toNat (p k) = _
    cases h : p k <;> simp [h]
/-- how many are beside -/
theorem deg_row (n : Nat) (ls : List Gr.Ln) (v : Nat) : deg n (ad ls) (fun _ => false) v = (Gr.row n ls v).length := by
  unfold deg Gr.row
  rw [List.length_map, sm_filter]
  congr 1
  refine List.filter_congr fun w _ => ?_
  show (ad ls v w && !false) = Gr.adj ls (v : Int) (w : Int)
  rw [Bool.not_false, Bool.and_true]
  rfl

/-! ### rows and trees -/
/-- a tree's row -/
def wr (n : Nat) (ls : List Gr.Ln) : List Nat := code n (ad ls) (n - 2) fun _ => false
/-- a row's tree, its lines in order -/
def rdL (row : List Nat) : List Gr.Ln := lines (row.length + 2) (by_ (dec (row.length + 2) row fun _ => false))
section
variable {n : Nat} {ls : List Gr.Ln}
theorem wr_len (n : Nat) (ls : List Gr.Ln) : (wr n ls).length = n - 2 := code_len _ _ _ _
theorem tree_ts2 (h : Tree n ls) (hn : 2 ≤ n) : TS n (ad ls) (fun _ => false) (n - 2 + 2) := by
  have := tree_ts h
  rwa [show n - 2 + 2 = n by omega]
theorem wr_lt (h : Tree n ls) (hn : 2 ≤ n) : ∀ x ∈ wr n ls, x < n := fun x hx => (code_alive _ _ (tree_ts2 h hn) x hx).1
/-- once less often than it has lines -/
theorem wr_often (h : Tree n ls) (hn : 2 ≤ n) {v : Nat} (hv : v < n) : (Gr.row n ls v).length = 1 + (wr n ls).count v := by
  rw [← deg_row]
  exact deg_count _ _ (tree_ts2 h hn) v hv rfl
theorem rd_ok {row : List Nat} (hr : ∀ x ∈ row, x < row.length + 2) : (∀ x ∈ row, x < row.length + 2 ∧ (fun _ : Nat => false) x = false) ∧ alive (row.length + 2) (fun _ => false) = row.length + 2 := ⟨fun x hx => ⟨hr x hx, rfl⟩, alive_none _⟩
/-- what is read is a tree -/
theorem rd_tree {row : List Nat} (hr : ∀ x ∈ row, x < row.length + 2) : Tree (row.length + 2) (rdL row) := by
  obtain ⟨h1, h2⟩ := rd_ok hr
  exact ts_tree (dec_ts h1 h2) (by omega)
/-- and is written as that row -/
theorem wr_rd {row : List Nat} (hr : ∀ x ∈ row, x < row.length + 2) : wr (row.length + 2) (rdL row) = row := by
  obtain ⟨h1, h2⟩ := rd_ok hr
  have hT := dec_ts h1 h2
  have hT2 := tree_ts2 (rd_tree hr) (by omega)
  unfold wr
  rw [show row.length + 2 - 2 = row.length by omega]
  rw [show row.length + 2 - 2 + 2 = row.length + 2 by omega] at hT2
  have e := code_congr (A := ad (rdL row)) (B := by_ (dec (row.length + 2) row fun _ => false)) row.length (fun _ => false) (by rw [h2]; exact Nat.le_refl _) (fun a b ha hb _ _ => lines_ad (fun a b => by_comm _ a b) (fun a ha => hT.irr a ha) ha hb) hT2
  rw [e]
  exact code_dec row _ h1 h2
/-- a tree's row is read as that tree -/
theorem rd_wr (h : Tree n ls) (hn : 2 ≤ n) {a b : Nat} (ha : a < n) (hb : b < n) : ad (rdL (wr n ls)) a b = ad ls a b := by
  have hT := tree_ts2 h hn
  have hl : (wr n ls).length + 2 = n := by rw [wr_len]; omega
  have hr : ∀ x ∈ wr n ls, x < (wr n ls).length + 2 := by rw [hl]; exact wr_lt h hn
  obtain ⟨h1, h2⟩ := rd_ok hr
  have hD := dec_ts h1 h2
  unfold rdL
  rw [lines_ad (fun a b => by_comm _ a b) (fun a ha => hD.irr a ha) (by omega) (by omega), hl]
  exact dec_code _ _ hT a b ha hb rfl rfl
theorem rd_len {row : List Nat} (hr : ∀ x ∈ row, x < row.length + 2) : (rdL row).length = row.length + 1 := by have := (rd_tree hr).len; omega
/-- a row's tree is one in the law's sense, too -/
theorem rd_code {row : List Nat} (hr : ∀ x ∈ row, x < row.length + 2) (h6 : row.length ≤ 6) : Tr.tcode (((row.length + 2 : Nat) : Int)) (rdL row) = 0 := by
  have hT := rd_tree hr
  exact Tr.tcode_zero.2 ⟨Gr.code_zero.2 ⟨by omega, by omega, by rw [rd_len hr]; omega, hT.good⟩, hT⟩

/-! ### lines that are made of pairs -/
def upP (L : List (Nat × Nat)) : List Gr.Ln := L.map fun p => ((p.1 : Int), (p.2 : Int))
theorem upP_adj (L : List (Nat × Nat)) (a b : Nat) : Gr.adj (upP L) (a : Int) (b : Int) = by_ L a b := by
  have hm : ∀ a b : Nat, (((a : Int), (b : Int)) : Gr.Ln) ∈ upP L ↔ (a, b) ∈ L := fun a b => by
    unfold upP
    rw [List.mem_map]
    constructor
    · rintro ⟨⟨x, y⟩, h, e⟩
      simp only [Prod.mk.injEq] at e
      obtain rfl : x = a := by omega
      obtain rfl : y = b := by omega
      exact h
    · intro h
      exact ⟨_, h, rfl⟩
  rw [Bool.eq_iff_iff, Gr.adj_iff, by_iff, hm, hm]
/-- one more line of those that are read -/
theorem dec_cons {n x : Nat} {row : List Nat} {g : Nat → Bool} : dec n (x :: row) g = (free n g (x :: row), x) :: dec n row (off g (free n g (x :: row))) := rfl
theorem dec_nil {n : Nat} {g : Nat → Bool} : dec n [] g = [(fst2 n g, fst2 n (off g (fst2 n g)))] := rfl
theorem dec_len : ∀ (row : List Nat) (g : Nat → Bool), (dec n row g).length = row.length + 1
  | [], _ => rfl
  | _ :: row, g => by rw [dec_cons, List.length_cons, dec_len row, List.length_cons]
theorem code_next {A : Nat → Nat → Bool} {r : Nat} {g : Nat → Bool} : code n A (r + 1) g = nb n A g (lf n A g) :: code n A r (off g (lf n A g)) := rfl
end
end Go.Proofs.YtnekbgeablhgiaaDoor.Pf
