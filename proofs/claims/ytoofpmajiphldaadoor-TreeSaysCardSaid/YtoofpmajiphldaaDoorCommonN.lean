/-
  Plain facts on ways in trees, with no program in them: one point at each distance, ways put together, the first one that two ways to a root have in common, three points and the one between them. No statement of the program is proved here; there is no condition.
-/
import Derived.Test.YtoofpmajiphldaaDoorTreeN
import Derived.Test.YtoofpmajiphldaaDoorStrongN
set_option linter.unusedSimpArgs false
set_option linter.unusedVariables false
namespace Go.Proofs.YtoofpmajiphldaaDoor.Co
open Tr (Met)
open Sg (first first_spec)

section
variable {n : Nat} {A : Nat → Nat → Bool} {D : Nat → Nat → Nat}
/-- v lies on the way from a to b -/
def On (D : Nat → Nat → Nat) (a b v : Nat) : Prop := D a v + D v b = D a b
/-- the one beside a that is nearer to b -/
def nx (n : Nat) (A : Nat → Nat → Bool) (D : Nat → Nat → Nat) (b a : Nat) : Nat := first (fun u => A a u && decide (D b a = D b u + 1)) n 0
theorem nx_spec (h : Met n A D) {a b : Nat} (ha : a < n) (hb : b < n) (hne : a ≠ b) : nx n A D b a < n ∧ A a (nx n A D b a) = true ∧ D b a = D b (nx n A D b a) + 1 := by
  obtain ⟨u, hu, hA, hd⟩ := h.near b a hb ha hne
  obtain ⟨_, a2, a3, _⟩ := first_spec (p := fun u => A a u && decide (D b a = D b u + 1)) n 0 u (Nat.zero_le _) (by omega) (by simp [hA, hd])
  simp only [Bool.and_eq_true, decide_eq_true_eq] at a3
  exact ⟨Nat.lt_of_le_of_lt a2 hu, a3.1, a3.2⟩
theorem nx_only (h : Met n A D) {a b u : Nat} (ha : a < n) (hb : b < n) (hne : a ≠ b) (hu : u < n) (hA : A a u = true) (hd : D b a = D b u + 1) : u = nx n A D b a := by
  obtain ⟨h1, h2, h3⟩ := nx_spec h ha hb hne
  exact h.only b a u _ hb ha hu h1 hA h2 hd h3
theorem on_first (h : Met n A D) {a b : Nat} (ha : a < n) (hb : b < n) : On D a b a := by
  unfold On
  have := (h.zero a a ha ha).2 rfl
  omega
theorem on_last (h : Met n A D) {a b : Nat} (ha : a < n) (hb : b < n) : On D a b b := by
  unfold On
  have := (h.zero b b hb hb).2 rfl
  omega
theorem on_comm (h : Met n A D) {a b v : Nat} (ha : a < n) (hb : b < n) (hv : v < n) : On D a b v ↔ On D b a v := by
  unfold On
  rw [h.sym b v hb hv, h.sym v a hv ha, h.sym b a hb ha]
  omega
/-- a step on -/
theorem on_next (h : Met n A D) {a b v : Nat} (ha : a < n) (hb : b < n) (hv : v < n) (ho : On D a b v) (hne : v ≠ b) : On D a b (nx n A D b v) ∧ D a (nx n A D b v) = D a v + 1 := by
  obtain ⟨h1, h2, h3⟩ := nx_spec h hv hb hne
  have t1 := h.tri a (nx n A D b v) b ha h1 hb
  have o1 := h.one a v _ ha hv h1 h2
  have s1 := h.sym b v hb hv
  have s2 := h.sym b (nx n A D b v) hb h1
  unfold On at *
  omega
/-- one point at each distance -/
theorem on_only (h : Met n A D) {a b : Nat} (ha : a < n) (hb : b < n) : ∀ (t x y : Nat), x < n → y < n → On D a b x → On D a b y → D a x = t → D a y = t → x = y
  | 0, x, y, hx, hy, _, _, h1, h2 => by
    have e1 := (h.zero a x ha hx).1 h1
    have e2 := (h.zero a y ha hy).1 h2
    rw [← e1, ← e2]
  | t + 1, x, y, hx, hy, o1, o2, h1, h2 => by
    have hxa : x ≠ a := fun e => by
      have := (h.zero a x ha hx).2 e.symm
      omega
    have hya : y ≠ a := fun e => by
      have := (h.zero a y ha hy).2 e.symm
      omega
    obtain ⟨p1, p2, p3⟩ := nx_spec h hx ha hxa
    obtain ⟨q1, q2, q3⟩ := nx_spec h hy ha hya
    have tp := h.tri a (nx n A D a x) b ha p1 hb
    have tq := h.tri a (nx n A D a y) b ha q1 hb
    have op := h.one b x _ hb hx p1 p2
    have oq := h.one b y _ hb hy q1 q2
    have sx := h.sym b x hb hx
    have sy := h.sym b y hb hy
    have sp := h.sym b (nx n A D a x) hb p1
    have sq := h.sym b (nx n A D a y) hb q1
    have e := on_only h ha hb t (nx n A D a x) (nx n A D a y) p1 q1 (by unfold On at *; omega) (by unfold On at *; omega) (by omega) (by omega)
    unfold On at o1 o2
    have hp : A (nx n A D a x) x = true := by rw [h.com]; exact p2
    have hq : A (nx n A D a x) y = true := by rw [e, h.com]; exact q2
    rw [e] at op sp
    exact h.only b (nx n A D a x) x y hb p1 hx hy hp hq (by rw [e]; omega) (by rw [e]; omega)
/-- two ways that part at once make one -/
theorem join (h : Met n A D) {a b v : Nat} (ha : a < n) (hb : b < n) (hv : v < n) (hva : v ≠ a) (hvb : v ≠ b) (hne : nx n A D a v ≠ nx n A D b v) : On D a b v := by
  obtain ⟨p1, p2, p3⟩ := nx_spec h hv ha hva
  have key : ∀ t, t + 1 ≤ D v b → ∃ x y, x < n ∧ y < n ∧ A x y = true ∧ D v x = t ∧ D v y = t + 1 ∧ On D v b x ∧ On D v b y ∧ D a x = D a v + t ∧ D a y = D a v + t + 1 := by
    intro t
    induction t with
    | zero =>
      intro _
      obtain ⟨q1, q2, q3⟩ := nx_spec h hv hb hvb
      have o := on_next h hv hb hv (on_first h hv hb) hvb
      have hvv := (h.zero v v hv hv).2 rfl
      refine ⟨v, nx n A D b v, hv, q1, q2, hvv, by omega, on_first h hv hb, o.1, by omega, ?_⟩
      rcases h.one a v _ ha hv q1 q2 with e | e
      · exact absurd (nx_only h hv ha hva q1 q2 e).symm hne
      · omega
    | succ t ih =>
      intro ht
      obtain ⟨x, y, hx, hy, hA, dx, dy, ox, oy, ax, ay⟩ := ih (by omega)
      have hyb : y ≠ b := fun e => by
        subst e
        omega
      obtain ⟨q1, q2, q3⟩ := nx_spec h hy hb hyb
      have o := on_next h hv hb hy oy hyb
      refine ⟨y, nx n A D b y, hy, q1, q2, dy, by omega, oy, o.1, by omega, ?_⟩
      rcases h.one a y _ ha hy q1 q2 with e | e
      · exfalso
        have hya : y ≠ a := fun e2 => by
          have := (h.zero a y ha hy).2 e2.symm
          omega
        have e3 := nx_only h hy ha hya hx (by rw [h.com]; exact hA) (by omega)
        have e4 := nx_only h hy ha hya q1 q2 e
        have : D v x = D v (nx n A D b y) := by rw [e3, ← e4]
        omega
      · omega
  have hd : D v b ≠ 0 := fun e => hvb ((h.zero v b hv hb).1 e)
  obtain ⟨x, y, hx, hy, _, _, dy, _, oy, _, ay⟩ := key (D v b - 1) (by omega)
  have e : y = b := on_only h hv hb (D v b) y b hy hb oy (on_last h hv hb) (by omega) rfl
  subst e
  unfold On
  omega

/-! ### the way, as a list -/
def wyF (n : Nat) (A : Nat → Nat → Bool) (D : Nat → Nat → Nat) (b : Nat) : Nat → Nat → List Nat
  | 0, a => [a]
  | f + 1, a => a :: wyF n A D b f (nx n A D b a)
def wy (n : Nat) (A : Nat → Nat → Bool) (D : Nat → Nat → Nat) (a b : Nat) : List Nat := wyF n A D b (D b a) a
theorem wyF_spec (h : Met n A D) {b : Nat} (hb : b < n) : ∀ (f a : Nat), a < n → D b a = f → (wyF n A D b f a).length = f + 1 ∧ ∀ t, t ≤ f → (wyF n A D b f a).getD t 0 < n ∧ D a ((wyF n A D b f a).getD t 0) = t ∧ On D a b ((wyF n A D b f a).getD t 0)
  | 0, a, ha, hd => by
    refine ⟨rfl, fun t ht => ?_⟩
    obtain rfl : t = 0 := by omega
    exact ⟨ha, (h.zero a a ha ha).2 rfl, on_first h ha hb⟩
  | f + 1, a, ha, hd => by
    have hne : a ≠ b := fun e => by
      have := (h.zero b a hb ha).2 e.symm
      omega
    obtain ⟨p1, p2, p3⟩ := nx_spec h ha hb hne
    obtain ⟨i1, i2⟩ := wyF_spec h hb f (nx n A D b a) p1 (by omega)
    refine ⟨by show (a :: wyF n A D b f (nx n A D b a)).length = _; rw [List.length_cons, i1], fun t ht => ?_⟩
    cases t with
    | zero => exact ⟨ha, (h.zero a a ha ha).2 rfl, on_first h ha hb⟩
    | succ t =>
      obtain ⟨j1, j2, j3⟩ := i2 t (by omega)
      have e : (wyF n A D b (f + 1) a).getD (t + 1) 0 = (wyF n A D b f (nx n A D b a)).getD t 0 := rfl
      rw [e]
      generalize (wyF n A D b f (nx n A D b a)).getD t 0 = x at *
      have dxa : D a (nx n A D b a) = 1 := h.beside ha p1 p2
      have t1 := h.tri a (nx n A D b a) x ha p1 j1
      have t2 := h.tri a x b ha j1 hb
      have s1 := h.sym b a hb ha
      have s2 := h.sym b (nx n A D b a) hb p1
      refine ⟨j1, ?_, ?_⟩ <;> (unfold On at *; omega)
theorem wy_len (h : Met n A D) {a b : Nat} (ha : a < n) (hb : b < n) : (wy n A D a b).length = D a b + 1 := by
  have := (wyF_spec h hb (D b a) a ha rfl).1
  unfold wy
  rw [this, h.sym b a hb ha]
theorem wy_at (h : Met n A D) {a b t : Nat} (ha : a < n) (hb : b < n) (ht : t ≤ D a b) : (wy n A D a b).getD t 0 < n ∧ D a ((wy n A D a b).getD t 0) = t ∧ On D a b ((wy n A D a b).getD t 0) :=
  (wyF_spec h hb (D b a) a ha rfl).2 t (by rw [h.sym b a hb ha]; exact ht)
/-- one line from each point of the way to the next -/
theorem wyF_step (h : Met n A D) {b : Nat} (hb : b < n) : ∀ (f a t : Nat), a < n → D b a = f → t < f → A ((wyF n A D b f a).getD t 0) ((wyF n A D b f a).getD (t + 1) 0) = true
  | 0, _, _, _, _, ht => absurd ht (Nat.not_lt_zero _)
  | f + 1, a, t, ha, hd, ht => by
    have hne : a ≠ b := fun e => by
      have := (h.zero b a hb ha).2 e.symm
      omega
    obtain ⟨p1, p2, p3⟩ := nx_spec h ha hb hne
    cases t with
    | zero =>
      have e : (wyF n A D b (f + 1) a).getD (0 + 1) 0 = nx n A D b a := by cases f <;> rfl
      rw [e]
      exact p2
    | succ t =>
      have e : ∀ k, (wyF n A D b (f + 1) a).getD (k + 1) 0 = (wyF n A D b f (nx n A D b a)).getD k 0 := fun _ => rfl
      rw [e, e]
      exact wyF_step h hb f _ t p1 (by omega) (by omega)
theorem wy_step (h : Met n A D) {a b t : Nat} (ha : a < n) (hb : b < n) (ht : t < D a b) : A ((wy n A D a b).getD t 0) ((wy n A D a b).getD (t + 1) 0) = true :=
  wyF_step h hb (D b a) a t ha rfl (by rw [h.sym b a hb ha]; exact ht)
theorem on_le {a b v : Nat} (ho : On D a b v) : D a v ≤ D a b := by unfold On at ho; omega
/-- where a point of the way stands -/
theorem wy_of (h : Met n A D) {a b v : Nat} (ha : a < n) (hb : b < n) (hv : v < n) (ho : On D a b v) : (wy n A D a b).getD (D a v) 0 = v := by
  obtain ⟨h1, h2, h3⟩ := wy_at h ha hb (on_le ho)
  exact on_only h ha hb (D a v) _ v h1 hv h3 ho h2 rfl
theorem mem_wy (h : Met n A D) {a b v : Nat} (ha : a < n) (hb : b < n) : v ∈ wy n A D a b ↔ v < n ∧ On D a b v := by
  constructor
  · intro hm
    obtain ⟨t, ht, e⟩ := List.mem_iff_getElem.1 hm
    rw [wy_len h ha hb] at ht
    obtain ⟨h1, h2, h3⟩ := wy_at h ha hb (t := t) (by omega)
    have e2 : (wy n A D a b).getD t 0 = v := by rw [← e]; simp [List.getD, show t < (wy n A D a b).length by rw [wy_len h ha hb]; omega]
    rw [e2] at h1 h3
    exact ⟨h1, h3⟩
  · rintro ⟨hv, ho⟩
    have e := wy_of h ha hb hv ho
    have hl : D a v < (wy n A D a b).length := by rw [wy_len h ha hb]; have := on_le ho; omega
    rw [← e]
    simp [List.getD, hl]
/-- the way back -/
theorem wy_back (h : Met n A D) {a b : Nat} (ha : a < n) (hb : b < n) : (wy n A D a b).reverse = wy n A D b a := by
  have l1 := wy_len h ha hb
  have l2 := wy_len h hb ha
  have s := h.sym a b ha hb
  refine List.ext_getElem (by rw [List.length_reverse]; omega) fun i h1 h2 => ?_
  rw [List.getElem_reverse]
  have hi : i ≤ D b a := by rw [l2] at h2; omega
  obtain ⟨a1, a2, a3⟩ := wy_at h ha hb (t := D a b - i) (by omega)
  obtain ⟨b1, b2, b3⟩ := wy_at h hb ha (t := i) hi
  have e1 : (wy n A D a b)[(wy n A D a b).length - 1 - i]'(by omega) = (wy n A D a b).getD (D a b - i) 0 := by
    have : (wy n A D a b).length - 1 - i = D a b - i := by omega
    simp [List.getD, this, show D a b - i < (wy n A D a b).length by omega]
  have e2 : (wy n A D b a)[i]'h2 = (wy n A D b a).getD i 0 := by simp [List.getD, h2]
  rw [e1, e2]
  have sx := h.sym b ((wy n A D b a).getD i 0) hb b1
  have sy := h.sym a ((wy n A D b a).getD i 0) ha b1
  exact on_only h ha hb (D a b - i) _ _ a1 b1 a3 ((on_comm h ha hb b1).2 b3) a2 (by unfold On at b3; omega)

/-! ### the one that two ways to a root have in common first -/
/-- on both ways, and as far from the root as can be -/
def Low (n : Nat) (D : Nat → Nat → Nat) (r a b v : Nat) : Prop := v < n ∧ On D a r v ∧ On D b r v ∧ ∀ w, w < n → On D a r w → On D b r w → D r w ≤ D r v
theorem Low.only (h : Met n A D) {r a b v w : Nat} (hr : r < n) (ha : a < n) (hv : Low n D r a b v) (hw : Low n D r a b w) : v = w := by
  have h1 := hv.2.2.2 w hw.1 hw.2.1 hw.2.2.1
  have h2 := hw.2.2.2 v hv.1 hv.2.1 hv.2.2.1
  exact on_only h hr ha (D r v) v w hv.1 hw.1 ((on_comm h hr ha hv.1).2 hv.2.1) ((on_comm h hr ha hw.1).2 hw.2.1) rfl (by omega)
theorem Low.comm {r a b v : Nat} (hv : Low n D r a b v) : Low n D r b a v := ⟨hv.1, hv.2.2.1, hv.2.1, fun w hw h1 h2 => hv.2.2.2 w hw h2 h1⟩
theorem low_ex (h : Met n A D) {r a b : Nat} (hr : r < n) (ha : a < n) (hb : b < n) : ∃ v, Low n D r a b v := by
  have key : ∀ k, k ≤ n → (∃ v, v < k ∧ On D a r v ∧ On D b r v) → ∃ v, v < k ∧ (On D a r v ∧ On D b r v) ∧ ∀ w, w < k → On D a r w → On D b r w → D r w ≤ D r v := by
    intro k
    induction k with
    | zero => rintro _ ⟨v, hv, _⟩; omega
    | succ k ih =>
      rintro hk ⟨v, hv, hp⟩
      by_cases hex : ∃ v, v < k ∧ On D a r v ∧ On D b r v
      · obtain ⟨x, hx, hxp, hxm⟩ := ih (by omega) hex
        by_cases hb2 : (On D a r k ∧ On D b r k) ∧ D r x < D r k
        · exact ⟨k, by omega, hb2.1, fun w hw h1 h2 => by
            by_cases e : w = k
            · rw [e]; exact Nat.le_refl _
            · have := hxm w (by omega) h1 h2; omega⟩
        · exact ⟨x, by omega, hxp, fun w hw h1 h2 => by
            by_cases e : w = k
            · subst e
              rcases Nat.lt_or_ge (D r x) (D r w) with hl | hl
              · exact absurd ⟨⟨h1, h2⟩, hl⟩ hb2
              · exact hl
            · exact hxm w (by omega) h1 h2⟩
      · have e : v = k := by
          rcases Nat.lt_or_ge v k with hl | hl
          · exact absurd ⟨v, hl, hp⟩ hex
          · omega
        subst e
        exact ⟨v, hv, hp, fun w hw h1 h2 => by
          by_cases e : w = v
          · rw [e]; exact Nat.le_refl _
          · exact absurd ⟨w, by omega, h1, h2⟩ hex⟩
  obtain ⟨v, hv, ⟨h1, h2⟩, h3⟩ := key n (Nat.le_refl _) ⟨r, hr, on_last h ha hr, on_last h hb hr⟩
  exact ⟨v, hv, h1, h2, h3⟩
/-- it lies between the two -/
theorem Low.between (h : Met n A D) {r a b v : Nat} (hr : r < n) (ha : a < n) (hb : b < n) (hv : Low n D r a b v) : On D a b v := by
  obtain ⟨hvn, o1, o2, hm⟩ := hv
  by_cases ea : v = a
  · rw [ea]; exact on_first h ha hb
  · by_cases eb : v = b
    · rw [eb]; exact on_last h ha hb
    · refine join h ha hb hvn ea eb fun e => ?_
      have n1 := on_next h hr ha hvn ((on_comm h hr ha hvn).2 o1) ea
      have n2 := on_next h hr hb hvn ((on_comm h hr hb hvn).2 o2) eb
      have hlt := (nx_spec h hvn ha ea).1
      rw [← e] at n2
      have := hm _ hlt ((on_comm h ha hr hlt).2 n1.1) ((on_comm h hb hr hlt).2 n2.1)
      omega
/-- three points: just one lies on all three ways -/
theorem three (h : Met n A D) {a b c v w : Nat} (ha : a < n) (hb : b < n) (hc : c < n) (hv : Low n D c a b v) (hw : w < n) : (On D a b w ∧ On D b c w ∧ On D a c w) ↔ w = v := by
  have hvb := hv.between h hc ha hb
  constructor
  · rintro ⟨h1, h2, h3⟩
    refine on_only h ha hb (D a v) w v hw hv.1 h1 hvb ?_ rfl
    have s1 := h.sym b w hb hw
    have s2 := h.sym b v hb hv.1
    have := hv.2.1
    have := hv.2.2.1
    unfold On at *
    omega
  · intro e
    subst e
    exact ⟨hvb, hv.2.2.1, hv.2.1⟩
end
end Go.Proofs.YtoofpmajiphldaaDoor.Co
