/-
  Plain facts on falling lists of small numbers, with no program in them: two tests whether they can be degrees, one that takes off the greatest number again and again, one by sums, agree on lists of at most eight numbers up to seven. There is no condition.
-/
import Derived.KernelRfl
namespace Go.Proofs.Ytnekbgeablhgiaa.De

/-- into a falling list -/
def ins (x : Nat) : List Nat → List Nat
  | [] => [x]
  | y :: ys => bif Nat.ble y x then x :: y :: ys else y :: ins x ys
/-- the same numbers, falling -/
def fall : List Nat → List Nat
  | [] => []
  | x :: xs => ins x (fall xs)
/-- the first k less by one -/
def dec : Nat → List Nat → List Nat
  | 0, l => l
  | _ + 1, [] => []
  | k + 1, x :: xs => (x - 1) :: dec k xs
/-- there are k, and none of the first k is 0 -/
def enough : Nat → List Nat → Bool
  | 0, _ => true
  | _ + 1, [] => false
  | k + 1, x :: xs => bif Nat.ble 1 x then enough k xs else false
/-- can they be degrees? by taking off the greatest one -/
def hh : Nat → List Nat → Bool
  | 0, _ => false
  | _ + 1, [] => true
  | f + 1, a :: rest => bif Nat.beq a 0 then true else bif enough a rest then hh f (fall (0 :: dec a rest)) else false
/-- the sum of all, none counted beyond k -/
def mins (k : Nat) : List Nat → Nat
  | [] => 0
  | x :: xs => (bif Nat.ble x k then x else k) + mins k xs
/-- can they be degrees? by sums -/
def egFrom : List Nat → Nat → Nat → Bool
  | [], k, s => Nat.ble s (k * (k - 1)) && Nat.beq (s % 2) 0
  | x :: xs, k, s => bif Nat.ble s (k * (k - 1) + mins k (x :: xs)) then egFrom xs (k + 1) (s + x) else false
def check (l : List Nat) : Bool := hh 9 l == egFrom l 0 0
def upFrom : Nat → Nat → List Nat
  | 0, _ => []
  | n + 1, a => a :: upFrom n (a + 1)
def chk : Nat → Nat → List Nat → Bool
  | 0, _, acc => check acc
  | n + 1, lo, acc => check acc && (upFrom (8 - lo) lo).all fun v => chk n v (v :: acc)
theorem chk_all : chk 8 0 [] = true := by kernel_rfl

/-- falling -/
def Fl (l : List Nat) : Prop := l.Pairwise fun x y => y ≤ x

theorem mem_upFrom : ∀ (n a v : Nat), a ≤ v → v < a + n → v ∈ upFrom n a := by
  intro n
  induction n with
  | zero => intro a v h1 h2; omega
  | succ n ih =>
    intro a v h1 h2
    unfold upFrom
    by_cases h : v = a
    · subst h; simp
    · exact List.mem_cons_of_mem _ (ih (a + 1) v (by omega) (by omega))
theorem chk_sound : ∀ (n lo : Nat) (acc pre : List Nat), chk n lo acc = true → pre.length ≤ n → Fl (pre ++ acc) → (∀ x ∈ pre, lo ≤ x ∧ x ≤ 7) → check (pre ++ acc) = true := by
  intro n
  induction n with
  | zero =>
    intro lo acc pre h hl _ _
    have : pre = [] := List.eq_nil_of_length_eq_zero (by omega)
    subst this
    exact h
  | succ n ih =>
    intro lo acc pre h hl hf hx
    unfold chk at h
    rw [Bool.and_eq_true, List.all_eq_true] at h
    rcases List.eq_nil_or_concat pre with rfl | ⟨p, v, rfl⟩
    · exact h.1
    · have hv := hx v (by simp)
      rw [List.concat_eq_append] at hl hf hx ⊢
      rw [List.append_assoc] at hf ⊢
      refine ih v (v :: acc) p (h.2 v (mem_upFrom _ _ _ hv.1 (by omega))) (by simp at hl; omega) hf fun x hxp => ⟨?_, (hx x (by simp [hxp])).2⟩
      have := (List.pairwise_append.1 hf).2.2 x hxp v (by simp)
      exact this
/-- the two tests agree -/
theorem hh_eg {l : List Nat} (hf : Fl l) (hl : l.length ≤ 8) (h7 : ∀ x ∈ l, x ≤ 7) : hh 9 l = egFrom l 0 0 := by
  have := chk_sound 8 0 [] l chk_all hl (by simpa using hf) (fun x hx => ⟨Nat.zero_le _, h7 x hx⟩)
  rw [List.append_nil] at this
  simpa [check] using this

/-! ### falling lists -/
theorem ins_perm (x : Nat) : ∀ l : List Nat, (ins x l).Perm (x :: l) := by
  intro l
  induction l with
  | nil => exact List.Perm.refl _
  | cons y ys ih =>
    unfold ins
    cases h : Nat.ble y x with
    | true => exact List.Perm.refl _
    | false => exact (ih.cons y).trans (List.Perm.swap x y ys)
theorem fall_perm : ∀ l : List Nat, (fall l).Perm l := by
  intro l
  induction l with
  | nil => exact List.Perm.refl _
  | cons x xs ih => exact (ins_perm x (fall xs)).trans (ih.cons x)
theorem ins_fl (x : Nat) : ∀ {l : List Nat}, Fl l → Fl (ins x l) := by
  intro l
  induction l with
  | nil => intro _; simp [ins, Fl]
  | cons y ys ih =>
    intro h
    unfold ins
    have h' := List.pairwise_cons.1 h
    cases hb : Nat.ble y x with
    | true =>
      have hyx := Nat.le_of_ble_eq_true hb
      exact List.pairwise_cons.2 ⟨fun z hz => by
        rcases List.mem_cons.1 hz with rfl | hz
        · exact hyx
        · exact Nat.le_trans (h'.1 z hz) hyx, h⟩
    | false =>
      have hyx : ¬ y ≤ x := fun e => by rw [Nat.ble_eq_true_of_le e] at hb; cases hb
      refine List.pairwise_cons.2 ⟨fun z hz => ?_, ih h'.2⟩
      rcases List.mem_cons.1 ((ins_perm x ys).subset hz) with rfl | hz
      · omega
      · exact h'.1 z hz
theorem fall_fl : ∀ l : List Nat, Fl (fall l) := by
  intro l
  induction l with
  | nil => exact List.Pairwise.nil
  | cons x xs ih => exact ins_fl x ih
theorem fl_eq {l l' : List Nat} (hp : l.Perm l') (h : Fl l) (h' : Fl l') : l = l' :=
  List.Perm.eq_of_pairwise (fun _ _ _ _ h1 h2 => Nat.le_antisymm h2 h1) h h' hp
theorem fall_of {l f : List Nat} (hp : l.Perm f) (hf : Fl f) : fall l = f := fl_eq ((fall_perm l).trans hp) (fall_fl l) hf
theorem fall_congr {l l' : List Nat} (hp : l.Perm l') : fall l = fall l' := fall_of (hp.trans (fall_perm l').symm) (fall_fl l')
theorem fall_len (l : List Nat) : (fall l).length = l.length := (fall_perm l).length_eq
theorem mem_fall {l : List Nat} {x : Nat} : x ∈ fall l ↔ x ∈ l := (fall_perm l).mem_iff

/-! ### sums -/
def sm : List Nat → Nat
  | [] => 0
  | x :: xs => x + sm xs
theorem sm_app (l l' : List Nat) : sm (l ++ l') = sm l + sm l' := by
  induction l with
  | nil => simp [sm]
  | cons x xs ih => simp only [List.cons_append, sm, ih]; omega
theorem sm_perm {l l' : List Nat} (h : l.Perm l') : sm l = sm l' := by
  induction h with
  | nil => rfl
  | cons x _ ih => simp only [sm, ih]
  | swap x y l => simp only [sm]; omega
  | trans _ _ ih1 ih2 => exact ih1.trans ih2
theorem mins_nil (k : Nat) : mins k [] = 0 := rfl
theorem mins_cons (k x : Nat) (l : List Nat) : mins k (x :: l) = min x k + mins k l := by
  show (bif Nat.ble x k then x else k) + mins k l = _
  cases h : Nat.ble x k with
  | true => have := Nat.le_of_ble_eq_true h; simp only [cond_true]; omega
  | false =>
    have : ¬ x ≤ k := fun e => by rw [Nat.ble_eq_true_of_le e] at h; cases h
    simp only [cond_false]; omega
theorem ble_iff {a b : Nat} : Nat.ble a b = decide (a ≤ b) := by
  by_cases h : a ≤ b
  · rw [Nat.ble_eq_true_of_le h]; simp [h]
  · cases hb : Nat.ble a b with
    | true => exact absurd (Nat.le_of_ble_eq_true hb) h
    | false => simp [h]
theorem egFrom_bad {l : List Nat} {k s : Nat} (h : k * (k - 1) + mins k l < s) : egFrom l k s = false := by
  cases l with
  | nil =>
    unfold egFrom
    rw [ble_iff, decide_eq_false (by rw [mins_nil] at h; omega)]
    rfl
  | cons x xs =>
    unfold egFrom
    rw [ble_iff, decide_eq_false (by omega)]
    rfl
theorem egFrom_step {x : Nat} {xs : List Nat} {k s : Nat} (h : s ≤ k * (k - 1) + mins k (x :: xs)) : egFrom (x :: xs) k s = egFrom xs (k + 1) (s + x) := by
  conv => lhs; unfold egFrom
  rw [ble_iff, decide_eq_true h]
  rfl
theorem egFrom_end {k s : Nat} (h : s ≤ k * (k - 1) + mins k []) (h2 : s % 2 = 0) : egFrom [] k s = true := by
  unfold egFrom
  rw [ble_iff, decide_eq_true (by rw [mins_nil] at h; omega), h2]
  rfl
theorem egFrom_odd : ∀ {l : List Nat} {k s : Nat}, (s + sm l) % 2 = 1 → egFrom l k s = false := by
  intro l
  induction l with
  | nil =>
    intro k s h
    have : s % 2 = 1 := by simpa [sm] using h
    unfold egFrom
    rw [this]
    exact Bool.and_false _
  | cons x xs ih =>
    intro k s h
    by_cases hle : s ≤ k * (k - 1) + mins k (x :: xs)
    · rw [egFrom_step hle]
      exact ih (by simp only [sm] at h; omega)
    · exact egFrom_bad (by omega)
theorem egFrom_true : ∀ {l : List Nat} {k s : Nat}, (∀ j, j ≤ l.length → s + sm (l.take j) ≤ (k + j) * (k + j - 1) + mins (k + j) (l.drop j)) → (s + sm l) % 2 = 0 → egFrom l k s = true := by
  intro l
  induction l with
  | nil =>
    intro k s h h2
    have h0 := h 0 (Nat.le_refl _)
    exact egFrom_end (by simpa [sm] using h0) (by simpa [sm] using h2)
  | cons x xs ih =>
    intro k s h h2
    have h0 := h 0 (Nat.zero_le _)
    rw [egFrom_step (by simpa [sm] using h0)]
    refine ih (fun j hj => ?_) (by simp only [sm] at h2; omega)
    have := h (j + 1) (by simp; omega)
    simp only [List.take_succ_cons, List.drop_succ_cons, sm] at this
    rw [show k + 1 + j = k + (j + 1) by omega]
    omega

/-! ### taking off the greatest one -/
theorem dec_eq : ∀ (k : Nat) (l : List Nat), dec k l = (l.take k).map (· - 1) ++ l.drop k := by
  intro k
  induction k with
  | zero => intro l; simp [dec]
  | succ k ih =>
    intro l
    cases l with
    | nil => simp [dec]
    | cons x xs => simp [dec, ih]
theorem enough_succ : ∀ (k : Nat) (l : List Nat), enough (k + 1) l = (enough k l && match l.drop k with | [] => false | x :: _ => decide (1 ≤ x)) := by
  intro k
  induction k with
  | zero =>
    intro l
    cases l with
    | nil => rfl
    | cons x xs =>
      unfold enough
      rw [ble_iff]
      by_cases h : 1 ≤ x <;> simp [h, enough]
  | succ k ih =>
    intro l
    cases l with
    | nil => simp [enough]
    | cons x xs =>
      unfold enough
      rw [ble_iff, ih xs]
      by_cases h : 1 ≤ x <;> simp [h]

end Go.Proofs.Ytnekbgeablhgiaa.De
