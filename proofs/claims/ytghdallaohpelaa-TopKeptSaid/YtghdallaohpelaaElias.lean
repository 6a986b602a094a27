/-
  Plain mathematics of Elias codes, without any program: binary digits, gamma and delta codes, reading them, and what holds of these lists of integers.
-/
import Derived.WalkKit
namespace Go.Proofs.Ytghdallaohpelaa.El

/-- the binary digits of n, the highest one first -/
def bin (n : Nat) : List Int := if n < 2 then [(n : Int)] else bin (n / 2) ++ [((n % 2 : Nat) : Int)]
termination_by n
decreasing_by omega

/-- gamma and delta codes -/
def gamma (n : Nat) : List Int := List.replicate ((bin n).length - 1) 0 ++ bin n
def delta (n : Nat) : List Int := gamma (bin n).length ++ (bin n).tail

theorem bin_small {n : Nat} (h : n < 2) : bin n = [(n : Int)] := by rw [bin, if_pos h]
theorem bin_step {n : Nat} (h : 2 ≤ n) : bin n = bin (n / 2) ++ [((n % 2 : Nat) : Int)] := by rw [bin, if_neg (by omega)]

theorem bin_pos (n : Nat) : 0 < (bin n).length := by
  rcases Nat.lt_or_ge n 2 with h | h
  · rw [bin_small h]; simp
  · rw [bin_step h]; simp

/-- the number of digits -/
theorem bin_bounds (n : Nat) : 1 ≤ n → 2 ^ ((bin n).length - 1) ≤ n ∧ n < 2 ^ (bin n).length := by
  induction n using Nat.strongRecOn with
  | ind n ih =>
    intro h1
    rcases Nat.lt_or_ge n 2 with h | h
    · rw [bin_small h]
      obtain rfl : n = 1 := by omega
      simp
    · have := ih (n / 2) (by omega) (by omega)
      have hp := bin_pos (n / 2)
      rw [bin_step h]
      simp only [List.length_append, List.length_cons, List.length_nil, Nat.zero_add, Nat.add_sub_cancel]
      obtain ⟨k, hk⟩ : ∃ k, (bin (n / 2)).length = k + 1 := ⟨(bin (n / 2)).length - 1, by omega⟩
      rw [hk] at this ⊢
      simp only [Nat.add_sub_cancel, Nat.pow_succ] at this ⊢
      omega

theorem bin_len_le {n : Nat} (h1 : 1 ≤ n) (h2 : n ≤ 1000000) : (bin n).length ≤ 20 := by
  have hb := bin_bounds n h1
  rcases Nat.lt_or_ge 20 (bin n).length with h | h
  · have : 2 ^ 20 ≤ 2 ^ ((bin n).length - 1) := Nat.pow_le_pow_right (by omega) (by omega)
    have e : (2 : Nat) ^ 20 = 1048576 := by decide
    omega
  · exact h

theorem bin_mono {n m : Nat} (h1 : 1 ≤ n) (h : n ≤ m) : (bin n).length ≤ (bin m).length := by
  have a := bin_bounds n h1
  have b := bin_bounds m (by omega)
  have hp := bin_pos n
  rcases Nat.lt_or_ge (bin m).length (bin n).length with hlt | hge
  · have : 2 ^ (bin m).length ≤ 2 ^ ((bin n).length - 1) := Nat.pow_le_pow_right (by omega) (by omega)
    omega
  · exact hge

/-- every digit is 0 or 1 -/
theorem bin_bits (n : Nat) : ∀ x ∈ bin n, x = 0 ∨ x = 1 := by
  induction n using Nat.strongRecOn with
  | ind n ih =>
    rcases Nat.lt_or_ge n 2 with h | h
    · rw [bin_small h]
      intro x hx
      simp only [List.mem_singleton] at hx
      omega
    · rw [bin_step h]
      intro x hx
      rcases List.mem_append.1 hx with hx | hx
      · exact ih (n / 2) (by omega) x hx
      · simp only [List.mem_singleton] at hx
        omega

/-- the highest digit is 1 -/
theorem bin_head (n : Nat) (h1 : 1 ≤ n) : ∃ t, bin n = 1 :: t := by
  induction n using Nat.strongRecOn with
  | ind n ih =>
    rcases Nat.lt_or_ge n 2 with h | h
    · obtain rfl : n = 1 := by omega
      exact ⟨[], by rw [bin_small h]; rfl⟩
    · obtain ⟨t, ht⟩ := ih (n / 2) (by omega) (by omega)
      exact ⟨t ++ [((n % 2 : Nat) : Int)], by rw [bin_step h, ht]; rfl⟩

/-- the value of digits, from a number on -/
def val (a : Int) (l : List Int) : Int := l.foldl (fun x b => 2 * x + b) a
theorem val_append (a : Int) (l m : List Int) : val a (l ++ m) = val (val a l) m := by simp [val]
theorem val_cons (a b : Int) (m : List Int) : val a (b :: m) = val (2 * a + b) m := rfl
theorem val_nil (a : Int) : val a [] = a := rfl
theorem val_bin (n : Nat) : val 0 (bin n) = n := by
  induction n using Nat.strongRecOn with
  | ind n ih =>
    rcases Nat.lt_or_ge n 2 with h | h
    · rw [bin_small h]; simp [val]
    · rw [bin_step h, val_append, ih (n / 2) (by omega)]
      simp only [val, List.foldl_cons, List.foldl_nil]
      omega
theorem val_ge (l : List Int) (hl : ∀ x ∈ l, x = 0 ∨ x = 1) : ∀ a : Int, 0 ≤ a → a ≤ val a l := by
  induction l with
  | nil => intro a _; exact Int.le_refl _
  | cons b l ih =>
    intro a ha
    have hb := hl b (List.mem_cons_self ..)
    have := ih (fun x hx => hl x (List.mem_cons_of_mem _ hx)) (2 * a + b) (by omega)
    rw [val_cons]
    omega

/-- digits that begin with 1 are the digits of their value -/
theorem bin_val (l : List Int) (hl : ∀ x ∈ l, x = 0 ∨ x = 1) : ∀ (n : Nat), 1 ≤ n → bin (val n l).toNat = bin n ++ l := by
  induction l with
  | nil => intro n _; simp [val_nil]
  | cons b l ih =>
    intro n hn
    have hb := hl b (List.mem_cons_self ..)
    obtain ⟨m, hm⟩ : ∃ m : Nat, 2 * (n : Int) + b = m := ⟨(2 * (n : Int) + b).toNat, by omega⟩
    rw [val_cons, hm, ih (fun x hx => hl x (List.mem_cons_of_mem _ hx)) m (by omega), bin_step (by omega : 2 ≤ m)]
    rw [show m / 2 = n by omega, show ((m % 2 : Nat) : Int) = b by omega]
    simp

/-- reading k digits behind the number n: none if there are fewer, or the number gets too great -/
def cutD : Int → List Int → Nat → Option (Int × List Int)
  | n, bs, 0 => some (n, bs)
  | _, [], _ + 1 => none
  | n, b :: bs, k + 1 => if 1000000 < 2 * n + b then none else cutD (2 * n + b) bs k

theorem cutD_short : ∀ (k : Nat) (n : Int) (bs : List Int), bs.length < k → cutD n bs k = none := by
  intro k
  induction k with
  | zero => intro n bs h; omega
  | succ k ih =>
    intro n bs h
    cases bs with
    | nil => rfl
    | cons b bs =>
      rw [cutD]
      split
      · rfl
      · exact ih _ _ (by simp at h; omega)

theorem cutD_some : ∀ (k : Nat) (n : Int) (bs : List Int) (m : Int) (r : List Int), n ≤ 1000000 → cutD n bs k = some (m, r) → k ≤ bs.length ∧ r = bs.drop k ∧ m = val n (bs.take k) ∧ m ≤ 1000000 := by
  intro k
  induction k with
  | zero =>
    intro n bs m r hn h
    rw [cutD] at h
    simp only [Option.some.injEq, Prod.mk.injEq] at h
    obtain ⟨rfl, rfl⟩ := h
    exact ⟨Nat.zero_le _, by simp, by simp [val_nil], hn⟩
  | succ k ih =>
    intro n bs m r hn h
    cases bs with
    | nil => simp [cutD] at h
    | cons b bs =>
      rw [cutD] at h
      split at h
      · cases h
      · rename_i hle
        obtain ⟨h1, h2, h3, h4⟩ := ih _ _ _ _ (by omega) h
        exact ⟨by simp; omega, by simpa using h2, by rw [List.take_succ_cons, val_cons]; exact h3, h4⟩

/-- digits that are there, of a number that is not too great, are read -/
theorem cutD_reads : ∀ (l : List Int) (n : Int) (r : List Int), (∀ x ∈ l, x = 0 ∨ x = 1) → 0 ≤ n → val n l ≤ 1000000 → cutD n (l ++ r) l.length = some (val n l, r) := by
  intro l
  induction l with
  | nil => intro n r _ _ _; simp [cutD, val_nil]
  | cons b l ih =>
    intro n r hl hn hv
    have hb := hl b (List.mem_cons_self ..)
    have hl' : ∀ x ∈ l, x = 0 ∨ x = 1 := fun x hx => hl x (List.mem_cons_of_mem _ hx)
    rw [val_cons] at hv ⊢
    have hge := val_ge l hl' (2 * n + b) (by omega)
    rw [List.cons_append, List.length_cons, cutD, if_neg (by omega)]
    exact ih (2 * n + b) r hl' (by omega) hv

/-- how many zeros a list begins with -/
def zeros : List Int → Nat
  | [] => 0
  | b :: bs => if b = 0 then zeros bs + 1 else 0
theorem zeros_le : ∀ bs : List Int, zeros bs ≤ bs.length := by
  intro bs
  induction bs with
  | nil => simp [zeros]
  | cons b bs ih =>
    rw [zeros]
    split
    · simp; omega
    · simp
theorem zeros_zero : ∀ (bs : List Int) (k : Nat), k < zeros bs → bs.getD k 0 = 0 := by
  intro bs
  induction bs with
  | nil => intro k h; simp [zeros] at h
  | cons b bs ih =>
    intro k h
    rw [zeros] at h
    split at h
    · rename_i hb
      cases k with
      | zero => simpa using hb
      | succ k => simpa using ih k (by omega)
    · omega
theorem zeros_stop : ∀ (bs : List Int), zeros bs < bs.length → bs.getD (zeros bs) 0 ≠ 0 := by
  intro bs
  induction bs with
  | nil => intro h; simp at h
  | cons b bs ih =>
    intro h
    rw [zeros] at h ⊢
    split
    · rename_i hb
      rw [if_pos hb] at h
      simpa using ih (by simp at h; omega)
    · rename_i hb
      simpa using hb
theorem zeros_eq (bs : List Int) (k : Nat) (hk : k ≤ bs.length) (h0 : ∀ j, j < k → bs.getD j 0 = 0) (h1 : k < bs.length → bs.getD k 0 ≠ 0) : zeros bs = k := by
  rcases Nat.lt_trichotomy (zeros bs) k with h | h | h
  · exact absurd (h0 _ h) (zeros_stop bs (by omega))
  · exact h
  · have := zeros_le bs
    exact absurd (zeros_zero bs k h) (h1 (by omega))
theorem zeros_replicate (k : Nat) (r : List Int) : zeros (List.replicate k 0 ++ 1 :: r) = k := by
  induction k with
  | zero => simp [zeros]
  | succ k ih => rw [List.replicate_succ, List.cons_append, zeros, if_pos rfl, ih]
theorem take_zeros : ∀ bs : List Int, bs.take (zeros bs) = List.replicate (zeros bs) 0 := by
  intro bs
  induction bs with
  | nil => simp [zeros]
  | cons b bs ih =>
    rw [zeros]
    split
    · rename_i hb
      rw [List.take_succ_cons, List.replicate_succ, ih, hb]
    · simp

/-- one code at the front -/
def cutG (bs : List Int) : Option (Int × List Int) := cutD 0 (bs.drop (zeros bs)) (zeros bs + 1)
def cutDl (bs : List Int) : Option (Int × List Int) :=
  match cutG bs with
  | none => none
  | some (s, r) => cutD 1 r (s - 1).toNat

def Bits (bs : List Int) : Prop := ∀ x ∈ bs, x = 0 ∨ x = 1
theorem Bits.drop {bs : List Int} (h : Bits bs) (k : Nat) : Bits (bs.drop k) := fun x hx => h x (List.mem_of_mem_drop hx)
theorem Bits.take {bs : List Int} (h : Bits bs) (k : Nat) : Bits (bs.take k) := fun x hx => h x (List.mem_of_mem_take hx)

theorem gamma_split {n : Nat} (h1 : 1 ≤ n) : ∃ t, bin n = 1 :: t ∧ gamma n = List.replicate t.length 0 ++ 1 :: t := by
  obtain ⟨t, ht⟩ := bin_head n h1
  exact ⟨t, ht, by rw [gamma, ht]; simp⟩

theorem gamma_len {n : Nat} : (gamma n).length = 2 * (bin n).length - 1 := by
  have := bin_pos n
  rw [gamma]
  simp
  omega
theorem delta_len {n : Nat} : (delta n).length = 2 * (bin (bin n).length).length - 1 + ((bin n).length - 1) := by
  rw [delta, List.length_append, gamma_len]
  simp

/-- a gamma code at the front is read -/
theorem cutG_reads {n : Nat} (h1 : 1 ≤ n) (h2 : n ≤ 1000000) (r : List Int) : cutG (gamma n ++ r) = some ((n : Int), r) := by
  obtain ⟨t, ht, hg⟩ := gamma_split h1
  have hz : zeros (gamma n ++ r) = t.length := by
    rw [hg, List.append_assoc, List.cons_append]
    exact zeros_replicate _ _
  rw [cutG, hz, hg, List.append_assoc, List.drop_left' (by simp)]
  have hv := val_bin n
  have hr := cutD_reads (bin n) 0 r (bin_bits n) (by omega) (by rw [hv]; omega)
  rw [hv, ht] at hr
  simpa using hr

theorem delta_reads {n : Nat} (h1 : 1 ≤ n) (h2 : n ≤ 1000000) (r : List Int) : cutDl (delta n ++ r) = some ((n : Int), r) := by
  have hl := bin_len_le h1 h2
  have hp := bin_pos n
  obtain ⟨t, ht⟩ := bin_head n h1
  rw [cutDl, delta, List.append_assoc, cutG_reads hp (by omega)]
  have hv := val_bin n
  have hb := bin_bits n
  rw [ht] at hv hb
  rw [val_cons] at hv
  have hr := cutD_reads t 1 r (fun x hx => hb x (List.mem_cons_of_mem _ hx)) (by omega) (by simp at hv; omega)
  simp only [ht, List.tail_cons, List.length_cons]
  rw [show ((((t.length + 1 : Nat)) : Int) - 1).toNat = t.length by omega, hr]
  simp only [Option.some.injEq, Prod.mk.injEq, and_true]
  simpa using hv

/-- what is read is a code -/
theorem cutG_some {bs : List Int} (hb : Bits bs) {m : Int} {r : List Int} (h : cutG bs = some (m, r)) : 1 ≤ m ∧ m ≤ 1000000 ∧ bs = gamma m.toNat ++ r ∧ r.length < bs.length ∧ Bits r := by
  rw [cutG] at h
  obtain ⟨h1, h2, h3, h4⟩ := cutD_some _ _ _ _ _ (by omega) h
  have hz := zeros_le bs
  generalize hk : zeros bs = k at *
  have hlen : (bs.drop k).length = bs.length - k := by simp
  rw [hlen] at h1
  have hklt : zeros bs < bs.length := by omega
  have hstop := zeros_stop bs hklt
  rw [hk] at hstop
  have hd : bs.drop k = bs.getD k 0 :: bs.drop (k + 1) := by
    have hlt : k < bs.length := by omega
    rw [List.drop_eq_getElem_cons hlt]
    simp [List.getD, hlt]
  have hmem : bs.getD k 0 ∈ bs := by
    have hlt : k < bs.length := by omega
    simp [List.getD, hlt]
  have hone : bs.getD k 0 = 1 := by
    rcases hb _ hmem with h0 | h0
    · exact absurd h0 hstop
    · exact h0
  rw [hone] at hd
  have hbt : ∀ x ∈ (bs.drop (k + 1)).take k, x = 0 ∨ x = 1 := ((hb.drop (k + 1)).take k)
  rw [hd, List.take_succ_cons, val_cons] at h3
  have hm1 := val_ge _ hbt 1 (by omega)
  have h3' : m = val ((1 : Nat) : Int) ((bs.drop (k + 1)).take k) := by simpa using h3
  have hbin := bin_val _ hbt 1 (by omega)
  rw [← h3', bin_small (by omega : 1 < 2)] at hbin
  have hlt : ((bs.drop (k + 1)).take k).length = k := by simp; omega
  have hm1' : 1 ≤ m := by rw [h3']; simpa using hm1
  refine ⟨hm1', h4, ?_, by rw [h2]; simp; omega, by rw [h2]; exact (hb.drop k).drop _⟩
  have hbl : (bin m.toNat).length = k + 1 := by rw [hbin]; simp only [List.length_append, hlt, List.length_cons, List.length_nil]; omega
  rw [gamma, hbl, Nat.add_sub_cancel, hbin]
  have ht := take_zeros bs
  rw [hk] at ht
  rw [← ht, h2]
  have e1 : bs.take k ++ bs.drop k = bs := List.take_append_drop k bs
  have e2 : (bs.drop k).take (k + 1) ++ (bs.drop k).drop (k + 1) = bs.drop k := List.take_append_drop (k + 1) (bs.drop k)
  have e3 : (bs.drop k).take (k + 1) = [((1 : Nat) : Int)] ++ (bs.drop (k + 1)).take k := by rw [hd, List.take_succ_cons]; rfl
  rw [← e3, List.append_assoc, e2, e1]

theorem cutDl_some {bs : List Int} (hb : Bits bs) {m : Int} {r : List Int} (h : cutDl bs = some (m, r)) : 1 ≤ m ∧ m ≤ 1000000 ∧ bs = delta m.toNat ++ r ∧ r.length < bs.length ∧ Bits r := by
  rw [cutDl] at h
  cases hg : cutG bs with
  | none => rw [hg] at h; cases h
  | some p =>
    obtain ⟨s, q⟩ := p
    rw [hg] at h
    simp only at h
    obtain ⟨s1, s2, s3, s4, s5⟩ := cutG_some hb hg
    obtain ⟨h1, h2, h3, h4⟩ := cutD_some _ _ _ _ _ (by omega) h
    have hbt : ∀ x ∈ q.take (s - 1).toNat, x = 0 ∨ x = 1 := s5.take _
    have hm1 := val_ge _ hbt 1 (by omega)
    have h3' : m = val ((1 : Nat) : Int) (q.take (s - 1).toNat) := by simpa using h3
    have hbin := bin_val _ hbt 1 (by omega)
    rw [← h3', bin_small (by omega : 1 < 2)] at hbin
    refine ⟨by omega, h4, ?_, ?_, by rw [h2]; exact s5.drop _⟩
    · have hbl : (bin m.toNat).length = s.toNat := by
        rw [hbin]
        simp only [List.length_append, List.length_take, List.length_cons, List.length_nil]
        omega
      rw [delta, hbl, hbin, h2, s3]
      simp only [List.singleton_append, List.tail_cons, List.append_assoc]
      rw [List.take_append_drop]
    · rw [h2]; simp; omega

/-- reading all codes: 'cut' reads one; the fuel is at least the length -/
def readAll (cut : List Int → Option (Int × List Int)) : Nat → List Int → Option (List Int)
  | _, [] => some []
  | 0, _ :: _ => none
  | f + 1, b :: bs =>
    match cut (b :: bs) with
    | none => none
    | some (n, r) => (readAll cut f r).map (n :: ·)

theorem readAll_step (cut : List Int → Option (Int × List Int)) (f : Nat) {bs : List Int} (h : 0 < bs.length) :
    readAll cut (f + 1) bs = match cut bs with
      | none => none
      | some (n, r) => (readAll cut f r).map (n :: ·) := by
  cases bs with
  | nil => simp at h
  | cons b bs => rfl
theorem readAll_nil (cut : List Int → Option (Int × List Int)) (f : Nat) : readAll cut f [] = some [] := by cases f <;> rfl

/-- the codes of numbers, one behind the other -/
def codes (code : Nat → List Int) (ns : List Int) : List Int := ns.flatMap fun n => code n.toNat
theorem codes_cons (code : Nat → List Int) (n : Int) (ns : List Int) : codes code (n :: ns) = code n.toNat ++ codes code ns := by simp [codes]
theorem codes_snoc (code : Nat → List Int) (n : Int) (ns : List Int) : codes code (ns ++ [n]) = codes code ns ++ code n.toNat := by simp [codes]

def Nums (ns : List Int) : Prop := ∀ n ∈ ns, 1 ≤ n ∧ n ≤ 1000000

theorem readAll_codes (cut : List Int → Option (Int × List Int)) (code : Nat → List Int) (hp : ∀ n, 0 < (code n).length)
    (hc : ∀ (n : Nat), 1 ≤ n → n ≤ 1000000 → ∀ r, cut (code n ++ r) = some ((n : Int), r)) :
    ∀ (ns : List Int) (f : Nat), Nums ns → (codes code ns).length ≤ f → readAll cut f (codes code ns) = some ns := by
  intro ns
  induction ns with
  | nil => intro f _ _; exact readAll_nil _ _
  | cons n ns ih =>
    intro f hn hf
    have h1 := hn n (List.mem_cons_self ..)
    have hl := hp n.toNat
    rw [codes_cons] at hf ⊢
    rw [List.length_append] at hf
    obtain ⟨f, rfl⟩ : ∃ g, f = g + 1 := ⟨f - 1, by omega⟩
    rw [readAll_step _ _ (by rw [List.length_append]; omega), hc n.toNat (by omega) (by omega)]
    simp only
    rw [ih f (fun x hx => hn x (List.mem_cons_of_mem _ hx)) (by omega)]
    simp
    omega

theorem readAll_some (cut : List Int → Option (Int × List Int)) (code : Nat → List Int)
    (hc : ∀ (bs : List Int), Bits bs → ∀ m r, cut bs = some (m, r) → 1 ≤ m ∧ m ≤ 1000000 ∧ bs = code m.toNat ++ r ∧ r.length < bs.length ∧ Bits r) :
    ∀ (f : Nat) (bs ns : List Int), Bits bs → readAll cut f bs = some ns → codes code ns = bs ∧ Nums ns := by
  intro f
  induction f with
  | zero =>
    intro bs ns _ h
    cases bs with
    | nil => rw [readAll_nil] at h; cases h; exact ⟨rfl, fun _ hx => by cases hx⟩
    | cons b bs => simp [readAll] at h
  | succ f ih =>
    intro bs ns hb h
    cases bs with
    | nil => rw [readAll_nil] at h; cases h; exact ⟨rfl, fun _ hx => by cases hx⟩
    | cons b bs =>
      rw [readAll_step _ _ (by simp)] at h
      cases hcut : cut (b :: bs) with
      | none => rw [hcut] at h; cases h
      | some p =>
        obtain ⟨m, r⟩ := p
        rw [hcut] at h
        simp only [Option.map_eq_some_iff] at h
        obtain ⟨ms, h1, rfl⟩ := h
        obtain ⟨c1, c2, c3, c4, c5⟩ := hc _ hb _ _ hcut
        obtain ⟨e1, e2⟩ := ih _ _ c5 h1
        refine ⟨by rw [codes_cons, e1, c3], fun x hx => ?_⟩
        rcases List.mem_cons.1 hx with rfl | hx
        · exact ⟨c1, c2⟩
        · exact e2 x hx

theorem gamma_pos (n : Nat) : 0 < (gamma n).length := by have := bin_pos n; rw [gamma_len]; omega
theorem delta_pos (n : Nat) : 0 < (delta n).length := by have := bin_pos (bin n).length; rw [delta_len]; omega

/-- what ReadGamma and ReadDelta come to: the error's number, or the numbers -/
def readG (bs : List Int) : Option (List Int) := readAll cutG bs.length bs
def readD (bs : List Int) : Option (List Int) := readAll cutDl bs.length bs
theorem readG_codes {ns : List Int} (h : Nums ns) : readG (codes gamma ns) = some ns :=
  readAll_codes cutG gamma gamma_pos (fun _ h1 h2 r => cutG_reads h1 h2 r) ns _ h (Nat.le_refl _)
theorem readD_codes {ns : List Int} (h : Nums ns) : readD (codes delta ns) = some ns :=
  readAll_codes cutDl delta delta_pos (fun _ h1 h2 r => delta_reads h1 h2 r) ns _ h (Nat.le_refl _)
theorem readG_some {bs ns : List Int} (hb : Bits bs) (h : readG bs = some ns) : codes gamma ns = bs ∧ Nums ns :=
  readAll_some cutG gamma (fun _ hb _ _ h => cutG_some hb h) _ _ _ hb h
theorem readD_some {bs ns : List Int} (hb : Bits bs) (h : readD bs = some ns) : codes delta ns = bs ∧ Nums ns :=
  readAll_some cutDl delta (fun _ hb _ _ h => cutDl_some hb h) _ _ _ hb h

end Go.Proofs.Ytghdallaohpelaa.El
