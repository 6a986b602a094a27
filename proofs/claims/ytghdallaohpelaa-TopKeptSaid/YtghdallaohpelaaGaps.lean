/-
  Plain mathematics of gap-encoded lists and of runs, without any program: what is wrong with a list, its differences, its codes, reading them, and its runs of consecutive numbers.
-/
import Derived.Test.YtghdallaohpelaaElias
namespace Go.Proofs.Ytghdallaohpelaa.Ga

/-- the number of the first fault of a list behind the number 'last'; 0: none -/
def fault (last : Int) : List Int → Int
  | [] => 0
  | n :: l => if n < 0 ∨ 1000000 ≤ n then 1 else if n ≤ last then 3 else fault n l
def code (l : List Int) : Int := if 30 < l.length then 4 else fault (-1) l

/-- the number ahead of place k, or a -/
def lastAt (a : Int) (l : List Int) (k : Nat) : Int := if k = 0 then a else l.getD (k - 1) 0
theorem lastAt_zero (a : Int) (l : List Int) : lastAt a l 0 = a := rfl
theorem lastAt_succ (a : Int) (l : List Int) (k : Nat) : lastAt a l (k + 1) = l.getD k 0 := by simp [lastAt]
theorem drop_at {l : List Int} {k : Nat} (h : k < l.length) : l.drop k = l.getD k 0 :: l.drop (k + 1) := by
  rw [List.drop_eq_getElem_cons h]
  simp [List.getD, h]
theorem take_at {l : List Int} {k : Nat} (h : k < l.length) : l.take (k + 1) = l.take k ++ [l.getD k 0] := by
  rw [List.take_succ_eq_append_getElem h]
  simp [List.getD, h]

theorem fault_bad {a : Int} {l : List Int} {k : Nat} (hk : k < l.length) (h : l.getD k 0 < 0 ∨ 1000000 ≤ l.getD k 0) : fault a (l.drop k) = 1 := by
  rw [drop_at hk, fault, if_pos h]
theorem fault_low {a : Int} {l : List Int} {k : Nat} (hk : k < l.length) (h1 : 0 ≤ l.getD k 0) (h2 : l.getD k 0 < 1000000) (h : l.getD k 0 ≤ a) : fault a (l.drop k) = 3 := by
  rw [drop_at hk, fault, if_neg (by omega), if_pos h]
theorem fault_on {a : Int} {l : List Int} {k : Nat} (hk : k < l.length) (h1 : 0 ≤ l.getD k 0) (h2 : l.getD k 0 < 1000000) (h : a < l.getD k 0) : fault a (l.drop k) = fault (l.getD k 0) (l.drop (k + 1)) := by
  rw [drop_at hk, fault, if_neg (by omega), if_neg (by omega)]

/-- a list without fault: within bounds, and rising -/
def Up (a : Int) : List Int → Prop
  | [] => True
  | n :: l => 0 ≤ n ∧ n < 1000000 ∧ a < n ∧ Up n l
theorem up_of : ∀ (l : List Int) (a : Int), fault a l = 0 → Up a l := by
  intro l
  induction l with
  | nil => intro a _; trivial
  | cons n l ih =>
    intro a h
    rw [fault] at h
    split at h
    · omega
    · split at h
      · omega
      · exact ⟨by omega, by omega, by omega, ih _ h⟩
theorem fault_up : ∀ (l : List Int) (a : Int), Up a l → fault a l = 0 := by
  intro l
  induction l with
  | nil => intro a _; rfl
  | cons n l ih =>
    intro a h
    obtain ⟨h1, h2, h3, h4⟩ := h
    rw [fault, if_neg (by omega), if_neg (by omega)]
    exact ih _ h4
theorem code_zero {l : List Int} (h : code l = 0) : l.length ≤ 30 ∧ Up (-1) l := by
  unfold code at h
  split at h
  · omega
  · exact ⟨by omega, up_of _ _ h⟩
theorem code_up {l : List Int} (h : l.length ≤ 30) (hu : Up (-1) l) : code l = 0 := by
  unfold code
  rw [if_neg (by omega)]
  exact fault_up _ _ hu
theorem Up.at_ : ∀ (l : List Int) (a : Int), Up a l → ∀ k, k < l.length → 0 ≤ l.getD k 0 ∧ l.getD k 0 < 1000000 ∧ lastAt a l k < l.getD k 0 := by
  intro l
  induction l with
  | nil => intro a _ k hk; simp at hk
  | cons n l ih =>
    intro a h k hk
    obtain ⟨h1, h2, h3, h4⟩ := h
    cases k with
    | zero => simp [lastAt, h1, h2, h3]
    | succ k =>
      have := ih n h4 k (by simpa using hk)
      rw [lastAt_succ]
      have e : lastAt n l k = (n :: l).getD k 0 := by
        cases k with
        | zero => simp [lastAt]
        | succ k => rw [lastAt_succ]; simp
      rw [e] at this
      simpa using this
theorem up_at : ∀ (l : List Int) (a : Int), (∀ k, k < l.length → 0 ≤ l.getD k 0 ∧ l.getD k 0 < 1000000 ∧ lastAt a l k < l.getD k 0) → Up a l := by
  intro l
  induction l with
  | nil => intro a _; trivial
  | cons n l ih =>
    intro a h
    have h0 := h 0 (by simp)
    simp [lastAt] at h0
    refine ⟨h0.1, h0.2.1, h0.2.2, ih n fun k hk => ?_⟩
    have := h (k + 1) (by simpa using hk)
    rw [lastAt_succ] at this
    have e : lastAt n l k = (n :: l).getD k 0 := by
      cases k with
      | zero => simp [lastAt]
      | succ k => rw [lastAt_succ]; simp
    rw [e]
    simpa using this
theorem Up.low {l : List Int} {a : Int} (h : Up a l) (ha : -1 ≤ a) : ∀ k, k ≤ l.length → -1 ≤ lastAt a l k := by
  intro k hk
  cases k with
  | zero => exact ha
  | succ k =>
    rw [lastAt_succ]
    have := (Up.at_ l a h k hk).1
    omega

/-- the differences -/
def gaps (a : Int) : List Int → List Int
  | [] => []
  | n :: l => (n - a) :: gaps n l
theorem gaps_len : ∀ (l : List Int) (a : Int), (gaps a l).length = l.length := by
  intro l
  induction l with
  | nil => intro a; rfl
  | cons n l ih => intro a; simp [gaps, ih]
theorem gaps_take : ∀ (l : List Int) (a : Int) (k : Nat), k < l.length → gaps a (l.take (k + 1)) = gaps a (l.take k) ++ [l.getD k 0 - lastAt a l k] := by
  intro l
  induction l with
  | nil => intro a k h; simp at h
  | cons n l ih =>
    intro a k h
    cases k with
    | zero => simp [gaps, lastAt]
    | succ k =>
      have := ih n k (by simpa using h)
      have e : lastAt n l k = (n :: l).getD k 0 := by
        cases k with
        | zero => simp [lastAt]
        | succ k => rw [lastAt_succ]; simp
      rw [e] at this
      rw [lastAt_succ]
      simp only [List.take_succ_cons, gaps, List.cons_append, this]
      simp
theorem gaps_nums : ∀ (l : List Int) (a : Int), -1 ≤ a → Up a l → El.Nums (gaps a l) := by
  intro l
  induction l with
  | nil => intro a _ _ n hn; cases hn
  | cons n l ih =>
    intro a ha h x hx
    obtain ⟨h1, h2, h3, h4⟩ := h
    rcases List.mem_cons.1 hx with rfl | hx
    · omega
    · exact ih n (by omega) h4 x hx

/-- all numbers that Write encodes, and the codes -/
def nums (l : List Int) : List Int := ((l.length : Int) + 1) :: gaps (-1) l
def write (l : List Int) : List Int := El.codes El.delta (nums l)
theorem nums_nums {l : List Int} (h : code l = 0) : El.Nums (nums l) := by
  obtain ⟨h1, h2⟩ := code_zero h
  intro x hx
  rcases List.mem_cons.1 hx with rfl | hx
  · omega
  · exact gaps_nums l (-1) (by omega) h2 x hx
theorem nums_len (l : List Int) : (nums l).length = l.length + 1 := by simp [nums, gaps_len]

/-- the list with given differences; none: a number is too great -/
def list (a : Int) : List Int → Option (List Int)
  | [] => some []
  | g :: gs => if 1000000 ≤ a + g then none else (list (a + g) gs).map ((a + g) :: ·)
theorem list_gaps : ∀ (l : List Int) (a : Int), Up a l → list a (gaps a l) = some l := by
  intro l
  induction l with
  | nil => intro a _; rfl
  | cons n l ih =>
    intro a h
    obtain ⟨h1, h2, h3, h4⟩ := h
    rw [gaps, list, show a + (n - a) = n by omega, if_neg (by omega), ih n h4]
    rfl

/-- what the two loops that read differences keep: the numbers so far, and the last of them -/
def Listing (gs : List Int) (k : Nat) (out : List Int) : Prop :=
  out.length = k ∧ -1 ≤ lastAt (-1) out k ∧ lastAt (-1) out k < 1000000 ∧ list (-1) gs = (list (lastAt (-1) out k) (gs.drop k)).map (out ++ ·)
theorem Listing.start (gs : List Int) : Listing gs 0 [] := ⟨rfl, by simp [lastAt], by simp [lastAt], by simp [lastAt]⟩
theorem Listing.bad {gs : List Int} {k : Nat} {out : List Int} (h : Listing gs k out) (hk : k < gs.length) (hb : 1000000 ≤ lastAt (-1) out k + gs.getD k 0) : list (-1) gs = none := by
  rw [h.2.2.2, drop_at hk, list, if_pos hb]
  rfl
theorem Listing.on {gs : List Int} {k : Nat} {out : List Int} (h : Listing gs k out) (hk : k < gs.length) (h1 : 1 ≤ gs.getD k 0) (hb : lastAt (-1) out k + gs.getD k 0 < 1000000) : Listing gs (k + 1) (out ++ [lastAt (-1) out k + gs.getD k 0]) := by
  obtain ⟨a1, a2, a3, a4⟩ := h
  have e : lastAt (-1) (out ++ [lastAt (-1) out k + gs.getD k 0]) (k + 1) = lastAt (-1) out k + gs.getD k 0 := by
    rw [lastAt_succ, ← a1]
    simp [List.getD]
  refine ⟨by simp [a1], by rw [e]; omega, by rw [e]; omega, ?_⟩
  rw [e, a4, drop_at hk, list, if_neg (by omega), Option.map_map]
  congr 1
  funext x
  simp
theorem Listing.stop {gs : List Int} {k : Nat} {out : List Int} (h : Listing gs k out) (hk : gs.length ≤ k) : list (-1) gs = some out := by
  rw [h.2.2.2, List.drop_eq_nil_of_le hk, list]
  simp

/-- what reading comes to, the delta codes being read: the fault's number, and the list -/
def rcode (ns : List Int) : Int :=
  if ns.length = 0 then 5 else if 31 < ns.length then 4 else if ns.getD 0 0 ≠ (ns.length : Int) then 3 else if (list (-1) ns.tail).isSome = true then 0 else 1
def rlist (ns : List Int) : List Int := (list (-1) ns.tail).getD []
theorem rcode_none {ns : List Int} (h : ns.length = 0) : rcode ns = 5 := by unfold rcode; rw [if_pos h]
theorem rcode_full {ns : List Int} (h : 31 < ns.length) : rcode ns = 4 := by unfold rcode; rw [if_neg (by omega), if_pos h]
theorem rcode_shape {ns : List Int} (h0 : ns.length ≠ 0) (h : ¬ 31 < ns.length) (h1 : ns.getD 0 0 ≠ (ns.length : Int)) : rcode ns = 3 := by unfold rcode; rw [if_neg h0, if_neg h, if_pos h1]
theorem rcode_range {ns : List Int} (h0 : ns.length ≠ 0) (h : ¬ 31 < ns.length) (h1 : ns.getD 0 0 = (ns.length : Int)) (h2 : list (-1) ns.tail = none) : rcode ns = 1 := by
  unfold rcode; rw [if_neg h0, if_neg h, if_neg (by simpa using h1), h2]; rfl
theorem rcode_ok {ns : List Int} {l : List Int} (h0 : ns.length ≠ 0) (h : ¬ 31 < ns.length) (h1 : ns.getD 0 0 = (ns.length : Int)) (h2 : list (-1) ns.tail = some l) : rcode ns = 0 := by
  unfold rcode; rw [if_neg h0, if_neg h, if_neg (by simpa using h1), h2]; rfl
theorem rlist_ok {ns : List Int} {l : List Int} (h2 : list (-1) ns.tail = some l) : rlist ns = l := by unfold rlist; rw [h2]; rfl

theorem read_nums {l : List Int} (h : code l = 0) : rcode (nums l) = 0 ∧ rlist (nums l) = l := by
  obtain ⟨h1, h2⟩ := code_zero h
  have hl := list_gaps l (-1) h2
  exact ⟨rcode_ok (by rw [nums_len]; omega) (by rw [nums_len]; omega) (by rw [nums_len]; simp [nums]) hl, rlist_ok hl⟩
theorem write_read {l : List Int} (h : code l = 0) : El.readD (write l) = some (nums l) := El.readD_codes (nums_nums h)
theorem write_inj {a b : List Int} (ha : code a = 0) (hb : code b = 0) (h : write a = write b) : a = b := by
  have h1 := write_read ha
  rw [h, write_read hb] at h1
  have e : nums b = nums a := by simpa using h1
  have := (read_nums ha).2
  rw [← e, (read_nums hb).2] at this
  exact this.symm

theorem delta_le {n : Nat} (h1 : 1 ≤ n) (h2 : n ≤ 1000000) : (El.delta n).length ≤ 60 := by
  have hb := El.bin_len_le h1 h2
  have hp := El.bin_pos n
  have hb2 := El.bin_len_le hp (by omega : (El.bin n).length ≤ 1000000)
  rw [El.delta_len]
  omega
theorem codes_le : ∀ (ns : List Int), El.Nums ns → (El.codes El.delta ns).length ≤ 60 * ns.length := by
  intro ns
  induction ns with
  | nil => intro _; simp [El.codes]
  | cons n ns ih =>
    intro h
    have h1 := h n (List.mem_cons_self ..)
    have := ih fun x hx => h x (List.mem_cons_of_mem _ hx)
    have hd := delta_le (n := n.toNat) (by omega) (by omega)
    rw [El.codes_cons, List.length_append, List.length_cons]
    omega
theorem codes_take {ns : List Int} {k : Nat} (h : k < ns.length) : El.codes El.delta (ns.take (k + 1)) = El.codes El.delta (ns.take k) ++ El.delta (ns.getD k 0).toNat := by
  rw [take_at h, El.codes_snoc]
theorem nums_at {ns : List Int} (h : El.Nums ns) {k : Nat} (hk : k < ns.length) : 1 ≤ ns.getD k 0 ∧ ns.getD k 0 ≤ 1000000 := by
  refine h _ ?_
  simp [List.getD, hk]
theorem Nums.take {ns : List Int} (h : El.Nums ns) (k : Nat) : El.Nums (ns.take k) := fun x hx => h x (List.mem_of_mem_take hx)

/-! ### runs -/
/-- how many numbers go on behind n -/
def runLen : Int → List Int → Nat
  | _, [] => 0
  | n, m :: l => if m = n + 1 then runLen m l + 1 else 0
def runs (a : Int) : List Int → List (Int × Int)
  | [] => []
  | n :: l => if n = a + 1 then runs n l else (n, ((runLen n l : Nat) : Int) + 1) :: runs n l
theorem runLen_le : ∀ (l : List Int) (n : Int), runLen n l ≤ l.length := by
  intro l
  induction l with
  | nil => intro n; exact Nat.le_refl _
  | cons m l ih =>
    intro n
    rw [runLen]
    have := ih m
    split <;> simp <;> omega

/-- t more in the last run -/
def more : List (Int × Int) → Int → List (Int × Int)
  | [], _ => []
  | [p], t => [(p.1, p.2 + t)]
  | p :: q :: r, t => p :: more (q :: r) t
theorem more_snoc : ∀ (r : List (Int × Int)) (a c t : Int), more (r ++ [(a, c)]) t = r ++ [(a, c + t)] := by
  intro r
  induction r with
  | nil => intro a c t; rfl
  | cons p r ih =>
    intro a c t
    cases r with
    | nil => rfl
    | cons q r =>
      have := ih a c t
      simp only [List.cons_append] at this ⊢
      rw [more, this]
theorem more_zero : ∀ (r : List (Int × Int)), more r 0 = r := by
  intro r
  induction r with
  | nil => rfl
  | cons p r ih =>
    cases r with
    | nil => simp [more]
    | cons q r => rw [more, ih]

/-- what the loop of Runs keeps -/
def Running (l : List Int) (k : Nat) (rs : List (Int × Int)) : Prop :=
  rs.length ≤ k ∧ ((k = 0 ∧ rs = []) ∨ (0 < k ∧ ∃ (front : List (Int × Int)) (a c : Int), rs = front ++ [(a, c)] ∧ 0 ≤ c ∧ c ≤ (k : Int))) ∧
  runs (-2) l = more rs ((runLen (lastAt (-2) l k) (l.drop k) : Nat) : Int) ++ runs (lastAt (-2) l k) (l.drop k)
theorem Running.start (l : List Int) : Running l 0 [] := ⟨Nat.le_refl _, .inl ⟨rfl, rfl⟩, by simp [more, lastAt]⟩
theorem Running.stop {l : List Int} {k : Nat} {rs : List (Int × Int)} (h : Running l k rs) (hk : l.length ≤ k) : runs (-2) l = rs := by
  obtain ⟨_, _, h⟩ := h
  rw [h, List.drop_eq_nil_of_le hk, runLen, runs]
  simp [more_zero]
theorem Running.fresh {l : List Int} {k : Nat} {rs : List (Int × Int)} (h : Running l k rs) (hk : k < l.length) (hn : l.getD k 0 ≠ lastAt (-2) l k + 1) : Running l (k + 1) (rs ++ [(l.getD k 0, 1)]) := by
  obtain ⟨h1, h2, h3⟩ := h
  refine ⟨by simp; omega, .inr ⟨by omega, rs, _, _, rfl, by omega, by omega⟩, ?_⟩
  rw [h3, drop_at hk, runLen, if_neg hn, runs, if_neg hn, lastAt_succ, more_snoc, show ((0 : Nat) : Int) = 0 from rfl, more_zero]
  simp only [List.append_assoc, List.singleton_append, List.append_cancel_left_eq, List.cons.injEq, Prod.mk.injEq, true_and, and_true]
  omega
theorem Running.on {l : List Int} {k : Nat} {front : List (Int × Int)} {a c : Int} (h : Running l k (front ++ [(a, c)])) (hk : k < l.length) (h0 : 0 ≤ c) (hc : c ≤ k) (hn : l.getD k 0 = lastAt (-2) l k + 1) : Running l (k + 1) (front ++ [(a, c + 1)]) := by
  obtain ⟨h1, h2, h3⟩ := h
  refine ⟨by simp at h1 ⊢; omega, .inr ⟨by omega, front, a, c + 1, rfl, by omega, by omega⟩, ?_⟩
  rw [h3, drop_at hk, runLen, if_pos hn, runs, if_pos hn, lastAt_succ, more_snoc, more_snoc]
  simp only [List.append_cancel_right_eq, List.append_cancel_left_eq, List.cons.injEq, Prod.mk.injEq, true_and, and_true]
  omega

/-- the numbers of runs -/
def span (a : Int) (n : Nat) : List Int := (List.range n).map fun j => a + ((j : Nat) : Int)
def spread (rs : List (Int × Int)) : List Int := rs.flatMap fun p => span p.1 p.2.toNat
theorem span_succ (a : Int) (n : Nat) : span a (n + 1) = span a n ++ [a + n] := by simp [span, List.range_succ]
theorem span_cons (a : Int) (n : Nat) : span a (n + 1) = a :: span (a + 1) n := by
  simp only [span, List.range_succ_eq_map, List.map_cons, List.map_map]
  congr 1
  · simp
  · apply List.map_congr_left
    intro j _
    simp only [Function.comp]
    omega
theorem run_take : ∀ (l : List Int) (n : Int), l.take (runLen n l) = span (n + 1) (runLen n l) := by
  intro l
  induction l with
  | nil => intro n; rfl
  | cons m l ih =>
    intro n
    rw [runLen]
    split
    · rename_i h
      rw [List.take_succ_cons, span_cons, ih m, h]
    · rfl
theorem spread_runs : ∀ (l : List Int) (a : Int), spread (runs a l) = l.drop (runLen a l) := by
  intro l
  induction l with
  | nil => intro a; rfl
  | cons n l ih =>
    intro a
    rw [runs, runLen]
    split
    · rw [ih n]; rfl
    · have h1 := ih n
      have h2 := run_take l n
      simp only [spread, List.flatMap_cons, List.drop_zero] at h1 ⊢
      rw [h1, show (((runLen n l : Nat) : Int) + 1).toNat = runLen n l + 1 by omega, span_cons, ← h2]
      simp
theorem spread_all {l : List Int} (h : Up (-1) l) : spread (runs (-2) l) = l := by
  rw [spread_runs]
  cases l with
  | nil => rfl
  | cons n l =>
    have : runLen (-2) (n :: l) = 0 := by rw [runLen, if_neg (by have := h.1; omega)]
    rw [this]
    rfl
/-- each run has a number at least, and the next one stands apart -/
def Apart (b : Int) : List (Int × Int) → Prop
  | [] => True
  | p :: r => b < p.1 ∧ 1 ≤ p.2 ∧ Apart (p.1 + p.2) r
theorem apart_runs : ∀ (l : List Int) (a : Int), Up a l → Apart (a + 1 + ((runLen a l : Nat) : Int)) (runs a l) := by
  intro l
  induction l with
  | nil => intro a _; trivial
  | cons n l ih =>
    intro a h
    obtain ⟨h1, h2, h3, h4⟩ := h
    have := ih n h4
    rw [runs, runLen]
    split
    · rename_i he
      rw [show a + 1 + ((runLen n l + 1 : Nat) : Int) = n + 1 + ((runLen n l : Nat) : Int) by omega]
      exact this
    · refine ⟨?_, ?_, ?_⟩
      · show a + 1 + ((0 : Nat) : Int) < n
        omega
      · show (1 : Int) ≤ ((runLen n l : Nat) : Int) + 1
        omega
      · show Apart (n + (((runLen n l : Nat) : Int) + 1)) (runs n l)
        rw [show n + (((runLen n l : Nat) : Int) + 1) = n + 1 + ((runLen n l : Nat) : Int) by omega]
        exact this
theorem count_le : ∀ (l : List Int) (a : Int), ∀ p ∈ runs a l, p.2 ≤ (l.length : Int) := by
  intro l
  induction l with
  | nil => intro a p hp; cases hp
  | cons n l ih =>
    intro a p hp
    rw [runs] at hp
    have hle := runLen_le l n
    split at hp
    · have := ih n p hp
      simp; omega
    · rcases List.mem_cons.1 hp with rfl | hp
      · simp; omega
      · have := ih n p hp
        simp; omega
theorem runs_bounds : ∀ (l : List Int) (a : Int), Up a l → ∀ p ∈ runs a l, 0 ≤ p.1 ∧ p.1 < 1000000 := by
  intro l
  induction l with
  | nil => intro a _ p hp; cases hp
  | cons n l ih =>
    intro a h p hp
    obtain ⟨h1, h2, h3, h4⟩ := h
    rw [runs] at hp
    split at hp
    · exact ih n h4 p hp
    · rcases List.mem_cons.1 hp with rfl | hp
      · exact ⟨h1, h2⟩
      · exact ih n h4 p hp
theorem runs_len : ∀ (l : List Int) (a : Int), (runs a l).length ≤ l.length := by
  intro l
  induction l with
  | nil => intro a; exact Nat.le_refl _
  | cons n l ih =>
    intro a
    have := ih n
    rw [runs]
    split <;> simp <;> omega

end Go.Proofs.Ytghdallaohpelaa.Ga
