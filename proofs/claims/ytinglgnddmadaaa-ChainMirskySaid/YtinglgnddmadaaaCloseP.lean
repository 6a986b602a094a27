/-
  Plain facts on ways, with no program in them: a table of eight times eight truth values that is filled in place, point by point in between (Warshall), says where ways of one line or more lead. No statement of the program is proved here; there is no condition.
-/
import Derived.Test.YtinglgnddmadaaaCloseN
set_option linter.unusedSimpArgs false
set_option linter.unusedVariables false
namespace Go.Proofs.Ytinglgnddmadaaa.Cl
open To (comes comes_iff)
open Wa (wk wk_zero wk_succ)

/-- from a to b with points below k in between -/
def cl (ls : List Gr.Ln) : Nat → Nat → Nat → Bool
  | 0, a, b => Gr.has ls (a : Int) (b : Int)
  | k + 1, a, b => cl ls k a b || (cl ls k a k && cl ls k k b)
theorem cl_col (ls : List Gr.Ln) (k a : Nat) : cl ls (k + 1) a k = cl ls k a k := by
  show (cl ls k a k || (cl ls k a k && cl ls k k k)) = _
  cases cl ls k a k <;> simp
theorem cl_row (ls : List Gr.Ln) (k b : Nat) : cl ls (k + 1) k b = cl ls k k b := by
  show (cl ls k k b || (cl ls k k k && cl ls k k b)) = _
  cases cl ls k k b <;> simp
theorem cl_mono {ls : List Gr.Ln} {k a b : Nat} (h : cl ls k a b = true) : cl ls (k + 1) a b = true := by
  show (cl ls k a b || _) = true
  rw [h]; rfl
theorem cl_le {ls : List Gr.Ln} {a b : Nat} : ∀ {k j : Nat}, k ≤ j → cl ls k a b = true → cl ls j a b = true := by
  intro k j hkj
  induction hkj with
  | refl => exact id
  | step _ ih => exact fun h => cl_mono (ih h)
theorem cl_trans {ls : List Gr.Ln} : ∀ {k a b c : Nat}, c < k → cl ls k a c = true → cl ls k c b = true → cl ls k a b = true := by
  intro k
  induction k with
  | zero => intro a b c h; omega
  | succ k ih =>
    intro a b c hc h1 h2
    have g1 : cl ls k a c = true ∨ (cl ls k a k = true ∧ cl ls k k c = true) := by
      have : (cl ls k a c || (cl ls k a k && cl ls k k c)) = true := h1
      simpa [Bool.or_eq_true, Bool.and_eq_true] using this
    have g2 : cl ls k c b = true ∨ (cl ls k c k = true ∧ cl ls k k b = true) := by
      have : (cl ls k c b || (cl ls k c k && cl ls k k b)) = true := h2
      simpa [Bool.or_eq_true, Bool.and_eq_true] using this
    show (cl ls k a b || (cl ls k a k && cl ls k k b)) = true
    rw [Bool.or_eq_true, Bool.and_eq_true]
    rcases Nat.lt_or_ge c k with h | h
    · rcases g1 with g1 | ⟨g1, g1'⟩
      · rcases g2 with g2 | ⟨g2, g2'⟩
        · exact .inl (ih h g1 g2)
        · exact .inr ⟨ih h g1 g2, g2'⟩
      · rcases g2 with g2 | ⟨g2, g2'⟩
        · exact .inr ⟨g1, ih h g1' g2⟩
        · exact .inr ⟨g1, g2'⟩
    · obtain rfl : c = k := by omega
      refine .inr ⟨?_, ?_⟩
      · rcases g1 with g1 | g1
        · exact g1
        · exact g1.1
      · rcases g2 with g2 | g2
        · exact g2
        · exact g2.2
section
variable {n : Nat} {ls : List Gr.Ln}
theorem cl_way (hg : ∀ p ∈ ls, Gr.Good (n : Int) p) : ∀ {k a b : Nat}, cl ls k a b = true → a < n ∧ b < n ∧ comes n ls a b = true := by
  intro k
  induction k with
  | zero =>
    intro a b h
    obtain ⟨i, j, e1, e2, hi, hj, _⟩ := To.ends hg h
    exact ⟨by omega, by omega, way_line hg h⟩
  | succ k ih =>
    intro a b h
    have : cl ls k a b = true ∨ (cl ls k a k = true ∧ cl ls k k b = true) := by
      have : (cl ls k a b || (cl ls k a k && cl ls k k b)) = true := h
      simpa [Bool.or_eq_true, Bool.and_eq_true] using this
    rcases this with h1 | ⟨h1, h2⟩
    · exact ih h1
    · obtain ⟨a1, a2, a3⟩ := ih h1
      obtain ⟨b1, b2, b3⟩ := ih h2
      exact ⟨a1, b2, way_trans hg a1 a3 b3⟩
theorem way_cl (hg : ∀ p ∈ ls, Gr.Good (n : Int) p) (h8 : n ≤ 8) {a b : Nat} (ha : a < n) (h : comes n ls a b = true) : cl ls 8 a b = true := by
  obtain ⟨k, h1, hw⟩ := (comes_iff hg ha).1 h
  have key : ∀ k b, wk n (To.frow n ls) (k + 1) a b = true → cl ls 8 a b = true := by
    intro k
    induction k with
    | zero =>
      intro b hb
      obtain ⟨c, hc, h2, h3⟩ := wk_succ.1 hb
      obtain rfl := wk_zero.1 h2
      exact cl_le (k := 0) (by omega) (To.mem_frow.1 h3).2
    | succ k ih =>
      intro b hb
      obtain ⟨c, hc, h2, h3⟩ := wk_succ.1 hb
      exact cl_trans (by omega) (ih c h2) (cl_le (k := 0) (by omega) (To.mem_frow.1 h3).2)
  obtain ⟨d, rfl⟩ : ∃ d, k = d + 1 := ⟨k - 1, by omega⟩
  exact key d b hw
theorem cl_is (hg : ∀ p ∈ ls, Gr.Good (n : Int) p) (h8 : n ≤ 8) {a b : Nat} (ha : a < n) : cl ls 8 a b = comes n ls a b := by
  rw [Bool.eq_iff_iff]
  exact ⟨fun h => (cl_way hg h).2.2, way_cl hg h8 ha⟩
/-- whom ways lead to, as the table says it, and what it says of other points -/
def tb (n : Nat) (ls : List Gr.Ln) (a b : Nat) : Bool := decide (a < n) && comes n ls a b
theorem tb_at {a b : Nat} (ha : a < n) : tb n ls a b = comes n ls a b := by simp [tb, ha]
theorem tb_lt (hg : ∀ p ∈ ls, Gr.Good (n : Int) p) {a b : Nat} (h : tb n ls a b = true) : a < n ∧ b < n := by
  unfold tb at h
  rw [Bool.and_eq_true] at h
  have ha : a < n := by simpa using h.1
  exact ⟨ha, way_lt hg ha h.2⟩
theorem cl_tb (hg : ∀ p ∈ ls, Gr.Good (n : Int) p) (h8 : n ≤ 8) (a b : Nat) : cl ls 8 a b = tb n ls a b := by
  by_cases ha : a < n
  · rw [tb_at ha, cl_is hg h8 ha]
  · cases h : cl ls 8 a b with
    | true => exact absurd (cl_way hg h).1 ha
    | false => simp [tb, ha]
/-- tables that say nothing of points from n on -/
theorem full_cut {m n : Nat} {r : Nat → Nat → Bool} (hm : n ≤ m) (hr : ∀ a b, r a b = true → a < n ∧ b < n) : Gr.full m r = Gr.full n r := by
  obtain ⟨d, rfl⟩ : ∃ d, m = n + d := ⟨m - n, by omega⟩
  have hrow : ∀ a, (List.range (n + d)).filter (r a) = (List.range n).filter (r a) := by
    intro a
    rw [List.range_add, List.filter_append]
    have : ((List.range d).map (fun x => n + x)).filter (r a) = [] := by
      rw [List.filter_eq_nil_iff]
      intro x hx
      obtain ⟨y, _, rfl⟩ := List.mem_map.1 hx
      intro h
      have := (hr _ _ h).2
      omega
    rw [this, List.append_nil]
  unfold Gr.full
  simp only [hrow]
  rw [List.range_add, List.flatMap_append]
  have : ((List.range d).map (fun x => n + x)).flatMap (fun a => ((List.range n).filter (r a)).map fun b => (a, b)) = [] := by
    rw [List.flatMap_eq_nil_iff]
    intro x hx
    obtain ⟨y, _, rfl⟩ := List.mem_map.1 hx
    rw [List.map_eq_nil_iff, List.filter_eq_nil_iff]
    intro b _ h
    have := (hr _ _ h).1
    omega
  rw [this, List.append_nil]
end

/-! ### the table as a list -/
/-- sixty-four truth values, row by row -/
def tbl (r : Nat → Nat → Bool) : List Bool := (List.range 64).map fun p => r (p / 8) (p % 8)
theorem tbl_len (r : Nat → Nat → Bool) : (tbl r).length = 64 := by simp [tbl]
theorem tbl_at (r : Nat → Nat → Bool) {a b : Nat} (ha : a < 8) (hb : b < 8) : (tbl r).getD (a * 8 + b) false = r a b := by
  have h : a * 8 + b < 64 := by omega
  have h1 : (a * 8 + b) / 8 = a := by omega
  have h2 : (a * 8 + b) % 8 = b := by omega
  simp [tbl, List.getD, h, h1, h2]
theorem tbl_congr {r s : Nat → Nat → Bool} (h : ∀ a b, a < 8 → b < 8 → r a b = s a b) : tbl r = tbl s := by
  unfold tbl
  refine List.map_congr_left fun p hp => ?_
  have := List.mem_range.1 hp
  exact h _ _ (by omega) (by omega)
theorem tbl_set (r : Nat → Nat → Bool) {a b : Nat} (ha : a < 8) (hb : b < 8) (t : Bool) : (tbl r).set (a * 8 + b) t = tbl fun x y => if x = a ∧ y = b then t else r x y := by
  apply List.ext_getElem
  · simp [tbl]
  · intro i h1 h2
    have hi : i < 64 := by simpa [tbl] using h2
    rw [List.getElem_set]
    simp only [tbl, List.getElem_map, List.getElem_range]
    by_cases e : a * 8 + b = i
    · rw [if_pos e, if_pos (by omega)]
    · rw [if_neg e, if_neg (by omega)]
/-- lines up to the k-th -/
def hasTo (ls : List Gr.Ln) (k : Nat) (a b : Nat) : Bool := Gr.has (ls.take k) (a : Int) (b : Int)
theorem hasTo_zero (ls : List Gr.Ln) (a b : Nat) : hasTo ls 0 a b = false := by simp [hasTo, Gr.has]
theorem tbl_zero (ls : List Gr.Ln) : tbl (hasTo ls 0) = List.replicate 64 false := by
  rw [tbl_congr (s := fun _ _ => false) (fun a b _ _ => hasTo_zero ls a b)]
  decide
theorem hasTo_next {ls : List Gr.Ln} {k a b : Nat} (hk : k < ls.length) (hp : (((a : Int), (b : Int)) : Gr.Ln) = ls.getD k (0, 0)) (x y : Nat) : hasTo ls (k + 1) x y = if x = a ∧ y = b then true else hasTo ls k x y := by
  unfold hasTo
  have e : ls.getD k (0, 0) = ls[k] := by simp [List.getD, hk]
  rw [List.take_succ_eq_append_getElem hk, ← e, ← hp]
  by_cases h : x = a ∧ y = b
  · obtain ⟨rfl, rfl⟩ := h
    rw [if_pos ⟨rfl, rfl⟩]
    simp [Gr.has]
  · rw [if_neg h]
    have : ((x : Int), (y : Int)) ≠ ((a : Int), (b : Int)) := fun e => h ⟨by have := (Prod.mk.inj e).1; omega, by have := (Prod.mk.inj e).2; omega⟩
    have h2 : ¬ ((x : Int) = (a : Int) ∧ (y : Int) = (b : Int)) := fun e => h ⟨by omega, by omega⟩
    rw [Bool.eq_iff_iff]
    simp only [Gr.has, List.contains_iff_mem, List.mem_append, List.mem_singleton, Prod.mk.injEq]
    constructor
    · rintro (h3 | h3)
      · exact h3
      · exact absurd h3 h2
    · exact .inl
theorem tbl_next {ls : List Gr.Ln} {k a b : Nat} (hk : k < ls.length) (hp : (((a : Int), (b : Int)) : Gr.Ln) = ls.getD k (0, 0)) (ha : a < 8) (hb : b < 8) : (tbl (hasTo ls k)).set (a * 8 + b) true = tbl (hasTo ls (k + 1)) := by
  rw [tbl_set _ ha hb]
  exact tbl_congr fun x y _ _ => (hasTo_next hk hp x y).symm
theorem tbl_lines (ls : List Gr.Ln) {k : Nat} (hk : ls.length ≤ k) : tbl (hasTo ls k) = tbl (cl ls 0) := tbl_congr fun x y _ _ => by
  unfold hasTo
  rw [List.take_of_length_le hk]
  rfl
/-- in round k, all ahead of (a, b) is done -/
def mid (ls : List Gr.Ln) (k a b : Nat) (x y : Nat) : Bool := if x * 8 + y < a * 8 + b then cl ls (k + 1) x y else cl ls k x y
theorem mid_col (ls : List Gr.Ln) (k a b x : Nat) : mid ls k a b x k = cl ls k x k := by
  unfold mid
  split
  · exact cl_col ls k x
  · rfl
theorem mid_row (ls : List Gr.Ln) (k a b y : Nat) : mid ls k a b k y = cl ls k k y := by
  unfold mid
  split
  · exact cl_row ls k y
  · rfl
theorem mid_start (ls : List Gr.Ln) (k : Nat) : tbl (mid ls k 0 0) = tbl (cl ls k) := tbl_congr fun x y _ _ => by
  unfold mid
  rw [if_neg (by omega)]
theorem mid_end (ls : List Gr.Ln) (k : Nat) : tbl (mid ls k 8 0) = tbl (cl ls (k + 1)) := tbl_congr fun x y hx hy => by
  unfold mid
  rw [if_pos (by omega)]
theorem mid_rowend (ls : List Gr.Ln) (k a : Nat) : tbl (mid ls k a 8) = tbl (mid ls k (a + 1) 0) := tbl_congr fun x y hx hy => by
  unfold mid
  have : (x * 8 + y < a * 8 + 8) = (x * 8 + y < (a + 1) * 8 + 0) := by rw [show a * 8 + 8 = (a + 1) * 8 + 0 by omega]
  simp only [this]
theorem mid_yes {ls : List Gr.Ln} {k a b : Nat} (ha : a < 8) (hb : b < 8) (h1 : cl ls k a k = true) (h2 : cl ls k k b = true) : (tbl (mid ls k a b)).set (a * 8 + b) true = tbl (mid ls k a (b + 1)) := by
  rw [tbl_set _ ha hb]
  refine tbl_congr fun x y hx hy => ?_
  by_cases e : x = a ∧ y = b
  · obtain ⟨rfl, rfl⟩ := e
    rw [if_pos ⟨rfl, rfl⟩]
    unfold mid
    rw [if_pos (by omega)]
    show true = (cl ls k x y || (cl ls k x k && cl ls k k y))
    rw [h1, h2]
    simp
  · rw [if_neg e]
    unfold mid
    by_cases h : x * 8 + y < a * 8 + b
    · rw [if_pos h, if_pos (by omega)]
    · rw [if_neg h, if_neg (by omega)]
theorem mid_no {ls : List Gr.Ln} {k a b : Nat} (ha : a < 8) (hb : b < 8) (h : (cl ls k a k && cl ls k k b) = false) : tbl (mid ls k a b) = tbl (mid ls k a (b + 1)) := by
  refine tbl_congr fun x y hx hy => ?_
  unfold mid
  by_cases e : x * 8 + y < a * 8 + b
  · rw [if_pos e, if_pos (by omega)]
  · rw [if_neg e]
    by_cases e2 : x * 8 + y < a * 8 + (b + 1)
    · rw [if_pos e2]
      obtain rfl : x = a := by omega
      obtain rfl : y = b := by omega
      show _ = (cl ls k x y || (cl ls k x k && cl ls k k y))
      rw [h, Bool.or_false]
    · rw [if_neg e2]

/-! ### ways by a third -/
def thr (r : Nat → Nat → Bool) (a b k : Nat) : Bool := (List.range k).any fun c => r a c && r c b
theorem thr_zero (r : Nat → Nat → Bool) (a b : Nat) : thr r a b 0 = false := by simp [thr]
theorem thr_succ (r : Nat → Nat → Bool) (a b k : Nat) : thr r a b (k + 1) = (thr r a b k || (r a k && r k b)) := by simp [thr, List.range_succ]
theorem thr_hit {r : Nat → Nat → Bool} {a b k m : Nat} (hk : k < m) (h1 : r a k = true) (h2 : r k b = true) : thr r a b m = true := by
  unfold thr
  rw [List.any_eq_true]
  exact ⟨k, List.mem_range.2 hk, by rw [h1, h2]; rfl⟩
theorem thr_thin {n : Nat} {ls : List Gr.Ln} (hg : ∀ p ∈ ls, Gr.Good (n : Int) p) (h8 : n ≤ 8) {a b : Nat} : (tb n ls a b && !thr (tb n ls) a b 8) = (decide (a < n) && thin n ls a b) := by
  by_cases ha : a < n
  · rw [Bool.eq_iff_iff]
    simp only [Bool.and_eq_true, Bool.not_eq_true', decide_eq_true_eq]
    rw [tb_at ha, thin_iff]
    constructor
    · rintro ⟨h1, h2⟩
      refine ⟨ha, h1, fun k hk hh => ?_⟩
      have := thr_hit (r := tb n ls) (m := 8) (a := a) (b := b) (k := k) (by omega) (by rw [tb_at ha]; exact hh.1) (by rw [tb_at hk]; exact hh.2)
      rw [h2] at this
      cases this
    · rintro ⟨_, h1, h2⟩
      refine ⟨h1, ?_⟩
      cases h : thr (tb n ls) a b 8 with
      | false => rfl
      | true =>
        exfalso
        unfold thr at h
        rw [List.any_eq_true] at h
        obtain ⟨k, _, hk⟩ := h
        rw [Bool.and_eq_true] at hk
        have hkn := (tb_lt hg hk.2).1
        rw [tb_at ha, tb_at hkn] at hk
        exact h2 k hkn hk
  · simp [tb, ha]
/-- the program's list of ways -/
theorem full_tb {n : Nat} {ls : List Gr.Ln} (hg : ∀ p ∈ ls, Gr.Good (n : Int) p) : Gr.full n (tb n ls) = Gr.full n (comes n ls) := by
  unfold Gr.full
  rw [List.flatMap_def, List.flatMap_def]
  congr 1
  refine List.map_congr_left fun a ha => ?_
  rw [List.filter_congr fun b _ => tb_at (List.mem_range.1 ha)]
theorem side_tb {n : Nat} {ls : List Gr.Ln} (hg : ∀ p ∈ ls, Gr.Good (n : Int) p) {a : Nat} (ha : a < n) : Gr.side (Gr.full n (tb n ls)) a = crow n ls a := by
  rw [Gr.side_full n _ ha]
  unfold crow
  rw [List.filter_congr fun b _ => tb_at ha]
theorem few_is {n : Nat} {ls : List Gr.Ln} (hg : ∀ p ∈ ls, Gr.Good (n : Int) p) (h8 : n ≤ 8) : ((Gr.full n (tb n ls)).filter fun p => !thr (tb n ls) p.1 p.2 8).map (fun p => ((p.1 : Int), (p.2 : Int))) = few n ls := by
  unfold few lst
  have e : ((Gr.full n (tb n ls)).filter fun p => !thr (tb n ls) p.1 p.2 8) = Gr.full n fun a b => tb n ls a b && !thr (tb n ls) a b 8 := lst_filter n (tb n ls) (fun a b => !thr (tb n ls) a b 8)
  rw [e]
  congr 1
  unfold Gr.full
  rw [List.flatMap_def, List.flatMap_def]
  congr 1
  refine List.map_congr_left fun a ha => ?_
  rw [List.filter_congr fun b _ => ?_]
  show (tb n ls a b && !thr (tb n ls) a b 8) = thin n ls a b
  rw [thr_thin hg h8]
  simp [List.mem_range.1 ha]
end Go.Proofs.Ytinglgnddmadaaa.Cl
