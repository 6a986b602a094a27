/-
  Plain facts on rankings as lists of numbers, with no program in them: the place of a number, what is wrong with rankings, whether some pairs are stable, the best of all stable pairs that begin with some (by trying all), and that this is the best pairing. No statement of the program is proved here; there is no condition.
-/
import Derived.Test.YtinglgnddmadaaaStableN
set_option linter.unusedSimpArgs false
set_option linter.unusedVariables false
namespace Go.Proofs.Ytinglgnddmadaaa.St

/-! ### places -/
def plcF (x : Int) : List Int → Nat → Int
  | [], _ => -1
  | y :: ys, k => if y = x then (k : Int) else plcF x ys (k + 1)
/-- the place of a number in a list, or -1 -/
def plc (l : List Int) (x : Int) : Int := plcF x l 0
theorem plcF_spec (x : Int) : ∀ (l : List Int) (k : Nat), (plcF x l k = -1 ∧ x ∉ l) ∨ ∃ j, j < l.length ∧ plcF x l k = ((k + j : Nat) : Int) ∧ l.getD j 0 = x
  | [], k => .inl ⟨rfl, by simp⟩
  | y :: ys, k => by
    unfold plcF
    by_cases h : y = x
    · rw [if_pos h]
      exact .inr ⟨0, by simp, by simp, by simpa using h⟩
    · rw [if_neg h]
      rcases plcF_spec x ys (k + 1) with ⟨h1, h2⟩ | ⟨j, h1, h2, h3⟩
      · exact .inl ⟨h1, by simp only [List.mem_cons, not_or]; exact ⟨fun e => h e.symm, h2⟩⟩
      · exact .inr ⟨j + 1, by simpa using h1, by rw [h2]; congr 1; omega, by simpa using h3⟩
theorem plc_spec (l : List Int) (x : Int) : (plc l x = -1 ∧ x ∉ l) ∨ ∃ j, j < l.length ∧ plc l x = (j : Int) ∧ l.getD j 0 = x := by
  rcases plcF_spec x l 0 with h | ⟨j, h1, h2, h3⟩
  · exact .inl h
  · exact .inr ⟨j, h1, by unfold plc; rw [h2]; simp, h3⟩
theorem plcF_step {l : List Int} {k : Nat} (hk : k < l.length) (x p : Int) (hp : p = l.getD k 0) : plcF x (l.drop k) k = if p = x then (k : Int) else plcF x (l.drop (k + 1)) (k + 1) := by
  rw [List.drop_eq_getElem_cons hk]
  have : l[k] = p := by rw [hp]; simp [List.getD, hk]
  rw [this]
  rfl
theorem getD_mem {l : List Int} {j : Nat} (hj : j < l.length) : l.getD j 0 ∈ l := by
  have : l.getD j 0 = l[j] := by simp [List.getD, hj]
  rw [this]
  exact List.getElem_mem hj
theorem getD_inj {l : List Int} (hn : l.Nodup) {i j : Nat} (hi : i < l.length) (hj : j < l.length) (e : l.getD i 0 = l.getD j 0) : i = j := by
  have e1 : l.getD i 0 = l[i] := by simp [List.getD, hi]
  have e2 : l.getD j 0 = l[j] := by simp [List.getD, hj]
  rw [e1, e2] at e
  exact (List.getElem_inj hn).1 e
theorem plc_at {l : List Int} (hn : l.Nodup) {k : Nat} (hk : k < l.length) : plc l (l.getD k 0) = (k : Int) := by
  rcases plc_spec l (l.getD k 0) with ⟨_, h⟩ | ⟨j, h1, h2, h3⟩
  · exact absurd (getD_mem hk) h
  · rw [h2, getD_inj hn h1 hk h3]

/-! ### rankings -/
structure Row (n : Nat) (l : List Int) : Prop where
  len : l.length = n
  rng : ∀ x ∈ l, 0 ≤ x ∧ x ≤ (n : Int) - 1
  nodup : l.Nodup
theorem Row.mem {n : Nat} {l : List Int} (h : Row n l) {j : Nat} (hj : j < n) : (j : Int) ∈ l := by
  have hm : j ∈ l.map Int.toNat := by
    refine nodup_all (n := n) ?_ (fun x hx => ?_) (by rw [List.length_map]; exact h.len) hj
    · show List.Pairwise (· ≠ ·) _
      rw [List.pairwise_map]
      exact List.Pairwise.imp_of_mem (fun {x y} hx hy hne e => hne (by have := h.rng x hx; have := h.rng y hy; omega)) h.nodup
    · obtain ⟨y, hy, rfl⟩ := List.mem_map.1 hx
      have := h.rng y hy
      omega
  obtain ⟨y, hy, e⟩ := List.mem_map.1 hm
  have := h.rng y hy
  obtain rfl : y = (j : Int) := by omega
  exact hy
theorem Row.plc {n : Nat} {l : List Int} (h : Row n l) {j : Nat} (hj : j < n) : ∃ p, p < n ∧ plc l (j : Int) = (p : Int) ∧ l.getD p 0 = (j : Int) := by
  rcases plc_spec l (j : Int) with ⟨_, h2⟩ | ⟨p, h1, h2, h3⟩
  · exact absurd (h.mem hj) h2
  · exact ⟨p, by rw [← h.len]; exact h1, h2, h3⟩
/-- the place of j for i -/
def pl (rows : List (List Int)) (i j : Nat) : Nat := (plc (rows.getD i []) (j : Int)).toNat
/-- n rankings of n -/
def Rks (n : Nat) (rows : List (List Int)) : Prop := rows.length = n ∧ ∀ row ∈ rows, Row n row
theorem Rks.row {n : Nat} {rows : List (List Int)} (h : Rks n rows) {i : Nat} (hi : i < n) : Row n (rows.getD i []) := by
  have hl : i < rows.length := by rw [h.1]; exact hi
  have : rows.getD i [] = rows[i] := by simp [List.getD, hl]
  rw [this]
  exact h.2 _ (List.getElem_mem hl)
theorem Rks.pl {n : Nat} {rows : List (List Int)} (h : Rks n rows) {i j : Nat} (hi : i < n) (hj : j < n) : plc (rows.getD i []) (j : Int) = (St.pl rows i j : Int) := by
  obtain ⟨p, h1, h2, h3⟩ := (h.row hi).plc hj
  unfold St.pl
  rw [h2]
  rfl
theorem Rks.ord {n : Nat} {rows : List (List Int)} (h : Rks n rows) : Ord n (St.pl rows) := by
  refine ⟨fun i hi j hj => ?_, fun i hi j hj k hk e => ?_, fun i hi p hp => ?_⟩
  · obtain ⟨p, h1, h2, h3⟩ := (h.row hi).plc hj
    unfold St.pl
    rw [h2]
    simpa using h1
  · obtain ⟨p, h1, h2, h3⟩ := (h.row hi).plc hj
    obtain ⟨q, g1, g2, g3⟩ := (h.row hi).plc hk
    unfold St.pl at e
    rw [h2, g2] at e
    have : p = q := by simpa using e
    subst this
    omega
  · have hr := h.row hi
    have hpl : p < (rows.getD i []).length := by rw [hr.len]; exact hp
    have hg := hr.rng _ (getD_mem hpl)
    refine ⟨((rows.getD i []).getD p 0).toNat, by omega, ?_⟩
    unfold St.pl
    rw [Int.toNat_of_nonneg hg.1, plc_at hr.nodup hpl]
    simp

/-! ### what is wrong -/
/-- do all lie there? -/
def allB (a b : Int) (l : List Int) : Bool := l.all fun x => decide (a ≤ x) && decide (x ≤ b)
theorem allB_iff {a b : Int} {l : List Int} : allB a b l = true ↔ ∀ x ∈ l, a ≤ x ∧ x ≤ b := by simp [allB]
/-- what is wrong with one ranking of n -/
def rcode (n : Nat) (l : List Int) : Int := if l.length ≠ n then 3 else if allB 0 ((n : Int) - 1) l = false then 1 else if ¬ l.Nodup then 6 else 0
theorem rcode_zero {n : Nat} {l : List Int} : rcode n l = 0 ↔ Row n l := by
  unfold rcode
  constructor
  · intro h
    split at h
    · omega
    · rename_i h1
      split at h
      · omega
      · rename_i h2
        split at h
        · omega
        · rename_i h3
          refine ⟨Classical.not_not.1 h1, allB_iff.1 (by simpa using h2), Classical.not_not.1 h3⟩
  · intro h
    rw [if_neg (fun e => e h.len), if_neg (by rw [allB_iff.2 h.rng]; simp), if_neg (fun e => e h.nodup)]
/-- the first wrong ranking -/
def scode (n : Nat) : List (List Int) → Int
  | [] => 0
  | l :: ls => if rcode n l ≠ 0 then rcode n l else scode n ls
theorem scode_zero {n : Nat} : ∀ {rows : List (List Int)}, scode n rows = 0 ↔ ∀ row ∈ rows, Row n row
  | [] => by simp [scode]
  | l :: ls => by
    unfold scode
    by_cases h : rcode n l ≠ 0
    · rw [if_pos h]
      constructor
      · intro e; exact absurd e h
      · intro hh; exact absurd (rcode_zero.2 (hh l (by simp))) h
    · rw [if_neg h, scode_zero (rows := ls)]
      have hl := rcode_zero.1 (Classical.not_not.1 h)
      constructor
      · intro hh row hr
        rcases List.mem_cons.1 hr with rfl | hr
        · exact hl
        · exact hh row hr
      · intro hh row hr
        exact hh row (List.mem_cons_of_mem _ hr)
theorem scode_step {n : Nat} {rows : List (List Int)} {k : Nat} (hk : k < rows.length) (row : List Int) (hr : row = rows.getD k []) : scode n (rows.drop k) = if rcode n row ≠ 0 then rcode n row else scode n (rows.drop (k + 1)) := by
  rw [List.drop_eq_getElem_cons hk]
  have : rows[k] = row := by rw [hr]; simp [List.getD, hk]
  rw [this]
  rfl
/-- what is wrong with the rankings of both sides -/
def code (left right : List (List Int)) : Int := if 6 < left.length ∨ 6 < right.length then 4 else if left.length ≠ right.length then 3 else if scode left.length left ≠ 0 then scode left.length left else scode right.length right
theorem code_zero {left right : List (List Int)} : code left right = 0 ↔ left.length ≤ 6 ∧ Rks left.length left ∧ Rks left.length right := by
  unfold code
  by_cases h1 : 6 < left.length ∨ 6 < right.length
  · rw [if_pos h1]
    constructor
    · intro h; omega
    · rintro ⟨h2, _, h3⟩
      have := h3.1
      omega
  · rw [if_neg h1]
    by_cases h2 : left.length ≠ right.length
    · rw [if_pos h2]
      constructor
      · intro h; omega
      · rintro ⟨_, _, h3⟩; exact absurd h3.1.symm h2
    · rw [if_neg h2]
      have h2' := Classical.not_not.1 h2
      by_cases h3 : scode left.length left ≠ 0
      · rw [if_pos h3]
        constructor
        · intro h; exact absurd h h3
        · rintro ⟨_, h4, _⟩; exact absurd (scode_zero.2 h4.2) h3
      · rw [if_neg h3]
        have h3' := scode_zero.1 (Classical.not_not.1 h3)
        constructor
        · intro h
          refine ⟨by omega, ⟨rfl, h3'⟩, h2'.symm, ?_⟩
          have := scode_zero.1 h
          rw [← h2'] at this
          exact this
        · rintro ⟨_, _, h4⟩
          rw [← h2']
          exact scode_zero.2 h4.2

/-! ### stable pairs -/
def up (l : List Nat) : List Int := l.map fun b => ((b : Nat) : Int)
theorem up_len (l : List Nat) : (up l).length = l.length := by simp [up]
theorem up_at (l : List Nat) (k : Nat) : (up l).getD k 0 = ((l.getD k 0 : Nat) : Int) := by
  simp only [up, List.getD, List.getElem?_map]
  cases l[k]? <;> rfl
theorem up_inj : ∀ {l l' : List Nat}, up l = up l' → l = l'
  | [], [], _ => rfl
  | [], _ :: _, h => by simp [up] at h
  | _ :: _, [], h => by simp [up] at h
  | a :: l, b :: l', h => by
    simp only [up, List.map_cons, List.cons.injEq] at h
    have h1 : a = b := by omega
    rw [h1, up_inj (l := l) (l' := l') h.2]
theorem Pr.row {n : Nat} {h : List Nat} (hp : Pr n h) : Row n (up h) := by
  refine ⟨by rw [up_len]; exact hp.1, fun x hx => ?_, ?_⟩
  · unfold up at hx
    obtain ⟨y, hy, rfl⟩ := List.mem_map.1 hx
    have := hp.2.1 y hy
    omega
  · show List.Pairwise (· ≠ ·) _
    unfold up
    rw [List.pairwise_map]
    exact hp.2.2.imp fun hne e => hne (by omega)
/-- every list of that kind says pairs -/
theorem Row.pr {n : Nat} {l : List Int} (h : Row n l) : ∃ p, l = up p ∧ Pr n p := by
  have e : l = up (l.map Int.toNat) := by
    unfold up
    rw [List.map_map]
    refine (List.map_id l).symm.trans (List.map_congr_left fun x hx => ?_)
    have := h.rng x hx
    show x = ((x.toNat : Nat) : Int)
    omega
  refine ⟨l.map Int.toNat, e, by rw [List.length_map]; exact h.len, fun x hx => ?_, ?_⟩
  · obtain ⟨y, hy, rfl⟩ := List.mem_map.1 hx
    have := h.rng y hy
    omega
  · show List.Pairwise (· ≠ ·) _
    rw [List.pairwise_map]
    exact List.Pairwise.imp_of_mem (fun {x y} hx hy hne e => hne (by have := h.rng x hx; have := h.rng y hy; omega)) h.nodup
/-- would i and j rather have each other? -/
def blk (left right : List (List Int)) (has : List Int) (i j : Nat) : Bool := decide (plc (left.getD i []) (j : Int) < plc (left.getD i []) (has.getD i 0)) && decide (plc (right.getD j []) (i : Int) < plc (right.getD j []) (plc has (j : Int)))
def stb (n : Nat) (left right : List (List Int)) (has : List Int) : Bool := (List.range n).all fun i => (List.range n).all fun j => !blk left right has i j
theorem stb_iff {n : Nat} {left right : List (List Int)} (hL : Rks n left) (hR : Rks n right) {h : List Nat} (hp : Pr n h) : stb n left right (up h) = true ↔ Stab n (pl left) (pl right) h := by
  have hrow := hp.row
  have key : ∀ i, i < n → ∀ k, k < n → (blk left right (up h) i (h.getD k 0) = true ↔ pl left i (h.getD k 0) < pl left i (h.getD i 0) ∧ pl right (h.getD k 0) i < pl right (h.getD k 0) k) := by
    intro i hi k hk
    unfold blk
    have hkl : k < (up h).length := by rw [hrow.len]; exact hk
    rw [← up_at h k, plc_at hrow.nodup hkl, up_at, up_at, hL.pl hi (hp.at_lt hk), hL.pl hi (hp.at_lt hi), hR.pl (hp.at_lt hk) hi, hR.pl (hp.at_lt hk) hk]
    simp only [Bool.and_eq_true, decide_eq_true_eq]
    omega
  unfold stb Stab
  simp only [List.all_eq_true, List.mem_range, Bool.not_eq_true']
  constructor
  · intro hh i hi k hk hb
    have := hh i hi (h.getD k 0) (hp.at_lt hk)
    rw [(key i hi k hk).2 hb] at this
    cases this
  · intro hh i hi j hj
    obtain ⟨k, hk, rfl⟩ := hp.by hj
    cases hb : blk left right (up h) i (h.getD k 0)
    · rfl
    · exact absurd ((key i hi k hk).1 hb) (hh i hi k hk)

/-! ### the best of all, by trying all -/
section
variable (n : Nat) (left right : List (List Int))
/-- the better of two at each of the first k -/
def best (l : List Nat) (acc : List Nat) : Nat → List Nat
  | 0 => acc
  | k + 1 => if plc (left.getD k []) ((l.getD k 0 : Nat) : Int) < plc (left.getD k []) (((best l acc k).getD k 0 : Nat) : Int) then (best l acc k).set k (l.getD k 0) else best l acc k
/-- one more that may come next: l is what comes of it -/
def joinB (out l : List Nat) : List Nat := if l = [] then out else best left l (if out = [] then l else out) n
/-- of the first k that may come next -/
def stbsTo (f : List Nat → List Nat) (has : List Nat) : Nat → List Nat
  | 0 => []
  | k + 1 => if has.contains k = true then stbsTo f has k else joinB n left (stbsTo f has k) (f (has ++ [k]))
/-- of all stable pairs that begin with some the best for each on the left -/
def stbs : Nat → List Nat → List Nat
  | 0, has => if stb n left right (up has) = true then has else []
  | f + 1, has => stbsTo n left (stbs f) has n
end
section
variable {n : Nat} {left right : List (List Int)}
theorem best_len (l acc : List Nat) : ∀ k, (best left l acc k).length = acc.length
  | 0 => rfl
  | k + 1 => by
    unfold best
    split
    · rw [List.length_set]; exact best_len l acc k
    · exact best_len l acc k
theorem set_at (xs : List Nat) (i j x : Nat) (hi : i < xs.length) : (xs.set i x).getD j 0 = if j = i then x else xs.getD j 0 := by
  simp only [List.getD, List.getElem?_set]
  by_cases e : i = j
  · subst e; simp [hi]
  · have : ¬ j = i := fun h => e h.symm
    simp [e, this]
theorem best_at (l acc : List Nat) (hl : acc.length = n) : ∀ k, k ≤ n → ∀ i, (best left l acc k).getD i 0 = if i < k ∧ plc (left.getD i []) ((l.getD i 0 : Nat) : Int) < plc (left.getD i []) ((acc.getD i 0 : Nat) : Int) then l.getD i 0 else acc.getD i 0
  | 0, _, i => by rw [if_neg (by omega)]; rfl
  | k + 1, hk, i => by
    have ih := best_at l acc hl k (by omega)
    have hkk : (best left l acc k).getD k 0 = acc.getD k 0 := by rw [ih k, if_neg (by omega)]
    unfold best
    rw [hkk]
    by_cases hc : plc (left.getD k []) ((l.getD k 0 : Nat) : Int) < plc (left.getD k []) ((acc.getD k 0 : Nat) : Int)
    · rw [if_pos hc, set_at _ _ _ _ (by rw [best_len, hl]; omega)]
      by_cases e : i = k
      · subst e
        rw [if_pos rfl, if_pos ⟨by omega, hc⟩]
      · rw [if_neg e, ih i]
        by_cases h1 : i < k
        · have h2 : i < k + 1 := by omega
          simp only [h1, h2, true_and]
        · have h2 : ¬ i < k + 1 := by omega
          simp only [h1, h2, false_and, if_false]
    · rw [if_neg hc, ih i]
      by_cases e : i = k
      · subst e
        rw [if_neg (by omega), if_neg (fun h => hc h.2)]
      · by_cases h1 : i < k
        · have h2 : i < k + 1 := by omega
          simp only [h1, h2, true_and]
        · have h2 : ¬ i < k + 1 := by omega
          simp only [h1, h2, false_and, if_false]
/-- out is the best, place by place, of the pairs that P says -/
def Bst (n : Nat) (left : List (List Int)) (P : List Nat → Prop) (out : List Nat) : Prop :=
  (out = [] ∧ ∀ h, ¬ P h) ∨ (out.length = n ∧ (∃ h, P h) ∧ (∀ i, i < n → ∃ h, P h ∧ out.getD i 0 = h.getD i 0) ∧ ∀ h, P h → ∀ i, i < n → pl left i (out.getD i 0) ≤ pl left i (h.getD i 0))
theorem Bst.join (hL : Rks n left) (h1 : 1 ≤ n) {P Q : List Nat → Prop} (hP : ∀ h, P h → Pr n h) (hQ : ∀ h, Q h → Pr n h) {out l : List Nat} (ho : Bst n left P out) (hl : Bst n left Q l) : Bst n left (fun h => P h ∨ Q h) (joinB n left out l) := by
  unfold joinB
  rcases hl with ⟨rfl, hl⟩ | ⟨hl1, hl2, hl3, hl4⟩
  · rw [if_pos rfl]
    rcases ho with ⟨rfl, ho⟩ | ⟨ho1, ho2, ho3, ho4⟩
    · exact .inl ⟨rfl, fun h hh => hh.elim (ho h) (hl h)⟩
    · refine .inr ⟨ho1, by obtain ⟨h, hh⟩ := ho2; exact ⟨h, .inl hh⟩, fun i hi => ?_, fun h hh i hi => ?_⟩
      · obtain ⟨h, hh, e⟩ := ho3 i hi
        exact ⟨h, .inl hh, e⟩
      · rcases hh with hh | hh
        · exact ho4 h hh i hi
        · exact absurd hh (hl h)
  · have hne : l ≠ [] := fun e => by rw [e] at hl1; simp at hl1; omega
    rw [if_neg hne]
    have hlt : ∀ i, i < n → l.getD i 0 < n := fun i hi => by
      obtain ⟨h, hh, e⟩ := hl3 i hi
      rw [e]
      exact (hQ h hh).at_lt hi
    rcases ho with ⟨rfl, ho⟩ | ⟨ho1, ho2, ho3, ho4⟩
    · rw [if_pos rfl]
      have hb : ∀ i, (best left l l n).getD i 0 = l.getD i 0 := fun i => by rw [best_at l l hl1 n (Nat.le_refl _) i]; split <;> rfl
      refine .inr ⟨by rw [best_len]; exact hl1, by obtain ⟨h, hh⟩ := hl2; exact ⟨h, .inr hh⟩, fun i hi => ?_, fun h hh i hi => ?_⟩
      · obtain ⟨h, hh, e⟩ := hl3 i hi
        exact ⟨h, .inr hh, by rw [hb, e]⟩
      · rw [hb]
        rcases hh with hh | hh
        · exact absurd hh (ho h)
        · exact hl4 h hh i hi
    · have hone : out ≠ [] := fun e => by rw [e] at ho1; simp at ho1; omega
      rw [if_neg hone]
      have hot : ∀ i, i < n → out.getD i 0 < n := fun i hi => by
        obtain ⟨h, hh, e⟩ := ho3 i hi
        rw [e]
        exact (hP h hh).at_lt hi
      have hb : ∀ i, i < n → (best left l out n).getD i 0 = if pl left i (l.getD i 0) < pl left i (out.getD i 0) then l.getD i 0 else out.getD i 0 := fun i hi => by
        rw [best_at l out ho1 n (Nat.le_refl _) i, hL.pl hi (hlt i hi), hL.pl hi (hot i hi)]
        have : ((pl left i (l.getD i 0) : Int) < (pl left i (out.getD i 0) : Int)) ↔ pl left i (l.getD i 0) < pl left i (out.getD i 0) := by omega
        simp only [hi, true_and, this]
      refine .inr ⟨by rw [best_len]; exact ho1, by obtain ⟨h, hh⟩ := ho2; exact ⟨h, .inl hh⟩, fun i hi => ?_, fun h hh i hi => ?_⟩
      · rw [hb i hi]
        split
        · obtain ⟨h, hh, e⟩ := hl3 i hi
          exact ⟨h, .inr hh, e⟩
        · obtain ⟨h, hh, e⟩ := ho3 i hi
          exact ⟨h, .inl hh, e⟩
      · rw [hb i hi]
        rcases hh with hh | hh
        · have := ho4 h hh i hi
          split <;> omega
        · have := hl4 h hh i hi
          split <;> omega
theorem Bst.congr {P Q : List Nat → Prop} {out : List Nat} (h : Bst n left P out) (e : ∀ h, P h ↔ Q h) : Bst n left Q out := by
  have : P = Q := funext fun h => propext (e h)
  rw [← this]
  exact h
/-- stable pairs that begin with some -/
def Ext (n : Nat) (left right : List (List Int)) (has h : List Nat) : Prop := Pr n h ∧ Stab n (pl left) (pl right) h ∧ has <+: h
theorem Ext.next {has h : List Nat} (he : Ext n left right has h) (hl : has.length < n) : ∃ k, k < n ∧ k ∉ has ∧ Ext n left right (has ++ [k]) h := by
  obtain ⟨hp, hs, t, rfl⟩ := he
  cases t with
  | nil =>
    have := hp.1
    rw [List.append_nil] at this
    omega
  | cons k t =>
    refine ⟨k, hp.2.1 k (by simp), fun hm => ?_, hp, hs, t, by simp⟩
    have := hp.2.2
    rw [List.nodup_append] at this
    exact this.2.2 k hm k (by simp) rfl
theorem stbsTo_spec (hL : Rks n left) (h1 : 1 ≤ n) {f : List Nat → List Nat} {has : List Nat} (hf : ∀ k, k < n → k ∉ has → Bst n left (Ext n left right (has ++ [k])) (f (has ++ [k]))) :
    ∀ k, k ≤ n → Bst n left (fun h => ∃ j, j < k ∧ j ∉ has ∧ Ext n left right (has ++ [j]) h) (stbsTo n left f has k)
  | 0, _ => .inl ⟨rfl, fun h ⟨j, hj, _⟩ => by omega⟩
  | k + 1, hk => by
    have ih := stbsTo_spec hL h1 hf k (by omega)
    unfold stbsTo
    by_cases hm : has.contains k = true
    · rw [if_pos hm]
      have hm' : k ∈ has := by simpa using hm
      refine ih.congr fun h => ⟨?_, ?_⟩
      · rintro ⟨j, h2, h3, h4⟩; exact ⟨j, by omega, h3, h4⟩
      · rintro ⟨j, h2, h3, h4⟩
        refine ⟨j, ?_, h3, h4⟩
        rcases Nat.lt_or_ge j k with h5 | h5
        · exact h5
        · obtain rfl : j = k := by omega
          exact absurd hm' h3
    · rw [if_neg hm]
      have hm' : k ∉ has := by simpa using hm
      refine (Bst.join hL h1 (fun h ⟨j, _, _, h4⟩ => h4.1) (fun h h4 => h4.1) ih (hf k (by omega) hm')).congr fun h => ⟨?_, ?_⟩
      · rintro (⟨j, h2, h3, h4⟩ | h4)
        · exact ⟨j, by omega, h3, h4⟩
        · exact ⟨k, by omega, hm', h4⟩
      · rintro ⟨j, h2, h3, h4⟩
        rcases Nat.lt_or_ge j k with h5 | h5
        · exact .inl ⟨j, h5, h3, h4⟩
        · obtain rfl : j = k := by omega
          exact .inr h4
theorem stbs_spec (hL : Rks n left) (hR : Rks n right) (h1 : 1 ≤ n) : ∀ (f : Nat) (has : List Nat), has.length + f = n → has.Nodup → (∀ x ∈ has, x < n) → Bst n left (Ext n left right has) (stbs n left right f has)
  | 0, has, hl, hn, hx => by
    have hp : Pr n has := ⟨by omega, hx, hn⟩
    have huniq : ∀ h, Ext n left right has h → h = has := fun h he => by
      obtain ⟨hp', _, hpre⟩ := he
      exact (hpre.eq_of_length (by rw [hp.1, hp'.1])).symm
    unfold stbs
    by_cases hs : stb n left right (up has) = true
    · rw [if_pos hs]
      have hst := (stb_iff hL hR hp).1 hs
      have he : Ext n left right has has := ⟨hp, hst, List.prefix_rfl⟩
      exact .inr ⟨hp.1, ⟨has, he⟩, fun i _ => ⟨has, he, rfl⟩, fun h hh i _ => by rw [huniq h hh]; exact Nat.le_refl _⟩
    · rw [if_neg hs]
      refine .inl ⟨rfl, fun h hh => hs ?_⟩
      have := hh.2.1
      rw [huniq h hh] at this
      exact (stb_iff hL hR hp).2 this
  | f + 1, has, hl, hn, hx => by
    have ih := stbs_spec hL hR h1 f
    have := stbsTo_spec (left := left) (right := right) hL h1 (f := stbs n left right f) (has := has) (fun k hk hm => ih (has ++ [k]) (by simp; omega) (by
      rw [List.nodup_append]
      exact ⟨hn, by simp, fun a ha b hb e => hm (by simp at hb; rw [← hb, ← e]; exact ha)⟩) (fun x hx' => by
      rcases List.mem_append.1 hx' with h2 | h2
      · exact hx x h2
      · obtain rfl : x = k := by simpa using h2
        exact hk)) n (Nat.le_refl _)
    unfold stbs
    refine this.congr fun h => ⟨?_, fun he => ?_⟩
    · rintro ⟨j, _, _, h4⟩
      exact ⟨h4.1, h4.2.1, (List.prefix_append has [j]).trans h4.2.2⟩
    · obtain ⟨k, h2, h3, h4⟩ := he.next (by omega)
      exact ⟨k, h2, h3, h4⟩
/-- of all: the best pairing -/
theorem stbs_opt (hL : Rks n left) (hR : Rks n right) {h : List Nat} (ho : Opt n (pl left) (pl right) h) : stbs n left right n [] = h := by
  rcases Nat.eq_zero_or_pos n with h0 | h1
  · subst h0
    have hh : h = [] := List.eq_nil_of_length_eq_zero ho.1.1
    subst hh
    unfold stbs
    split <;> rfl
  · have hE : ∀ h', Ext n left right [] h' ↔ Pr n h' ∧ Stab n (pl left) (pl right) h' := fun h' => ⟨fun e => ⟨e.1, e.2.1⟩, fun e => ⟨e.1, e.2, List.nil_prefix⟩⟩
    rcases stbs_spec hL hR h1 n [] (by simp) List.nodup_nil (by simp) with ⟨_, hn⟩ | ⟨hlen, _, h3, h4⟩
    · exact absurd ((hE h).2 ⟨ho.1, ho.2.1⟩) (hn h)
    · refine List.ext_getElem (by rw [hlen, ho.1.1]) fun i hi1 hi2 => ?_
      have hi : i < n := by rw [← hlen]; exact hi1
      obtain ⟨h', hh', e⟩ := h3 i hi
      have hp' := (hE h').1 hh'
      have a1 := h4 h ((hE h).2 ⟨ho.1, ho.2.1⟩) i hi
      have a2 := ho.2.2 h' hp'.1 hp'.2 i hi
      rw [← e] at a2
      have hlt : (stbs n left right n []).getD i 0 < n := by rw [e]; exact hp'.1.at_lt hi
      have := hL.ord.inj i hi _ hlt _ (ho.1.at_lt hi) (Nat.le_antisymm a1 a2)
      simpa [List.getD, hi1, hi2] using this
end

end Go.Proofs.Ytinglgnddmadaaa.St
