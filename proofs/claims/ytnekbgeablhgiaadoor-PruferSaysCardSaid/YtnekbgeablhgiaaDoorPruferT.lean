/-
  Plain facts on trees and their rows, with no program in them: how many lines each point still has while points are taken off, for a tree and for a row; round by round the first one with one line goes; the lines of a row, each with its lesser point first and sorted, are the row's tree. No statement of the program is proved here; there is no condition.
-/
import Derived.Test.YtnekbgeablhgiaaDoorPruferS
import Derived.Test.YtnekbgeablhgiaaDoorLnLt
import Derived.Test.YtnekbgeablhgiaaDoorLstTo
set_option linter.unusedSimpArgs false
set_option linter.unusedVariables false
namespace Go.Proofs.YtnekbgeablhgiaaDoor.Pf
open Sg (first first_spec first_congr)
open Tr (Tree ad)
open Cl (lst mem_lst lst_nodup)

/-- in round k the first point with a 1, p.1, gets 0, and p.2 gets one less -/
structure Run (n : Nat) (D : Nat → List Int) (zs : List (Nat × Nat)) : Prop where
  len : zs.length + 2 = n
  dl : ∀ k, k ≤ zs.length → (D k).length = n
  small : ∀ k v, k ≤ zs.length → 0 ≤ (D k).getD v 0 ∧ (D k).getD v 0 ≤ 16
  lt : ∀ k, k < zs.length → (zs.getD k (0, 0)).1 < n ∧ (zs.getD k (0, 0)).2 < n
  one : ∀ k, k < zs.length → (D k).getD (zs.getD k (0, 0)).1 0 = 1 ∧ ∀ i, i < (zs.getD k (0, 0)).1 → (D k).getD i 0 ≠ 1
  next : ∀ k, k < zs.length → D (k + 1) = ((D k).set (zs.getD k (0, 0)).1 0).set (zs.getD k (0, 0)).2 (((D k).set (zs.getD k (0, 0)).1 0).getD (zs.getD k (0, 0)).2 0 - 1)

/-! ### numbers, one for each point -/
def tab (n : Nat) (f : Nat → Nat) : List Int := (List.range n).map fun v => ((f v : Nat) : Int)
theorem tab_len (n : Nat) (f : Nat → Nat) : (tab n f).length = n := by simp [tab]
theorem tab_at {n : Nat} {f : Nat → Nat} {v : Nat} (hv : v < n) : (tab n f).getD v 0 = ((f v : Nat) : Int) := by
  simp [tab, List.getD, hv]
theorem tab_out {n : Nat} {f : Nat → Nat} {v : Nat} (hv : n ≤ v) : (tab n f).getD v 0 = 0 := by
  simp [tab, List.getD, Nat.not_lt.2 hv]
theorem tab_small {n : Nat} {f : Nat → Nat} (h : ∀ v, v < n → f v ≤ 16) (v : Nat) : 0 ≤ (tab n f).getD v 0 ∧ (tab n f).getD v 0 ≤ 16 := by
  rcases Nat.lt_or_ge v n with hv | hv
  · rw [tab_at hv]; have := h v hv; omega
  · rw [tab_out hv]; omega
/-- one step -/
theorem tab_step {n : Nat} {f f' : Nat → Nat} {a b : Nat} (ha : a < n) (hb : b < n) (hab : a ≠ b) (h1 : f' a = 0) (h2 : f b = f' b + 1) (h3 : ∀ v, v < n → v ≠ a → v ≠ b → f' v = f v) : tab n f' = ((tab n f).set a 0).set b (((tab n f).set a 0).getD b 0 - 1) := by
  have e1 : ((tab n f).set a 0).getD b 0 = ((f b : Nat) : Int) := by
    simp [tab, List.getD, List.getElem?_set, hab, hb]
  rw [e1]
  refine List.ext_getElem (by simp [tab]) fun v hv _ => ?_
  have hvn : v < n := by simpa [tab] using hv
  rw [List.getElem_set, List.getElem_set]
  by_cases hvb : b = v
  · subst hvb
    rw [if_pos rfl]
    simp [tab, h2]
  · rw [if_neg hvb]
    by_cases hva : a = v
    · subst hva
      rw [if_pos rfl]
      simp [tab, h1]
    · rw [if_neg hva]
      simp [tab, h3 v hvn (fun e => hva e.symm) (fun e => hvb e.symm)]

/-! ### a tree: who is gone behind k rounds -/
def gw (n : Nat) (A : Nat → Nat → Bool) (g : Nat → Bool) : Nat → (Nat → Bool)
  | 0 => g
  | k + 1 => off (gw n A g k) (lf n A (gw n A g k))
theorem gw_shift (n : Nat) (A : Nat → Nat → Bool) (g : Nat → Bool) : ∀ k, gw n A (off g (lf n A g)) k = gw n A g (k + 1)
  | 0 => rfl
  | k + 1 => by
    show off (gw n A (off g (lf n A g)) k) (lf n A (gw n A (off g (lf n A g)) k)) = off (gw n A g (k + 1)) (lf n A (gw n A g (k + 1)))
    rw [gw_shift n A g k]
def lfk (n : Nat) (A : Nat → Nat → Bool) (g : Nat → Bool) (k : Nat) : Nat := lf n A (gw n A g k)
def nbk (n : Nat) (A : Nat → Nat → Bool) (g : Nat → Bool) (k : Nat) : Nat := nb n A (gw n A g k) (lfk n A g k)
theorem code_gw (n : Nat) (A : Nat → Nat → Bool) : ∀ (r : Nat) (g : Nat → Bool), code n A r g = (List.range r).map (nbk n A g)
  | 0, _ => rfl
  | r + 1, g => by
    rw [code_next, code_gw n A r, List.range_succ_eq_map, List.map_cons, List.map_map]
    congr 1
    refine List.map_congr_left fun k _ => ?_
    show nbk n A (off g (lf n A g)) k = nbk n A g (k + 1)
    unfold nbk lfk
    rw [gw_shift]
section
variable {n : Nat} {A : Nat → Nat → Bool} {g : Nat → Bool} {r : Nat}
theorem gw_ts (h : TS n A g (r + 2)) : ∀ k, k ≤ r → TS n A (gw n A g k) (r - k + 2)
  | 0, _ => h
  | k + 1, hk => by
    have ih := gw_ts h k (by omega)
    obtain ⟨l1, l2, l3, _⟩ := ih.lf_spec (by omega)
    rw [show r - k + 2 = (r - (k + 1) + 2) + 1 by omega] at ih
    exact ih.less (by omega) l1 l2 l3
def dw (n : Nat) (A : Nat → Nat → Bool) (g : Nat → Bool) : List Int := tab n fun v => if g v = true then 0 else deg n A g v
def zw (n : Nat) (A : Nat → Nat → Bool) (g : Nat → Bool) (r : Nat) : List (Nat × Nat) := (List.range r).map fun k => (lfk n A g k, nbk n A g k)
theorem zw_at {k : Nat} (hk : k < r) : (zw n A g r).getD k (0, 0) = (lfk n A g k, nbk n A g k) := by simp [zw, List.getD, hk]
theorem zw_len : (zw n A g r).length = r := by simp [zw]
theorem deg_le (v : Nat) : deg n A g v ≤ n := by
  unfold deg
  have := sm_le (f := fun w => Bool.toNat (A v w && !g w)) (g := fun _ => 1) (k := n) (fun w _ => by cases (A v w && !g w) <;> simp)
  rw [sm_const] at this
  omega
theorem dw_step {m : Nat} (h : TS n A g (m + 1)) (hm : 2 ≤ m) : lf n A g < n ∧ nb n A g (lf n A g) < n ∧ (dw n A g).getD (lf n A g) 0 = 1 ∧ (∀ i, i < lf n A g → (dw n A g).getD i 0 ≠ 1) ∧
    dw n A (off g (lf n A g)) = ((dw n A g).set (lf n A g) 0).set (nb n A g (lf n A g)) (((dw n A g).set (lf n A g) 0).getD (nb n A g (lf n A g)) 0 - 1) := by
  obtain ⟨l1, l2, l3, l4⟩ := h.lf_spec (by omega)
  obtain ⟨n1, n2, n3, n4⟩ := nb_spec l3
  have hne : lf n A g ≠ nb n A g (lf n A g) := fun e => by rw [← e, h.irr _ l1] at n2; cases n2
  refine ⟨l1, n1, ?_, fun i hi => ?_, ?_⟩
  · unfold dw
    rw [tab_at l1, l2, if_neg (by simp), l3]
    rfl
  · unfold dw
    rw [tab_at (by omega)]
    by_cases hg : g i = true
    · rw [if_pos hg]; omega
    · rw [if_neg hg]
      have := l4 i hi (by simpa using hg)
      omega
  · unfold dw
    refine tab_step l1 n1 hne ?_ ?_ fun v hv hva hvb => ?_
    · simp [off]
    · have hd := deg_off (A := A) (w := nb n A g (lf n A g)) l1 l2
      rw [h.sym, n2] at hd
      rw [n3, if_neg (by simp), (off_false.2 ⟨n3, fun e => hne e.symm⟩ : off g (lf n A g) _ = false), if_neg (by simp), hd]
      simp
    · by_cases hg : g v = true
      · have : off g (lf n A g) v = true := by unfold off; rw [hg]; rfl
        rw [if_pos hg, if_pos this]
      · have hg' : g v = false := by simpa using hg
        have hd := deg_off (A := A) (w := v) l1 l2
        have hA : A v (lf n A g) = false := by
          cases hh : A v (lf n A g) with
          | false => rfl
          | true => exact absurd (n4 v hv (by rw [h.sym]; exact hh) hg') hvb
        rw [hA] at hd
        rw [if_neg hg, if_neg (by rw [off_false.2 ⟨hg', hva⟩]; simp), hd]
        simp
/-- the run for a tree -/
theorem run_w (h : TS n A g (r + 2)) (hn : r + 2 = n) (h16 : n ≤ 16) : Run n (fun k => dw n A (gw n A g k)) (zw n A g r) := by
  have hst : ∀ k, k < r → _ := fun k hk => dw_step (n := n) (A := A) (g := gw n A g k) (m := r - k + 1) (gw_ts h k (by omega)) (by omega)
  refine ⟨by rw [zw_len]; exact hn, fun k _ => tab_len _ _, fun k v _ => tab_small (fun v _ => ?_) v, fun k hk => ?_, fun k hk => ?_, fun k hk => ?_⟩
  · have := deg_le (n := n) (A := A) (g := gw n A g k) v
    by_cases hg : gw n A g k v = true
    · rw [if_pos hg]; omega
    · rw [if_neg hg]; omega
  · rw [zw_len] at hk
    rw [zw_at hk]
    exact ⟨(hst k hk).1, (hst k hk).2.1⟩
  · rw [zw_len] at hk
    rw [zw_at hk]
    exact ⟨(hst k hk).2.2.1, (hst k hk).2.2.2.1⟩
  · rw [zw_len] at hk
    rw [zw_at hk]
    exact (hst k hk).2.2.2.2
/-- while more than one is there: who has lines is there -/
theorem dw_pos {m : Nat} (h : TS n A g m) (hm : 2 ≤ m) {v : Nat} (hv : v < n) : 0 < (dw n A g).getD v 0 ↔ g v = false := by
  unfold dw
  rw [tab_at hv]
  cases hg : g v with
  | true => simp
  | false => have := h.pos hm hv hg; simp; omega
/-- at first -/
theorem dw_first (n : Nat) (ls : List Gr.Ln) : dw n (ad ls) (fun _ => false) = (List.range n).map fun v => (((Gr.row n ls v).length : Nat) : Int) := by
  unfold dw tab
  refine List.map_congr_left fun v _ => ?_
  show (((if false = true then 0 else deg n (ad ls) (fun _ => false) v : Nat)) : Int) = _
  rw [if_neg (by simp), deg_row]
end
/-- the one beside the point that goes, among those of its row: the only one that is there -/
theorem nb_row {n : Nat} {ls : List Gr.Ln} {g : Nat → Bool} {m : Nat} (h : TS n (ad ls) g (m + 1)) (hm : 2 ≤ m) : ((nb n (ad ls) g (lf n (ad ls) g) : Nat) : Int) ∈ Gr.row n ls (lf n (ad ls) g) ∧
    ∀ x ∈ Gr.row n ls (lf n (ad ls) g), ∃ v : Nat, x = (v : Int) ∧ v < n ∧ (0 < (dw n (ad ls) g).getD v 0 ↔ v = nb n (ad ls) g (lf n (ad ls) g)) := by
  obtain ⟨l1, l2, l3, l4⟩ := h.lf_spec (by omega)
  obtain ⟨n1, n2, n3, n4⟩ := nb_spec l3
  refine ⟨?_, fun x hx => ?_⟩
  · unfold Gr.row
    rw [List.mem_map]
    exact ⟨_, List.mem_filter.2 ⟨List.mem_range.2 n1, n2⟩, rfl⟩
  · unfold Gr.row at hx
    rw [List.mem_map] at hx
    obtain ⟨v, hv, rfl⟩ := hx
    obtain ⟨v1, v2⟩ := List.mem_filter.1 hv
    have v1' := List.mem_range.1 v1
    refine ⟨v, rfl, v1', ?_⟩
    rw [dw_pos h (by omega) v1']
    exact ⟨fun hg => n4 v v1' v2 hg, fun e => by rw [e]; exact n3⟩

/-! ### a row: who is gone behind k rounds -/
def gr (n : Nat) (row : List Nat) (g : Nat → Bool) : Nat → (Nat → Bool)
  | 0 => g
  | k + 1 => off (gr n row g k) (free n (gr n row g k) (row.drop k))
theorem gr_shift (n x : Nat) (row : List Nat) (g : Nat → Bool) : ∀ k, gr n row (off g (free n g (x :: row))) k = gr n (x :: row) g (k + 1)
  | 0 => rfl
  | k + 1 => by
    show off (gr n row (off g (free n g (x :: row))) k) (free n (gr n row (off g (free n g (x :: row))) k) (row.drop k)) = off (gr n (x :: row) g (k + 1)) (free n (gr n (x :: row) g (k + 1)) ((x :: row).drop (k + 1)))
    rw [gr_shift n x row g k, List.drop_succ_cons]
def fr (n : Nat) (row : List Nat) (g : Nat → Bool) (k : Nat) : Nat := free n (gr n row g k) (row.drop k)
def zr (n : Nat) (row : List Nat) (g : Nat → Bool) : List (Nat × Nat) := (List.range row.length).map fun k => (fr n row g k, row.getD k 0)
theorem zr_at {n : Nat} {row : List Nat} {g : Nat → Bool} {k : Nat} (hk : k < row.length) : (zr n row g).getD k (0, 0) = (fr n row g k, row.getD k 0) := by simp [zr, List.getD, hk]
theorem zr_len (n : Nat) (row : List Nat) (g : Nat → Bool) : (zr n row g).length = row.length := by simp [zr]
theorem zr_cons (n x : Nat) (row : List Nat) (g : Nat → Bool) : zr n (x :: row) g = (free n g (x :: row), x) :: zr n row (off g (free n g (x :: row))) := by
  unfold zr
  rw [List.length_cons, List.range_succ_eq_map, List.map_cons, List.map_map]
  congr 1
  refine List.map_congr_left fun k _ => ?_
  show (fr n (x :: row) g (k + 1), (x :: row).getD (k + 1) 0) = (fr n row (off g (free n g (x :: row))) k, row.getD k 0)
  unfold fr
  rw [gr_shift, List.drop_succ_cons]
  simp [List.getD]
/-- the two at the end -/
def ea (n : Nat) (row : List Nat) (g : Nat → Bool) : Nat := fst2 n (gr n row g row.length)
theorem dec_zr (n : Nat) : ∀ (row : List Nat) (g : Nat → Bool), dec n row g = zr n row g ++ [(ea n row g, fst2 n (off (gr n row g row.length) (ea n row g)))]
  | [], g => rfl
  | x :: row, g => by
    rw [dec_cons, dec_zr n row, zr_cons, List.cons_append]
    congr 2
    unfold ea
    rw [List.length_cons, gr_shift]
def dr (n : Nat) (row : List Nat) (g : Nat → Bool) (k : Nat) : List Int := tab n fun v => if gr n row g k v = true then 0 else 1 + (row.drop k).count v
section
variable {n : Nat} {row : List Nat} {g : Nat → Bool}
/-- who is left -/
theorem gr_ok (hr : ∀ x ∈ row, x < n ∧ g x = false) (ha : alive n g = row.length + 2) : ∀ k, k ≤ row.length → alive n (gr n row g k) = row.length - k + 2 ∧ ∀ x ∈ row.drop k, x < n ∧ gr n row g k x = false
  | 0, _ => ⟨ha, hr⟩
  | k + 1, hk => by
    obtain ⟨h1, h2⟩ := gr_ok hr ha k (by omega)
    obtain ⟨f1, f2, f3, f4⟩ := free_spec (n := n) (g := gr n row g k) (row := row.drop k) (by rw [h1, List.length_drop]; omega)
    have h3 := alive_off f1 f2
    refine ⟨by show alive n (off (gr n row g k) _) = _; omega, fun x hx => ?_⟩
    have hx' : x ∈ row.drop k := by
      rw [List.drop_eq_getElem_cons (by omega : k < row.length)]
      exact List.mem_cons_of_mem _ hx
    exact ⟨(h2 x hx').1, off_false.2 ⟨(h2 x hx').2, fun e => f3 (by rw [← e]; exact hx')⟩⟩
theorem dr_step (hr : ∀ x ∈ row, x < n ∧ g x = false) (ha : alive n g = row.length + 2) {k : Nat} (hk : k < row.length) : fr n row g k < n ∧ row.getD k 0 < n ∧ (dr n row g k).getD (fr n row g k) 0 = 1 ∧ (∀ i, i < fr n row g k → (dr n row g k).getD i 0 ≠ 1) ∧
    dr n row g (k + 1) = ((dr n row g k).set (fr n row g k) 0).set (row.getD k 0) (((dr n row g k).set (fr n row g k) 0).getD (row.getD k 0) 0 - 1) := by
  obtain ⟨h1, h2⟩ := gr_ok hr ha k (by omega)
  obtain ⟨f1, f2, f3, f4⟩ := free_spec (n := n) (g := gr n row g k) (row := row.drop k) (by rw [h1, List.length_drop]; omega)
  have hd : row.drop k = row.getD k 0 :: row.drop (k + 1) := by
    rw [List.drop_eq_getElem_cons hk]
    simp [List.getD, hk]
  have hxm : row.getD k 0 ∈ row.drop k := by rw [hd]; simp
  have hx := h2 _ hxm
  have hne : fr n row g k ≠ row.getD k 0 := fun e => f3 (by unfold fr at e; rw [e]; exact hxm)
  refine ⟨f1, hx.1, ?_, fun i hi => ?_, ?_⟩
  · unfold dr
    have hf1 : fr n row g k < n := f1
    have hf2 : gr n row g k (fr n row g k) = false := f2
    have hf3 : fr n row g k ∉ row.drop k := f3
    rw [tab_at hf1, hf2, if_neg (by simp), List.count_eq_zero.2 hf3]
    rfl
  · unfold dr
    rw [tab_at (Nat.lt_trans hi f1)]
    by_cases hg : gr n row g k i = true
    · rw [if_pos hg]; omega
    · rw [if_neg hg]
      have := List.count_pos_iff.2 (f4 i hi (by simpa using hg))
      omega
  · unfold dr
    refine tab_step f1 hx.1 hne ?_ ?_ fun v hv hva hvb => ?_
    · have : gr n row g (k + 1) (fr n row g k) = true := by show off _ _ _ = true; simp [off, fr]
      rw [if_pos this]
    · have h3 : gr n row g (k + 1) (row.getD k 0) = false := off_false.2 ⟨hx.2, fun e => hne e.symm⟩
      rw [hx.2, h3, if_neg (by simp), if_neg (by simp), hd, List.count_cons]
      simp
      omega
    · have hiff : gr n row g (k + 1) v = gr n row g k v := by
        show off _ _ _ = _
        unfold off
        rw [decide_eq_false (show ¬ v = free n (gr n row g k) (row.drop k) from hva), Bool.or_false]
      have hnb : (row.getD k 0 == v) = false := by rw [beq_eq_false_iff_ne]; exact fun e => hvb e.symm
      rw [hiff, hd, List.count_cons, hnb]
      simp
/-- the run for a row -/
theorem run_r (hr : ∀ x ∈ row, x < n ∧ g x = false) (ha : alive n g = row.length + 2) (hn : row.length + 2 = n) (h16 : n ≤ 16) : Run n (fun k => dr n row g k) (zr n row g) := by
  refine ⟨by rw [zr_len]; exact hn, fun k _ => tab_len _ _, fun k v _ => tab_small (fun v _ => ?_) v, fun k hk => ?_, fun k hk => ?_, fun k hk => ?_⟩
  · have h1 := List.count_le_length (a := v) (l := row.drop k)
    rw [List.length_drop] at h1
    by_cases hg : gr n row g k v = true
    · rw [if_pos hg]; omega
    · rw [if_neg hg]; omega
  all_goals
    rw [zr_len] at hk
    rw [zr_at hk]
  · exact ⟨(dr_step hr ha hk).1, (dr_step hr ha hk).2.1⟩
  · exact ⟨(dr_step hr ha hk).2.2.1, (dr_step hr ha hk).2.2.2.1⟩
  · exact (dr_step hr ha hk).2.2.2.2
/-- the greatest one never goes -/
theorem free_lt {row : List Nat} {g : Nat → Bool} {n : Nat} (h : row.length + 2 ≤ alive n g) : free n g row + 1 < n := by
  obtain ⟨f1, f2, f3, f4⟩ := free_spec (n := n) (g := g) (row := row) (by omega)
  rcases Nat.lt_or_ge (free n g row + 1) n with hlt | hge
  · exact hlt
  · exfalso
    have hal := alive_off f1 f2
    obtain ⟨e1, e2, e3, e4⟩ := free_spec (n := n) (g := off g (free n g row)) (row := row) (by omega)
    obtain ⟨e5, e6⟩ := off_false.1 e2
    exact e3 (f4 _ (by omega) e5)
theorem alive_pos {n : Nat} {g : Nat → Bool} {v : Nat} (hv : v < n) (h : g v = false) : 1 ≤ alive n g := by
  have := alive_off hv h
  omega
/-- the two at the end: the first one with a 1, and the greatest one -/
theorem end_two (hr : ∀ x ∈ row, x < n ∧ g x = false) (ha : alive n g = row.length + 2) (hn : 1 ≤ n) (hg : g (n - 1) = false) : ea n row g < n ∧ (dr n row g row.length).getD (ea n row g) 0 = 1 ∧ (∀ i, i < ea n row g → (dr n row g row.length).getD i 0 ≠ 1) ∧ fst2 n (off (gr n row g row.length) (ea n row g)) = n - 1 := by
  have hlast : ∀ k, k ≤ row.length → gr n row g k (n - 1) = false := by
    intro k
    induction k with
    | zero => exact fun _ => hg
    | succ k ih =>
      intro hk
      have h1 := (gr_ok hr ha k (by omega)).1
      have h2 := free_lt (n := n) (g := gr n row g k) (row := row.drop k) (by rw [h1, List.length_drop]; omega)
      exact off_false.2 ⟨ih (by omega), by omega⟩
  have h1 := (gr_ok hr ha _ (Nat.le_refl _)).1
  have hL := hlast _ (Nat.le_refl _)
  obtain ⟨p1, p2, p3⟩ := fst2_spec (n := n) (g := gr n row g row.length) (by omega)
  have hal := alive_off p1 p2
  have hne : ea n row g ≠ n - 1 := fun e => by
    obtain ⟨w, w1, w2, w3⟩ := other (n := n) (g := gr n row g row.length) (v := n - 1) (by omega) (by omega)
    have := p3 w (by show w < ea n row g; omega)
    rw [w2] at this
    cases this
  refine ⟨p1, ?_, fun i hi => ?_, fst2_is (by omega) (off_false.2 ⟨hL, fun e => hne e.symm⟩) fun j hj => ?_⟩
  · unfold dr
    have : gr n row g row.length (ea n row g) = false := p2
    rw [tab_at (show ea n row g < n from p1), this, if_neg (by simp)]
    simp
  · unfold dr
    rw [tab_at (Nat.lt_trans hi (show ea n row g < n from p1)), if_pos (p3 i hi)]
    omega
  · cases hh : off (gr n row g row.length) (ea n row g) j with
    | true => rfl
    | false =>
      exfalso
      have hO : off (gr n row g row.length) (ea n row g) (n - 1) = false := off_false.2 ⟨hL, fun e => hne e.symm⟩
      have hal2 := alive_off (n := n) (v := n - 1) (by omega) hO
      have := alive_pos (n := n) (g := off (off (gr n row g row.length) (ea n row g)) (n - 1)) (v := j) (by omega) (off_false.2 ⟨hh, by omega⟩)
      unfold ea at *
      omega
end

/-! ### the lines of a row -/
/-- the lesser one first -/
def nrm (p : Nat × Nat) : Gr.Ln := (((min p.1 p.2 : Nat) : Int), ((max p.1 p.2 : Nat) : Int))
theorem nrm_mem {L : List (Nat × Nat)} {a b : Nat} (hab : a < b) : (((a : Int), (b : Int)) : Gr.Ln) ∈ L.map nrm ↔ by_ L a b = true := by
  rw [by_iff, List.mem_map]
  constructor
  · rintro ⟨⟨x, y⟩, h, e⟩
    unfold nrm at e
    simp only [Prod.mk.injEq] at e
    rcases Nat.le_total x y with h1 | h1
    · rw [Nat.min_eq_left h1, Nat.max_eq_right h1] at e
      obtain rfl : x = a := by omega
      obtain rfl : y = b := by omega
      exact .inl h
    · rw [Nat.min_eq_right h1, Nat.max_eq_left h1] at e
      obtain rfl : y = a := by omega
      obtain rfl : x = b := by omega
      exact .inr h
  · rintro (h | h)
    · exact ⟨_, h, by unfold nrm; rw [Nat.min_eq_left (Nat.le_of_lt hab), Nat.max_eq_right (Nat.le_of_lt hab)]⟩
    · exact ⟨_, h, by unfold nrm; rw [Nat.min_eq_right (Nat.le_of_lt hab), Nat.max_eq_left (Nat.le_of_lt hab)]⟩
theorem pw_lst (m : Nat) (r : Nat → Nat → Bool) : (lst m r).Pairwise Dp.lnLt := by
  unfold lst Gr.full
  rw [List.pairwise_map]
  refine (Dp.full_pw _ m m).imp ?_
  intro p q h
  unfold Dp.lnLt
  show (p.1 : Int) < (q.1 : Int) ∨ ((p.1 : Int) = (q.1 : Int) ∧ (p.2 : Int) < (q.2 : Int))
  omega
theorem perm_few {α : Type} [DecidableEq α] : ∀ {l l' : List α}, l.Nodup → (∀ x ∈ l, x ∈ l') → l'.length ≤ l.length → l.Perm l'
  | [], l', _, _, hl => by
    have : l' = [] := List.eq_nil_of_length_eq_zero (by simpa using hl)
    rw [this]
  | x :: t, l', hnd, hs, hl => by
    have hx := hs x (by simp)
    have hp := List.perm_cons_erase hx
    have hnd' := List.nodup_cons.1 hnd
    have hlen := hp.length_eq
    simp only [List.length_cons] at hlen hl
    refine (List.Perm.cons x (perm_few hnd'.2 (fun y hy => ?_) (by omega))).trans hp.symm
    exact (List.mem_erase_of_ne (fun e => hnd'.1 (by rw [← e]; exact hy))).2 (hs y (List.mem_cons_of_mem _ hy))
/-- sorted, they are the row's tree -/
theorem sort_rd {row : List Nat} (hr : ∀ x ∈ row, x < row.length + 2) {os : List Gr.Ln} (hp : os.Perm ((dec (row.length + 2) row fun _ => false).map nrm)) (hs : os.Pairwise fun p q => ¬ Dp.lnLt q p) : os = rdL row := by
  obtain ⟨h1, h2⟩ := rd_ok hr
  have hsub : ∀ q ∈ rdL row, q ∈ (dec (row.length + 2) row fun _ => false).map nrm := fun q hq => by
    have hq' := hq
    unfold rdL lines at hq'
    obtain ⟨a, b, rfl, _⟩ : ∃ a b : Nat, q = ((a : Int), (b : Int)) ∧ True := by
      unfold lst at hq'
      obtain ⟨⟨a, b⟩, _, rfl⟩ := List.mem_map.1 hq'
      exact ⟨a, b, rfl, trivial⟩
    obtain ⟨_, _, h3⟩ := mem_lst.1 hq'
    simp only [Bool.and_eq_true, decide_eq_true_eq] at h3
    exact (nrm_mem h3.1).2 h3.2
  have hp2 : (rdL row).Perm os := (perm_few (by unfold rdL lines; exact lst_nodup _ _) hsub (by rw [List.length_map, dec_len, rd_len hr]; exact Nat.le_refl _)).trans hp.symm
  refine (hp2.eq_of_pairwise (le := fun p q => ¬ Dp.lnLt q p) (fun a b _ _ h h' => Dp.lnLt_tri h' h) ?_ hs).symm
  exact (by unfold rdL lines; exact pw_lst _ _ : (rdL row).Pairwise Dp.lnLt).imp fun h => Dp.lnLt_not h
/-- as the loops over all pairs come to it -/
theorem lst_skip {n : Nat} {r : Nat → Nat → Bool} {a : Nat} : ∀ b, b ≤ a + 1 → RefC.lstTo n (fun a b => decide (a < b) && r a b) a b = RefC.lstTo n (fun a b => decide (a < b) && r a b) a 0
  | 0, _ => rfl
  | b + 1, h => by
    rw [RefC.lstTo_miss (by rw [decide_eq_false (by omega), Bool.false_and]), lst_skip b (by omega)]
end Go.Proofs.YtnekbgeablhgiaaDoor.Pf
