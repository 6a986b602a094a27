/-
  Plain facts on orders in which all lines go on, with no program in them: who may come next, that there is such an order just if no point comes back to itself, how deep each point is, and that turned lines are as deep. No statement of the program is proved here; there is no condition.
  Plain facts on choosing the least again and again, with no program in them: what is chosen rises, and is the same numbers. No statement of the program is proved here; there is no condition.
  Plain facts, with no program in them: who may come next as the program asks for it, how deep points are as it reckons them along an order, rings as the reference asks for them, the greatest of some numbers. No statement of the program is proved here; there is no condition.
-/
import Derived.Test.YtoofpmajiphldaaDoorWalkF
import Derived.Test.YtoofpmajiphldaaDoorStableM
import Derived.Test.YtoofpmajiphldaaDoorGraphL
import Derived.WalkKit
set_option linter.unusedSimpArgs false
set_option linter.unusedVariables false
namespace Go.Proofs.YtoofpmajiphldaaDoor.To
open Wa (wk wk_zero wk_succ wk_add wk_one)

/-- where lines go from a point -/
def frow (m : Nat) (ls : List Gr.Ln) (a : Nat) : List Nat := (List.range m).filter fun b : Nat => Gr.has ls (a : Int) (b : Int)
theorem mem_frow {m : Nat} {ls : List Gr.Ln} {a b : Nat} : b ∈ frow m ls a ↔ b < m ∧ Gr.has ls (a : Int) (b : Int) = true := by simp [frow, List.mem_filter]
theorem frow_ok (m : Nat) (ls : List Gr.Ln) : Wa.Ok m (frow m ls) := fun a _ b hb => (mem_frow.1 hb).1
/-- the ends of a line that is good -/
theorem ends {n : Nat} {ls : List Gr.Ln} (hg : ∀ p ∈ ls, Gr.Good (n : Int) p) {a b : Int} (h : Gr.has ls a b = true) : ∃ i j : Nat, a = (i : Int) ∧ b = (j : Int) ∧ i < n ∧ j < n ∧ i ≠ j := by
  have := hg _ (Gr.has_iff.1 h)
  unfold Gr.Good at this
  simp only at this
  exact ⟨a.toNat, b.toNat, by omega, by omega, by omega, by omega, by omega⟩

/-! ### who may come next -/
/-- it is not out, and all that its lines come from are -/
def freeAt (ls : List Gr.Ln) (o : List Int) (i : Int) : Bool := !o.contains i && ls.all fun p => decide (p.2 ≠ i) || o.contains p.1
theorem freeAt_iff {ls : List Gr.Ln} {o : List Int} {i : Int} : freeAt ls o i = true ↔ i ∉ o ∧ ∀ a, Gr.has ls a i = true → a ∈ o := by
  unfold freeAt
  simp only [Bool.and_eq_true, Bool.not_eq_true', List.all_eq_true, Bool.or_eq_true, decide_eq_true_eq, List.contains_iff_mem]
  constructor
  · rintro ⟨h1, h2⟩
    refine ⟨fun h => (by rw [← List.contains_iff_mem] at h; rw [h] at h1; cases h1), fun a ha => ?_⟩
    rcases h2 _ (Gr.has_iff.1 ha) with h | h
    · exact absurd rfl h
    · exact h
  · rintro ⟨h1, h2⟩
    have h3 : o.contains i = false := by
      cases h : o.contains i with
      | false => rfl
      | true => exact absurd (List.contains_iff_mem.1 h) h1
    refine ⟨h3, fun p hp => ?_⟩
    by_cases e : p.2 = i
    · exact .inr (h2 p.1 (Gr.has_iff.2 (by rw [← e]; exact hp)))
    · exact .inl e
/-- the least of them -/
def IsMin (n : Nat) (ls : List Gr.Ln) (o : List Int) (x : Int) : Prop := ∃ i : Nat, i < n ∧ x = (i : Int) ∧ freeAt ls o (i : Int) = true ∧ ∀ j : Nat, j < i → freeAt ls o (j : Int) = false
theorem IsMin.unique {n : Nat} {ls : List Gr.Ln} {o : List Int} {x y : Int} (h : IsMin n ls o x) (h' : IsMin n ls o y) : x = y := by
  obtain ⟨i, _, rfl, h1, h2⟩ := h
  obtain ⟨j, _, rfl, h3, h4⟩ := h'
  rcases Nat.lt_trichotomy i j with hlt | rfl | hlt
  · rw [h4 i hlt] at h1; cases h1
  · rfl
  · rw [h2 j hlt] at h3; cases h3
/-- each one is the least that may come next -/
def Step (n : Nat) (ls : List Gr.Ln) (o : List Int) : Prop := ∀ k, k < o.length → IsMin n ls (o.take k) (o.getD k 0)
/-- none may come next -/
def Stuck (n : Nat) (ls : List Gr.Ln) (o : List Int) : Prop := ∀ i : Nat, i < n → freeAt ls o (i : Int) = false
theorem Step.nil (n : Nat) (ls : List Gr.Ln) : Step n ls [] := fun k hk => absurd hk (Nat.not_lt_zero _)
theorem Step.snoc {n : Nat} {ls : List Gr.Ln} {o : List Int} {x : Int} (h : Step n ls o) (hx : IsMin n ls o x) : Step n ls (o ++ [x]) := by
  intro k hk
  rw [List.length_append, List.length_singleton] at hk
  by_cases e : k = o.length
  · subst e
    have e1 : (o ++ [x]).take o.length = o := by simp
    have e2 : (o ++ [x]).getD o.length 0 = x := by simp [List.getD]
    rw [e1, e2]
    exact hx
  · have hk' : k < o.length := by omega
    have e1 : (o ++ [x]).take k = o.take k := by rw [List.take_append_of_le_length (by omega)]
    have e2 : (o ++ [x]).getD k 0 = o.getD k 0 := by simp [List.getD, List.getElem?_append_left hk']
    rw [e1, e2]
    exact h k hk'
theorem Step.range {n : Nat} {ls : List Gr.Ln} {o : List Int} (h : Step n ls o) : ∀ x ∈ o, ∃ i : Nat, i < n ∧ x = (i : Int) := by
  intro x hx
  obtain ⟨k, hk, rfl⟩ := List.mem_iff_getElem.1 hx
  obtain ⟨i, hi, e, _⟩ := h k hk
  exact ⟨i, hi, by rw [← e]; simp [List.getD, hk]⟩
theorem Step.nodup {n : Nat} {ls : List Gr.Ln} {o : List Int} (h : Step n ls o) : o.Nodup := by
  show List.Pairwise (· ≠ ·) o
  rw [List.pairwise_iff_getElem]
  intro i j hi hj hij e
  obtain ⟨x, _, e1, hf, _⟩ := h j hj
  have e2 : o.getD j 0 = o[j] := by simp [List.getD, hj]
  rw [← e1, e2, ← e] at hf
  exact (freeAt_iff.1 hf).1 (List.mem_take_iff_getElem.2 ⟨i, by omega, rfl⟩)
theorem Step.le {n : Nat} {ls : List Gr.Ln} {o : List Int} (h : Step n ls o) : o.length ≤ n := by
  have hsub : (o.map Int.toNat).length ≤ (List.range n).length := by
    refine List.Nodup.length_le_of_subset ?_ fun x hx => ?_
    · show List.Pairwise (· ≠ ·) _
      rw [List.pairwise_map]
      refine List.Pairwise.imp_of_mem (fun {x y} hx hy hne e => ?_) h.nodup
      obtain ⟨i, _, rfl⟩ := h.range x hx
      obtain ⟨j, _, rfl⟩ := h.range y hy
      simp only [Int.toNat_natCast] at e
      exact hne (by rw [e])
    · obtain ⟨y, hy, rfl⟩ := List.mem_map.1 hx
      obtain ⟨i, hi, rfl⟩ := h.range y hy
      exact List.mem_range.2 (by simpa using hi)
  simpa using hsub
theorem Step.row {n : Nat} {ls : List Gr.Ln} {o : List Int} (h : Step n ls o) (hl : o.length = n) : St.Row n o := ⟨hl, fun x hx => by obtain ⟨i, hi, rfl⟩ := h.range x hx; omega, h.nodup⟩
theorem Step.same {n : Nat} {ls : List Gr.Ln} {o o' : List Int} (h : Step n ls o) (h' : Step n ls o') : ∀ k, k ≤ o.length → k ≤ o'.length → o.take k = o'.take k
  | 0, _, _ => by simp
  | k + 1, h1, h2 => by
    have ih := Step.same h h' k (by omega) (by omega)
    have a := h k (by omega)
    have b := h' k (by omega)
    rw [ih] at a
    have e := a.unique b
    rw [List.take_succ_eq_append_getElem (by omega), List.take_succ_eq_append_getElem (by omega), ih]
    have e1 : o.getD k 0 = o[k] := by simp [List.getD, show k < o.length by omega]
    have e2 : o'.getD k 0 = o'[k] := by simp [List.getD, show k < o'.length by omega]
    rw [e1, e2] at e
    rw [e]
/-- there is one such order -/
theorem Step.only {n : Nat} {ls : List Gr.Ln} {o o' : List Int} (h : Step n ls o) (h' : Step n ls o') (hl : o.length = n) (hl' : o'.length = n) : o = o' := by
  have := h.same h' n (by omega) (by omega)
  rwa [List.take_of_length_le (by omega), List.take_of_length_le (by omega)] at this
/-- if there is one, no other one gets stuck -/
theorem Step.free {n : Nat} {ls : List Gr.Ln} {o o' : List Int} (h : Step n ls o) (hl : o.length = n) (h' : Step n ls o') (hs : Stuck n ls o') : o'.length = n := by
  rcases Nat.lt_or_ge o'.length n with hlt | hge
  · exfalso
    have e := h.same h' o'.length (by omega) (Nat.le_refl _)
    rw [List.take_of_length_le (Nat.le_refl _)] at e
    obtain ⟨i, hi, _, hf, _⟩ := h o'.length (by omega)
    rw [e, hs i hi] at hf
    cases hf
  · exact Nat.le_antisymm h'.le hge
theorem min_or_stuck (n : Nat) (ls : List Gr.Ln) (o : List Int) : (∃ x, IsMin n ls o x) ∨ Stuck n ls o := by
  have key : ∀ m, m ≤ n → (∃ x, IsMin n ls o x) ∨ ∀ j : Nat, j < m → freeAt ls o (j : Int) = false := by
    intro m
    induction m with
    | zero => intro _; exact .inr fun j hj => absurd hj (Nat.not_lt_zero _)
    | succ m ih =>
      intro hm
      rcases ih (by omega) with h | h
      · exact .inl h
      · cases hf : freeAt ls o (m : Int) with
        | true => exact .inl ⟨m, m, by omega, rfl, hf, h⟩
        | false =>
          refine .inr fun j hj => ?_
          by_cases e : j = m
          · rw [e]; exact hf
          · exact h j (by omega)
  rcases key n (Nat.le_refl _) with h | h
  · exact .inl h
  · exact .inr h
/-- one goes on till all are out, or none may come next -/
theorem Step.ex (n : Nat) (ls : List Gr.Ln) : ∃ o, Step n ls o ∧ (o.length = n ∨ (o.length < n ∧ Stuck n ls o)) := by
  have key : ∀ f o, Step n ls o → n - o.length ≤ f → ∃ o, Step n ls o ∧ (o.length = n ∨ (o.length < n ∧ Stuck n ls o)) := by
    intro f
    induction f with
    | zero => intro o h hf; exact ⟨o, h, .inl (by have := h.le; omega)⟩
    | succ f ih =>
      intro o h hf
      rcases Nat.lt_or_ge o.length n with hlt | hge
      · rcases min_or_stuck n ls o with ⟨x, hx⟩ | hs
        · exact ih (o ++ [x]) (h.snoc hx) (by simp; omega)
        · exact ⟨o, h, .inr ⟨hlt, hs⟩⟩
      · exact ⟨o, h, .inl (by have := h.le; omega)⟩
  exact key n [] (Step.nil n ls) (by simp)

/-! ### lines go on -/
section
variable {n : Nat} {ls : List Gr.Ln} {o : List Int}
/-- where a point stands -/
theorem Step.place (h : Step n ls o) (hl : o.length = n) {i : Nat} (hi : i < n) : ∃ p, p < n ∧ St.plc o (i : Int) = (p : Int) ∧ o.getD p 0 = (i : Int) := (h.row hl).plc hi
theorem Step.line (h : Step n ls o) (hl : o.length = n) {a b : Nat} (hb : b < n) (hab : Gr.has ls (a : Int) (b : Int) = true) : St.plc o (a : Int) < St.plc o (b : Int) := by
  obtain ⟨p, hp, e1, e2⟩ := h.place hl hb
  obtain ⟨x, _, e3, hf, _⟩ := h p (by omega)
  rw [← e3, e2] at hf
  have hm := (freeAt_iff.1 hf).2 _ hab
  obtain ⟨q, hq, e4⟩ := List.mem_take_iff_getElem.1 hm
  have hq2 : q < o.length := by omega
  have e5 : o.getD q 0 = (a : Int) := by rw [← e4]; simp [List.getD, hq2]
  rw [e1, ← e5, St.plc_at h.nodup hq2]
  omega
theorem Step.way (h : Step n ls o) (hl : o.length = n) {a : Nat} (ha : a < n) : ∀ k b, wk n (frow n ls) k a b = true → St.plc o (a : Int) + (k : Int) ≤ St.plc o (b : Int)
  | 0, b, hw => by
    have := wk_zero.1 hw
    subst this
    omega
  | k + 1, b, hw => by
    obtain ⟨c, hc, h1, h2⟩ := wk_succ.1 hw
    have h3 := mem_frow.1 h2
    have := h.line hl h3.1 h3.2
    have := h.way hl ha k c h1
    omega
/-- a point that comes back to itself -/
def Ring (n : Nat) (ls : List Gr.Ln) : Prop := ∃ i k, i < n ∧ 1 ≤ k ∧ wk n (frow n ls) k i i = true
theorem Step.no_ring (h : Step n ls o) (hl : o.length = n) : ¬ Ring n ls := by
  rintro ⟨i, k, hi, hk, hw⟩
  have := h.way hl hi k i hw
  omega
/-- ways are short -/
theorem Step.short (h : Step n ls o) (hl : o.length = n) {a b k : Nat} (ha : a < n) (hw : wk n (frow n ls) k a b = true) : k < n := by
  have hb := Wa.wk_lt (frow_ok n ls) ha hw
  have := h.way hl ha k b hw
  obtain ⟨p, hp, e1, _⟩ := h.place hl hb
  obtain ⟨q, hq, e2, _⟩ := h.place hl ha
  omega
/-- where one gets stuck some point comes back to itself -/
theorem Step.ring (hg : ∀ p ∈ ls, Gr.Good (n : Int) p) (h : Step n ls o) (hlt : o.length < n) (hs : Stuck n ls o) : Ring n ls := by
  have hpred : ∀ u : Nat, u < n ∧ ((u : Int) ∉ o) → ∃ v : Nat, (v < n ∧ ((v : Int) ∉ o)) ∧ Gr.has ls (v : Int) (u : Int) = true := by
    rintro u ⟨hu, hu2⟩
    have hf : ¬ freeAt ls o (u : Int) = true := by rw [hs u hu]; simp
    rw [freeAt_iff] at hf
    have : ∃ a, Gr.has ls a (u : Int) = true ∧ a ∉ o := by
      refine Classical.byContradiction fun hn => hf ⟨hu2, fun a ha => Classical.byContradiction fun hn2 => hn ⟨a, ha, hn2⟩⟩
    obtain ⟨a, ha, hao⟩ := this
    obtain ⟨i, j, rfl, _, hi, _⟩ := ends hg ha
    exact ⟨i, ⟨hi, hao⟩, ha⟩
  obtain ⟨u0, hu0⟩ : ∃ u : Nat, u < n ∧ ((u : Int) ∉ o) := by
    refine Classical.byContradiction fun hn => ?_
    have hsub : (List.range n).length ≤ (o.map Int.toNat).length := by
      refine List.Nodup.length_le_of_subset List.nodup_range fun x hx => ?_
      have hx' := List.mem_range.1 hx
      have : (x : Int) ∈ o := Classical.byContradiction fun h2 => hn ⟨x, hx', h2⟩
      exact List.mem_map.2 ⟨(x : Int), this, by simp⟩
    simp at hsub
    omega
  -- a way back, as long as one likes
  have hway : ∀ k, ∃ p : Nat → Nat, p 0 = u0 ∧ (∀ i, i ≤ k → p i < n ∧ ((p i : Nat) : Int) ∉ o) ∧ ∀ i, i < k → Gr.has ls ((p (i + 1) : Nat) : Int) ((p i : Nat) : Int) = true := by
    intro k
    induction k with
    | zero => exact ⟨fun _ => u0, rfl, fun i _ => hu0, fun i hi => absurd hi (Nat.not_lt_zero _)⟩
    | succ k ih =>
      obtain ⟨p, h0, h1, h2⟩ := ih
      obtain ⟨v, hv, hl⟩ := hpred (p k) (h1 k (Nat.le_refl _))
      refine ⟨fun i => if i ≤ k then p i else v, by simp [h0], fun i hi => ?_, fun i hi => ?_⟩
      · by_cases e : i ≤ k
        · simp only [e, if_true]; exact h1 i e
        · simp only [e, if_false]; exact hv
      · by_cases e : i + 1 ≤ k
        · have e' : i ≤ k := by omega
          simp only [e, e', if_true]
          exact h2 i (by omega)
        · have e' : i = k := by omega
          subst e'
          simp only [e, Nat.le_refl, if_true, if_false]
          exact hl
  obtain ⟨p, _, h1, h2⟩ := hway n
  have hwk : ∀ d i, i + d ≤ n → wk n (frow n ls) d (p (i + d)) (p i) = true := by
    intro d
    induction d with
    | zero => intro i _; exact wk_zero.2 rfl
    | succ d ih =>
      intro i hi
      have hstep : wk n (frow n ls) d (p (i + 1 + d)) (p (i + 1)) = true := ih (i + 1) (by omega)
      have e : i + 1 + d = i + (d + 1) := by omega
      rw [e] at hstep
      exact wk_succ.2 ⟨p (i + 1), (h1 (i + 1) (by omega)).1, hstep, mem_frow.2 ⟨(h1 i (by omega)).1, h2 i (by omega)⟩⟩
  have hdup : ∃ i j, i < j ∧ j ≤ n ∧ p i = p j := by
    refine Classical.byContradiction fun hn => ?_
    have hnd : ((List.range (n + 1)).map p).Nodup := by
      show List.Pairwise (· ≠ ·) _
      rw [List.pairwise_map]
      refine List.Pairwise.imp_of_mem (fun {x y} hx hy hxy e => ?_) List.pairwise_lt_range
      exact hn ⟨x, y, hxy, by have := List.mem_range.1 hy; omega, e⟩
    have := List.Nodup.length_le_of_subset hnd (l₂ := List.range n) fun x hx => by
      obtain ⟨i, hi, rfl⟩ := List.mem_map.1 hx
      exact List.mem_range.2 (h1 i (by have := List.mem_range.1 hi; omega)).1
    simp at this
    omega
  obtain ⟨i, j, hij, hj, e⟩ := hdup
  have := hwk (j - i) i (by omega)
  rw [show i + (j - i) = j by omega, ← e] at this
  exact ⟨p i, j - i, (h1 i (by omega)).1, by omega, this⟩
end

/-! ### how deep -/
/-- the most lines on a way to a point -/
def Dp (n : Nat) (ls : List Gr.Ln) (i d : Nat) : Prop := (∃ a, a < n ∧ wk n (frow n ls) d a i = true) ∧ ∀ k a, a < n → wk n (frow n ls) k a i = true → k ≤ d
theorem Dp.unique {n : Nat} {ls : List Gr.Ln} {i d d' : Nat} (h : Dp n ls i d) (h' : Dp n ls i d') : d = d' := by
  obtain ⟨⟨a, ha, h1⟩, h2⟩ := h
  obtain ⟨⟨b, hb, h3⟩, h4⟩ := h'
  exact Nat.le_antisymm (h4 d a ha h1) (h2 d' b hb h3)
/-- the most of some lines, by how deep they begin -/
def mostF (D : Int → Nat) (i : Int) : List Gr.Ln → Nat → Nat
  | [], acc => acc
  | p :: ps, acc => mostF D i ps (if p.2 = i ∧ acc < 1 + D p.1 then 1 + D p.1 else acc)
/-- how deep, by fuel -/
def dpF (ls : List Gr.Ln) : Nat → Int → Nat
  | 0, _ => 0
  | f + 1, i => mostF (dpF ls f) i ls 0
theorem mostF_spec (D : Int → Nat) (i : Int) : ∀ (l : List Gr.Ln) (acc : Nat), acc ≤ mostF D i l acc ∧ (∀ p ∈ l, p.2 = i → 1 + D p.1 ≤ mostF D i l acc) ∧ (mostF D i l acc = acc ∨ ∃ p ∈ l, p.2 = i ∧ mostF D i l acc = 1 + D p.1)
  | [], acc => ⟨Nat.le_refl _, fun p hp => absurd hp (by simp), .inl rfl⟩
  | q :: l, acc => by
    obtain ⟨h1, h2, h3⟩ := mostF_spec D i l (if q.2 = i ∧ acc < 1 + D q.1 then 1 + D q.1 else acc)
    have e : mostF D i (q :: l) acc = mostF D i l (if q.2 = i ∧ acc < 1 + D q.1 then 1 + D q.1 else acc) := rfl
    rw [e]
    have hq : acc ≤ (if q.2 = i ∧ acc < 1 + D q.1 then 1 + D q.1 else acc) ∧ (q.2 = i → 1 + D q.1 ≤ if q.2 = i ∧ acc < 1 + D q.1 then 1 + D q.1 else acc) := by
      split
      · rename_i h; exact ⟨by omega, fun _ => Nat.le_refl _⟩
      · rename_i h; exact ⟨Nat.le_refl _, fun e => by
          rcases Nat.lt_or_ge acc (1 + D q.1) with h5 | h5
          · exact absurd ⟨e, h5⟩ h
          · exact h5⟩
    refine ⟨by omega, fun p hp hpi => ?_, ?_⟩
    · rcases List.mem_cons.1 hp with rfl | hp
      · have := hq.2 hpi; omega
      · exact h2 p hp hpi
    · rcases h3 with h3 | ⟨p, hp, hpi, h3⟩
      · rw [h3]
        split
        · rename_i h; exact .inr ⟨q, by simp, h.1, rfl⟩
        · exact .inl rfl
      · exact .inr ⟨p, List.mem_cons_of_mem _ hp, hpi, h3⟩
theorem mostF_step (D : Int → Nat) (i : Int) {l : List Gr.Ln} {k : Nat} (hk : k < l.length) (p : Gr.Ln) (hp : p = l.getD k (0, 0)) (acc : Nat) : mostF D i (l.drop k) acc = mostF D i (l.drop (k + 1)) (if p.2 = i ∧ acc < 1 + D p.1 then 1 + D p.1 else acc) := by
  rw [List.drop_eq_getElem_cons hk]
  have : l[k] = p := by rw [hp]; simp [List.getD, hk]
  rw [this]
  rfl
section
variable {n : Nat} {ls : List Gr.Ln}
/-- a way of one line more -/
theorem wk_line (hg : ∀ p ∈ ls, Gr.Good (n : Int) p) {a c i k : Nat} (h : Gr.has ls (c : Int) (i : Int) = true) (hw : wk n (frow n ls) k a c = true) : wk n (frow n ls) (k + 1) a i = true := by
  obtain ⟨x, y, e1, e2, hx, hy, _⟩ := ends hg h
  exact wk_succ.2 ⟨c, by omega, hw, mem_frow.2 ⟨by omega, h⟩⟩
theorem dpF_spec (hg : ∀ p ∈ ls, Gr.Good (n : Int) p) : ∀ (f i : Nat), i < n → (∀ k a, a < n → wk n (frow n ls) k a i = true → k < f) → Dp n ls i (dpF ls f (i : Int))
  | 0, i, hi, hf => absurd (hf 0 i hi (wk_zero.2 rfl)) (Nat.not_lt_zero _)
  | f + 1, i, hi, hf => by
    have hsub : ∀ c : Nat, Gr.has ls (c : Int) (i : Int) = true → Dp n ls c (dpF ls f (c : Int)) := fun c hc => by
      obtain ⟨x, y, e1, e2, hx, hy, _⟩ := ends hg hc
      refine dpF_spec hg f c (by omega) fun k a ha hw => ?_
      have := hf (k + 1) a ha (wk_line hg hc hw)
      omega
    obtain ⟨h1, h2, h3⟩ := mostF_spec (dpF ls f) (i : Int) ls 0
    have e : dpF ls (f + 1) (i : Int) = mostF (dpF ls f) (i : Int) ls 0 := rfl
    rw [e]
    constructor
    · rcases h3 with h3 | ⟨p, hp, hpi, h3⟩
      · rw [h3]; exact ⟨i, hi, wk_zero.2 rfl⟩
      · have hh : Gr.has ls p.1 (i : Int) = true := Gr.has_iff.2 (by rw [← hpi]; exact hp)
        obtain ⟨c, y, e1, e2, hx, hy, _⟩ := ends hg hh
        rw [e1] at hh
        obtain ⟨⟨a, ha, hw⟩, _⟩ := hsub c hh
        rw [h3, e1, Nat.add_comm]
        exact ⟨a, ha, wk_line hg hh hw⟩
    · intro k a ha hw
      cases k with
      | zero => exact Nat.zero_le _
      | succ k =>
        obtain ⟨c, hc, hw1, hw2⟩ := wk_succ.1 hw
        have hh := (mem_frow.1 hw2).2
        have := (hsub c hh).2 k a ha hw1
        have := h2 _ (Gr.has_iff.1 hh) rfl
        simp only at this
        omega
/-- how deep each point is, where there is an order -/
theorem dp_all (hg : ∀ p ∈ ls, Gr.Good (n : Int) p) {o : List Int} (h : Step n ls o) (hl : o.length = n) {i : Nat} (hi : i < n) : Dp n ls i (dpF ls n (i : Int)) := dpF_spec hg n i hi fun k a ha hw => h.short hl ha hw
/-- by the lines that come in -/
theorem Dp.of_lines (hg : ∀ p ∈ ls, Gr.Good (n : Int) p) {D : Nat → Nat} (hD : ∀ i, i < n → Dp n ls i (D i)) {i : Nat} (hi : i < n) :
    (∀ c : Nat, Gr.has ls (c : Int) (i : Int) = true → D c + 1 ≤ D i) ∧ (D i = 0 ∨ ∃ c : Nat, c < n ∧ Gr.has ls (c : Int) (i : Int) = true ∧ D i = D c + 1) := by
  constructor
  · intro c hc
    obtain ⟨x, y, e1, e2, hx, hy, _⟩ := ends hg hc
    obtain ⟨⟨a, ha, hw⟩, _⟩ := hD c (by omega)
    exact (hD i hi).2 _ a ha (wk_line hg hc hw)
  · cases hd : D i with
    | zero => exact .inl rfl
    | succ d =>
      obtain ⟨⟨a, ha, hw⟩, hm⟩ := hD i hi
      rw [hd] at hw hm
      obtain ⟨c, hc, hw1, hw2⟩ := wk_succ.1 hw
      have hh := (mem_frow.1 hw2).2
      refine .inr ⟨c, hc, hh, ?_⟩
      have h1 := (hD c hc).2 d a ha hw1
      obtain ⟨⟨b, hb, hw3⟩, _⟩ := hD c hc
      have h2 := hm _ b hb (wk_line hg hh hw3)
      omega
/-- the only numbers that fit the lines -/
theorem Dp.by_lines {o : List Int} (h : Step n ls o) (hl : o.length = n) (hg : ∀ p ∈ ls, Gr.Good (n : Int) p) {D E : Nat → Nat} (hD : ∀ i, i < n → Dp n ls i (D i))
    (hE : ∀ i, i < n → (∀ c : Nat, Gr.has ls (c : Int) (i : Int) = true → E c + 1 ≤ E i) ∧ (E i = 0 ∨ ∃ c : Nat, c < n ∧ Gr.has ls (c : Int) (i : Int) = true ∧ E i = E c + 1)) : ∀ i, i < n → E i = D i := by
  have key : ∀ p : Nat, ∀ i, i < n → St.plc o (i : Int) = (p : Int) → E i = D i := by
    intro p
    induction p using Nat.strongRecOn with
    | _ p ih =>
      intro i hi hp
      have hsub : ∀ c : Nat, Gr.has ls (c : Int) (i : Int) = true → E c = D c := fun c hc => by
        obtain ⟨x, y, e1, e2, hx, hy, _⟩ := ends hg hc
        have hcn : c < n := by omega
        obtain ⟨q, hq, e3, _⟩ := h.place hl hcn
        have := h.line hl hi hc
        exact ih q (by omega) c hcn e3
      have hd := Dp.of_lines hg hD hi
      have he := hE i hi
      refine Nat.le_antisymm ?_ ?_
      · rcases he.2 with h0 | ⟨c, hc, hh, e⟩
        · omega
        · have := hd.1 c hh; have := hsub c hh; omega
      · rcases hd.2 with h0 | ⟨c, hc, hh, e⟩
        · omega
        · have := he.1 c hh; have := hsub c hh; omega
  intro i hi
  obtain ⟨p, _, e, _⟩ := h.place hl hi
  exact key p i hi e
end

/-! ### turned lines -/
theorem has_back {ls : List Gr.Ln} {a b : Int} : Gr.has (Gr.back ls) a b = Gr.has ls b a := by
  rw [Bool.eq_iff_iff, Gr.has_iff, Gr.has_iff, Gr.mem_back]
theorem wk_turn {n : Nat} {ls : List Gr.Ln} {a : Nat} (ha : a < n) : ∀ {k b : Nat}, wk n (frow n ls) k a b = true → wk n (frow n (Gr.back ls)) k b a = true
  | 0, b, h => by rw [wk_zero] at *; exact h.symm
  | k + 1, b, h => by
    obtain ⟨c, hc, h1, h2⟩ := wk_succ.1 h
    have h3 := mem_frow.1 h2
    have := wk_add (wk_one h3.1 (mem_frow.2 ⟨hc, by rw [has_back]; exact h3.2⟩)) (wk_turn ha h1)
    rwa [Nat.add_comm] at this
theorem back_back (ls : List Gr.Ln) (a b : Int) : Gr.has (Gr.back (Gr.back ls)) a b = Gr.has ls a b := by rw [has_back, has_back]
theorem wk_back {n : Nat} {ls : List Gr.Ln} {a b k : Nat} (ha : a < n) (hb : b < n) : wk n (frow n (Gr.back ls)) k b a = true ↔ wk n (frow n ls) k a b = true := by
  constructor
  · intro h
    have := wk_turn hb h
    exact Wa.wk_mono (fun x _ y hy => mem_frow.2 ⟨(mem_frow.1 hy).1, by rw [← back_back]; exact (mem_frow.1 hy).2⟩) this
  · exact wk_turn ha
theorem good_back {n : Nat} {ls : List Gr.Ln} (hg : ∀ p ∈ ls, Gr.Good (n : Int) p) : ∀ p ∈ Gr.back ls, Gr.Good (n : Int) p := by
  rintro ⟨a, b⟩ hp
  have := hg _ (Gr.mem_back.1 hp)
  unfold Gr.Good at *
  simp only at *
  omega
theorem Ring.back {n : Nat} {ls : List Gr.Ln} (h : Ring n ls) : Ring n (Gr.back ls) := by
  obtain ⟨i, k, hi, hk, hw⟩ := h
  exact ⟨i, k, hi, hk, wk_turn hi hw⟩
theorem Ring.of_back {n : Nat} {ls : List Gr.Ln} (h : Ring n (Gr.back ls)) : Ring n ls := by
  obtain ⟨i, k, hi, hk, hw⟩ := h
  exact ⟨i, k, hi, hk, (wk_back hi hi).1 hw⟩
/-- an order, or a ring -/
theorem order_or_ring {n : Nat} {ls : List Gr.Ln} (hg : ∀ p ∈ ls, Gr.Good (n : Int) p) : (∃ o, Step n ls o ∧ o.length = n) ∨ Ring n ls := by
  obtain ⟨o, h, hl | ⟨hl, hs⟩⟩ := Step.ex n ls
  · exact .inl ⟨o, h, hl⟩
  · exact .inr (h.ring hg hl hs)
theorem order_turn {n : Nat} {ls : List Gr.Ln} (hg : ∀ p ∈ ls, Gr.Good (n : Int) p) {o : List Int} (h : Step n ls o) (hl : o.length = n) : ∃ o', Step n (Gr.back ls) o' ∧ o'.length = n := by
  rcases order_or_ring (good_back hg) with h2 | h2
  · exact h2
  · exact absurd h2.of_back (h.no_ring hl)
/-- the most lines on a way -/
def Top (n : Nat) (ls : List Gr.Ln) (d : Nat) : Prop := (∃ a b, a < n ∧ b < n ∧ wk n (frow n ls) d a b = true) ∧ ∀ k a b, a < n → b < n → wk n (frow n ls) k a b = true → k ≤ d
theorem Top.unique {n : Nat} {ls : List Gr.Ln} {d d' : Nat} (h : Top n ls d) (h' : Top n ls d') : d = d' := by
  obtain ⟨⟨a, b, ha, hb, h1⟩, h2⟩ := h
  obtain ⟨⟨x, y, hx, hy, h3⟩, h4⟩ := h'
  exact Nat.le_antisymm (h4 d a b ha hb h1) (h2 d' x y hx hy h3)
theorem Top.back {n : Nat} {ls : List Gr.Ln} {d : Nat} (h : Top n ls d) : Top n (Gr.back ls) d := by
  obtain ⟨⟨a, b, ha, hb, h1⟩, h2⟩ := h
  exact ⟨⟨b, a, hb, ha, wk_turn ha h1⟩, fun k x y hx hy hw => h2 k y x hy hx ((wk_back hy hx).1 hw)⟩
theorem Top.of {n : Nat} {ls : List Gr.Ln} {D : Nat → Nat} (hD : ∀ i, i < n → Dp n ls i (D i)) {d : Nat} (h1 : ∃ i, i < n ∧ D i = d) (h2 : ∀ i, i < n → D i ≤ d) : Top n ls d := by
  obtain ⟨i, hi, rfl⟩ := h1
  obtain ⟨⟨a, ha, hw⟩, _⟩ := hD i hi
  refine ⟨⟨a, i, ha, hi, hw⟩, fun k x y hx hy hw => ?_⟩
  have := (hD y hy).2 k x hx hw
  have := h2 y hy
  omega
end Go.Proofs.YtoofpmajiphldaaDoor.To

set_option linter.unusedSimpArgs false
set_option linter.unusedVariables false
namespace Go.Proofs.YtoofpmajiphldaaDoor.Ri

/-- those that are not used -/
def rest (zs : List Int) (u : List Bool) : List Int := ((List.range zs.length).filter fun i => !u.getD i false).map fun i => zs.getD i 0
theorem filter_but {p : Nat → Bool} {i : Nat} (hp : p i = true) : ∀ {l : List Nat}, l.Nodup → i ∈ l → (l.filter p).Perm (i :: l.filter fun x => p x && !decide (x = i))
  | [], _, h => absurd h (by simp)
  | x :: l, hn, h => by
    obtain ⟨hx, hn⟩ := List.nodup_cons.1 hn
    by_cases e : x = i
    · subst e
      have e1 : (l.filter fun y => p y && !decide (y = x)) = l.filter p := List.filter_congr fun y hy => by
        have : ¬ y = x := fun e => hx (e ▸ hy)
        simp [this]
      rw [List.filter_cons_of_pos hp, List.filter_cons_of_neg (by simp), e1]
    · have hm : i ∈ l := by
        rcases List.mem_cons.1 h with h | h
        · exact absurd h.symm e
        · exact h
      have ih := filter_but hp hn hm
      cases hpx : p x with
      | true =>
        rw [List.filter_cons_of_pos hpx, List.filter_cons_of_pos (by simp [hpx, e])]
        exact (ih.cons x).trans (List.Perm.swap _ _ _)
      | false =>
        rw [List.filter_cons_of_neg (by simp [hpx]), List.filter_cons_of_neg (by simp [hpx])]
        exact ih
theorem set_at (u : List Bool) (i j : Nat) (hi : i < u.length) : (u.set i true).getD j false = (u.getD j false || decide (j = i)) := by
  simp only [List.getD, List.getElem?_set]
  by_cases e : i = j
  · subst e; simp [hi]
  · have : ¬ j = i := fun h => e h.symm
    simp [e, this]
/-- what holds behind some choices -/
structure Inv (zs : List Int) (u : List Bool) (o : List Int) : Prop where
  len : u.length = zs.length
  srt : o.Pairwise (· ≤ ·)
  low : ∀ i, i < zs.length → u.getD i false = false → ∀ x ∈ o, x ≤ zs.getD i 0
  perm : (o ++ rest zs u).Perm zs
theorem all_at (zs : List Int) : ((List.range zs.length).map fun i => zs.getD i 0) = zs := by
  refine List.ext_getElem (by simp) fun i h1 h2 => ?_
  simp [List.getD, h2]
theorem Inv.start (zs : List Int) : Inv zs (List.replicate zs.length false) [] := by
  refine ⟨by simp, List.Pairwise.nil, fun i _ _ x hx => absurd hx (by simp), ?_⟩
  have e : (List.range zs.length).filter (fun i => !(List.replicate zs.length false).getD i false) = List.range zs.length := List.filter_eq_self.2 fun i hi => by
    have := List.mem_range.1 hi
    simp [List.getD, this]
  unfold rest
  rw [e, all_at]
  exact List.Perm.refl _
theorem Inv.take {zs : List Int} {u : List Bool} {o : List Int} (h : Inv zs u o) {i : Nat} (hi : i < zs.length) (hu : u.getD i false = false) (hm : ∀ j, j < zs.length → u.getD j false = false → zs.getD i 0 ≤ zs.getD j 0) : Inv zs (u.set i true) (o ++ [zs.getD i 0]) := by
  have hil : i < u.length := by rw [h.len]; exact hi
  refine ⟨by rw [List.length_set]; exact h.len, ?_, fun j hj hju x hx => ?_, ?_⟩
  · rw [List.pairwise_append]
    refine ⟨h.srt, by simp, fun a ha b hb => ?_⟩
    obtain rfl : b = zs.getD i 0 := by simpa using hb
    exact h.low i hi hu a ha
  · rw [set_at _ _ _ hil] at hju
    have hju' : u.getD j false = false := by
      cases e : u.getD j false
      · rfl
      · rw [e] at hju; simp at hju
    rcases List.mem_append.1 hx with hx | hx
    · exact h.low j hj hju' x hx
    · obtain rfl : x = zs.getD i 0 := by simpa using hx
      exact hm j hj hju'
  · have e : (List.range zs.length).filter (fun j => !(u.set i true).getD j false) = (List.range zs.length).filter fun j => (!u.getD j false) && !decide (j = i) := List.filter_congr fun j _ => by
      rw [set_at _ _ _ hil, Bool.not_or]
    have hp := (filter_but (p := fun j => !u.getD j false) (i := i) (by simpa using hu) (l := List.range zs.length) List.nodup_range (List.mem_range.2 hi)).map fun j => zs.getD j 0
    have h2 := h.perm
    unfold rest at h2 ⊢
    rw [e, List.append_assoc]
    refine List.Perm.trans ?_ h2
    exact (hp.symm.append_left o)
theorem Inv.count {zs : List Int} {u : List Bool} {o : List Int} (h : Inv zs u o) : o.length + (rest zs u).length = zs.length := by
  have := h.perm.length_eq
  rwa [List.length_append] at this
/-- one is left -/
theorem Inv.more {zs : List Int} {u : List Bool} {o : List Int} (h : Inv zs u o) (hl : o.length < zs.length) : ∃ i, i < zs.length ∧ u.getD i false = false := by
  have hc := h.count
  have : 0 < (rest zs u).length := by omega
  unfold rest at this
  rw [List.length_map] at this
  obtain ⟨i, hi⟩ := List.exists_mem_of_length_pos this
  obtain ⟨h1, h2⟩ := List.mem_filter.1 hi
  exact ⟨i, List.mem_range.1 h1, by simpa using h2⟩
theorem Inv.done {zs : List Int} {u : List Bool} {o : List Int} (h : Inv zs u o) (hl : o.length = zs.length) : o.Pairwise (· ≤ ·) ∧ o.Perm zs := by
  have hc := h.count
  have e : rest zs u = [] := List.eq_nil_of_length_eq_zero (by omega)
  have := h.perm
  rw [e, List.append_nil] at this
  exact ⟨h.srt, this⟩

/-- the least so far of those that are not used -/
def Best (zs : List Int) (u : List Bool) (i : Nat) (b : Int) : Prop :=
  (b = -1 ∧ ∀ j, j < i → u.getD j false = true) ∨ ∃ p : Nat, b = (p : Int) ∧ p < i ∧ u.getD p false = false ∧ ∀ j, j < i → u.getD j false = false → zs.getD p 0 ≤ zs.getD j 0
theorem Best.start (zs : List Int) (u : List Bool) : Best zs u 0 (-1) := .inl ⟨rfl, fun j hj => absurd hj (Nat.not_lt_zero _)⟩
theorem Best.skip {zs : List Int} {u : List Bool} {i : Nat} {b : Int} (h : Best zs u i b) (hi : u.getD i false = true) : Best zs u (i + 1) b := by
  rcases h with ⟨e, h⟩ | ⟨p, e, hp, h1, h2⟩
  · refine .inl ⟨e, fun j hj => ?_⟩
    by_cases ej : j = i
    · rw [ej]; exact hi
    · exact h j (by omega)
  · refine .inr ⟨p, e, by omega, h1, fun j hj hu => ?_⟩
    by_cases ej : j = i
    · rw [ej, hi] at hu; cases hu
    · exact h2 j (by omega) hu
theorem Best.first {zs : List Int} {u : List Bool} {i : Nat} (h : Best zs u i (-1)) (hi : u.getD i false = false) : Best zs u (i + 1) (i : Int) := by
  rcases h with ⟨_, h⟩ | ⟨p, e, _⟩
  · refine .inr ⟨i, rfl, by omega, hi, fun j hj hu => ?_⟩
    by_cases ej : j = i
    · rw [ej]; exact Int.le_refl _
    · rw [h j (by omega)] at hu; cases hu
  · omega
theorem Best.less {zs : List Int} {u : List Bool} {i p : Nat} (h : Best zs u i (p : Int)) (hi : u.getD i false = false) (hl : zs.getD i 0 < zs.getD p 0) : Best zs u (i + 1) (i : Int) := by
  rcases h with ⟨e, _⟩ | ⟨q, e, hq, h1, h2⟩
  · omega
  · obtain rfl : p = q := by omega
    refine .inr ⟨i, rfl, by omega, hi, fun j hj hu => ?_⟩
    by_cases ej : j = i
    · rw [ej]; exact Int.le_refl _
    · have := h2 j (by omega) hu; omega
theorem Best.keep {zs : List Int} {u : List Bool} {i p : Nat} (h : Best zs u i (p : Int)) (hl : ¬ zs.getD i 0 < zs.getD p 0) : Best zs u (i + 1) (p : Int) := by
  rcases h with ⟨e, _⟩ | ⟨q, e, hq, h1, h2⟩
  · omega
  · obtain rfl : p = q := by omega
    refine .inr ⟨p, rfl, by omega, h1, fun j hj hu => ?_⟩
    by_cases ej : j = i
    · rw [ej]; omega
    · exact h2 j (by omega) hu
theorem Best.end_ {zs : List Int} {u : List Bool} {o : List Int} {b : Int} (h : Best zs u zs.length b) (hI : Inv zs u o) (hl : o.length < zs.length) : ∃ p : Nat, b = (p : Int) ∧ p < zs.length ∧ u.getD p false = false ∧ ∀ j, j < zs.length → u.getD j false = false → zs.getD p 0 ≤ zs.getD j 0 := by
  rcases h with ⟨_, h⟩ | h
  · obtain ⟨i, hi, hu⟩ := hI.more hl
    rw [h i hi] at hu
    cases hu
  · exact h

/-- the last one is the greatest -/
theorem last_most {zs r : List Int} (hs : r.Pairwise (· ≤ ·)) (hp : r.Perm zs) (h0 : 0 < zs.length) : (∃ i, i < zs.length ∧ zs.getD i 0 = r.getD (zs.length - 1) 0) ∧ ∀ i, i < zs.length → zs.getD i 0 ≤ r.getD (zs.length - 1) 0 := by
  have hl := hp.length_eq
  have hk : zs.length - 1 < r.length := by omega
  have e1 : r.getD (zs.length - 1) 0 = r[zs.length - 1] := by simp [List.getD, hk]
  constructor
  · have hm : r[zs.length - 1] ∈ zs := hp.mem_iff.1 (List.getElem_mem hk)
    obtain ⟨i, hi, e⟩ := List.mem_iff_getElem.1 hm
    exact ⟨i, hi, by rw [e1, ← e]; simp [List.getD, hi]⟩
  · intro i hi
    have hm : zs[i] ∈ r := hp.mem_iff.2 (List.getElem_mem hi)
    obtain ⟨j, hj, e⟩ := List.mem_iff_getElem.1 hm
    have e2 : zs.getD i 0 = r[j] := by rw [e]; simp [List.getD, hi]
    rw [e1, e2]
    by_cases ej : j = zs.length - 1
    · subst ej; exact Int.le_refl _
    · exact List.pairwise_iff_getElem.1 hs j (zs.length - 1) hj hk (by omega)
end Go.Proofs.YtoofpmajiphldaaDoor.Ri

set_option linter.unusedSimpArgs false
set_option linter.unusedVariables false
namespace Go.Proofs.YtoofpmajiphldaaDoor.To
open Wa (wk wk_zero wk_succ wk_add wk_one)

theorem Step.full {n : Nat} {ls : List Gr.Ln} {o : List Int} (h : Step n ls o) (hl : o.length = n) : Stuck n ls o := fun i hi => by
  cases hf : freeAt ls o (i : Int) with
  | false => rfl
  | true => exact absurd ((h.row hl).mem hi) (freeAt_iff.1 hf).1
theorem Step.all (n : Nat) (ls : List Gr.Ln) : ∃ o, Step n ls o ∧ Stuck n ls o := by
  obtain ⟨o, h, hl | ⟨_, hs⟩⟩ := Step.ex n ls
  · exact ⟨o, h, h.full hl⟩
  · exact ⟨o, h, hs⟩

/-! ### marks of those that are out -/
def mk (n : Nat) (o : List Int) : List Bool := (List.range n).map fun i : Nat => o.contains (i : Int)
theorem mk_nil (n : Nat) : mk n [] = List.replicate n false := by
  unfold mk
  refine List.ext_getElem (by simp) fun i h1 h2 => ?_
  simp
theorem mk_len (n : Nat) (o : List Int) : (mk n o).length = n := by simp [mk]
theorem mk_at {n : Nat} {o : List Int} {i : Nat} (hi : i < n) : (mk n o).getD i false = o.contains (i : Int) := by simp [mk, List.getD, hi]
theorem mk_set {n : Nat} {o : List Int} {i : Nat} (hi : i < n) : (mk n o).set i true = mk n (o ++ [(i : Int)]) := by
  refine List.ext_getElem (by simp [mk]) fun j h1 h2 => ?_
  have hj : j < n := by simpa [mk] using h2
  rw [List.getElem_set]
  by_cases e : i = j
  · subst e; simp [mk]
  · have e2 : ¬ (j : Int) = (i : Int) := by omega
    simp [mk, e, e2]

/-- does a line come in from one that is not out? -/
def heldB (ls : List Gr.Ln) (o : List Int) (i : Int) : Bool := ls.any fun p => decide (p.2 = i) && !o.contains p.1
theorem free_held {ls : List Gr.Ln} {o : List Int} {i : Int} : freeAt ls o i = (!o.contains i && !heldB ls o i) := by
  unfold freeAt heldB
  congr 1
  rw [List.not_any_eq_all_not]
  refine List.all_congr rfl fun p => ?_
  by_cases h : p.2 = i <;> simp [h]

/-! ### where lines go -/
def tg (ls : List Gr.Ln) (a : Int) : List Int := (ls.filter fun p => decide (p.1 = a)).map Prod.snd
theorem mem_tg {ls : List Gr.Ln} {a b : Int} : b ∈ tg ls a ↔ Gr.has ls a b = true := by
  unfold tg Gr.has
  simp only [List.mem_map, List.mem_filter, decide_eq_true_eq, List.contains_iff_mem]
  constructor
  · rintro ⟨⟨x, y⟩, ⟨h1, h2⟩, h3⟩
    simp only at h2 h3
    subst h2 h3
    exact h1
  · intro h
    exact ⟨(a, b), ⟨h, rfl⟩, rfl⟩

/-! ### how deep, line by line -/
/-- the numbers behind the lines that are counted (Q); E is how deep each point is -/
structure Cnt (n : Nat) (E : Nat → Nat) (Q : Nat → Nat → Prop) (zs : List Int) : Prop where
  len : zs.length = n
  ge : ∀ i, i < n → ∀ c, Q c i → (E c : Int) + 1 ≤ zs.getD i 0
  eq : ∀ i, i < n → zs.getD i 0 = 0 ∨ ∃ c, Q c i ∧ zs.getD i 0 = (E c : Int) + 1
section
variable {n : Nat} {E : Nat → Nat} {Q Q' : Nat → Nat → Prop} {zs : List Int}
theorem Cnt.start (n : Nat) (E : Nat → Nat) (hQ : ∀ c i, i < n → ¬ Q c i) : Cnt n E Q (List.replicate n 0) :=
  ⟨by simp, fun i hi c h => absurd h (hQ c i hi), fun i hi => .inl (by simp [List.getD, hi])⟩
theorem Cnt.congr (h : Cnt n E Q zs) (e : ∀ c i, i < n → (Q c i ↔ Q' c i)) : Cnt n E Q' zs :=
  ⟨h.len, fun i hi c hq => h.ge i hi c ((e c i hi).2 hq), fun i hi => (h.eq i hi).imp id fun ⟨c, hq, hx⟩ => ⟨c, (e c i hi).1 hq, hx⟩⟩
theorem getD_set (zs : List Int) (i j : Nat) (x : Int) (hi : i < zs.length) : (zs.set i x).getD j 0 = if j = i then x else zs.getD j 0 := by
  simp only [List.getD, List.getElem?_set]
  by_cases e : i = j
  · subst e; simp [hi]
  · have : ¬ j = i := fun h => e h.symm
    simp [e, this]
theorem Cnt.nn (h : Cnt n E Q zs) {i : Nat} (hi : i < n) : 0 ≤ zs.getD i 0 := by
  rcases h.eq i hi with h | ⟨c, _, h⟩ <;> omega
theorem Cnt.put (h : Cnt n E Q zs) {v w : Nat} (hw : w < n) : Cnt n E (fun c i => Q c i ∨ (c = v ∧ i = w)) (zs.set w (max (zs.getD w 0) ((E v : Int) + 1))) := by
  have hwl : w < zs.length := by rw [h.len]; exact hw
  refine ⟨by rw [List.length_set]; exact h.len, fun i hi c hq => ?_, fun i hi => ?_⟩
  · rw [getD_set _ _ _ _ hwl]
    by_cases e : i = w
    · rw [if_pos e]
      subst e
      rcases hq with hq | ⟨rfl, _⟩
      · have := h.ge i hi c hq; omega
      · omega
    · rw [if_neg e]
      rcases hq with hq | ⟨_, h2⟩
      · exact h.ge i hi c hq
      · exact absurd h2 e
  · rw [getD_set _ _ _ _ hwl]
    by_cases e : i = w
    · rw [if_pos e]
      subst e
      by_cases hm : zs.getD i 0 ≤ (E v : Int) + 1
      · exact .inr ⟨v, .inr ⟨rfl, rfl⟩, by omega⟩
      · rcases h.eq i hi with h2 | ⟨c, hq, h2⟩
        · omega
        · exact .inr ⟨c, .inl hq, by omega⟩
    · rw [if_neg e]
      exact (h.eq i hi).imp id fun ⟨c, hq, hx⟩ => ⟨c, .inl hq, hx⟩
/-- where all lines that come in are counted -/
theorem Cnt.val {ls : List Gr.Ln} (h : Cnt n E Q zs) {v : Nat} (hv : v < n) (hQ : ∀ c, Q c v ↔ Gr.has ls (c : Int) (v : Int) = true)
    (hE : (∀ c : Nat, Gr.has ls (c : Int) (v : Int) = true → E c + 1 ≤ E v) ∧ (E v = 0 ∨ ∃ c : Nat, c < n ∧ Gr.has ls (c : Int) (v : Int) = true ∧ E v = E c + 1)) : zs.getD v 0 = (E v : Int) := by
  have h1 : zs.getD v 0 ≤ (E v : Int) := by
    rcases h.eq v hv with h2 | ⟨c, hq, h2⟩
    · omega
    · have := hE.1 c ((hQ c).1 hq); omega
  have h2 : (E v : Int) ≤ zs.getD v 0 := by
    rcases hE.2 with h2 | ⟨c, _, hq, h2⟩
    · have := h.nn hv; omega
    · have := h.ge v hv c ((hQ c).2 hq); omega
  omega
end
/-- counted: the lines out of the first k of the order -/
def qk (ls : List Gr.Ln) (o : List Int) (k : Nat) (c i : Nat) : Prop := Gr.has ls (c : Int) (i : Int) = true ∧ St.plc o (c : Int) < (k : Int)
/-- and some of the lines out of v -/
def qm (ls : List Gr.Ln) (o : List Int) (k v : Nat) (pre : List Int) (c i : Nat) : Prop := qk ls o k c i ∨ (c = v ∧ (i : Int) ∈ pre)
/-- how deep points are, as numbers in a list -/
def deps (n : Nat) (ls : List Gr.Ln) : List Int := (List.range n).map fun i : Nat => (dpF ls n (i : Int) : Int)
theorem deps_len (n : Nat) (ls : List Gr.Ln) : (deps n ls).length = n := by simp [deps]
theorem deps_at {n : Nat} (ls : List Gr.Ln) {i : Nat} (hi : i < n) : (deps n ls).getD i 0 = (dpF ls n (i : Int) : Int) := by simp [deps, List.getD, hi]
section
variable {n : Nat} {ls : List Gr.Ln} {o : List Int}
theorem dep_lines (hg : ∀ p ∈ ls, Gr.Good (n : Int) p) (h : Step n ls o) (hl : o.length = n) {i : Nat} (hi : i < n) :
    (∀ c : Nat, Gr.has ls (c : Int) (i : Int) = true → dpF ls n (c : Int) + 1 ≤ dpF ls n (i : Int)) ∧ (dpF ls n (i : Int) = 0 ∨ ∃ c : Nat, c < n ∧ Gr.has ls (c : Int) (i : Int) = true ∧ dpF ls n (i : Int) = dpF ls n (c : Int) + 1) :=
  Dp.of_lines hg (D := fun i => dpF ls n (i : Int)) (fun i hi => dp_all hg h hl hi) hi
theorem plc_nn (h : Step n ls o) (hl : o.length = n) {i : Nat} (hi : i < n) : 0 ≤ St.plc o (i : Int) ∧ St.plc o (i : Int) < (n : Int) := by
  obtain ⟨p, hp, e, _⟩ := h.place hl hi
  omega
/-- at the head of the round of v, and within it, v itself is known -/
theorem qm_val (hg : ∀ p ∈ ls, Gr.Good (n : Int) p) (h : Step n ls o) (hl : o.length = n) {k v : Nat} (hk : k < n) (hv : o.getD k 0 = (v : Int)) {pre : List Int} (hpre : ∀ x ∈ pre, Gr.has ls (v : Int) x = true) (c : Nat) :
    qm ls o k v pre c v ↔ Gr.has ls (c : Int) (v : Int) = true := by
  have hvn : v < n := by
    obtain ⟨i, hi, e, _⟩ := h k (by omega)
    omega
  have hpv : St.plc o (v : Int) = (k : Int) := by rw [← hv]; exact St.plc_at h.nodup (by omega)
  constructor
  · rintro (⟨h1, _⟩ | ⟨rfl, h2⟩)
    · exact h1
    · exact hpre _ h2
  · intro hh
    have := h.line hl hvn hh
    exact .inl ⟨hh, by omega⟩
theorem Cnt.first (h : Step n ls o) (hl : o.length = n) (hg : ∀ p ∈ ls, Gr.Good (n : Int) p) (E : Nat → Nat) : Cnt n E (qk ls o 0) (List.replicate n 0) := by
  refine Cnt.start n E fun c i hi hq => ?_
  obtain ⟨x, y, e1, e2, hx, hy, _⟩ := ends hg hq.1
  have := plc_nn h hl (i := c) (by omega)
  have := hq.2
  omega
theorem Cnt.begin {E : Nat → Nat} {k v : Nat} {zs : List Int} (h : Cnt n E (qk ls o k) zs) : Cnt n E (qm ls o k v []) zs :=
  h.congr fun c i _ => ⟨.inl, fun hq => hq.elim id fun h2 => absurd h2.2 (by simp)⟩
theorem Cnt.snoc {E : Nat → Nat} {k v w : Nat} {pre : List Int} {zs : List Int} (h : Cnt n E (qm ls o k v pre) zs) (hw : w < n) : Cnt n E (qm ls o k v (pre ++ [(w : Int)])) (zs.set w (max (zs.getD w 0) ((E v : Int) + 1))) := by
  refine (h.put (v := v) hw).congr fun c i _ => ?_
  unfold qm
  constructor
  · rintro ((h1 | ⟨h1, h2⟩) | ⟨h1, rfl⟩)
    · exact .inl h1
    · exact .inr ⟨h1, by simp [h2]⟩
    · exact .inr ⟨h1, by simp⟩
  · rintro (h1 | ⟨h1, h2⟩)
    · exact .inl (.inl h1)
    · rcases List.mem_append.1 h2 with h2 | h2
      · exact .inl (.inr ⟨h1, h2⟩)
      · have : (i : Int) = (w : Int) := by simpa using h2
        exact .inr ⟨h1, by omega⟩
theorem Cnt.next (hg : ∀ p ∈ ls, Gr.Good (n : Int) p) (hs : Step n ls o) (hl : o.length = n) {E : Nat → Nat} {k v : Nat} {zs : List Int} (hk : k < n) (hv : o.getD k 0 = (v : Int)) (h : Cnt n E (qm ls o k v (tg ls (v : Int))) zs) : Cnt n E (qk ls o (k + 1)) zs := by
  have hpv : St.plc o (v : Int) = (k : Int) := by rw [← hv]; exact St.plc_at hs.nodup (by omega)
  refine h.congr fun c i _ => ?_
  unfold qm qk
  constructor
  · rintro (⟨h1, h2⟩ | ⟨rfl, h2⟩)
    · exact ⟨h1, by omega⟩
    · exact ⟨mem_tg.1 h2, by omega⟩
  · rintro ⟨h1, h2⟩
    by_cases e : St.plc o (c : Int) = (k : Int)
    · obtain ⟨x, y, e1, e2, hx, hy, _⟩ := ends hg h1
      obtain ⟨p, hp, e3, e4⟩ := hs.place hl (i := c) (by omega)
      have : p = k := by omega
      subst this
      have : c = v := by omega
      subst this
      exact .inr ⟨rfl, mem_tg.2 h1⟩
    · exact .inl ⟨h1, by omega⟩
theorem Cnt.done (hg : ∀ p ∈ ls, Gr.Good (n : Int) p) (hs : Step n ls o) (hl : o.length = n) {zs : List Int} (h : Cnt n (fun i => dpF ls n (i : Int)) (qk ls o n) zs) : zs = deps n ls := by
  refine Wa.eq_of_getD (by rw [h.len, deps_len]) fun i hi => ?_
  rw [h.len] at hi
  rw [deps_at ls hi]
  refine h.val (ls := ls) hi (fun c => ?_) (dep_lines hg hs hl hi)
  constructor
  · exact fun h => h.1
  · intro hh
    obtain ⟨x, y, e1, e2, hx, hy, _⟩ := ends hg hh
    exact ⟨hh, (plc_nn hs hl (i := c) (by omega)).2⟩
/-- depths are small -/
theorem dep_small (hg : ∀ p ∈ ls, Gr.Good (n : Int) p) (hs : Step n ls o) (hl : o.length = n) {i : Nat} (hi : i < n) : dpF ls n (i : Int) < n := by
  obtain ⟨⟨a, ha, hw⟩, _⟩ := dp_all hg hs hl hi
  exact hs.short hl ha hw
end

/-! ### rings, as the reference asks for them -/
/-- does a way of one line or more go from a to b? -/
def comesTo (n : Nat) (ls : List Gr.Ln) (a b : Nat) (k : Nat) : Bool := (List.range k).any fun c : Nat => Gr.has ls (a : Int) (c : Int) && decide (0 ≤ Wa.dist n (frow n ls) c b)
def comes (n : Nat) (ls : List Gr.Ln) (a b : Nat) : Bool := comesTo n ls a b n
theorem comesTo_succ (n : Nat) (ls : List Gr.Ln) (a b k : Nat) : comesTo n ls a b (k + 1) = (comesTo n ls a b k || (Gr.has ls (a : Int) (k : Int) && decide (0 ≤ Wa.dist n (frow n ls) k b))) := by simp [comesTo, List.range_succ]
theorem comesTo_mono {n : Nat} {ls : List Gr.Ln} {a b k : Nat} (hk : k < n) (h1 : Gr.has ls (a : Int) (k : Int) = true) (h2 : 0 ≤ Wa.dist n (frow n ls) k b) : comes n ls a b = true :=
  List.any_eq_true.2 ⟨k, List.mem_range.2 hk, by simp [h1, h2]⟩
theorem comes_iff {n : Nat} {ls : List Gr.Ln} {a b : Nat} (hg : ∀ p ∈ ls, Gr.Good (n : Int) p) (ha : a < n) : comes n ls a b = true ↔ ∃ k, 1 ≤ k ∧ wk n (frow n ls) k a b = true := by
  unfold comes comesTo
  rw [List.any_eq_true]
  constructor
  · rintro ⟨c, hc, h⟩
    have hcn := List.mem_range.1 hc
    simp only [Bool.and_eq_true, decide_eq_true_eq] at h
    obtain ⟨d, hd⟩ := (Wa.dist_nn (frow_ok n ls) hcn).1 h.2
    exact ⟨1 + d, by omega, wk_add (wk_one ha (mem_frow.2 ⟨hcn, h.1⟩)) hd⟩
  · rintro ⟨k, hk, hw⟩
    obtain ⟨d, rfl⟩ : ∃ d, k = 1 + d := ⟨k - 1, by omega⟩
    obtain ⟨c, h1, h2⟩ := Wa.wk_split hw
    have h3 : ∃ x, x < n ∧ wk n (frow n ls) 0 a x = true ∧ c ∈ frow n ls x := wk_succ.1 h1
    obtain ⟨x, hx, h4, h5⟩ := h3
    have := wk_zero.1 h4
    subst this
    have h6 := mem_frow.1 h5
    exact ⟨c, List.mem_range.2 h6.1, by simp only [Bool.and_eq_true, decide_eq_true_eq]; exact ⟨h6.2, (Wa.dist_nn (frow_ok n ls) h6.1).2 ⟨d, h2⟩⟩⟩
/-- does one of the first points come back to itself? -/
def backTo (n : Nat) (ls : List Gr.Ln) (k : Nat) : Bool := (List.range k).any fun i : Nat => comes n ls i i
theorem backTo_succ (n : Nat) (ls : List Gr.Ln) (k : Nat) : backTo n ls (k + 1) = (backTo n ls k || comes n ls k k) := by simp [backTo, List.range_succ]
theorem back_ring {n : Nat} {ls : List Gr.Ln} (hg : ∀ p ∈ ls, Gr.Good (n : Int) p) : backTo n ls n = true ↔ Ring n ls := by
  unfold backTo Ring
  rw [List.any_eq_true]
  constructor
  · rintro ⟨i, hi, h⟩
    have hin := List.mem_range.1 hi
    obtain ⟨k, hk, hw⟩ := (comes_iff hg hin).1 h
    exact ⟨i, k, hin, hk, hw⟩
  · rintro ⟨i, k, hi, hk, hw⟩
    exact ⟨i, List.mem_range.2 hi, (comes_iff hg hi).2 ⟨k, hk, hw⟩⟩
theorem no_back {n : Nat} {ls : List Gr.Ln} {o : List Int} (hg : ∀ p ∈ ls, Gr.Good (n : Int) p) (h : Step n ls o) (hl : o.length = n) : backTo n ls n = false := by
  cases hb : backTo n ls n with
  | false => rfl
  | true => exact absurd ((back_ring hg).1 hb) (h.no_ring hl)
theorem has_back_ring {n : Nat} {ls : List Gr.Ln} {o : List Int} (hg : ∀ p ∈ ls, Gr.Good (n : Int) p) (h : Step n ls o) (hl : o.length < n) (hs : Stuck n ls o) : backTo n ls n = true :=
  (back_ring hg).2 (h.ring hg hl hs)

/-! ### the search for the least, from the greatest down -/
/-- best so far: those from i on have been asked -/
def Low (n : Nat) (ls : List Gr.Ln) (o : List Int) (i : Nat) (b : Int) : Prop :=
  (b = -1 ∧ ∀ j : Nat, i ≤ j → j < n → freeAt ls o (j : Int) = false) ∨ ∃ p : Nat, b = (p : Int) ∧ i ≤ p ∧ p < n ∧ freeAt ls o (p : Int) = true ∧ ∀ j : Nat, i ≤ j → j < p → freeAt ls o (j : Int) = false
section
variable {n : Nat} {ls : List Gr.Ln} {o : List Int}
theorem Low.start (n : Nat) (ls : List Gr.Ln) (o : List Int) : Low n ls o n (-1) := .inl ⟨rfl, fun j h1 h2 => by omega⟩
theorem Low.yes {i : Nat} {b : Int} (hi : i < n) (hf : freeAt ls o (i : Int) = true) : Low n ls o i (i : Int) := .inr ⟨i, rfl, Nat.le_refl _, hi, hf, fun j h1 h2 => by omega⟩
theorem Low.no {i : Nat} {b : Int} (h : Low n ls o (i + 1) b) (hf : freeAt ls o (i : Int) = false) : Low n ls o i b := by
  have key : ∀ j : Nat, i ≤ j → (i + 1 ≤ j → freeAt ls o (j : Int) = false) → freeAt ls o (j : Int) = false := fun j h1 h2 => by
    by_cases e : j = i
    · rw [e]; exact hf
    · exact h2 (by omega)
  rcases h with ⟨rfl, h⟩ | ⟨p, rfl, h1, h2, h3, h4⟩
  · exact .inl ⟨rfl, fun j h1 h2 => key j h1 fun h3 => h j h3 h2⟩
  · exact .inr ⟨p, rfl, by omega, h2, h3, fun j h5 h6 => key j h5 fun h7 => h4 j h7 h6⟩
theorem Low.end_ {b : Int} (h : Low n ls o 0 b) : (b = -1 ∧ Stuck n ls o) ∨ (0 ≤ b ∧ b < (n : Int) ∧ IsMin n ls o b) := by
  rcases h with ⟨rfl, h⟩ | ⟨p, rfl, _, h2, h3, h4⟩
  · exact .inl ⟨rfl, fun j hj => h j (Nat.zero_le _) hj⟩
  · exact .inr ⟨by omega, by omega, p, h2, rfl, h3, fun j hj => h4 j (Nat.zero_le _) hj⟩
end
/-- free, as far as the first k lines say -/
def freeTo (ls : List Gr.Ln) (o : List Int) (i : Int) (k : Nat) : Bool := !o.contains i && (ls.take k).all fun p => decide (p.2 ≠ i) || o.contains p.1
theorem freeTo_zero (ls : List Gr.Ln) (o : List Int) (i : Int) : freeTo ls o i 0 = !o.contains i := by simp [freeTo]
theorem freeTo_step {ls : List Gr.Ln} {k : Nat} (hk : k < ls.length) (p : Gr.Ln) (hp : p = ls.getD k (0, 0)) (o : List Int) (i : Int) : freeTo ls o i (k + 1) = (freeTo ls o i k && (decide (p.2 ≠ i) || o.contains p.1)) := by
  unfold freeTo
  rw [List.take_succ_eq_append_getElem hk, List.all_append]
  have : ls[k] = p := by rw [hp]; simp [List.getD, hk]
  rw [this, ← Bool.and_assoc]
  simp
theorem freeTo_all (ls : List Gr.Ln) (o : List Int) (i : Int) : freeTo ls o i ls.length = freeAt ls o i := by simp [freeTo, freeAt]

/-! ### the most of the lines that come in -/
def Mst (ls : List Gr.Ln) (E : Nat → Nat) (i : Nat) (k : Nat) (m : Int) : Prop :=
  -1 ≤ m ∧ (∀ c : Nat, (((c : Int), (i : Int)) : Gr.Ln) ∈ ls.take k → (E c : Int) ≤ m) ∧ (m = -1 ∨ ∃ c : Nat, (((c : Int), (i : Int)) : Gr.Ln) ∈ ls.take k ∧ m = (E c : Int))
section
variable {ls : List Gr.Ln} {E : Nat → Nat} {i : Nat}
theorem Mst.start (ls : List Gr.Ln) (E : Nat → Nat) (i : Nat) : Mst ls E i 0 (-1) := ⟨by omega, fun c hc => absurd hc (by simp), .inl rfl⟩
theorem mem_next {k : Nat} (hk : k < ls.length) (p : Gr.Ln) (hp : p = ls.getD k (0, 0)) {q : Gr.Ln} : q ∈ ls.take (k + 1) ↔ q ∈ ls.take k ∨ q = p := by
  rw [List.take_succ_eq_append_getElem hk, List.mem_append, List.mem_singleton]
  have : ls[k] = p := by rw [hp]; simp [List.getD, hk]
  rw [this]
theorem Mst.skip {k : Nat} {m : Int} (h : Mst ls E i k m) (hk : k < ls.length) {p q : Int} (hp : (p, q) = ls.getD k (0, 0)) (hn : q ≠ (i : Int)) : Mst ls E i (k + 1) m := by
  refine ⟨h.1, fun c hc => ?_, h.2.2.imp id fun ⟨c, hc, e⟩ => ⟨c, (mem_next hk _ hp).2 (.inl hc), e⟩⟩
  rcases (mem_next hk _ hp).1 hc with hc | hc
  · exact h.2.1 c hc
  · exact absurd (Prod.mk.inj hc).2.symm hn
theorem Mst.less {k : Nat} {m : Int} (h : Mst ls E i k m) (hk : k < ls.length) {c : Nat} (hp : (((c : Int), (i : Int)) : Gr.Ln) = ls.getD k (0, 0)) (hl : ¬ m < (E c : Int)) : Mst ls E i (k + 1) m := by
  refine ⟨h.1, fun d hd => ?_, h.2.2.imp id fun ⟨d, hd, e⟩ => ⟨d, (mem_next hk _ hp).2 (.inl hd), e⟩⟩
  rcases (mem_next hk _ hp).1 hd with hd | hd
  · exact h.2.1 d hd
  · have : d = c := by have := (Prod.mk.inj hd).1; omega
    subst this
    omega
theorem Mst.more {k : Nat} {m : Int} (h : Mst ls E i k m) (hk : k < ls.length) {c : Nat} (hp : (((c : Int), (i : Int)) : Gr.Ln) = ls.getD k (0, 0)) (hl : m < (E c : Int)) : Mst ls E i (k + 1) (E c : Int) := by
  refine ⟨by omega, fun d hd => ?_, .inr ⟨c, (mem_next hk _ hp).2 (.inr rfl), rfl⟩⟩
  rcases (mem_next hk _ hp).1 hd with hd | hd
  · have := h.2.1 d hd; omega
  · have : d = c := by have := (Prod.mk.inj hd).1; omega
    subst this
    omega
theorem Mst.end_ {n : Nat} {m : Int} (h : Mst ls E i ls.length m) (hE : (∀ c : Nat, Gr.has ls (c : Int) (i : Int) = true → E c + 1 ≤ E i) ∧ (E i = 0 ∨ ∃ c : Nat, c < n ∧ Gr.has ls (c : Int) (i : Int) = true ∧ E i = E c + 1)) : (E i : Int) = m + 1 := by
  obtain ⟨h1, h2, h3⟩ := h
  rw [List.take_length] at h2 h3
  have a1 : m + 1 ≤ (E i : Int) := by
    rcases h3 with rfl | ⟨c, hc, rfl⟩
    · omega
    · have := hE.1 c (Gr.has_iff.2 hc); omega
  have a2 : (E i : Int) ≤ m + 1 := by
    rcases hE.2 with h4 | ⟨c, _, hc, h4⟩
    · omega
    · have := h2 c (Gr.has_iff.1 hc); omega
  omega
end

/-! ### the longest way -/
theorem top_deps {n : Nat} {ls : List Gr.Ln} {o : List Int} (hg : ∀ p ∈ ls, Gr.Good (n : Int) p) (hs : Step n ls o) (hl : o.length = n) {r : List Int} (h1 : r.Pairwise (· ≤ ·)) (h2 : r.Perm (deps n ls)) (h0 : 0 < n) : ∃ d : Nat, r.getD (n - 1) 0 = (d : Int) ∧ d < n ∧ Top n ls d := by
  obtain ⟨⟨i, hi, e⟩, hall⟩ := Ri.last_most h1 h2 (by rw [deps_len]; exact h0)
  rw [deps_len] at hi e hall
  rw [deps_at ls hi] at e
  refine ⟨dpF ls n (i : Int), e.symm, dep_small hg hs hl hi, Top.of (D := fun i => dpF ls n (i : Int)) (fun i hi => dp_all hg hs hl hi) ⟨i, hi, rfl⟩ fun j hj => ?_⟩
  have := hall j hj
  rw [deps_at ls hj] at this
  rw [← e] at this
  omega
end Go.Proofs.YtoofpmajiphldaaDoor.To
