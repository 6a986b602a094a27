/-
  Plain facts on orders in which all lines go on, with no program in them: who may come next, that there is such an order just if no point comes back to itself, how deep each point is, and that turned lines are as deep. No statement of the program is proved here; there is no condition.
-/
import Derived.Test.YtinglgnddmadaaaWalkN
import Derived.Test.YtinglgnddmadaaaStableM
import Derived.Test.YtinglgnddmadaaaGraphL
set_option linter.unusedSimpArgs false
set_option linter.unusedVariables false
namespace Go.Proofs.Ytinglgnddmadaaa.To
open Wa (wk wk_zero wk_succ wk_add wk_one)

/-- where lines go from a point -/
def frow (m : Nat) (ls : List Gr.Ln) (a : Nat) : List Nat := (List.range m).filter fun b : Nat => Gr.has ls (a : Int) (b : Int)
theorem mem_frow {m : Nat} {ls : List Gr.Ln} {a b : Nat} : b ∈ frow m ls a ↔ b < m ∧ Gr.has ls (a : Int) (b : Int) = true := by simp [frow, List.mem_filter]
theorem frow_ok (m : Nat) (ls : List Gr.Ln) : Wa.Ok m (frow m ls) := fun a _ b hb => (mem_frow.1 hb).1
/-- the ends of a line that is good -/
theorem ends {n : Nat} {ls : List Gr.Ln} (hg : ∀ p ∈ ls, Gr.Good (n : Int) p) {a b : Int} (h : Gr.has ls a b = true) : ∃ i j : Nat, a = (i : Int) ∧ b = (j : Int) ∧ i < n ∧ j < n ∧ i ≠ j := by
  have := hg _ (Gr.has_iff.1 h)
  unfold Gr.Good at this
  simp only at this
  exact ⟨a.toNat, b.toNat, by omega, by omega, by omega, by omega, by omega⟩

/-! ### who may come next -/
/-- it is not out, and all that its lines come from are -/
def freeAt (ls : List Gr.Ln) (o : List Int) (i : Int) : Bool := !o.contains i && ls.all fun p => decide (p.2 ≠ i) || o.contains p.1
theorem freeAt_iff {ls : List Gr.Ln} {o : List Int} {i : Int} : freeAt ls o i = true ↔ i ∉ o ∧ ∀ a, Gr.has ls a i = true → a ∈ o := by
  unfold freeAt
  simp only [Bool.and_eq_true, Bool.not_eq_true', List.all_eq_true, Bool.or_eq_true, decide_eq_true_eq, List.contains_iff_mem]
  constructor
  · rintro ⟨h1, h2⟩
    refine ⟨fun h => (by rw [← List.contains_iff_mem] at h; rw [h] at h1; cases h1), fun a ha => ?_⟩
    rcases h2 _ (Gr.has_iff.1 ha) with h | h
    · exact absurd rfl h
    · exact h
  · rintro ⟨h1, h2⟩
    have h3 : o.contains i = false := by
      cases h : o.contains i with
      | false => rfl
      | true => exact absurd (List.contains_iff_mem.1 h) h1
    refine ⟨h3, fun p hp => ?_⟩
    by_cases e : p.2 = i
    · exact .inr (h2 p.1 (Gr.has_iff.2 (by rw [← e]; exact hp)))
    · exact .inl e
/-- the least of them -/
def IsMin (n : Nat) (ls : List Gr.Ln) (o : List Int) (x : Int) : Prop := ∃ i : Nat, i < n ∧ x = (i : Int) ∧ freeAt ls o (i : Int) = true ∧ ∀ j : Nat, j < i → freeAt ls o (j : Int) = false
theorem IsMin.unique {n : Nat} {ls : List Gr.Ln} {o : List Int} {x y : Int} (h : IsMin n ls o x) (h' : IsMin n ls o y) : x = y := by
  obtain ⟨i, _, rfl, h1, h2⟩ := h
  obtain ⟨j, _, rfl, h3, h4⟩ := h'
  rcases Nat.lt_trichotomy i j with hlt | rfl | hlt
  · rw [h4 i hlt] at h1; cases h1
  · rfl
  · rw [h2 j hlt] at h3; cases h3
/-- each one is the least that may come next -/
def Step (n : Nat) (ls : List Gr.Ln) (o : List Int) : Prop := ∀ k, k < o.length → IsMin n ls (o.take k) (o.getD k 0)
/-- none may come next -/
def Stuck (n : Nat) (ls : List Gr.Ln) (o : List Int) : Prop := ∀ i : Nat, i < n → freeAt ls o (i : Int) = false
theorem Step.nil (n : Nat) (ls : List Gr.Ln) : Step n ls [] := fun k hk => absurd hk (Nat.not_lt_zero _)
theorem Step.snoc {n : Nat} {ls : List Gr.Ln} {o : List Int} {x : Int} (h : Step n ls o) (hx : IsMin n ls o x) : Step n ls (o ++ [x]) := by
  intro k hk
  rw [List.length_append, List.length_singleton] at hk
  by_cases e : k = o.length
  · subst e
    have e1 : (o ++ [x]).take o.length = o := by simp
    have e2 : (o ++ [x]).getD o.length 0 = x := by simp [List.getD]
    rw [e1, e2]
    exact hx
  · have hk' : k < o.length := by omega
    have e1 : (o ++ [x]).take k = o.take k := by rw [List.take_append_of_le_length (by omega)]
    have e2 : (o ++ [x]).getD k 0 = o.getD k 0 := by simp [List.getD, List.getElem?_append_left hk']
    rw [e1, e2]
    exact h k hk'
theorem Step.range {n : Nat} {ls : List Gr.Ln} {o : List Int} (h : Step n ls o) : ∀ x ∈ o, ∃ i : Nat, i < n ∧ x = (i : Int) := by
  intro x hx
  obtain ⟨k, hk, rfl⟩ := List.mem_iff_getElem.1 hx
  obtain ⟨i, hi, e, _⟩ := h k hk
  exact ⟨i, hi, by rw [← e]; simp [List.getD, hk]⟩
theorem Step.nodup {n : Nat} {ls : List Gr.Ln} {o : List Int} (h : Step n ls o) : o.Nodup := by
  show List.Pairwise (· ≠ ·) o
  rw [List.pairwise_iff_getElem]
  intro i j hi hj hij e
  obtain ⟨x, _, e1, hf, _⟩ := h j hj
  have e2 : o.getD j 0 = o[j] := by simp [List.getD, hj]
  rw [← e1, e2, ← e] at hf
  exact (freeAt_iff.1 hf).1 (List.mem_take_iff_getElem.2 ⟨i, by omega, rfl⟩)
theorem Step.le {n : Nat} {ls : List Gr.Ln} {o : List Int} (h : Step n ls o) : o.length ≤ n := by
  have hsub : (o.map Int.toNat).length ≤ (List.range n).length := by
    refine List.Nodup.length_le_of_subset ?_ fun x hx => ?_
    · show List.Pairwise (· ≠ ·) _
      rw [List.pairwise_map]
      refine List.Pairwise.imp_of_mem (fun {x y} hx hy hne e => ?_) h.nodup
      obtain ⟨i, _, rfl⟩ := h.range x hx
      obtain ⟨j, _, rfl⟩ := h.range y hy
      simp only [Int.toNat_natCast] at e
      exact hne (by rw [e])
    · obtain ⟨y, hy, rfl⟩ := List.mem_map.1 hx
      obtain ⟨i, hi, rfl⟩ := h.range y hy
      exact List.mem_range.2 (by simpa using hi)
  simpa using hsub
theorem Step.row {n : Nat} {ls : List Gr.Ln} {o : List Int} (h : Step n ls o) (hl : o.length = n) : St.Row n o := ⟨hl, fun x hx => by obtain ⟨i, hi, rfl⟩ := h.range x hx; omega, h.nodup⟩
theorem Step.same {n : Nat} {ls : List Gr.Ln} {o o' : List Int} (h : Step n ls o) (h' : Step n ls o') : ∀ k, k ≤ o.length → k ≤ o'.length → o.take k = o'.take k
  | 0, _, _ => by simp
  | k + 1, h1, h2 => by
    have ih := Step.same h h' k (by omega) (by omega)
    have a := h k (by omega)
    have b := h' k (by omega)
    rw [ih] at a
    have e := a.unique b
    rw [List.take_succ_eq_append_getElem (by omega), List.take_succ_eq_append_getElem (by omega), ih]
    have e1 : o.getD k 0 = o[k] := by simp [List.getD, show k < o.length by omega]
    have e2 : o'.getD k 0 = o'[k] := by simp [List.getD, show k < o'.length by omega]
    rw [e1, e2] at e
    rw [e]
/-- there is one such order -/
theorem Step.only {n : Nat} {ls : List Gr.Ln} {o o' : List Int} (h : Step n ls o) (h' : Step n ls o') (hl : o.length = n) (hl' : o'.length = n) : o = o' := by
  have := h.same h' n (by omega) (by omega)
  rwa [List.take_of_length_le (by omega), List.take_of_length_le (by omega)] at this
/-- if there is one, no other one gets stuck -/
theorem Step.free {n : Nat} {ls : List Gr.Ln} {o o' : List Int} (h : Step n ls o) (hl : o.length = n) (h' : Step n ls o') (hs : Stuck n ls o') : o'.length = n := by
  rcases Nat.lt_or_ge o'.length n with hlt | hge
  · exfalso
    have e := h.same h' o'.length (by omega) (Nat.le_refl _)
    rw [List.take_of_length_le (Nat.le_refl _)] at e
    obtain ⟨i, hi, _, hf, _⟩ := h o'.length (by omega)
    rw [e, hs i hi] at hf
    cases hf
  · exact Nat.le_antisymm h'.le hge
theorem min_or_stuck (n : Nat) (ls : List Gr.Ln) (o : List Int) : (∃ x, IsMin n ls o x) ∨ Stuck n ls o := by
  have key : ∀ m, m ≤ n → (∃ x, IsMin n ls o x) ∨ ∀ j : Nat, j < m → freeAt ls o (j : Int) = false := by
    intro m
    induction m with
    | zero => intro _; exact .inr fun j hj => absurd hj (Nat.not_lt_zero _)
    | succ m ih =>
      intro hm
      rcases ih (by omega) with h | h
      · exact .inl h
      · cases hf : freeAt ls o (m : Int) with
        | true => exact .inl ⟨m, m, by omega, rfl, hf, h⟩
        | false =>
          refine .inr fun j hj => ?_
          by_cases e : j = m
          · rw [e]; exact hf
          · exact h j (by omega)
  rcases key n (Nat.le_refl _) with h | h
  · exact .inl h
  · exact .inr h
/-- one goes on till all are out, or none may come next -/
theorem Step.ex (n : Nat) (ls : List Gr.Ln) : ∃ o, Step n ls o ∧ (o.length = n ∨ (o.length < n ∧ Stuck n ls o)) := by
  have key : ∀ f o, Step n ls o → n - o.length ≤ f → ∃ o, Step n ls o ∧ (o.length = n ∨ (o.length < n ∧ Stuck n ls o)) := by
    intro f
    induction f with
    | zero => intro o h hf; exact ⟨o, h, .inl (by have := h.le; omega)⟩
    | succ f ih =>
      intro o h hf
      rcases Nat.lt_or_ge o.length n with hlt | hge
      · rcases min_or_stuck n ls o with ⟨x, hx⟩ | hs
        · exact ih (o ++ [x]) (h.snoc hx) (by simp; omega)
        · exact ⟨o, h, .inr ⟨hlt, hs⟩⟩
      · exact ⟨o, h, .inl (by have := h.le; omega)⟩
  exact key n [] (Step.nil n ls) (by simp)

/-! ### lines go on -/
section
variable {n : Nat} {ls : List Gr.Ln} {o : List Int}
/-- where a point stands -/
theorem Step.place (h : Step n ls o) (hl : o.length = n) {i : Nat} (hi : i < n) : ∃ p, p < n ∧ St.plc o (i : Int) = (p : Int) ∧ o.getD p 0 = (i : Int) := (h.row hl).plc hi
theorem Step.line (h : Step n ls o) (hl : o.length = n) {a b : Nat} (hb : b < n) (hab : Gr.has ls (a : Int) (b : Int) = true) : St.plc o (a : Int) < St.plc o (b : Int) := by
  obtain ⟨p, hp, e1, e2⟩ := h.place hl hb
  obtain ⟨x, _, e3, hf, _⟩ := h p (by omega)
  rw [← e3, e2] at hf
  have hm := (freeAt_iff.1 hf).2 _ hab
  obtain ⟨q, hq, e4⟩ := List.mem_take_iff_getElem.1 hm
  have hq2 : q < o.length := by omega
  have e5 : o.getD q 0 = (a : Int) := by rw [← e4]; simp [List.getD, hq2]
  rw [e1, ← e5, St.plc_at h.nodup hq2]
  omega
theorem Step.way (h : Step n ls o) (hl : o.length = n) {a : Nat} (ha : a < n) : ∀ k b, wk n (frow n ls) k a b = true → St.plc o (a : Int) + (k : Int) ≤ St.plc o (b : Int)
  | 0, b, hw => by
    have := wk_zero.1 hw
    subst this
    omega
  | k + 1, b, hw => by
    obtain ⟨c, hc, h1, h2⟩ := wk_succ.1 hw
    have h3 := mem_frow.1 h2
    have := h.line hl h3.1 h3.2
    have := h.way hl ha k c h1
    omega
/-- a point that comes back to itself -/
def Ring (n : Nat) (ls : List Gr.Ln) : Prop := ∃ i k, i < n ∧ 1 ≤ k ∧ wk n (frow n ls) k i i = true
theorem Step.no_ring (h : Step n ls o) (hl : o.length = n) : ¬ Ring n ls := by
  rintro ⟨i, k, hi, hk, hw⟩
  have := h.way hl hi k i hw
  omega
/-- ways are short -/
theorem Step.short (h : Step n ls o) (hl : o.length = n) {a b k : Nat} (ha : a < n) (hw : wk n (frow n ls) k a b = true) : k < n := by
  have hb := Wa.wk_lt (frow_ok n ls) ha hw
  have := h.way hl ha k b hw
  obtain ⟨p, hp, e1, _⟩ := h.place hl hb
  obtain ⟨q, hq, e2, _⟩ := h.place hl ha
  omega
/-- where one gets stuck some point comes back to itself -/
theorem Step.ring (hg : ∀ p ∈ ls, Gr.Good (n : Int) p) (h : Step n ls o) (hlt : o.length < n) (hs : Stuck n ls o) : Ring n ls := by
  have hpred : ∀ u : Nat, u < n ∧ ((u : Int) ∉ o) → ∃ v : Nat, (v < n ∧ ((v : Int) ∉ o)) ∧ Gr.has ls (v : Int) (u : Int) = true := by
    rintro u ⟨hu, hu2⟩
    have hf : ¬ freeAt ls o (u : Int) = true := by rw [hs u hu]; simp
    rw [freeAt_iff] at hf
    have : ∃ a, Gr.has ls a (u : Int) = true ∧ a ∉ o := by
      refine Classical.byContradiction fun hn => hf ⟨hu2, fun a ha => Classical.byContradiction fun hn2 => hn ⟨a, ha, hn2⟩⟩
    obtain ⟨a, ha, hao⟩ := this
    obtain ⟨i, j, rfl, _, hi, _⟩ := ends hg ha
    exact ⟨i, ⟨hi, hao⟩, ha⟩
  obtain ⟨u0, hu0⟩ : ∃ u : Nat, u < n ∧ ((u : Int) ∉ o) := by
    refine Classical.byContradiction fun hn => ?_
    have hsub : (List.range n).length ≤ (o.map Int.toNat).length := by
      refine List.Nodup.length_le_of_subset List.nodup_range fun x hx => ?_
      have hx' := List.mem_range.1 hx
      have : (x : Int) ∈ o := Classical.byContradiction fun h2 => hn ⟨x, hx', h2⟩
      exact List.mem_map.2 ⟨(x : Int), this, by simp⟩
    simp at hsub
    omega
  -- a way back, as long as one likes
  have hway : ∀ k, ∃ p : Nat → Nat, p 0 = u0 ∧ (∀ i, i ≤ k → p i < n ∧ ((p i : Nat) : Int) ∉ o) ∧ ∀ i, i < k → Gr.has ls ((p (i + 1) : Nat) : Int) ((p i : Nat) : Int) = true := by
    intro k
    induction k with
    | zero => exact ⟨fun _ => u0, rfl, fun i _ => hu0, fun i hi => absurd hi (Nat.not_lt_zero _)⟩
    | succ k ih =>
      obtain ⟨p, h0, h1, h2⟩ := ih
      obtain ⟨v, hv, hl⟩ := hpred (p k) (h1 k (Nat.le_refl _))
      refine ⟨fun i => if i ≤ k then p i else v, by simp [h0], fun i hi => ?_, fun i hi => ?_⟩
      · by_cases e : i ≤ k
        · simp only [e, if_true]; exact h1 i e
        · simp only [e, if_false]; exact hv
      · by_cases e : i + 1 ≤ k
        · have e' : i ≤ k := by omega
          simp only [e, e', if_true]
          exact h2 i (by omega)
        · have e' : i = k := by omega
          subst e'
          simp only [e, Nat.le_refl, if_true, if_false]
          exact hl
  obtain ⟨p, _, h1, h2⟩ := hway n
  have hwk : ∀ d i, i + d ≤ n → wk n (frow n ls) d (p (i + d)) (p i) = true := by
    intro d
    induction d with
    | zero => intro i _; exact wk_zero.2 rfl
    | succ d ih =>
      intro i hi
      have hstep : wk n (frow n ls) d (p (i + 1 + d)) (p (i + 1)) = true := ih (i + 1) (by omega)
      have e : i + 1 + d = i + (d + 1) := by omega
      rw [e] at hstep
      exact wk_succ.2 ⟨p (i + 1), (h1 (i + 1) (by omega)).1, hstep, mem_frow.2 ⟨(h1 i (by omega)).1, h2 i (by omega)⟩⟩
  have hdup : ∃ i j, i < j ∧ j ≤ n ∧ p i = p j := by
    refine Classical.byContradiction fun hn => ?_
    have hnd : ((List.range (n + 1)).map p).Nodup := by
      show List.Pairwise (· ≠ ·) _
      rw [List.pairwise_map]
      refine List.Pairwise.imp_of_mem (fun {x y} hx hy hxy e => ?_) List.pairwise_lt_range
      exact hn ⟨x, y, hxy, by have := List.mem_range.1 hy; omega, e⟩
    have := List.Nodup.length_le_of_subset hnd (l₂ := List.range n) fun x hx => by
      obtain ⟨i, hi, rfl⟩ := List.mem_map.1 hx
      exact List.mem_range.2 (h1 i (by have := List.mem_range.1 hi; omega)).1
    simp at this
    omega
  obtain ⟨i, j, hij, hj, e⟩ := hdup
  have := hwk (j - i) i (by omega)
  rw [show i + (j - i) = j by omega, ← e] at this
  exact ⟨p i, j - i, (h1 i (by omega)).1, by omega, this⟩
end

/-! ### how deep -/
/-- the most lines on a way to a point -/
def Dp (n : Nat) (ls : List Gr.Ln) (i d : Nat) : Prop := (∃ a, a < n ∧ wk n (frow n ls) d a i = true) ∧ ∀ k a, a < n → wk n (frow n ls) k a i = true → k ≤ d
theorem Dp.unique {n : Nat} {ls : List Gr.Ln} {i d d' : Nat} (h : Dp n ls i d) (h' : Dp n ls i d') : d = d' := by
  obtain ⟨⟨a, ha, h1⟩, h2⟩ := h
  obtain ⟨⟨b, hb, h3⟩, h4⟩ := h'
  exact Nat.le_antisymm (h4 d a ha h1) (h2 d' b hb h3)
/-- the most of some lines, by how deep they begin -/
def mostF (D : Int → Nat) (i : Int) : List Gr.Ln → Nat → Nat
  | [], acc => acc
  | p :: ps, acc => mostF D i ps (if p.2 = i ∧ acc < 1 + D p.1 then 1 + D p.1 else acc)
/-- how deep, by fuel -/
def dpF (ls : List Gr.Ln) : Nat → Int → Nat
  | 0, _ => 0
  | f + 1, i => mostF (dpF ls f) i ls 0
theorem mostF_spec (D : Int → Nat) (i : Int) : ∀ (l : List Gr.Ln) (acc : Nat), acc ≤ mostF D i l acc ∧ (∀ p ∈ l, p.2 = i → 1 + D p.1 ≤ mostF D i l acc) ∧ (mostF D i l acc = acc ∨ ∃ p ∈ l, p.2 = i ∧ mostF D i l acc = 1 + D p.1)
  | [], acc => ⟨Nat.le_refl _, fun p hp => absurd hp (by simp), .inl rfl⟩
  | q :: l, acc => by
    obtain ⟨h1, h2, h3⟩ := mostF_spec D i l (if q.2 = i ∧ acc < 1 + D q.1 then 1 + D q.1 else acc)
    have e : mostF D i (q :: l) acc = mostF D i l (if q.2 = i ∧ acc < 1 + D q.1 then 1 + D q.1 else acc) := rfl
    rw [e]
    have hq : acc ≤ (if q.2 = i ∧ acc < 1 + D q.1 then 1 + D q.1 else acc) ∧ (q.2 = i → 1 + D q.1 ≤ if q.2 = i ∧ acc < 1 + D q.1 then 1 + D q.1 else acc) := by
      split
      · rename_i h; exact ⟨by omega, fun _ => Nat.le_refl _⟩
      · rename_i h; exact ⟨Nat.le_refl _, fun e => by
          rcases Nat.lt_or_ge acc (1 + D q.1) with h5 | h5
          · exact absurd ⟨e, h5⟩ h
          · exact h5⟩
    refine ⟨by omega, fun p hp hpi => ?_, ?_⟩
    · rcases List.mem_cons.1 hp with rfl | hp
      · have := hq.2 hpi; omega
      · exact h2 p hp hpi
    · rcases h3 with h3 | ⟨p, hp, hpi, h3⟩
      · rw [h3]
        split
        · rename_i h; exact .inr ⟨q, by simp, h.1, rfl⟩
        · exact .inl rfl
      · exact .inr ⟨p, List.mem_cons_of_mem _ hp, hpi, h3⟩
theorem mostF_step (D : Int → Nat) (i : Int) {l : List Gr.Ln} {k : Nat} (hk : k < l.length) (p : Gr.Ln) (hp : p = l.getD k (0, 0)) (acc : Nat) : mostF D i (l.drop k) acc = mostF D i (l.drop (k + 1)) (if p.2 = i ∧ acc < 1 + D p.1 then 1 + D p.1 else acc) := by
  rw [List.drop_eq_getElem_cons hk]
  have : l[k] = p := by rw [hp]; simp [List.getD, hk]
  rw [this]
  rfl
section
variable {n : Nat} {ls : List Gr.Ln}
/-- a way of one line more -/
theorem wk_line (hg : ∀ p ∈ ls, Gr.Good (n : Int) p) {a c i k : Nat} (h : Gr.has ls (c : Int) (i : Int) = true) (hw : wk n (frow n ls) k a c = true) : wk n (frow n ls) (k + 1) a i = true := by
  obtain ⟨x, y, e1, e2, hx, hy, _⟩ := ends hg h
  exact wk_succ.2 ⟨c, by omega, hw, mem_frow.2 ⟨by omega, h⟩⟩
theorem dpF_spec (hg : ∀ p ∈ ls, Gr.Good (n : Int) p) : ∀ (f i : Nat), i < n → (∀ k a, a < n → wk n (frow n ls) k a i = true → k < f) → Dp n ls i (dpF ls f (i : Int))
  | 0, i, hi, hf => absurd (hf 0 i hi (wk_zero.2 rfl)) (Nat.not_lt_zero _)
  | f + 1, i, hi, hf => by
    have hsub : ∀ c : Nat, Gr.has ls (c : Int) (i : Int) = true → Dp n ls c (dpF ls f (c : Int)) := fun c hc => by
      obtain ⟨x, y, e1, e2, hx, hy, _⟩ := ends hg hc
      refine dpF_spec hg f c (by omega) fun k a ha hw => ?_
      have := hf (k + 1) a ha (wk_line hg hc hw)
      omega
    obtain ⟨h1, h2, h3⟩ := mostF_spec (dpF ls f) (i : Int) ls 0
    have e : dpF ls (f + 1) (i : Int) = mostF (dpF ls f) (i : Int) ls 0 := rfl
    rw [e]
    constructor
    · rcases h3 with h3 | ⟨p, hp, hpi, h3⟩
      · rw [h3]; exact ⟨i, hi, wk_zero.2 rfl⟩
      · have hh : Gr.has ls p.1 (i : Int) = true := Gr.has_iff.2 (by rw [← hpi]; exact hp)
        obtain ⟨c, y, e1, e2, hx, hy, _⟩ := ends hg hh
        rw [e1] at hh
        obtain ⟨⟨a, ha, hw⟩, _⟩ := hsub c hh
        rw [h3, e1, Nat.add_comm]
        exact ⟨a, ha, wk_line hg hh hw⟩
    · intro k a ha hw
      cases k with
      | zero => exact Nat.zero_le _
      | succ k =>
        obtain ⟨c, hc, hw1, hw2⟩ := wk_succ.1 hw
        have hh := (mem_frow.1 hw2).2
        have := (hsub c hh).2 k a ha hw1
        have := h2 _ (Gr.has_iff.1 hh) rfl
        simp only at this
        omega
/-- how deep each point is, where there is an order -/
theorem dp_all (hg : ∀ p ∈ ls, Gr.Good (n : Int) p) {o : List Int} (h : Step n ls o) (hl : o.length = n) {i : Nat} (hi : i < n) : Dp n ls i (dpF ls n (i : Int)) := dpF_spec hg n i hi fun k a ha hw => h.short hl ha hw
/-- by the lines that come in -/
theorem Dp.of_lines (hg : ∀ p ∈ ls, Gr.Good (n : Int) p) {D : Nat → Nat} (hD : ∀ i, i < n → Dp n ls i (D i)) {i : Nat} (hi : i < n) :
    (∀ c : Nat, Gr.has ls (c : Int) (i : Int) = true → D c + 1 ≤ D i) ∧ (D i = 0 ∨ ∃ c : Nat, c < n ∧ Gr.has ls (c : Int) (i : Int) = true ∧ D i = D c + 1) := by
  constructor
  · intro c hc
    obtain ⟨x, y, e1, e2, hx, hy, _⟩ := ends hg hc
    obtain ⟨⟨a, ha, hw⟩, _⟩ := hD c (by omega)
    exact (hD i hi).2 _ a ha (wk_line hg hc hw)
  · cases hd : D i with
    | zero => exact .inl rfl
    | succ d =>
      obtain ⟨⟨a, ha, hw⟩, hm⟩ := hD i hi
      rw [hd] at hw hm
      obtain ⟨c, hc, hw1, hw2⟩ := wk_succ.1 hw
      have hh := (mem_frow.1 hw2).2
      refine .inr ⟨c, hc, hh, ?_⟩
      have h1 := (hD c hc).2 d a ha hw1
      obtain ⟨⟨b, hb, hw3⟩, _⟩ := hD c hc
      have h2 := hm _ b hb (wk_line hg hh hw3)
      omega
/-- the only numbers that fit the lines -/
theorem Dp.by_lines {o : List Int} (h : Step n ls o) (hl : o.length = n) (hg : ∀ p ∈ ls, Gr.Good (n : Int) p) {D E : Nat → Nat} (hD : ∀ i, i < n → Dp n ls i (D i))
    (hE : ∀ i, i < n → (∀ c : Nat, Gr.has ls (c : Int) (i : Int) = true → E c + 1 ≤ E i) ∧ (E i = 0 ∨ ∃ c : Nat, c < n ∧ Gr.has ls (c : Int) (i : Int) = true ∧ E i = E c + 1)) : ∀ i, i < n → E i = D i := by
  have key : ∀ p : Nat, ∀ i, i < n → St.plc o (i : Int) = (p : Int) → E i = D i := by
    intro p
    induction p using Nat.strongRecOn with
    | _ p ih =>
      intro i hi hp
      have hsub : ∀ c : Nat, Gr.has ls (c : Int) (i : Int) = true → E c = D c := fun c hc => by
        obtain ⟨x, y, e1, e2, hx, hy, _⟩ := ends hg hc
        have hcn : c < n := by omega
        obtain ⟨q, hq, e3, _⟩ := h.place hl hcn
        have := h.line hl hi hc
        exact ih q (by omega) c hcn e3
      have hd := Dp.of_lines hg hD hi
      have he := hE i hi
      refine Nat.le_antisymm ?_ ?_
      · rcases he.2 with h0 | ⟨c, hc, hh, e⟩
        · omega
        · have := hd.1 c hh; have := hsub c hh; omega
      · rcases hd.2 with h0 | ⟨c, hc, hh, e⟩
        · omega
        · have := he.1 c hh; have := hsub c hh; omega
  intro i hi
  obtain ⟨p, _, e, _⟩ := h.place hl hi
  exact key p i hi e
end

/-! ### turned lines -/
theorem has_back {ls : List Gr.Ln} {a b : Int} : Gr.has (Gr.back ls) a b = Gr.has ls b a := by
  rw [Bool.eq_iff_iff, Gr.has_iff, Gr.has_iff, Gr.mem_back]
theorem wk_turn {n : Nat} {ls : List Gr.Ln} {a : Nat} (ha : a < n) : ∀ {k b : Nat}, wk n (frow n ls) k a b = true → wk n (frow n (Gr.back ls)) k b a = true
  | 0, b, h => by rw [wk_zero] at *; exact h.symm
  | k + 1, b, h => by
    obtain ⟨c, hc, h1, h2⟩ := wk_succ.1 h
    have h3 := mem_frow.1 h2
    have := wk_add (wk_one h3.1 (mem_frow.2 ⟨hc, by rw [has_back]; exact h3.2⟩)) (wk_turn ha h1)
    rwa [Nat.add_comm] at this
theorem back_back (ls : List Gr.Ln) (a b : Int) : Gr.has (Gr.back (Gr.back ls)) a b = Gr.has ls a b := by rw [has_back, has_back]
theorem wk_back {n : Nat} {ls : List Gr.Ln} {a b k : Nat} (ha : a < n) (hb : b < n) : wk n (frow n (Gr.back ls)) k b a = true ↔ wk n (frow n ls) k a b = true := by
  constructor
  · intro h
    have := wk_turn hb h
    exact Wa.wk_mono (fun x _ y hy => mem_frow.2 ⟨(mem_frow.1 hy).1, by rw [← back_back]; exact (mem_frow.1 hy).2⟩) this
  · exact wk_turn ha
theorem good_back {n : Nat} {ls : List Gr.Ln} (hg : ∀ p ∈ ls, Gr.Good (n : Int) p) : ∀ p ∈ Gr.back ls, Gr.Good (n : Int) p := by
  rintro ⟨a, b⟩ hp
  have := hg _ (Gr.mem_back.1 hp)
  unfold Gr.Good at *
  simp only at *
  omega
theorem Ring.back {n : Nat} {ls : List Gr.Ln} (h : Ring n ls) : Ring n (Gr.back ls) := by
  obtain ⟨i, k, hi, hk, hw⟩ := h
  exact ⟨i, k, hi, hk, wk_turn hi hw⟩
theorem Ring.of_back {n : Nat} {ls : List Gr.Ln} (h : Ring n (Gr.back ls)) : Ring n ls := by
  obtain ⟨i, k, hi, hk, hw⟩ := h
  exact ⟨i, k, hi, hk, (wk_back hi hi).1 hw⟩
/-- an order, or a ring -/
theorem order_or_ring {n : Nat} {ls : List Gr.Ln} (hg : ∀ p ∈ ls, Gr.Good (n : Int) p) : (∃ o, Step n ls o ∧ o.length = n) ∨ Ring n ls := by
  obtain ⟨o, h, hl | ⟨hl, hs⟩⟩ := Step.ex n ls
  · exact .inl ⟨o, h, hl⟩
  · exact .inr (h.ring hg hl hs)
theorem order_turn {n : Nat} {ls : List Gr.Ln} (hg : ∀ p ∈ ls, Gr.Good (n : Int) p) {o : List Int} (h : Step n ls o) (hl : o.length = n) : ∃ o', Step n (Gr.back ls) o' ∧ o'.length = n := by
  rcases order_or_ring (good_back hg) with h2 | h2
  · exact h2
  · exact absurd h2.of_back (h.no_ring hl)
/-- the most lines on a way -/
def Top (n : Nat) (ls : List Gr.Ln) (d : Nat) : Prop := (∃ a b, a < n ∧ b < n ∧ wk n (frow n ls) d a b = true) ∧ ∀ k a b, a < n → b < n → wk n (frow n ls) k a b = true → k ≤ d
theorem Top.unique {n : Nat} {ls : List Gr.Ln} {d d' : Nat} (h : Top n ls d) (h' : Top n ls d') : d = d' := by
  obtain ⟨⟨a, b, ha, hb, h1⟩, h2⟩ := h
  obtain ⟨⟨x, y, hx, hy, h3⟩, h4⟩ := h'
  exact Nat.le_antisymm (h4 d a b ha hb h1) (h2 d' x y hx hy h3)
theorem Top.back {n : Nat} {ls : List Gr.Ln} {d : Nat} (h : Top n ls d) : Top n (Gr.back ls) d := by
  obtain ⟨⟨a, b, ha, hb, h1⟩, h2⟩ := h
  exact ⟨⟨b, a, hb, ha, wk_turn ha h1⟩, fun k x y hx hy hw => h2 k y x hy hx ((wk_back hy hx).1 hw)⟩
theorem Top.of {n : Nat} {ls : List Gr.Ln} {D : Nat → Nat} (hD : ∀ i, i < n → Dp n ls i (D i)) {d : Nat} (h1 : ∃ i, i < n ∧ D i = d) (h2 : ∀ i, i < n → D i ≤ d) : Top n ls d := by
  obtain ⟨i, hi, rfl⟩ := h1
  obtain ⟨⟨a, ha, hw⟩, _⟩ := hD i hi
  refine ⟨⟨a, i, ha, hi, hw⟩, fun k x y hx hy hw => ?_⟩
  have := (hD y hy).2 k x hx hw
  have := h2 y hy
  omega
end Go.Proofs.Ytinglgnddmadaaa.To
