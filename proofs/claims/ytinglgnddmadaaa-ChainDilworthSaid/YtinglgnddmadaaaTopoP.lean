/-
  Plain facts, with no program in them: who may come next as the program asks for it, how deep points are as it reckons them along an order, rings as the reference asks for them, the greatest of some numbers. No statement of the program is proved here; there is no condition.
-/
import Derived.Test.YtinglgnddmadaaaTopoN
import Derived.Test.YtinglgnddmadaaaRisN
set_option linter.unusedSimpArgs false
set_option linter.unusedVariables false
namespace Go.Proofs.Ytinglgnddmadaaa.To
open Wa (wk wk_zero wk_succ wk_add wk_one)

theorem Step.full {n : Nat} {ls : List Gr.Ln} {o : List Int} (h : Step n ls o) (hl : o.length = n) : Stuck n ls o := fun i hi => by
  cases hf : freeAt ls o (i : Int) with
  | false => rfl
  | true => exact absurd ((h.row hl).mem hi) (freeAt_iff.1 hf).1
theorem Step.all (n : Nat) (ls : List Gr.Ln) : ∃ o, Step n ls o ∧ Stuck n ls o := by
  obtain ⟨o, h, hl | ⟨_, hs⟩⟩ := Step.ex n ls
  · exact ⟨o, h, h.full hl⟩
  · exact ⟨o, h, hs⟩

/-! ### marks of those that are out -/
def mk (n : Nat) (o : List Int) : List Bool := (List.range n).map fun i : Nat => o.contains (i : Int)
theorem mk_nil (n : Nat) : mk n [] = List.replicate n false := by
  unfold mk
  refine List.ext_getElem (by simp) fun i h1 h2 => ?_
  simp
theorem mk_len (n : Nat) (o : List Int) : (mk n o).length = n := by simp [mk]
theorem mk_at {n : Nat} {o : List Int} {i : Nat} (hi : i < n) : (mk n o).getD i false = o.contains (i : Int) := by simp [mk, List.getD, hi]
theorem mk_set {n : Nat} {o : List Int} {i : Nat} (hi : i < n) : (mk n o).set i true = mk n (o ++ [(i : Int)]) := by
  refine List.ext_getElem (by simp [mk]) fun j h1 h2 => ?_
  have hj : j < n := by simpa [mk] using h2
  rw [List.getElem_set]
  by_cases e : i = j
  · subst e; simp [mk]
  · have e2 : ¬ (j : Int) = (i : Int) := by omega
    simp [mk, e, e2]

/-- does a line come in from one that is not out? -/
def heldB (ls : List Gr.Ln) (o : List Int) (i : Int) : Bool := ls.any fun p => decide (p.2 = i) && !o.contains p.1
theorem free_held {ls : List Gr.Ln} {o : List Int} {i : Int} : freeAt ls o i = (!o.contains i && !heldB ls o i) := by
  unfold freeAt heldB
  congr 1
  rw [List.not_any_eq_all_not]
  refine List.all_congr rfl fun p => ?_
  by_cases h : p.2 = i <;> simp [h]

/-! ### where lines go -/
def tg (ls : List Gr.Ln) (a : Int) : List Int := (ls.filter fun p => decide (p.1 = a)).map Prod.snd
theorem mem_tg {ls : List Gr.Ln} {a b : Int} : b ∈ tg ls a ↔ Gr.has ls a b = true := by
  unfold tg Gr.has
  simp only [List.mem_map, List.mem_filter, decide_eq_true_eq, List.contains_iff_mem]
  constructor
  · rintro ⟨⟨x, y⟩, ⟨h1, h2⟩, h3⟩
    simp only at h2 h3
    subst h2 h3
    exact h1
  · intro h
    exact ⟨(a, b), ⟨h, rfl⟩, rfl⟩

/-! ### how deep, line by line -/
/-- the numbers behind the lines that are counted (Q); E is how deep each point is -/
structure Cnt (n : Nat) (E : Nat → Nat) (Q : Nat → Nat → Prop) (zs : List Int) : Prop where
  len : zs.length = n
  ge : ∀ i, i < n → ∀ c, Q c i → (E c : Int) + 1 ≤ zs.getD i 0
  eq : ∀ i, i < n → zs.getD i 0 = 0 ∨ ∃ c, Q c i ∧ zs.getD i 0 = (E c : Int) + 1
section
variable {n : Nat} {E : Nat → Nat} {Q Q' : Nat → Nat → Prop} {zs : List Int}
theorem Cnt.start (n : Nat) (E : Nat → Nat) (hQ : ∀ c i, i < n → ¬ Q c i) : Cnt n E Q (List.replicate n 0) :=
  ⟨by simp, fun i hi c h => absurd h (hQ c i hi), fun i hi => .inl (by simp [List.getD, hi])⟩
theorem Cnt.congr (h : Cnt n E Q zs) (e : ∀ c i, i < n → (Q c i ↔ Q' c i)) : Cnt n E Q' zs :=
  ⟨h.len, fun i hi c hq => h.ge i hi c ((e c i hi).2 hq), fun i hi => (h.eq i hi).imp id fun ⟨c, hq, hx⟩ => ⟨c, (e c i hi).1 hq, hx⟩⟩
theorem getD_set (zs : List Int) (i j : Nat) (x : Int) (hi : i < zs.length) : (zs.set i x).getD j 0 = if j = i then x else zs.getD j 0 := by
  simp only [List.getD, List.getElem?_set]
  by_cases e : i = j
  · subst e; simp [hi]
  · have : ¬ j = i := fun h => e h.symm
    simp [e, this]
theorem Cnt.nn (h : Cnt n E Q zs) {i : Nat} (hi : i < n) : 0 ≤ zs.getD i 0 := by
  rcases h.eq i hi with h | ⟨c, _, h⟩ <;> omega
theorem Cnt.put (h : Cnt n E Q zs) {v w : Nat} (hw : w < n) : Cnt n E (fun c i => Q c i ∨ (c = v ∧ i = w)) (zs.set w (max (zs.getD w 0) ((E v : Int) + 1))) := by
  have hwl : w < zs.length := by rw [h.len]; exact hw
  refine ⟨by rw [List.length_set]; exact h.len, fun i hi c hq => ?_, fun i hi => ?_⟩
  · rw [getD_set _ _ _ _ hwl]
    by_cases e : i = w
    · rw [if_pos e]
      subst e
      rcases hq with hq | ⟨rfl, _⟩
      · have := h.ge i hi c hq; omega
      · omega
    · rw [if_neg e]
      rcases hq with hq | ⟨_, h2⟩
      · exact h.ge i hi c hq
      · exact absurd h2 e
  · rw [getD_set _ _ _ _ hwl]
    by_cases e : i = w
    · rw [if_pos e]
      subst e
      by_cases hm : zs.getD i 0 ≤ (E v : Int) + 1
      · exact .inr ⟨v, .inr ⟨rfl, rfl⟩, by omega⟩
      · rcases h.eq i hi with h2 | ⟨c, hq, h2⟩
        · omega
        · exact .inr ⟨c, .inl hq, by omega⟩
    · rw [if_neg e]
      exact (h.eq i hi).imp id fun ⟨c, hq, hx⟩ => ⟨c, .inl hq, hx⟩
/-- where all lines that come in are counted -/
theorem Cnt.val {ls : List Gr.Ln} (h : Cnt n E Q zs) {v : Nat} (hv : v < n) (hQ : ∀ c, Q c v ↔ Gr.has ls (c : Int) (v : Int) = true)
    (hE : (∀ c : Nat, Gr.has ls (c : Int) (v : Int) = true → E c + 1 ≤ E v) ∧ (E v = 0 ∨ ∃ c : Nat, c < n ∧ Gr.has ls (c : Int) (v : Int) = true ∧ E v = E c + 1)) : zs.getD v 0 = (E v : Int) := by
  have h1 : zs.getD v 0 ≤ (E v : Int) := by
    rcases h.eq v hv with h2 | ⟨c, hq, h2⟩
    · omega
    · have := hE.1 c ((hQ c).1 hq); omega
  have h2 : (E v : Int) ≤ zs.getD v 0 := by
    rcases hE.2 with h2 | ⟨c, _, hq, h2⟩
    · have := h.nn hv; omega
    · have := h.ge v hv c ((hQ c).2 hq); omega
  omega
end
/-- counted: the lines out of the first k of the order -/
def qk (ls : List Gr.Ln) (o : List Int) (k : Nat) (c i : Nat) : Prop := Gr.has ls (c : Int) (i : Int) = true ∧ St.plc o (c : Int) < (k : Int)
/-- and some of the lines out of v -/
def qm (ls : List Gr.Ln) (o : List Int) (k v : Nat) (pre : List Int) (c i : Nat) : Prop := qk ls o k c i ∨ (c = v ∧ (i : Int) ∈ pre)
/-- how deep points are, as numbers in a list -/
def deps (n : Nat) (ls : List Gr.Ln) : List Int := (List.range n).map fun i : Nat => (dpF ls n (i : Int) : Int)
theorem deps_len (n : Nat) (ls : List Gr.Ln) : (deps n ls).length = n := by simp [deps]
theorem deps_at {n : Nat} (ls : List Gr.Ln) {i : Nat} (hi : i < n) : (deps n ls).getD i 0 = (dpF ls n (i : Int) : Int) := by simp [deps, List.getD, hi]
section
variable {n : Nat} {ls : List Gr.Ln} {o : List Int}
theorem dep_lines (hg : ∀ p ∈ ls, Gr.Good (n : Int) p) (h : Step n ls o) (hl : o.length = n) {i : Nat} (hi : i < n) :
    (∀ c : Nat, Gr.has ls (c : Int) (i : Int) = true → dpF ls n (c : Int) + 1 ≤ dpF ls n (i : Int)) ∧ (dpF ls n (i : Int) = 0 ∨ ∃ c : Nat, c < n ∧ Gr.has ls (c : Int) (i : Int) = true ∧ dpF ls n (i : Int) = dpF ls n (c : Int) + 1) :=
  Dp.of_lines hg (D := fun i => dpF ls n (i : Int)) (fun i hi => dp_all hg h hl hi) hi
theorem plc_nn (h : Step n ls o) (hl : o.length = n) {i : Nat} (hi : i < n) : 0 ≤ St.plc o (i : Int) ∧ St.plc o (i : Int) < (n : Int) := by
  obtain ⟨p, hp, e, _⟩ := h.place hl hi
  omega
/-- at the head of the round of v, and within it, v itself is known -/
theorem qm_val (hg : ∀ p ∈ ls, Gr.Good (n : Int) p) (h : Step n ls o) (hl : o.length = n) {k v : Nat} (hk : k < n) (hv : o.getD k 0 = (v : Int)) {pre : List Int} (hpre : ∀ x ∈ pre, Gr.has ls (v : Int) x = true) (c : Nat) :
    qm ls o k v pre c v ↔ Gr.has ls (c : Int) (v : Int) = true := by
  have hvn : v < n := by
    obtain ⟨i, hi, e, _⟩ := h k (by omega)
    omega
  have hpv : St.plc o (v : Int) = (k : Int) := by rw [← hv]; exact St.plc_at h.nodup (by omega)
  constructor
  · rintro (⟨h1, _⟩ | ⟨rfl, h2⟩)
    · exact h1
    · exact hpre _ h2
  · intro hh
    have := h.line hl hvn hh
    exact .inl ⟨hh, by omega⟩
theorem Cnt.first (h : Step n ls o) (hl : o.length = n) (hg : ∀ p ∈ ls, Gr.Good (n : Int) p) (E : Nat → Nat) : Cnt n E (qk ls o 0) (List.replicate n 0) := by
  refine Cnt.start n E fun c i hi hq => ?_
  obtain ⟨x, y, e1, e2, hx, hy, _⟩ := ends hg hq.1
  have := plc_nn h hl (i := c) (by omega)
  have := hq.2
  omega
theorem Cnt.begin {E : Nat → Nat} {k v : Nat} {zs : List Int} (h : Cnt n E (qk ls o k) zs) : Cnt n E (qm ls o k v []) zs :=
  h.congr fun c i _ => ⟨.inl, fun hq => hq.elim id fun h2 => absurd h2.2 (by simp)⟩
theorem Cnt.snoc {E : Nat → Nat} {k v w : Nat} {pre : List Int} {zs : List Int} (h : Cnt n E (qm ls o k v pre) zs) (hw : w < n) : Cnt n E (qm ls o k v (pre ++ [(w : Int)])) (zs.set w (max (zs.getD w 0) ((E v : Int) + 1))) := by
  refine (h.put (v := v) hw).congr fun c i _ => ?_
  unfold qm
  constructor
  · rintro ((h1 | ⟨h1, h2⟩) | ⟨h1, rfl⟩)
    · exact .inl h1
    · exact .inr ⟨h1, by simp [h2]⟩
    · exact .inr ⟨h1, by simp⟩
  · rintro (h1 | ⟨h1, h2⟩)
    · exact .inl (.inl h1)
    · rcases List.mem_append.1 h2 with h2 | h2
      · exact .inl (.inr ⟨h1, h2⟩)
      · have : (i : Int) = (w : Int) := by simpa using h2
        exact .inr ⟨h1, by omega⟩
theorem Cnt.next (hg : ∀ p ∈ ls, Gr.Good (n : Int) p) (hs : Step n ls o) (hl : o.length = n) {E : Nat → Nat} {k v : Nat} {zs : List Int} (hk : k < n) (hv : o.getD k 0 = (v : Int)) (h : Cnt n E (qm ls o k v (tg ls (v : Int))) zs) : Cnt n E (qk ls o (k + 1)) zs := by
  have hpv : St.plc o (v : Int) = (k : Int) := by rw [← hv]; exact St.plc_at hs.nodup (by omega)
  refine h.congr fun c i _ => ?_
  unfold qm qk
  constructor
  · rintro (⟨h1, h2⟩ | ⟨rfl, h2⟩)
    · exact ⟨h1, by omega⟩
    · exact ⟨mem_tg.1 h2, by omega⟩
  · rintro ⟨h1, h2⟩
    by_cases e : St.plc o (c : Int) = (k : Int)
    · obtain ⟨x, y, e1, e2, hx, hy, _⟩ := ends hg h1
      obtain ⟨p, hp, e3, e4⟩ := hs.place hl (i := c) (by omega)
      have : p = k := by omega
      subst this
      have : c = v := by omega
      subst this
      exact .inr ⟨rfl, mem_tg.2 h1⟩
    · exact .inl ⟨h1, by omega⟩
theorem Cnt.done (hg : ∀ p ∈ ls, Gr.Good (n : Int) p) (hs : Step n ls o) (hl : o.length = n) {zs : List Int} (h : Cnt n (fun i => dpF ls n (i : Int)) (qk ls o n) zs) : zs = deps n ls := by
  refine Wa.eq_of_getD (by rw [h.len, deps_len]) fun i hi => ?_
  rw [h.len] at hi
  rw [deps_at ls hi]
  refine h.val (ls := ls) hi (fun c => ?_) (dep_lines hg hs hl hi)
  constructor
  · exact fun h => h.1
  · intro hh
    obtain ⟨x, y, e1, e2, hx, hy, _⟩ := ends hg hh
    exact ⟨hh, (plc_nn hs hl (i := c) (by omega)).2⟩
/-- depths are small -/
theorem dep_small (hg : ∀ p ∈ ls, Gr.Good (n : Int) p) (hs : Step n ls o) (hl : o.length = n) {i : Nat} (hi : i < n) : dpF ls n (i : Int) < n := by
  obtain ⟨⟨a, ha, hw⟩, _⟩ := dp_all hg hs hl hi
  exact hs.short hl ha hw
end

/-! ### rings, as the reference asks for them -/
/-- does a way of one line or more go from a to b? -/
def comesTo (n : Nat) (ls : List Gr.Ln) (a b : Nat) (k : Nat) : Bool := (List.range k).any fun c : Nat => Gr.has ls (a : Int) (c : Int) && decide (0 ≤ Wa.dist n (frow n ls) c b)
def comes (n : Nat) (ls : List Gr.Ln) (a b : Nat) : Bool := comesTo n ls a b n
theorem comesTo_succ (n : Nat) (ls : List Gr.Ln) (a b k : Nat) : comesTo n ls a b (k + 1) = (comesTo n ls a b k || (Gr.has ls (a : Int) (k : Int) && decide (0 ≤ Wa.dist n (frow n ls) k b))) := by simp [comesTo, List.range_succ]
theorem comesTo_mono {n : Nat} {ls : List Gr.Ln} {a b k : Nat} (hk : k < n) (h1 : Gr.has ls (a : Int) (k : Int) = true) (h2 : 0 ≤ Wa.dist n (frow n ls) k b) : comes n ls a b = true :=
  List.any_eq_true.2 ⟨k, List.mem_range.2 hk, by simp [h1, h2]⟩
theorem comes_iff {n : Nat} {ls : List Gr.Ln} {a b : Nat} (hg : ∀ p ∈ ls, Gr.Good (n : Int) p) (ha : a < n) : comes n ls a b = true ↔ ∃ k, 1 ≤ k ∧ wk n (frow n ls) k a b = true := by
  unfold comes comesTo
  rw [List.any_eq_true]
  constructor
  · rintro ⟨c, hc, h⟩
    have hcn := List.mem_range.1 hc
    simp only [Bool.and_eq_true, decide_eq_true_eq] at h
    obtain ⟨d, hd⟩ := (Wa.dist_nn (frow_ok n ls) hcn).1 h.2
    exact ⟨1 + d, by omega, wk_add (wk_one ha (mem_frow.2 ⟨hcn, h.1⟩)) hd⟩
  · rintro ⟨k, hk, hw⟩
    obtain ⟨d, rfl⟩ : ∃ d, k = 1 + d := ⟨k - 1, by omega⟩
    obtain ⟨c, h1, h2⟩ := Wa.wk_split hw
    have h3 : ∃ x, x < n ∧ wk n (frow n ls) 0 a x = true ∧ c ∈ frow n ls x := wk_succ.1 h1
    obtain ⟨x, hx, h4, h5⟩ := h3
    have := wk_zero.1 h4
    subst this
    have h6 := mem_frow.1 h5
    exact ⟨c, List.mem_range.2 h6.1, by simp only [Bool.and_eq_true, decide_eq_true_eq]; exact ⟨h6.2, (Wa.dist_nn (frow_ok n ls) h6.1).2 ⟨d, h2⟩⟩⟩
/-- does one of the first points come back to itself? -/
def backTo (n : Nat) (ls : List Gr.Ln) (k : Nat) : Bool := (List.range k).any fun i : Nat => comes n ls i i
theorem backTo_succ (n : Nat) (ls : List Gr.Ln) (k : Nat) : backTo n ls (k + 1) = (backTo n ls k || comes n ls k k) := by simp [backTo, List.range_succ]
theorem back_ring {n : Nat} {ls : List Gr.Ln} (hg : ∀ p ∈ ls, Gr.Good (n : Int) p) : backTo n ls n = true ↔ Ring n ls := by
  unfold backTo Ring
  rw [List.any_eq_true]
  constructor
  · rintro ⟨i, hi, h⟩
    have hin := List.mem_range.1 hi
    obtain ⟨k, hk, hw⟩ := (comes_iff hg hin).1 h
    exact ⟨i, k, hin, hk, hw⟩
  · rintro ⟨i, k, hi, hk, hw⟩
    exact ⟨i, List.mem_range.2 hi, (comes_iff hg hi).2 ⟨k, hk, hw⟩⟩
theorem no_back {n : Nat} {ls : List Gr.Ln} {o : List Int} (hg : ∀ p ∈ ls, Gr.Good (n : Int) p) (h : Step n ls o) (hl : o.length = n) : backTo n ls n = false := by
  cases hb : backTo n ls n with
  | false => rfl
  | true => exact absurd ((back_ring hg).1 hb) (h.no_ring hl)
theorem has_back_ring {n : Nat} {ls : List Gr.Ln} {o : List Int} (hg : ∀ p ∈ ls, Gr.Good (n : Int) p) (h : Step n ls o) (hl : o.length < n) (hs : Stuck n ls o) : backTo n ls n = true :=
  (back_ring hg).2 (h.ring hg hl hs)

/-! ### the search for the least, from the greatest down -/
/-- best so far: those from i on have been asked -/
def Low (n : Nat) (ls : List Gr.Ln) (o : List Int) (i : Nat) (b : Int) : Prop :=
  (b = -1 ∧ ∀ j : Nat, i ≤ j → j < n → freeAt ls o (j : Int) = false) ∨ ∃ p : Nat, b = (p : Int) ∧ i ≤ p ∧ p < n ∧ freeAt ls o (p : Int) = true ∧ ∀ j : Nat, i ≤ j → j < p → freeAt ls o (j : Int) = false
section
variable {n : Nat} {ls : List Gr.Ln} {o : List Int}
theorem Low.start (n : Nat) (ls : List Gr.Ln) (o : List Int) : Low n ls o n (-1) := .inl ⟨rfl, fun j h1 h2 => by omega⟩
theorem Low.yes {i : Nat} {b : Int} (hi : i < n) (hf : freeAt ls o (i : Int) = true) : Low n ls o i (i : Int) := .inr ⟨i, rfl, Nat.le_refl _, hi, hf, fun j h1 h2 => by omega⟩
theorem Low.no {i : Nat} {b : Int} (h : Low n ls o (i + 1) b) (hf : freeAt ls o (i : Int) = false) : Low n ls o i b := by
  have key : ∀ j : Nat, i ≤ j → (i + 1 ≤ j → freeAt ls o (j : Int) = false) → freeAt ls o (j : Int) = false := fun j h1 h2 => by
    by_cases e : j = i
    · rw [e]; exact hf
    · exact h2 (by omega)
  rcases h with ⟨rfl, h⟩ | ⟨p, rfl, h1, h2, h3, h4⟩
  · exact .inl ⟨rfl, fun j h1 h2 => key j h1 fun h3 => h j h3 h2⟩
  · exact .inr ⟨p, rfl, by omega, h2, h3, fun j h5 h6 => key j h5 fun h7 => h4 j h7 h6⟩
theorem Low.end_ {b : Int} (h : Low n ls o 0 b) : (b = -1 ∧ Stuck n ls o) ∨ (0 ≤ b ∧ b < (n : Int) ∧ IsMin n ls o b) := by
  rcases h with ⟨rfl, h⟩ | ⟨p, rfl, _, h2, h3, h4⟩
  · exact .inl ⟨rfl, fun j hj => h j (Nat.zero_le _) hj⟩
  · exact .inr ⟨by omega, by omega, p, h2, rfl, h3, fun j hj => h4 j (Nat.zero_le _) hj⟩
end
/-- free, as far as the first k lines say -/
def freeTo (ls : List Gr.Ln) (o : List Int) (i : Int) (k : Nat) : Bool := !o.contains i && (ls.take k).all fun p => decide (p.2 ≠ i) || o.contains p.1
theorem freeTo_zero (ls : List Gr.Ln) (o : List Int) (i : Int) : freeTo ls o i 0 = !o.contains i := by simp [freeTo]
theorem freeTo_step {ls : List Gr.Ln} {k : Nat} (hk : k < ls.length) (p : Gr.Ln) (hp : p = ls.getD k (0, 0)) (o : List Int) (i : Int) : freeTo ls o i (k + 1) = (freeTo ls o i k && (decide (p.2 ≠ i) || o.contains p.1)) := by
  unfold freeTo
  rw [List.take_succ_eq_append_getElem hk, List.all_append]
  have : ls[k] = p := by rw [hp]; simp [List.getD, hk]
  rw [this, ← Bool.and_assoc]
  simp
theorem freeTo_all (ls : List Gr.Ln) (o : List Int) (i : Int) : freeTo ls o i ls.length = freeAt ls o i := by simp [freeTo, freeAt]

/-! ### the most of the lines that come in -/
def Mst (ls : List Gr.Ln) (E : Nat → Nat) (i : Nat) (k : Nat) (m : Int) : Prop :=
  -1 ≤ m ∧ (∀ c : Nat, (((c : Int), (i : Int)) : Gr.Ln) ∈ ls.take k → (E c : Int) ≤ m) ∧ (m = -1 ∨ ∃ c : Nat, (((c : Int), (i : Int)) : Gr.Ln) ∈ ls.take k ∧ m = (E c : Int))
section
variable {ls : List Gr.Ln} {E : Nat → Nat} {i : Nat}
theorem Mst.start (ls : List Gr.Ln) (E : Nat → Nat) (i : Nat) : Mst ls E i 0 (-1) := ⟨by omega, fun c hc => absurd hc (by simp), .inl rfl⟩
theorem mem_next {k : Nat} (hk : k < ls.length) (p : Gr.Ln) (hp : p = ls.getD k (0, 0)) {q : Gr.Ln} : q ∈ ls.take (k + 1) ↔ q ∈ ls.take k ∨ q = p := by
  rw [List.take_succ_eq_append_getElem hk, List.mem_append, List.mem_singleton]
  have : ls[k] = p := by rw [hp]; simp [List.getD, hk]
  rw [this]
theorem Mst.skip {k : Nat} {m : Int} (h : Mst ls E i k m) (hk : k < ls.length) {p q : Int} (hp : (p, q) = ls.getD k (0, 0)) (hn : q ≠ (i : Int)) : Mst ls E i (k + 1) m := by
  refine ⟨h.1, fun c hc => ?_, h.2.2.imp id fun ⟨c, hc, e⟩ => ⟨c, (mem_next hk _ hp).2 (.inl hc), e⟩⟩
  rcases (mem_next hk _ hp).1 hc with hc | hc
  · exact h.2.1 c hc
  · exact absurd (Prod.mk.inj hc).2.symm hn
theorem Mst.less {k : Nat} {m : Int} (h : Mst ls E i k m) (hk : k < ls.length) {c : Nat} (hp : (((c : Int), (i : Int)) : Gr.Ln) = ls.getD k (0, 0)) (hl : ¬ m < (E c : Int)) : Mst ls E i (k + 1) m := by
  refine ⟨h.1, fun d hd => ?_, h.2.2.imp id fun ⟨d, hd, e⟩ => ⟨d, (mem_next hk _ hp).2 (.inl hd), e⟩⟩
  rcases (mem_next hk _ hp).1 hd with hd | hd
  · exact h.2.1 d hd
  · have : d = c := by have := (Prod.mk.inj hd).1; omega
    subst this
    omega
theorem Mst.more {k : Nat} {m : Int} (h : Mst ls E i k m) (hk : k < ls.length) {c : Nat} (hp : (((c : Int), (i : Int)) : Gr.Ln) = ls.getD k (0, 0)) (hl : m < (E c : Int)) : Mst ls E i (k + 1) (E c : Int) := by
  refine ⟨by omega, fun d hd => ?_, .inr ⟨c, (mem_next hk _ hp).2 (.inr rfl), rfl⟩⟩
  rcases (mem_next hk _ hp).1 hd with hd | hd
  · have := h.2.1 d hd; omega
  · have : d = c := by have := (Prod.mk.inj hd).1; omega
    subst this
    omega
theorem Mst.end_ {n : Nat} {m : Int} (h : Mst ls E i ls.length m) (hE : (∀ c : Nat, Gr.has ls (c : Int) (i : Int) = true → E c + 1 ≤ E i) ∧ (E i = 0 ∨ ∃ c : Nat, c < n ∧ Gr.has ls (c : Int) (i : Int) = true ∧ E i = E c + 1)) : (E i : Int) = m + 1 := by
  obtain ⟨h1, h2, h3⟩ := h
  rw [List.take_length] at h2 h3
  have a1 : m + 1 ≤ (E i : Int) := by
    rcases h3 with rfl | ⟨c, hc, rfl⟩
    · omega
    · have := hE.1 c (Gr.has_iff.2 hc); omega
  have a2 : (E i : Int) ≤ m + 1 := by
    rcases hE.2 with h4 | ⟨c, _, hc, h4⟩
    · omega
    · have := h2 c (Gr.has_iff.1 hc); omega
  omega
end

/-! ### the longest way -/
theorem top_deps {n : Nat} {ls : List Gr.Ln} {o : List Int} (hg : ∀ p ∈ ls, Gr.Good (n : Int) p) (hs : Step n ls o) (hl : o.length = n) {r : List Int} (h1 : r.Pairwise (· ≤ ·)) (h2 : r.Perm (deps n ls)) (h0 : 0 < n) : ∃ d : Nat, r.getD (n - 1) 0 = (d : Int) ∧ d < n ∧ Top n ls d := by
  obtain ⟨⟨i, hi, e⟩, hall⟩ := Ri.last_most h1 h2 (by rw [deps_len]; exact h0)
  rw [deps_len] at hi e hall
  rw [deps_at ls hi] at e
  refine ⟨dpF ls n (i : Int), e.symm, dep_small hg hs hl hi, Top.of (D := fun i => dpF ls n (i : Int)) (fun i hi => dp_all hg hs hl hi) ⟨i, hi, rfl⟩ fun j hj => ?_⟩
  have := hall j hj
  rw [deps_at ls hj] at this
  rw [← e] at this
  omega
end Go.Proofs.Ytinglgnddmadaaa.To
