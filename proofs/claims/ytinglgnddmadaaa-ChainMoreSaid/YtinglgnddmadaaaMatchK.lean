/-
  Plain facts on pairing one after the other by ways that swap, with no program in them: what one try leaves behind, and that after all tries there are as many pairs as there can be. No statement of the program is proved here; there is no condition.
-/
import Derived.Test.YtinglgnddmadaaaMatchN
import Derived.Test.YtinglgnddmadaaaGraph
set_option linter.unusedSimpArgs false
set_option linter.unusedVariables false
namespace Go.Proofs.Ytinglgnddmadaaa.Ma

/-- who has a line to whom -/
def gl (ls : List Gr.Ln) : Nat → Nat → Bool := fun i j => Gr.has ls (i : Int) (j : Int)
/-- those that one has lines to, in the order of the lines -/
def jl (ls : List Gr.Ln) (a : Int) : List Int := (ls.filter fun p => decide (p.1 = a)).map Prod.snd
theorem mem_jl {ls : List Gr.Ln} {a b : Int} : b ∈ jl ls a ↔ Gr.has ls a b = true := by
  unfold jl Gr.has
  simp only [List.mem_map, List.mem_filter, decide_eq_true_eq, List.contains_iff_mem]
  constructor
  · rintro ⟨⟨x, y⟩, ⟨h1, h2⟩, h3⟩
    simp only at h2 h3
    subst h2 h3
    exact h1
  · intro h
    exact ⟨(a, b), ⟨h, rfl⟩, rfl⟩

/-- who is paired -/
def fr (par : List Int) : List Int := par.filter fun x => decide (0 ≤ x)
/-- pairs have lines -/
def Ok (ls : List Gr.Ln) (l r : Nat) (par : List Int) : Prop := par.length = r ∧ ∀ b, b < r → par.getD b (-1) = -1 ∨ (0 ≤ par.getD b (-1) ∧ par.getD b (-1) < (l : Int) ∧ Gr.has ls (par.getD b (-1)) (b : Int) = true)
/-- a set on the right that is all paired, and whose partners have no line out of it -/
def Shut (ls : List Gr.Ln) (r : Nat) (par : List Int) (T : Nat → Bool) : Prop := ∀ b, b < r → T b = true → 0 ≤ par.getD b (-1) ∧ ∀ j, j < r → Gr.has ls (par.getD b (-1)) (j : Int) = true → T j = true
/-- behind a try that went well -/
structure Yes (ls : List Gr.Ln) (l r : Nat) (a : Int) (ask : List Bool) (par par' : List Int) : Prop where
  ok : Ok ls l r par'
  perm : (fr par').Perm (a :: fr par)
  keep : ∀ b, b < r → ask.getD b false = true → par'.getD b (-1) = par.getD b (-1)
  out : ∀ T, Shut ls r par T → (∃ j, j < r ∧ Gr.has ls a (j : Int) = true ∧ T j = false) ∧ ∀ b, b < r → T b = true → par'.getD b (-1) = par.getD b (-1)
/-- all newly asked are paired, and their partners have lines only to those that are asked -/
structure Mid (ls : List Gr.Ln) (r : Nat) (par : List Int) (ask ask' : List Bool) : Prop where
  len : ask'.length = r
  grow : ∀ b, b < r → ask.getD b false = true → ask'.getD b false = true
  shut : ∀ b, b < r → ask'.getD b false = true → ask.getD b false = true ∨ (0 ≤ par.getD b (-1) ∧ ∀ j, j < r → Gr.has ls (par.getD b (-1)) (j : Int) = true → ask'.getD j false = true)
/-- behind a try that did not -/
structure No (ls : List Gr.Ln) (r : Nat) (a : Int) (par : List Int) (ask ask' : List Bool) : Prop where
  mid : Mid ls r par ask ask'
  all : ∀ j, j < r → Gr.has ls a (j : Int) = true → ask'.getD j false = true

theorem getD_set {α : Type} (xs : List α) (i j : Nat) (x d : α) (hi : i < xs.length) : (xs.set i x).getD j d = if j = i then x else xs.getD j d := by
  simp only [List.getD, List.getElem?_set]
  by_cases e : i = j
  · subst e; simp [hi]
  · have : ¬ j = i := fun h => e h.symm
    simp [e, this]
theorem set_perm (x : Int) : ∀ (xs : List Int) (i : Nat), i < xs.length → (xs.getD i (-1) :: xs.set i x).Perm (x :: xs)
  | [], i, h => by simp at h
  | y :: ys, 0, h => by simp; exact List.Perm.swap _ _ _
  | y :: ys, i + 1, h => by
    have ih := set_perm x ys i (by simpa using h)
    simp only [List.getD_cons_succ, List.set_cons_succ]
    exact (List.Perm.swap _ _ _).trans ((ih.cons y).trans (List.Perm.swap _ _ _))
theorem fr_new {par : List Int} {b : Nat} {a : Int} (hb : b < par.length) (ha : 0 ≤ a) (h : par.getD b (-1) = -1) : (fr (par.set b a)).Perm (a :: fr par) := by
  have := (set_perm a par b hb).filter fun x => decide (0 ≤ x)
  rw [h] at this
  rw [List.filter_cons_of_neg (by decide), List.filter_cons_of_pos (by simpa using ha)] at this
  exact this
theorem fr_swap {par : List Int} {b : Nat} {a : Int} (hb : b < par.length) (ha : 0 ≤ a) (h : 0 ≤ par.getD b (-1)) : (par.getD b (-1) :: fr (par.set b a)).Perm (a :: fr par) := by
  have := (set_perm a par b hb).filter fun x => decide (0 ≤ x)
  rw [List.filter_cons_of_pos (by simpa using h), List.filter_cons_of_pos (by simpa using ha)] at this
  exact this

section
variable {ls : List Gr.Ln} {l r : Nat} {a : Int} {ask ask' : List Bool} {par par' : List Int}
theorem Mid.refl (h : ask.length = r) : Mid ls r par ask ask := ⟨h, fun _ _ h => h, fun _ _ h => .inl h⟩
theorem Ok.set (h : Ok ls l r par) {b : Nat} (hb : b < r) (ha : 0 ≤ a) (hal : a < (l : Int)) (hg : Gr.has ls a (b : Int) = true) : Ok ls l r (par.set b a) := by
  refine ⟨by rw [List.length_set]; exact h.1, fun j hj => ?_⟩
  rw [getD_set _ _ _ _ _ (by rw [h.1]; exact hb)]
  by_cases e : j = b
  · subst e; simp only [if_true]; exact .inr ⟨ha, hal, hg⟩
  · rw [if_neg e]; exact h.2 j hj
/-- one that is free -/
theorem Mid.free (hm : Mid ls r par ask ask') (hok : Ok ls l r par) {b : Nat} (hb : b < r) (ha : 0 ≤ a) (hal : a < (l : Int)) (hg : Gr.has ls a (b : Int) = true) (hn : ask'.getD b false = false) (hf : par.getD b (-1) = -1) : Yes ls l r a ask par (par.set b a) := by
  have hbl : b < par.length := by rw [hok.1]; exact hb
  refine ⟨hok.set hb ha hal hg, fr_new hbl ha hf, fun j hj hjt => ?_, fun T hT => ⟨⟨b, hb, hg, ?_⟩, fun j hj hjT => ?_⟩⟩
  · rw [getD_set _ _ _ _ _ hbl, if_neg]
    rintro rfl
    have := hm.grow j hj hjt
    rw [hn] at this
    cases this
  · cases h : T b
    · rfl
    · have := (hT b hb h).1
      omega
  · rw [getD_set _ _ _ _ _ hbl, if_neg]
    rintro rfl
    have := (hT j hj hjT).1
    omega
/-- one whose partner finds another -/
theorem Mid.swap (hm : Mid ls r par ask ask') (hok : Ok ls l r par) {b : Nat} (hb : b < r) (ha : 0 ≤ a) (hal : a < (l : Int)) (hg : Gr.has ls a (b : Int) = true) (hn : ask'.getD b false = false) (hf : 0 ≤ par.getD b (-1))
    (hy : Yes ls l r (par.getD b (-1)) (ask'.set b true) par par') : Yes ls l r a ask par (par'.set b a) := by
  have hbl : b < par'.length := by rw [hy.ok.1]; exact hb
  have hba : b < ask'.length := by rw [hm.len]; exact hb
  have hsame : par'.getD b (-1) = par.getD b (-1) := hy.keep b hb (by rw [getD_set _ _ _ _ _ hba, if_pos rfl])
  refine ⟨hy.ok.set hb ha hal hg, ?_, fun j hj hjt => ?_, fun T hT => ?_⟩
  · have h1 := fr_swap hbl ha (by rw [hsame]; exact hf)
    rw [hsame] at h1
    exact ((h1.trans (hy.perm.cons a)).trans (List.Perm.swap _ _ _)).cons_inv
  · have hjb : j ≠ b := by
      rintro rfl
      have := hm.grow j hj hjt
      rw [hn] at this
      cases this
    rw [getD_set _ _ _ _ _ hbl, if_neg hjb]
    exact hy.keep j hj (by rw [getD_set _ _ _ _ _ hba, if_neg hjb]; exact hm.grow j hj hjt)
  · obtain ⟨⟨j, hj, h1, h2⟩, h3⟩ := hy.out T hT
    have hTb : T b = false := by
      cases h : T b
      · rfl
      · have := (hT b hb h).2 j hj h1
        rw [h2] at this
        cases this
    refine ⟨⟨b, hb, hg, hTb⟩, fun i hi hiT => ?_⟩
    rw [getD_set _ _ _ _ _ hbl, if_neg, h3 i hi hiT]
    rintro rfl
    rw [hTb] at hiT
    cases hiT
/-- one whose partner finds none -/
theorem Mid.fail {ask2 : List Bool} (hm : Mid ls r par ask ask') {b : Nat} (hb : b < r) (hf : 0 ≤ par.getD b (-1)) (hno : No ls r (par.getD b (-1)) par (ask'.set b true) ask2) : Mid ls r par ask ask2 ∧ ask2.getD b false = true ∧ ∀ j, j < r → ask'.getD j false = true → ask2.getD j false = true := by
  have hba : b < ask'.length := by rw [hm.len]; exact hb
  have hset : ∀ j, (ask'.set b true).getD j false = if j = b then true else ask'.getD j false := fun j => getD_set _ _ _ _ _ hba
  have hup : ∀ j, j < r → ask'.getD j false = true → ask2.getD j false = true := fun j hj h => hno.mid.grow j hj (by rw [hset]; split <;> simp_all)
  have hbt : ask2.getD b false = true := hno.mid.grow b hb (by rw [hset, if_pos rfl])
  refine ⟨⟨hno.mid.len, fun j hj h => hup j hj (hm.grow j hj h), fun j hj h => ?_⟩, hbt, hup⟩
  rcases hno.mid.shut j hj h with h1 | h1
  · rw [hset] at h1
    by_cases e : j = b
    · subst e
      exact .inr ⟨hf, fun i hi hg => hno.all i hi hg⟩
    · rw [if_neg e] at h1
      rcases hm.shut j hj h1 with h2 | h2
      · exact .inl h2
      · exact .inr ⟨h2.1, fun i hi hg => hup i hi (h2.2 i hi hg)⟩
  · exact .inr h1

/-- how many are not asked yet -/
def opn (ask : List Bool) : Nat := ask.countP fun b => !b
theorem opn_set : ∀ (ask : List Bool) (b : Nat), b < ask.length → ask.getD b false = false → opn (ask.set b true) + 1 = opn ask
  | [], b, h, _ => by simp at h
  | x :: xs, 0, _, hx => by
    obtain rfl : x = false := by simpa using hx
    simp [opn]
  | x :: xs, b + 1, h, hx => by
    have ih := opn_set xs b (by simpa using h) (by simpa using hx)
    unfold opn at ih ⊢
    rw [List.set_cons_succ, List.countP_cons, List.countP_cons]
    omega
theorem opn_le : ∀ (xs ys : List Bool), xs.length = ys.length → (∀ b, b < xs.length → xs.getD b false = true → ys.getD b false = true) → opn ys ≤ opn xs
  | [], ys, h, _ => by
    obtain rfl : ys = [] := List.eq_nil_of_length_eq_zero h.symm
    exact Nat.le_refl _
  | x :: xs, [], h, _ => by simp at h
  | x :: xs, y :: ys, h, hg => by
    have ih := opn_le xs ys (by simpa using h) (fun b hb hx => by have := hg (b + 1) (by simpa using hb) (by simpa using hx); simpa using this)
    have h0 := hg 0 (by simp)
    simp only [List.getD_cons_zero] at h0
    unfold opn at ih ⊢
    rw [List.countP_cons, List.countP_cons]
    cases x
    · cases y <;> simp <;> omega
    · rw [h0 rfl]; simp; omega
theorem Mid.opn (hm : Mid ls r par ask ask') (h : ask.length = r) : opn ask' ≤ opn ask := opn_le _ _ (by rw [h, hm.len]) (fun b hb => hm.grow b (by rw [← h]; exact hb))

/-! ### one after the other -/
/-- i on the left have had their try, s of them are paired -/
structure Run (ls : List Gr.Ln) (l r : Nat) (i s : Nat) (par : List Int) : Prop where
  ok : Ok ls l r par
  nodup : (fr par).Nodup
  lt : ∀ x ∈ fr par, x < (i : Int)
  len : (fr par).length = s
  shut : ∃ T, Shut ls r par T ∧ ∀ k : Nat, k < i → (k : Int) ∉ fr par → ∀ j, j < r → Gr.has ls (k : Int) (j : Int) = true → T j = true
theorem Run.start (ls : List Gr.Ln) (l r : Nat) : Run ls l r 0 0 (List.replicate r (-1)) := by
  have h : fr (List.replicate r (-1)) = [] := List.filter_eq_nil_iff.2 fun x hx => by
    rw [(List.mem_replicate.1 hx).2]
    decide
  refine ⟨⟨by simp, fun b hb => .inl (by simp [List.getD, hb])⟩, by rw [h]; exact List.nodup_nil, by rw [h]; simp, by rw [h]; rfl, ⟨fun _ => false, ⟨fun b _ hb => (nomatch hb), fun k hk => by omega⟩⟩⟩
theorem Run.yes {i s : Nat} (h : Run ls l r i s par) (hil : i < l) (hy : Yes ls l r (i : Int) (List.replicate r false) par par') : Run ls l r (i + 1) (s + 1) par' := by
  have hni : (i : Int) ∉ fr par := fun hh => by have := h.lt _ hh; omega
  refine ⟨hy.ok, hy.perm.nodup_iff.2 (List.nodup_cons.2 ⟨hni, h.nodup⟩), fun x hx => ?_, by rw [hy.perm.length_eq, List.length_cons, h.len], ?_⟩
  · rcases List.mem_cons.1 (hy.perm.mem_iff.1 hx) with rfl | hx
    · omega
    · have := h.lt x hx
      omega
  · obtain ⟨T, hT, hk⟩ := h.shut
    obtain ⟨_, hsame⟩ := hy.out T hT
    refine ⟨T, fun b hb hTb => ?_, fun k hk1 hk2 => ?_⟩
    · rw [hsame b hb hTb]
      exact hT b hb hTb
    · have hk3 : (k : Int) ∉ (i : Int) :: fr par := fun hh => hk2 (hy.perm.mem_iff.2 hh)
      have hne : k ≠ i := fun e => hk3 (by rw [e]; exact List.mem_cons_self)
      exact hk k (by omega) (fun hh => hk3 (List.mem_cons_of_mem _ hh))
theorem Run.no {i s : Nat} (h : Run ls l r i s par) (hn : No ls r (i : Int) par (List.replicate r false) ask') : Run ls l r (i + 1) s par := by
  refine ⟨h.ok, h.nodup, fun x hx => by have := h.lt x hx; omega, h.len, ?_⟩
  obtain ⟨T, hT, hk⟩ := h.shut
  have hrep : ∀ b, ¬ (List.replicate r false).getD b false = true := fun b hh => by
    simp only [List.getD] at hh
    rcases Nat.lt_or_ge b r with hb | hb
    · simp [hb] at hh
    · rw [List.getElem?_eq_none (by simpa using hb)] at hh; cases hh
  refine ⟨fun b => T b || ask'.getD b false, fun b hb hTb => ?_, fun k hk1 hk2 j hj hg => ?_⟩
  · rcases Bool.or_eq_true_iff.1 hTb with h1 | h1
    · exact ⟨(hT b hb h1).1, fun j hj hg => by show (T j || ask'.getD j false) = true; rw [(hT b hb h1).2 j hj hg, Bool.true_or]⟩
    · rcases hn.mid.shut b hb h1 with h2 | h2
      · exact absurd h2 (hrep b)
      · exact ⟨h2.1, fun j hj hg => by show (T j || ask'.getD j false) = true; rw [h2.2 j hj hg, Bool.or_true]⟩
  · show (T j || ask'.getD j false) = true
    by_cases e : k = i
    · subst e
      rw [hn.all j hj hg, Bool.or_true]
    · rw [hk k (by omega) hk2 j hj hg, Bool.true_or]

theorem list_range (xs : List Int) : xs = (List.range xs.length).map fun b => xs.getD b (-1) := by
  refine List.ext_getElem (by simp) fun i h1 h2 => ?_
  simp [List.getD, h1]
theorem fr_range (hl : par.length = r) : fr par = ((List.range r).filter fun b => decide (0 ≤ par.getD b (-1))).map fun b => par.getD b (-1) := by
  conv => lhs; rw [list_range par]
  unfold fr
  rw [List.filter_map, hl]
  rfl
/-- all have had their try: there are as many pairs as there can be -/
theorem Run.done {s : Nat} (h : Run ls l r l s par) : nu (gl ls) l r = s := by
  have hfr := fr_range h.ok.1
  have hs : ((List.range r).filter fun b => decide (0 ≤ par.getD b (-1))).length = s := by
    have := h.len
    rw [hfr, List.length_map] at this
    exact this
  refine Nat.le_antisymm ?_ ?_
  · obtain ⟨T, hT, hk⟩ := h.shut
    -- those with no line out of T
    let S : Nat → Bool := fun k => (List.range r).all fun j => !Gr.has ls (k : Int) (j : Int) || T j
    have hS : ∀ k, S k = true ↔ ∀ j, j < r → Gr.has ls (k : Int) (j : Int) = true → T j = true := fun k => by
      simp only [S, List.all_eq_true, List.mem_range, Bool.or_eq_true, Bool.not_eq_true']
      constructor
      · intro hh j hj hg
        rcases hh j hj with h1 | h1
        · rw [hg] at h1; cases h1
        · exact h1
      · intro hh j hj
        cases hg : Gr.has ls (k : Int) (j : Int)
        · exact .inl rfl
        · exact .inr (hh j hj hg)
    refine pairs_ge (S := S) ?_
    have h1 : cnt r (nbr (gl ls) l S) ≤ cnt r T := cnt_mono fun j hj hh => by
      obtain ⟨k, _, h2, h3⟩ := nbr_iff.1 hh
      exact (hS k).1 h2 j hj h3
    have h2 := cnt_not l S
    have h3 : ((List.range l).filter fun k => !S k).length ≤ (((List.range r).filter fun b => decide (0 ≤ par.getD b (-1)) && !T b).map fun b => (par.getD b (-1)).toNat).length := by
      refine List.Nodup.length_le_of_subset (List.nodup_range.sublist List.filter_sublist) fun k hk2 => ?_
      obtain ⟨hk3, hk4⟩ := List.mem_filter.1 hk2
      have hkl := List.mem_range.1 hk3
      have hmem : (k : Int) ∈ fr par := by
        rcases Classical.em ((k : Int) ∈ fr par) with hh | hh
        · exact hh
        · have := (hS k).2 (hk k hkl hh)
          rw [this] at hk4
          cases hk4
      rw [hfr] at hmem
      obtain ⟨b, hb, hbk⟩ := List.mem_map.1 hmem
      obtain ⟨hb1, hb2⟩ := List.mem_filter.1 hb
      refine List.mem_map.2 ⟨b, List.mem_filter.2 ⟨hb1, ?_⟩, by rw [hbk]; omega⟩
      rw [hb2, Bool.true_and]
      cases hTb : T b
      · rfl
      · have h4 := (hT b (List.mem_range.1 hb1) hTb).2
        rw [hbk] at h4
        have := (hS k).2 h4
        rw [this] at hk4
        cases hk4
    rw [List.length_map, ← List.countP_eq_length_filter, ← List.countP_eq_length_filter] at h3
    have h4 := countP_or_and (fun b => decide (0 ≤ par.getD b (-1)) && !T b) T (List.range r)
    have h5 : (List.range r).countP (fun b => (decide (0 ≤ par.getD b (-1)) && !T b) && T b) = 0 := List.countP_eq_zero.2 fun b _ => by cases T b <;> simp
    have h6 : (List.range r).countP (fun b => (decide (0 ≤ par.getD b (-1)) && !T b) || T b) = (List.range r).countP fun b => decide (0 ≤ par.getD b (-1)) := countP_eq fun b hb => by
      cases hTb : T b
      · simp
      · have := (hT b (List.mem_range.1 hb) hTb).1
        rw [decide_eq_true this]
        rfl
    rw [← List.countP_eq_length_filter] at hs
    unfold cnt at h1 h2 ⊢
    omega
  · have hle := pairs_le (G := gl ls) (l := l) (r := r) (M := ((List.range r).filter fun b => decide (0 ≤ par.getD b (-1))).map fun b => ((par.getD b (-1)).toNat, b)) ?_ ?_ ?_
    · rw [List.length_map, hs] at hle
      exact hle
    · intro p hp
      obtain ⟨b, hb, rfl⟩ := List.mem_map.1 hp
      obtain ⟨hb1, hb2⟩ := List.mem_filter.1 hb
      have hbr := List.mem_range.1 hb1
      have hb3 : 0 ≤ par.getD b (-1) := of_decide_eq_true hb2
      rcases h.ok.2 b hbr with h1 | ⟨_, h2, h3⟩
      · omega
      · refine ⟨by simp only; omega, hbr, ?_⟩
        unfold gl
        simp only
        rw [Int.toNat_of_nonneg hb3]
        exact h3
    · rw [List.map_map]
      have hn := h.nodup
      rw [hfr] at hn
      unfold List.Nodup at hn ⊢
      rw [List.pairwise_map] at hn ⊢
      refine hn.imp_of_mem fun {x y} hx hy hxy e => hxy ?_
      have hx3 : 0 ≤ par.getD x (-1) := of_decide_eq_true (List.mem_filter.1 hx).2
      have hy3 : 0 ≤ par.getD y (-1) := of_decide_eq_true (List.mem_filter.1 hy).2
      have e' : (par.getD x (-1)).toNat = (par.getD y (-1)).toNat := e
      omega
    · rw [List.map_map]
      have : (Prod.snd ∘ fun b : Nat => ((par.getD b (-1)).toNat, b)) = id := rfl
      rw [this, List.map_id]
      exact List.nodup_range.sublist List.filter_sublist
end

/-! ### what is wrong with two sides and lines -/
/-- the first wrong line -/
def fault (l r : Int) : List Gr.Ln → Int
  | [] => 0
  | p :: ps => if p.1 < 0 ∨ l ≤ p.1 ∨ p.2 < 0 ∨ r ≤ p.2 then 1 else fault l r ps
def code (l r : Int) (ls : List Gr.Ln) : Int := if l < 0 ∨ 6 < l ∨ r < 0 ∨ 6 < r then 1 else if 24 < ls.length then 4 else fault l r ls
theorem fault_bad {l r : Int} {ls : List Gr.Ln} {k : Nat} (hk : k < ls.length) (h : (ls.getD k (0, 0)).1 < 0 ∨ l ≤ (ls.getD k (0, 0)).1 ∨ (ls.getD k (0, 0)).2 < 0 ∨ r ≤ (ls.getD k (0, 0)).2) : fault l r (ls.drop k) = 1 := by
  rw [List.drop_eq_getElem_cons hk, fault, if_pos]
  simpa [List.getD, hk] using h
theorem fault_on {l r : Int} {ls : List Gr.Ln} {k : Nat} (hk : k < ls.length) (h : ¬ ((ls.getD k (0, 0)).1 < 0 ∨ l ≤ (ls.getD k (0, 0)).1 ∨ (ls.getD k (0, 0)).2 < 0 ∨ r ≤ (ls.getD k (0, 0)).2)) : fault l r (ls.drop k) = fault l r (ls.drop (k + 1)) := by
  rw [List.drop_eq_getElem_cons hk, fault, if_neg]
  simpa [List.getD, hk] using h
/-- a good line -/
def Good (l r : Int) (p : Gr.Ln) : Prop := 0 ≤ p.1 ∧ p.1 < l ∧ 0 ≤ p.2 ∧ p.2 < r
theorem fault_zero {l r : Int} : ∀ {ls : List Gr.Ln}, fault l r ls = 0 ↔ ∀ p ∈ ls, Good l r p := by
  intro ls
  induction ls with
  | nil => simp [fault]
  | cons p ps ih =>
    unfold fault
    split
    · rename_i h
      constructor
      · intro h0; omega
      · intro hg
        have := hg p (by simp)
        unfold Good at this
        omega
    · rename_i h
      rw [ih]
      constructor
      · intro hg q hq
        rcases List.mem_cons.1 hq with rfl | hq
        · unfold Good; omega
        · exact hg q hq
      · intro hg q hq
        exact hg q (List.mem_cons_of_mem _ hq)
theorem code_zero {l r : Int} {ls : List Gr.Ln} : code l r ls = 0 ↔ 0 ≤ l ∧ l ≤ 6 ∧ 0 ≤ r ∧ r ≤ 6 ∧ ls.length ≤ 24 ∧ ∀ p ∈ ls, Good l r p := by
  unfold code
  split
  · constructor
    · intro h; omega
    · intro h; omega
  · split
    · constructor
      · intro h; omega
      · intro h; omega
    · rw [fault_zero]
      constructor
      · intro h; exact ⟨by omega, by omega, by omega, by omega, by omega, h⟩
      · intro h; exact h.2.2.2.2.2
theorem fault_cases (l r : Int) : ∀ ls : List Gr.Ln, fault l r ls = 0 ∨ fault l r ls = 1
  | [] => .inl rfl
  | p :: ps => by
    unfold fault
    split
    · exact .inr rfl
    · exact fault_cases l r ps
theorem code_cases (l r : Int) (ls : List Gr.Ln) : code l r ls = 0 ∨ code l r ls = 1 ∨ code l r ls = 4 := by
  unfold code
  split
  · exact .inr (.inl rfl)
  · split
    · exact .inr (.inr rfl)
    · rcases fault_cases l r ls with h | h
      · exact .inl h
      · exact .inr (.inl h)
/-- both sides as they are counted -/
theorem code_nat {l r : Int} {ls : List Gr.Ln} (h : code l r ls = 0) : ∃ m n : Nat, l = (m : Int) ∧ r = (n : Int) ∧ m ≤ 6 ∧ n ≤ 6 := by
  have := code_zero.1 h
  exact ⟨l.toNat, r.toNat, by omega, by omega, by omega, by omega⟩
/-- the lines without one on the left -/
def wl (ls : List Gr.Ln) (a : Int) : List Gr.Ln := ls.filter fun p => !decide (p.1 = a)
theorem wl_len (ls : List Gr.Ln) (a : Int) : (wl ls a).length ≤ ls.length := List.length_filter_le _ _
theorem wl_gl (ls : List Gr.Ln) (a : Nat) : gl (wl ls (a : Int)) = wo (gl ls) a := by
  funext i j
  unfold gl wo wl Gr.has
  rw [Bool.eq_iff_iff]
  simp only [List.contains_iff_mem, List.mem_filter, Bool.and_eq_true, Bool.not_eq_true', decide_eq_false_iff_not]
  constructor
  · rintro ⟨h1, h2⟩; exact ⟨fun e => h2 (by omega), h1⟩
  · rintro ⟨h1, h2⟩; exact ⟨h2, fun e => h1 (by omega)⟩
theorem wl_code {l r : Int} {ls : List Gr.Ln} (h : code l r ls = 0) (a : Int) : code l r (wl ls a) = 0 := by
  have := code_zero.1 h
  have h2 := wl_len ls a
  exact code_zero.2 ⟨this.1, this.2.1, this.2.2.1, this.2.2.2.1, by omega, fun p hp => this.2.2.2.2.2 p (List.mem_filter.1 hp).1⟩

end Go.Proofs.Ytinglgnddmadaaa.Ma
