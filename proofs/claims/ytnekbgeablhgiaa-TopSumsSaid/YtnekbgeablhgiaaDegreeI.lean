/-
  Plain facts on the reference's way to lines with given degrees, round by round, with no program in it. There is no condition.
-/
import Derived.Test.YtnekbgeablhgiaaDegreeH
import Derived.Test.YtnekbgeablhgiaaDegreeG
namespace Go.Proofs.Ytnekbgeablhgiaa.De

/-- the first greatest number below place i; 0 if there is none -/
def firstTo (ns : List Nat) (i : Nat) : Nat := (bestTo ns [] i).getD 0
theorem firstTo_zero (ns : List Nat) : firstTo ns 0 = 0 := rfl
theorem firstTo_all (ns : List Nat) : firstTo ns ns.length = first ns := rfl
theorem firstTo_lt {ns : List Nat} {n i : Nat} (hn : 0 < n) (hi : i ≤ n) : firstTo ns i < n := by
  unfold firstTo
  cases hb : bestTo ns [] i with
  | none => simpa using hn
  | some b =>
    have := (bestTo_some hb).1
    simp only [Option.getD_some]
    omega

/-- a place, or -1 -/
def encB : Option Nat → Int
  | none => -1
  | some b => (b : Int)
theorem bestTo_in {ns done : List Nat} {i : Nat} (h : done.contains i = true) : bestTo ns done (i + 1) = bestTo ns done i := by
  conv => lhs; unfold bestTo
  rw [if_pos h]
theorem bestTo_new {ns done : List Nat} {i : Nat} (h : done.contains i = false) (hb : bestTo ns done i = none) : bestTo ns done (i + 1) = some i := by
  conv => lhs; unfold bestTo
  rw [if_neg (by rw [h]; simp), hb]
theorem bestTo_more {ns done : List Nat} {i b : Nat} (h : done.contains i = false) (hb : bestTo ns done i = some b) (hlt : ns.getD b 0 < ns.getD i 0) : bestTo ns done (i + 1) = some i := by
  conv => lhs; unfold bestTo
  rw [if_neg (by rw [h]; simp), hb]
  simp only
  rw [if_pos hlt]
theorem bestTo_less {ns done : List Nat} {i b : Nat} (h : done.contains i = false) (hb : bestTo ns done i = some b) (hlt : ¬ ns.getD b 0 < ns.getD i 0) : bestTo ns done (i + 1) = some b := by
  conv => lhs; unfold bestTo
  rw [if_neg (by rw [h]; simp), hb]
  simp only
  rw [if_neg hlt]

theorem firstTo_succ (ns : List Nat) (i : Nat) : firstTo ns (i + 1) = if ns.getD (firstTo ns i) 0 < ns.getD i 0 then i else firstTo ns i := by
  unfold firstTo
  have hc : ([] : List Nat).contains i = false := rfl
  cases hb : bestTo ns [] i with
  | none =>
    have h0 : i = 0 := by
      rcases Nat.eq_zero_or_pos i with h | h
      · exact h
      · have := bestTo_none.1 hb 0 h
        cases this
    subst h0
    rw [bestTo_new hc hb]
    simp
  | some b =>
    simp only [Option.getD_some]
    by_cases hlt : ns.getD b 0 < ns.getD i 0
    · rw [bestTo_more hc hb hlt, if_pos hlt]; rfl
    · rw [bestTo_less hc hb hlt, if_neg hlt]; rfl

theorem picks_stop {ns : List Nat} {a k : Nat} {done : List Nat} (hp : picks ns a k = some done) (hb : bestTo ns done ns.length = none) : picks ns a (k + 1) = none := by
  conv => lhs; unfold picks
  rw [hp]
  simp only
  rw [hb]
theorem picks_zero {ns : List Nat} {a k b : Nat} {done : List Nat} (hp : picks ns a k = some done) (hb : bestTo ns done ns.length = some b) (h0 : ns.getD b 0 = 0) : picks ns a (k + 1) = none := by
  conv => lhs; unfold picks
  rw [hp]
  simp only
  rw [hb]
  simp only
  rw [if_pos h0]
theorem picks_on {ns : List Nat} {a k b : Nat} {done : List Nat} (hp : picks ns a k = some done) (hb : bestTo ns done ns.length = some b) (h0 : ns.getD b 0 ≠ 0) : picks ns a (k + 1) = some (done ++ [b]) := by
  conv => lhs; unfold picks
  rw [hp]
  simp only
  rw [hb]
  simp only
  rw [if_neg h0]
theorem picks_none_le {ns : List Nat} {a k : Nat} (h : picks ns a k = none) : ∀ {j : Nat}, k ≤ j → picks ns a j = none := by
  intro j
  induction j with
  | zero =>
    intro hj
    obtain rfl : k = 0 := by omega
    exact h
  | succ j ih =>
    intro hj
    by_cases e : k = j + 1
    · rw [← e]; exact h
    · conv => lhs; unfold picks
      rw [ih (by omega)]
theorem picked_of {ns rs bs : List Nat} {k : Nat} (hne : ns ≠ []) (e2 : (vals ns (rest ns.length [first ns])).Perm rs) (e3 : Fl rs) (h : picks ns (first ns) k = some (first ns :: bs)) : Picked ns (first ns) k rs bs := by
  have hlt := (first_spec hne).1
  cases he : enough k rs with
  | false =>
    rw [(picks_spec hlt e2 e3 k).2 he] at h
    cases h
  | true =>
    obtain ⟨bs', p1, p2⟩ := (picks_spec hlt e2 e3 k).1 he
    rw [p1] at h
    simp only [Option.some.injEq, List.cons.injEq, true_and] at h
    subst h
    exact p2
/-- what is still to be given to one that is not picked yet -/
theorem nextOf_at {ns bs : List Nat} {k b : Nat} (hne : ns ≠ []) (h : picks ns (first ns) k = some (first ns :: bs)) (hb : b ∉ first ns :: bs) : (nextOf ns (first ns) bs).getD b 0 = ns.getD b 0 := by
  obtain ⟨rs, _, e2, e3⟩ := fall_first hne
  have hP := picked_of hne e2 e3 h
  rw [nextOf_getD hP.nodup hP.below, if_neg (fun e : b = first ns => hb (by simp [e])), if_neg (fun e : b ∈ bs => hb (List.mem_cons_of_mem _ e))]
theorem nz_round {ns bs : List Nat} {k : Nat} (hne : ns ≠ []) (h0 : ns.getD (first ns) 0 ≠ 0) (h : picks ns (first ns) k = some (first ns :: bs)) : nz (nextOf ns (first ns) bs) < nz ns := by
  obtain ⟨rs, e1, e2, e3⟩ := fall_first hne
  exact nz_next e1 h0 (picked_of hne e2 e3 h)
theorem foldl_le : ∀ (bs nx : List Nat), (∀ x ∈ nx, x ≤ 7) → ∀ x ∈ bs.foldl (fun nx b => nx.set b (nx.getD b 0 - 1)) nx, x ≤ 7 := by
  intro bs
  induction bs with
  | nil => intro nx h; exact h
  | cons b bs ih =>
    intro nx h
    refine ih _ fun x hx => ?_
    rcases List.mem_or_eq_of_mem_set hx with hx | rfl
    · exact h x hx
    · have : nx.getD b 0 ≤ 7 := by
        simp only [List.getD]
        cases hb : nx[b]? with
        | none => simp
        | some y => exact h y (List.mem_of_getElem? hb)
      omega
theorem nextOf_le {ns : List Nat} (h : ∀ x ∈ ns, x ≤ 7) (a : Nat) (bs : List Nat) : ∀ x ∈ nextOf ns a bs, x ≤ 7 := by
  refine foldl_le bs _ fun x hx => ?_
  rcases List.mem_or_eq_of_mem_set hx with hx | rfl
  · exact h x hx
  · omega
theorem le_getD {ns : List Nat} (h : ∀ x ∈ ns, x ≤ 7) (b : Nat) : ns.getD b 0 ≤ 7 := by
  simp only [List.getD]
  cases hb : ns[b]? with
  | none => simp
  | some y => exact h y (List.mem_of_getElem? hb)

theorem havel_end {f : Nat} {ns : List Nat} (hf : 0 < f) (h0 : ns.getD (first ns) 0 = 0) : havel f ns = some [] := by
  cases f with
  | zero => omega
  | succ f => unfold havel; rw [if_pos h0]
theorem havel_fail {f : Nat} {ns : List Nat} (h0 : ns.getD (first ns) 0 ≠ 0) (hp : picks ns (first ns) (ns.getD (first ns) 0) = none) : havel f ns = none := by
  cases f with
  | zero => rfl
  | succ f => unfold havel; rw [if_neg h0, hp]
theorem havel_go {f : Nat} {ns bs : List Nat} (h0 : ns.getD (first ns) 0 ≠ 0) (hp : picks ns (first ns) (ns.getD (first ns) 0) = some (first ns :: bs)) : havel (f + 1) ns = (havel f (nextOf ns (first ns) bs)).map fun r => bs.map (lineOf (first ns)) ++ r := by
  conv => lhs; unfold havel
  rw [if_neg h0, hp]
  simp only [List.tail_cons]
  cases havel f (nextOf ns (first ns) bs) <;> rfl
/-- what came before stays in front -/
def onto (os : List Gr.Ln) (r : Option (List Gr.Ln)) : Option (List Gr.Ln) := r.map fun x => os ++ x
theorem onto_nil (r : Option (List Gr.Ln)) : onto [] r = r := by cases r <;> rfl
theorem onto_go {f : Nat} {ns bs : List Nat} {os : List Gr.Ln} (h0 : ns.getD (first ns) 0 ≠ 0) (hp : picks ns (first ns) (ns.getD (first ns) 0) = some (first ns :: bs)) : onto os (havel (f + 1) ns) = onto (os ++ bs.map (lineOf (first ns))) (havel f (nextOf ns (first ns) bs)) := by
  rw [havel_go h0 hp]
  unfold onto
  cases havel f (nextOf ns (first ns) bs) with
  | none => rfl
  | some r => simp
theorem nz_le (l : List Nat) : nz l ≤ l.length := List.countP_le_length
theorem up_contains (l : List Nat) (i : Nat) : (up l).contains (i : Int) = l.contains i := by
  rw [Bool.eq_iff_iff, List.contains_iff_mem, List.contains_iff_mem, up_mem]
  constructor
  · rintro ⟨x, hx, e⟩
    obtain rfl : x = i := by omega
    exact hx
  · intro h; exact ⟨i, h, rfl⟩
theorem up_set (l : List Nat) (i x : Nat) : (up l).set i (x : Int) = up (l.set i x) := by simp [up, List.map_set]
theorem up_app (l l' : List Nat) : up (l ++ l') = up l ++ up l' := by simp [up]
theorem lineOf_lt {a b : Nat} (h : a < b) : lineOf a b = ((a : Int), (b : Int)) := if_pos h
theorem lineOf_ge {a b : Nat} (h : ¬ a < b) : lineOf a b = ((b : Int), (a : Int)) := if_neg h
/-- the reference's answer is the test's -/
theorem havel_can {l : List Int} (h : code l = 0) : (havel 9 (l.map Int.toNat)).isSome = can l := by
  obtain ⟨h1, h8, hok⟩ := code_zero.1 h
  have hne : l.map Int.toNat ≠ [] := by
    intro e
    have := congrArg List.length e
    simp at this
    subst this
    simp at h1
  rw [havel_hh 9 _ hne]
  unfold can fl
  refine hh_eg (fall_fl _) (by rw [fall_len, List.length_map]; exact h8) fun x hx => ?_
  obtain ⟨d, hd, rfl⟩ := List.mem_map.1 (mem_fall.1 hx)
  have := hok d hd
  omega

end Go.Proofs.Ytnekbgeablhgiaa.De
