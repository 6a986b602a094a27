/-
  Plain facts on all ways as lines, row by row, with no program in them: how they are put down one by one, and how many there are at most where no point comes back to itself. No statement of the program is proved here; there is no condition.
-/
import Derived.Test.YtinglgnddmadaaaChainP
import Derived.Test.YtinglgnddmadaaaMatchK
set_option linter.unusedSimpArgs false
set_option linter.unusedVariables false
namespace Go.Proofs.Ytinglgnddmadaaa.Cn
open To (comes Step dpF)

/-- the lines of the rows ahead of a, and the first k of row a -/
def cpt (n : Nat) (ls : List Gr.Ln) (a k : Nat) : List Gr.Ln := ((List.range a).flatMap fun x => (Cl.crow n ls x).map fun y => ((x : Int), y)) ++ ((Cl.crow n ls a).take k).map fun y => ((a : Int), y)
theorem cpt_zero (n : Nat) (ls : List Gr.Ln) : cpt n ls 0 0 = [] := by simp [cpt]
theorem cpt_step {n : Nat} {ls : List Gr.Ln} {a k : Nat} (hk : k < (Cl.crow n ls a).length) {x : Int} (hx : (Cl.crow n ls a).getD k 0 = x) : cpt n ls a (k + 1) = cpt n ls a k ++ [((a : Int), x)] := by
  have e : (Cl.crow n ls a)[k] = x := by rw [← hx]; simp [List.getD, hk]
  unfold cpt
  rw [List.take_succ_eq_append_getElem hk, List.map_append, e, List.append_assoc]
  rfl
theorem cpt_row (n : Nat) (ls : List Gr.Ln) (a : Nat) : cpt n ls a (Cl.crow n ls a).length = cpt n ls (a + 1) 0 := by
  unfold cpt
  rw [List.take_length, List.range_succ, List.flatMap_append]
  simp
theorem cpt_end (n : Nat) (ls : List Gr.Ln) : cpt n ls n 0 = Cl.clos n ls := by
  unfold cpt Cl.clos Cl.lst Gr.full
  rw [List.take_zero, List.map_nil, List.append_nil, List.map_flatMap]
  congr 1
  funext a
  unfold Cl.crow
  rw [List.map_map, List.map_map]
  rfl
theorem cpt_len {n : Nat} (ls : List Gr.Ln) {a k : Nat} : (cpt n ls a k).length ≤ a * n + k := by
  have h1 : ∀ a, ((List.range a).flatMap fun x => (Cl.crow n ls x).map fun y => ((x : Int), y)).length ≤ a * n := by
    intro a
    induction a with
    | zero => simp
    | succ a ih =>
      have h := Cl.crow_len n ls a
      rw [List.range_succ, List.flatMap_append, List.length_append, Nat.succ_mul]
      simp only [List.flatMap_cons, List.flatMap_nil, List.append_nil, List.length_map]
      omega
  have h2 := h1 a
  have h3 : ((Cl.crow n ls a).take k).length ≤ k := by rw [List.length_take]; omega
  unfold cpt
  rw [List.length_append, List.length_map]
  omega
/-- of two points at most one is ahead of the other one -/
theorem clos_len {n : Nat} {ls : List Gr.Ln} {o : List Int} (hg : ∀ p ∈ ls, Gr.Good (n : Int) p) (hs : Step n ls o) (hl : o.length = n) : 2 * (Cl.clos n ls).length + n ≤ n * n := by
  have hS := str hg hs hl
  obtain ⟨L, hL⟩ : ∃ L, L = Cl.clos n ls := ⟨_, rfl⟩
  have hm : ∀ p ∈ L, ∃ a b : Nat, p = ((a : Int), (b : Int)) ∧ a < n ∧ b < n ∧ comes n ls a b = true := fun p hp => Cl.lst_ends (by rw [hL] at hp; exact hp)
  have hn1 : L.Nodup := by rw [hL]; exact Cl.lst_nodup n _
  have hn2 : (L.map fun p : Gr.Ln => (p.2, p.1)).Nodup := List.Pairwise.map _ (fun p q hpq e => hpq (Prod.ext (Prod.mk.inj e).2 (Prod.mk.inj e).1)) hn1
  have hn3 : ((List.range n).map fun i : Nat => (((i : Int), (i : Int)) : Gr.Ln)).Nodup := List.Pairwise.map _ (fun p q hpq e => hpq (by have := (Prod.mk.inj e).1; omega)) (show List.Pairwise (· ≠ ·) (List.range n) from List.nodup_range)
  have hno : ∀ a b : Nat, a < n → b < n → comes n ls a b = true → comes n ls b a = true → False := fun a b ha hb h1 h2 => by
    have := hS.tr a b a ha hb ha h1 h2
    rw [hS.ir a ha] at this
    cases this
  have hd12 : ∀ p ∈ L, ∀ q ∈ L.map (fun p : Gr.Ln => (p.2, p.1)), p ≠ q := by
    intro p hp q hq e
    obtain ⟨r, hr, rfl⟩ := List.mem_map.1 hq
    obtain ⟨a, b, rfl, ha, hb, h1⟩ := hm _ hp
    obtain ⟨c, d, rfl, hc, hd, h2⟩ := hm _ hr
    have e1 := (Prod.mk.inj e).1
    have e2 := (Prod.mk.inj e).2
    simp only at e1 e2
    obtain rfl : a = d := by omega
    obtain rfl : b = c := by omega
    exact hno _ _ ha hb h1 h2
  have hd3 : ∀ p ∈ L ++ L.map (fun p : Gr.Ln => (p.2, p.1)), ∀ q ∈ (List.range n).map (fun i : Nat => (((i : Int), (i : Int)) : Gr.Ln)), p ≠ q := by
    intro p hp q hq e
    obtain ⟨i, hi, rfl⟩ := List.mem_map.1 hq
    rcases List.mem_append.1 hp with hp | hp
    · obtain ⟨a, b, rfl, ha, hb, h1⟩ := hm _ hp
      have e1 := (Prod.mk.inj e).1
      have e2 := (Prod.mk.inj e).2
      obtain rfl : a = b := by omega
      exact hno _ _ ha ha h1 h1
    · obtain ⟨r, hr, rfl⟩ := List.mem_map.1 hp
      obtain ⟨c, d, rfl, hc, hd, h2⟩ := hm _ hr
      have e1 := (Prod.mk.inj e).1
      have e2 := (Prod.mk.inj e).2
      simp only at e1 e2
      obtain rfl : c = d := by omega
      exact hno _ _ hc hc h2 h2
  have hnd : (L ++ L.map (fun p : Gr.Ln => (p.2, p.1)) ++ (List.range n).map fun i : Nat => (((i : Int), (i : Int)) : Gr.Ln)).Nodup := List.nodup_append.2 ⟨List.nodup_append.2 ⟨hn1, hn2, hd12⟩, hn3, hd3⟩
  have hsub : (L ++ L.map (fun p : Gr.Ln => (p.2, p.1)) ++ (List.range n).map fun i : Nat => (((i : Int), (i : Int)) : Gr.Ln)) ⊆ Cl.lst n fun _ _ => true := by
    intro p hp
    rcases List.mem_append.1 hp with hp | hp
    · rcases List.mem_append.1 hp with hp | hp
      · obtain ⟨a, b, rfl, ha, hb, h1⟩ := hm _ hp
        exact Cl.mem_lst.2 ⟨ha, hb, rfl⟩
      · obtain ⟨r, hr, rfl⟩ := List.mem_map.1 hp
        obtain ⟨a, b, rfl, ha, hb, h1⟩ := hm _ hr
        exact Cl.mem_lst.2 ⟨hb, ha, rfl⟩
    · obtain ⟨i, hi, rfl⟩ := List.mem_map.1 hp
      have := List.mem_range.1 hi
      exact Cl.mem_lst.2 ⟨this, this, rfl⟩
  have hlen := List.Nodup.length_le_of_subset hnd hsub
  have hfl : (Cl.lst n fun _ _ => true).length ≤ n * n := by
    unfold Cl.lst
    rw [List.length_map]
    exact Gr.full_len n _
  rw [List.length_append, List.length_append, List.length_map, List.length_map, List.length_range] at hlen
  rw [← hL]
  omega
/-- all ways are lines that can be matched -/
theorem clos_code {n : Nat} {ls : List Gr.Ln} {o : List Int} (h6 : n ≤ 6) (hg : ∀ p ∈ ls, Gr.Good (n : Int) p) (hs : Step n ls o) (hl : o.length = n) : Ma.code (n : Int) (n : Int) (Cl.clos n ls) = 0 := by
  refine Ma.code_zero.2 ⟨by omega, by omega, by omega, by omega, ?_, fun p hp => ?_⟩
  · have h1 := clos_len hg hs hl
    have h2 : n * n ≤ 6 * 6 := Nat.mul_le_mul h6 h6
    omega
  · obtain ⟨a, b, rfl, ha, hb, _⟩ := Cl.lst_ends hp
    exact ⟨by simp only; omega, by simp only; omega, by simp only; omega, by simp only; omega⟩
theorem clos_nu (n : Nat) (ls : List Gr.Ln) : Ma.nu (Ma.gl (Cl.clos n ls)) n n = Ma.nu (comes n ls) n n := Ma.nu_congr fun i hi j hj => Cl.has_lst hi hj

/-! ### what is wrong, or that nothing is -/
/-- something is wrong with the lines, or there is no order: its number -/
def Wrong (n : Int) (ls : List Gr.Ln) (k : Int) : Prop := (Gr.code n ls ≠ 0 ∧ k = Gr.code n ls) ∨ (k = 5 ∧ ∃ (m : Nat) (o : List Int), n = (m : Int) ∧ Gr.code (m : Int) ls = 0 ∧ Step m ls o ∧ To.Stuck m ls o ∧ o.length < m)
/-- there is an order -/
structure Fine (m : Nat) (ls : List Gr.Ln) (o : List Int) : Prop where
  code : Gr.code (m : Int) ls = 0
  step : Step m ls o
  len : o.length = m
theorem wrong_or_fine (n : Int) (ls : List Gr.Ln) : (∃ k, Wrong n ls k) ∨ ∃ (m : Nat) (o : List Int), n = (m : Int) ∧ Fine m ls o := by
  by_cases h : Gr.code n ls = 0
  · obtain ⟨m, rfl⟩ : ∃ m : Nat, n = (m : Int) := ⟨n.toNat, by have := (Gr.code_zero.1 h).1; omega⟩
    obtain ⟨o, hs, hk⟩ := To.Step.all m ls
    rcases Nat.lt_or_ge o.length m with hl | hl
    · exact .inl ⟨5, .inr ⟨rfl, m, o, rfl, h, hs, hk, hl⟩⟩
    · exact .inr ⟨m, o, rfl, h, hs, by have := hs.le; omega⟩
  · exact .inl ⟨_, .inl ⟨h, rfl⟩⟩
section
variable {m : Nat} {ls : List Gr.Ln} {o : List Int}
theorem Fine.good (h : Fine m ls o) : ∀ p ∈ ls, Gr.Good (m : Int) p := (Gr.code_zero.1 h.code).2.2.2
theorem Fine.le8 (h : Fine m ls o) : m ≤ 8 := by have := (Gr.code_zero.1 h.code).2.1; omega
theorem Fine.pos (h : Fine m ls o) : 1 ≤ m := by have := (Gr.code_zero.1 h.code).1; omega
theorem Fine.str (h : Fine m ls o) : Str (comes m ls) m := Cn.str h.good h.step h.len
theorem Fine.nu_lt (h : Fine m ls o) : Ma.nu (comes m ls) m m < m := nu_less h.str (by have := h.pos; omega)
theorem most_ex (D : Nat → Nat) : ∀ n, 0 < n → ∃ i, i < n ∧ ∀ j, j < n → D j ≤ D i
  | 1, _ => by
    refine ⟨0, by omega, fun j hj => ?_⟩
    obtain rfl : j = 0 := by omega
    exact Nat.le_refl _
  | n + 2, _ => by
    obtain ⟨i, hi, h⟩ := most_ex D (n + 1) (by omega)
    rcases Nat.le_total (D i) (D (n + 1)) with hl | hl
    · refine ⟨n + 1, by omega, fun j hj => ?_⟩
      rcases Nat.lt_or_ge j (n + 1) with hj' | hj'
      · have := h j hj'; omega
      · obtain rfl : j = n + 1 := by omega
        exact Nat.le_refl _
    · refine ⟨i, by omega, fun j hj => ?_⟩
      rcases Nat.lt_or_ge j (n + 1) with hj' | hj'
      · exact h j hj'
      · obtain rfl : j = n + 1 := by omega
        exact hl
/-- the most lines on a way: the greatest depth -/
theorem Fine.top (h : Fine m ls o) : ∃ d, d < m ∧ To.Top m ls d ∧ (∃ i : Nat, i < m ∧ dpF ls m (i : Int) = d) ∧ ∀ i : Nat, i < m → dpF ls m (i : Int) ≤ d := by
  obtain ⟨i, hi, hm⟩ := most_ex (fun i => dpF ls m (i : Int)) m (by have := h.pos; omega)
  exact ⟨dpF ls m (i : Int), To.dep_small h.good h.step h.len hi, To.Top.of (D := fun i => dpF ls m (i : Int)) (fun i hi => To.dp_all h.good h.step h.len hi) ⟨i, hi, rfl⟩ hm, ⟨i, hi, rfl⟩, hm⟩
theorem Fine.only (h : Fine m ls o) {d : Nat} (ht : To.Top m ls d) : d < m ∧ (∃ i : Nat, i < m ∧ dpF ls m (i : Int) = d) ∧ ∀ i : Nat, i < m → dpF ls m (i : Int) ≤ d := by
  obtain ⟨d', h1, h2, h3, h4⟩ := h.top
  obtain rfl := h2.unique ht
  exact ⟨h1, h3, h4⟩
theorem Fine.max (h : Fine m ls o) {d : Nat} (ht : To.Top m ls d) {z : Int} (h1 : ∃ i : Nat, i < m ∧ (To.deps m ls).getD i 0 = z) (h2 : ∀ i : Nat, i < m → (To.deps m ls).getD i 0 ≤ z) : z = (d : Int) := by
  obtain ⟨_, ⟨j, hj, e⟩, hle⟩ := h.only ht
  obtain ⟨i, hi, ei⟩ := h1
  rw [To.deps_at ls hi] at ei
  have h3 := h2 j hj
  rw [To.deps_at ls hj] at h3
  have := hle i hi
  omega
/-- the most of the first i depths, and one more -/
def lgTo (ls : List Gr.Ln) (m : Nat) : Nat → Nat
  | 0 => 0
  | i + 1 => if lgTo ls m i < dpF ls m (i : Int) + 1 then dpF ls m (i : Int) + 1 else lgTo ls m i
theorem lgTo_spec (ls : List Gr.Ln) (m : Nat) : ∀ i : Nat, (∀ j : Nat, j < i → dpF ls m (j : Int) + 1 ≤ lgTo ls m i) ∧ ((i = 0 ∧ lgTo ls m i = 0) ∨ ∃ j : Nat, j < i ∧ lgTo ls m i = dpF ls m (j : Int) + 1)
  | 0 => ⟨fun j h => by omega, .inl ⟨rfl, rfl⟩⟩
  | i + 1 => by
    obtain ⟨h1, h2⟩ := lgTo_spec ls m i
    have e : lgTo ls m (i + 1) = if lgTo ls m i < dpF ls m (i : Int) + 1 then dpF ls m (i : Int) + 1 else lgTo ls m i := rfl
    by_cases h : lgTo ls m i < dpF ls m (i : Int) + 1
    · rw [if_pos h] at e
      rw [e]
      refine ⟨fun j hj => ?_, .inr ⟨i, by omega, rfl⟩⟩
      rcases Nat.lt_or_ge j i with hl | hl
      · have := h1 j hl; omega
      · obtain rfl : j = i := by omega
        exact Nat.le_refl _
    · rw [if_neg h] at e
      rw [e]
      refine ⟨fun j hj => ?_, ?_⟩
      · rcases Nat.lt_or_ge j i with hl | hl
        · exact h1 j hl
        · obtain rfl : j = i := by omega
          omega
      · rcases h2 with ⟨rfl, h2⟩ | ⟨j, hj, h2⟩
        · omega
        · exact .inr ⟨j, by omega, h2⟩
theorem Fine.lg (h : Fine m ls o) {d : Nat} (ht : To.Top m ls d) : lgTo ls m m = d + 1 := by
  obtain ⟨_, ⟨j, hj, e⟩, hle⟩ := h.only ht
  obtain ⟨h1, h2⟩ := lgTo_spec ls m m
  have h3 := h1 j hj
  have := h.pos
  rcases h2 with ⟨h0, _⟩ | ⟨i, hi, h2⟩
  · omega
  · have := hle i hi
    omega
end
end Go.Proofs.Ytinglgnddmadaaa.Cn
