/-
  Plain facts on lines, parts and rings: there is no ring just if as many pairs are beside each other as there are points, less parts. No statement of the program is proved here; there is no condition.
-/
import Derived.Test.YtghmpdhopdmmiaaWalkR
import Derived.Test.YtghmpdhopdmmiaaWalkQ
import Derived.Test.YtghmpdhopdmmiaaWalkG
set_option linter.unusedSimpArgs false
set_option linter.unusedVariables false
namespace Go.Proofs.Ytghmpdhopdmmiaa.Wr
open Go.Proofs.Ytghmpdhopdmmiaa

/-- the points below b that are beside a -/
def prow (ls : List Gr.Ln) (a b : Nat) : List (Nat × Nat) := ((List.range b).filter fun u : Nat => Gr.adj ls (a : Int) (u : Int)).map fun u => (a, u)
/-- the pairs that are beside each other, the greater first -/
def prs (ls : List Gr.Ln) : Nat → List (Nat × Nat)
  | 0 => []
  | a + 1 => prs ls a ++ prow ls a a

theorem prow_hit {ls : List Gr.Ln} {a b : Nat} (h : Gr.adj ls (a : Int) (b : Int) = true) : (prow ls a (b + 1)).length = (prow ls a b).length + 1 := by
  simp [prow, List.range_succ, List.filter_append, h]
theorem prow_miss {ls : List Gr.Ln} {a b : Nat} (h : Gr.adj ls (a : Int) (b : Int) = false) : (prow ls a (b + 1)).length = (prow ls a b).length := by
  simp [prow, List.range_succ, List.filter_append, h]
theorem prow_len (ls : List Gr.Ln) (a b : Nat) : (prow ls a b).length ≤ b := by
  have := List.length_filter_le (fun u => Gr.adj ls (a : Int) ((u : Nat) : Int)) (List.range b)
  simpa [prow] using this
theorem mem_prow {ls : List Gr.Ln} {a b u v : Nat} : (u, v) ∈ prow ls a b ↔ u = a ∧ v < b ∧ Gr.adj ls (a : Int) (v : Int) = true := by
  unfold prow
  rw [List.mem_map]
  constructor
  · rintro ⟨x, hx, e⟩
    simp only [Prod.mk.injEq] at e
    obtain ⟨rfl, rfl⟩ := e
    rw [List.mem_filter, List.mem_range] at hx
    exact ⟨rfl, hx.1, hx.2⟩
  · rintro ⟨rfl, h1, h2⟩
    exact ⟨v, by rw [List.mem_filter, List.mem_range]; exact ⟨h1, h2⟩, rfl⟩
theorem mem_prs {ls : List Gr.Ln} {u v : Nat} : ∀ {m : Nat}, (u, v) ∈ prs ls m ↔ v < u ∧ u < m ∧ Gr.adj ls (u : Int) (v : Int) = true := by
  intro m
  induction m with
  | zero => simp [prs]
  | succ m ih =>
    rw [prs, List.mem_append, ih, mem_prow]
    constructor
    · rintro (⟨h1, h2, h3⟩ | ⟨rfl, h1, h2⟩)
      · exact ⟨h1, by omega, h3⟩
      · exact ⟨h1, by omega, h2⟩
    · rintro ⟨h1, h2, h3⟩
      by_cases e : u = m
      · subst e; exact .inr ⟨rfl, h1, h3⟩
      · exact .inl ⟨h1, by omega, h3⟩
theorem prow_nodup (ls : List Gr.Ln) (a b : Nat) : (prow ls a b).Nodup := by
  unfold prow
  refine List.Pairwise.map _ ?_ ((List.nodup_range (n := b)).filter _)
  intro x y h e
  simp only [Prod.mk.injEq] at e
  exact h e.2
theorem prs_nodup (ls : List Gr.Ln) : ∀ m, (prs ls m).Nodup
  | 0 => List.nodup_nil
  | m + 1 => by
    rw [prs, List.nodup_append]
    refine ⟨prs_nodup ls m, prow_nodup ls m m, fun p hp q hq e => ?_⟩
    subst e
    obtain ⟨u, v⟩ := p
    have h1 := mem_prs.1 hp
    have h2 := mem_prow.1 hq
    omega

section
variable {m : Nat} {ls : List Gr.Ln}
theorem adj_row (h0 : Gr.code (m : Int) ls = 0) {u v : Nat} (hu : u < m) (hv : v < m) : Adj (prs ls m) u v ↔ v ∈ Wa.nrow m ls u := by
  rw [Wa.mem_nrow]
  unfold Adj
  rw [mem_prs, mem_prs]
  constructor
  · rintro (⟨_, _, h⟩ | ⟨_, _, h⟩)
    · exact ⟨hv, h⟩
    · exact ⟨hv, by rw [Gr.adj_comm]; exact h⟩
  · rintro ⟨_, h⟩
    have hne := Gr.adj_ne h0 h
    rcases Nat.lt_trichotomy u v with hl | he | hl
    · exact .inr ⟨hl, hv, by rw [Gr.adj_comm]; exact h⟩
    · exact absurd (by rw [he]) hne
    · exact .inl ⟨hl, hu, h⟩
theorem adj_lt {u v : Nat} (h : Adj (prs ls m) u v) : u < m ∧ v < m := by
  rcases h with h | h
  · have := mem_prs.1 h; omega
  · have := mem_prs.1 h; omega
theorem conn_rch (h0 : Gr.code (m : Int) ls = 0) {u v : Nat} (hu : u < m) : Conn (prs ls m) u v ↔ Wa.rch m (Wa.nrow m ls) u v = true := by
  rw [Wa.rch_iff (Wa.nrow_ok m ls) hu]
  constructor
  · intro h
    induction h with
    | refl => exact ⟨0, Wa.wk_zero.2 rfl⟩
    | step _ ha ih =>
      obtain ⟨k, hk⟩ := ih
      have hl := adj_lt ha
      exact ⟨k + 1, Wa.wk_succ.2 ⟨_, hl.1, hk, (adj_row h0 hl.1 hl.2).1 ha⟩⟩
  · rintro ⟨k, hk⟩
    induction k generalizing v with
    | zero => rw [Wa.wk_zero] at hk; subst hk; exact .refl _
    | succ k ih =>
      obtain ⟨c, hc, h1, h2⟩ := Wa.wk_succ.1 hk
      exact (ih h1).step ((adj_row h0 hc (Wa.nrow_ok m ls c hc v h2)).2 h2)
theorem lab_fl (h0 : Gr.code (m : Int) ls = 0) {v : Nat} (hv : v < m) : Wa.lab m (Wa.nrow m ls) m v = (fl (prs ls m) v : Int) := by
  obtain ⟨u, hu, huv, hr, hmin⟩ := Wa.lab_spec (Wa.nrow_ok m ls) hv
  rw [hu]
  have h1 := fl_least ((conn_rch h0 (by omega)).2 hr)
  have h2 := fl_le (prs ls m) v
  have h3 := (conn_rch h0 (show fl (prs ls m) v < m by omega)).1 (fl_self (prs ls m) v)
  have h4 : ¬ fl (prs ls m) v < u := fun h => by
    have := hmin _ h
    rw [h3] at this
    cases this
  omega
/-- how many of the first a points are the least of their part -/
def partsTo (m : Nat) (ls : List Gr.Ln) (a : Nat) : Nat := ((List.range a).filter fun v => decide (Wa.lab m (Wa.nrow m ls) m v = (v : Int))).length
theorem partsTo_hit {a : Nat} (h : Wa.lab m (Wa.nrow m ls) m a = (a : Int)) : partsTo m ls (a + 1) = partsTo m ls a + 1 := by
  simp [partsTo, List.range_succ, List.filter_append, h]
theorem partsTo_miss {a : Nat} (h : ¬ Wa.lab m (Wa.nrow m ls) m a = (a : Int)) : partsTo m ls (a + 1) = partsTo m ls a := by
  simp [partsTo, List.range_succ, List.filter_append, h]
theorem partsTo_le (a : Nat) : partsTo m ls a ≤ a := by
  have := List.length_filter_le (fun v => decide (Wa.lab m (Wa.nrow m ls) m v = ((v : Nat) : Int))) (List.range a)
  simpa [partsTo] using this
theorem prs_len (ls : List Gr.Ln) : ∀ a, (prs ls a).length ≤ a * a
  | 0 => by simp [prs]
  | a + 1 => by
    have h1 := prs_len ls a
    have h2 := prow_len ls a a
    rw [prs, List.length_append]
    have : (a + 1) * (a + 1) = a * a + 2 * a + 1 := by rw [Nat.add_mul, Nat.mul_add]; omega
    omega
theorem partsTo_cnt (h0 : Gr.code (m : Int) ls = 0) : partsTo m ls m = cnt (prs ls m) m := by
  unfold partsTo cnt
  congr 1
  refine List.filter_congr fun v hv => ?_
  rw [lab_fl h0 (List.mem_range.1 hv)]
  by_cases h : fl (prs ls m) v = v
  · simp [h]
  · have : ¬ ((fl (prs ls m) v : Nat) : Int) = (v : Int) := by omega
    simp [h, this]
theorem cyc_girth (h0 : Gr.code (m : Int) ls = 0) : Cyc (prs ls m) ↔ 0 < Wa.girth m (Wa.nrow m ls) := by
  have hok := Wa.nrow_ok m ls
  constructor
  · rintro ⟨⟨a, b⟩, hg, hc⟩
    have hgm := mem_prs.1 hg
    have hb : b ∈ Wa.nrow m ls a := Wa.mem_nrow.2 ⟨by omega, hgm.2.2⟩
    have hnd := (prs_nodup ls m).not_mem_erase (a := (a, b))
    have key : ∀ v, Conn ((prs ls m).erase (a, b)) a v → ∃ k, Wa.wk m (Wa.rest (Wa.nrow m ls) a b) k a v = true := by
      intro v h
      induction h with
      | refl => exact ⟨0, Wa.wk_zero.2 rfl⟩
      | @step c d _ ha ih =>
        obtain ⟨k, hk⟩ := ih
        have haE : Adj (prs ls m) c d := ha.imp List.mem_of_mem_erase List.mem_of_mem_erase
        have hl := adj_lt haE
        refine ⟨k + 1, Wa.wk_succ.2 ⟨c, hl.1, hk, Wa.mem_rest.2 ⟨(adj_row h0 hl.1 hl.2).1 haE, ?_⟩⟩⟩
        rintro ⟨rfl, rfl⟩
        rcases ha with h | h
        · exact hnd h
        · have := mem_prs.1 (List.mem_of_mem_erase h); omega
    obtain ⟨k, hk⟩ := key b hc
    have h3 := Wa.dist_le (Wa.rest_ok hok a b) (by omega) hk
    have h4 : 0 < Wa.rt m (Wa.nrow m ls) a b := by unfold Wa.rt; omega
    rcases Wa.girth_best m (Wa.nrow m ls) with ⟨_, h5⟩ | ⟨h5, _, _⟩
    · have := h5 _ ⟨a, by omega, b, hb, rfl⟩; omega
    · exact h5
  · intro hpos
    rcases Wa.girth_best m (Wa.nrow m ls) with ⟨h5, _⟩ | ⟨_, ⟨a, ha, b, hb, he⟩, _⟩
    · omega
    · have hbm := (Wa.mem_nrow.1 hb).1
      have hadj := (Wa.mem_nrow.1 hb).2
      have hne := Gr.adj_ne h0 hadj
      rw [he] at hpos
      unfold Wa.rt at hpos
      obtain ⟨k, hk⟩ := (Wa.dist_nn (b := b) (Wa.rest_ok hok a b) ha).1 (by omega)
      obtain ⟨g, hgE, hgab⟩ : ∃ g ∈ prs ls m, (g = (a, b) ∨ g = (b, a)) := by
        rcases (adj_row h0 ha hbm).2 hb with h | h
        · exact ⟨_, h, .inl rfl⟩
        · exact ⟨_, h, .inr rfl⟩
      have key : ∀ k v, Wa.wk m (Wa.rest (Wa.nrow m ls) a b) k a v = true → Conn ((prs ls m).erase g) a v := by
        intro k
        induction k with
        | zero => intro v h; rw [Wa.wk_zero] at h; subst h; exact .refl _
        | succ k ih =>
          intro v h
          obtain ⟨c, hc, h1, h2⟩ := Wa.wk_succ.1 h
          obtain ⟨h3, h4⟩ := Wa.mem_rest.1 h2
          have hv := (Wa.mem_nrow.1 h3).1
          by_cases e : c = b ∧ v = a
          · obtain ⟨_, rfl⟩ := e; exact .refl _
          · have hA := (adj_row h0 hc hv).2 h3
            refine (ih c h1).step ?_
            have n1 : (c, v) ≠ g := by
              rintro rfl
              rcases hgab with h | h
              · simp only [Prod.mk.injEq] at h; exact h4 h
              · simp only [Prod.mk.injEq] at h; exact e h
            have n2 : (v, c) ≠ g := by
              rintro rfl
              rcases hgab with h | h
              · simp only [Prod.mk.injEq] at h; exact e ⟨h.2, h.1⟩
              · simp only [Prod.mk.injEq] at h; exact h4 ⟨h.2, h.1⟩
            exact hA.imp (fun h => (List.mem_erase_of_ne n1).2 h) (fun h => (List.mem_erase_of_ne n2).2 h)
      have hcon := key k b hk
      refine ⟨g, hgE, ?_⟩
      rcases hgab with rfl | rfl
      · exact hcon
      · exact hcon.symm
/-- no ring, no more lines than points need -/
theorem ring_count (h0 : Gr.code (m : Int) ls = 0) : m ≤ (prs ls m).length + partsTo m ls m ∧ (Wa.girth m (Wa.nrow m ls) = 0 ↔ (prs ls m).length + partsTo m ls m = m) := by
  have h1 := cnt_joins m (prs ls m) (fun p hp => by obtain ⟨u, v⟩ := p; have := mem_prs.1 hp; exact ⟨by simp only; omega, by simp only; omega⟩)
  have h2 := joins_le (prs ls m)
  have h3 := cyc_iff (prs ls m)
  have h4 := cyc_girth h0
  rw [partsTo_cnt h0]
  have h5 : 0 ≤ Wa.girth m (Wa.nrow m ls) := by
    rcases Wa.girth_best m (Wa.nrow m ls) with ⟨h, _⟩ | ⟨h, _, _⟩ <;> omega
  refine ⟨by omega, ?_, ?_⟩
  · intro hz
    have : ¬ Cyc (prs ls m) := fun hc => by have := h4.1 hc; omega
    rw [h3] at this
    omega
  · intro he
    have : ¬ Cyc (prs ls m) := by rw [h3]; omega
    rw [h4] at this
    omega
/-- the girth is 0, or 3 at least and as many as there are points at most -/
theorem girth_range (h0 : Gr.code (m : Int) ls = 0) : Wa.girth m (Wa.nrow m ls) = 0 ∨ (3 ≤ Wa.girth m (Wa.nrow m ls) ∧ Wa.girth m (Wa.nrow m ls) ≤ (m : Int)) := by
  rcases Wa.girth_best m (Wa.nrow m ls) with ⟨h, _⟩ | ⟨hp, ⟨a, ha, b, hb, he⟩, _⟩
  · exact .inl h
  · have hne : a ≠ b := fun e => Gr.adj_ne h0 (Wa.mem_nrow.1 hb).2 (by rw [e])
    rcases Wa.rt_cases (Wa.nrow_ok m ls) ha hne with h | h
    · omega
    · right; rw [he]; exact h
end

end Go.Proofs.Ytghmpdhopdmmiaa.Wr
