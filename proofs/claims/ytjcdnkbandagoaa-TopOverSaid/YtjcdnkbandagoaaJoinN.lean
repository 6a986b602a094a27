/-
  Plain facts on points that hang together by pairs, and how many parts there are. No statement of the program is proved here; there is no condition.
-/
import Derived.Test.YtjcdnkbandagoaaWalkF
import Derived.Test.YtjcdnkbandagoaaWalkR
set_option linter.unusedSimpArgs false
set_option linter.unusedVariables false
namespace Go.Proofs.Ytjcdnkbandagoaa.Dp
open Wr

/-- how many parts there are -/
def parts (m : Nat) (R : Nat → List Nat) : Nat := ((List.range m).filter fun v => decide (Wa.lab m R m v = (v : Int))).length

/-! ### by pairs -/
/-- all pairs of points beside each other -/
def prR (m : Nat) (R : Nat → List Nat) : List (Nat × Nat) := (List.range m).flatMap fun u => (R u).map fun w => (u, w)
theorem mem_prR {m : Nat} {R : Nat → List Nat} {u v : Nat} : (u, v) ∈ prR m R ↔ u < m ∧ v ∈ R u := by
  unfold prR
  simp only [List.mem_flatMap, List.mem_range, List.mem_map, Prod.mk.injEq]
  constructor
  · rintro ⟨a, ha, w, hw, rfl, rfl⟩
    exact ⟨ha, hw⟩
  · rintro ⟨h1, h2⟩
    exact ⟨u, h1, v, h2, rfl, rfl⟩
theorem prR_lt {m : Nat} {R : Nat → List Nat} (hR : Wa.Ok m R) : ∀ p ∈ prR m R, p.1 < m ∧ p.2 < m := fun p hp => by
  obtain ⟨h1, h2⟩ := mem_prR (u := p.1) (v := p.2) |>.1 hp
  exact ⟨h1, hR _ h1 _ h2⟩
theorem conn_mono {E E' : List (Nat × Nat)} (h : ∀ u v, Adj E u v → Conn E' u v) {u v : Nat} (hc : Conn E u v) : Conn E' u v := by
  induction hc with
  | refl => exact Conn.refl _
  | step _ h2 ih => exact ih.trans (h _ _ h2)
theorem conn_rchR {m : Nat} {R : Nat → List Nat} (hR : Wa.Ok m R) (hs : Wa.Sym m R) {u v : Nat} (hu : u < m) : Conn (prR m R) u v ↔ Wa.rch m R u v = true := by
  constructor
  · intro h
    induction h with
    | refl => exact Wa.rch_self hR hu
    | @step x y hc hxy ih =>
      have hx : x < m := Wa.rch_lt hR hu ih
      have hyx : y ∈ R x := by
        rcases hxy with h | h
        · exact (mem_prR.1 h).2
        · obtain ⟨h1, h2⟩ := mem_prR.1 h
          exact hs y x h1 hx h2
      exact Wa.rch_trans hR hu hx ih ((Wa.rch_iff hR hx).2 ⟨1, Wa.wk_one hx hyx⟩)
  · intro h
    obtain ⟨k, hk⟩ := (Wa.rch_iff hR hu).1 h
    clear h
    induction k generalizing v with
    | zero => rw [Wa.wk_zero] at hk; subst hk; exact Conn.refl _
    | succ k ih =>
      obtain ⟨c, hc, h1, h2⟩ := Wa.wk_succ.1 hk
      exact (ih h1).step (.inl (mem_prR.2 ⟨hc, h2⟩))
theorem fl_congr {E E' : List (Nat × Nat)} (h : ∀ u v, Conn E u v ↔ Conn E' u v) (v : Nat) : fl E v = fl E' v := by
  have h1 := fl_least ((h _ _).1 (fl_self E v))
  have h2 := fl_least ((h _ _).2 (fl_self E' v))
  omega
theorem cnt_congr {E E' : List (Nat × Nat)} (h : ∀ u v, Conn E u v ↔ Conn E' u v) (n : Nat) : cnt E n = cnt E' n := by
  unfold cnt
  congr 1
  refine List.filter_congr (fun v _ => ?_)
  rw [fl_congr h]
theorem cnt_cons {n : Nat} {E : List (Nat × Nat)} {a b : Nat} (hE : ∀ p ∈ E, p.1 < n ∧ p.2 < n) (ha : a < n) (hb : b < n) : cnt E n = cnt ((a, b) :: E) n + if fl E a = fl E b then 0 else 1 := by
  have h1 := cnt_joins n E hE
  have h2 := cnt_joins n ((a, b) :: E) (fun p hp => by
    rcases List.mem_cons.1 hp with rfl | hp
    · exact ⟨ha, hb⟩
    · exact hE p hp)
  simp only [joins] at h2
  split at h2 <;> rename_i e
  · rw [if_pos e]; omega
  · rw [if_neg e]; omega
/-- more lines, no more parts -/
theorem cnt_anti {n : Nat} {E E' : List (Nat × Nat)} (h : ∀ u v, Conn E u v → Conn E' u v) : cnt E' n ≤ cnt E n := by
  unfold cnt
  have hsub : ∀ v, fl E' v = v → fl E v = v := fun v hv => by
    have h1 := fl_least (h _ _ (fl_self E v))
    have h2 := fl_le E v
    omega
  have key : ∀ l : List Nat, (l.filter fun v => decide (fl E' v = v)).length ≤ (l.filter fun v => decide (fl E v = v)).length := by
    intro l
    induction l with
    | nil => exact Nat.le_refl _
    | cons v l ih =>
      by_cases e : fl E' v = v
      · rw [List.filter_cons_of_pos (by simpa using e), List.filter_cons_of_pos (by simpa using hsub v e)]
        simp only [List.length_cons]
        omega
      · rw [List.filter_cons_of_neg (by simpa using e)]
        by_cases e2 : fl E v = v
        · rw [List.filter_cons_of_pos (by simpa using e2)]
          simp only [List.length_cons]
          omega
        · rw [List.filter_cons_of_neg (by simpa using e2)]
          exact ih
  exact key _

section
variable {m : Nat} {R : Nat → List Nat}

theorem lab_flR (hR : Wa.Ok m R) (hs : Wa.Sym m R) {v : Nat} (hv : v < m) : Wa.lab m R m v = (fl (prR m R) v : Int) := by
  obtain ⟨u, h1, h2, h3, h4⟩ := Wa.lab_spec hR hv
  have h5 := fl_least ((conn_rchR hR hs (show u < m by omega)).2 h3)
  have h6 := fl_le (prR m R) v
  have h7 := (conn_rchR hR hs (show fl (prR m R) v < m by omega)).1 (fl_self (prR m R) v)
  have h8 : ¬ fl (prR m R) v < u := fun h => by rw [h4 _ h] at h7; cases h7
  rw [h1]
  have : u = fl (prR m R) v := by omega
  rw [this]
theorem parts_cnt (hR : Wa.Ok m R) (hs : Wa.Sym m R) : parts m R = cnt (prR m R) m := by
  unfold parts cnt
  congr 1
  refine List.filter_congr (fun v hv => ?_)
  rw [lab_flR hR hs (by simpa using hv), decide_eq_decide]
  omega
end
end Go.Proofs.Ytjcdnkbandagoaa.Dp
