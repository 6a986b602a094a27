/-
  Plain facts on how many parts there are without a line and without a point. No statement of the program is proved here; there is no condition.
-/
import Derived.Test.YtehkkpkhpbbpnaaDoorCutsN
import Derived.Test.YtehkkpkhpbbpnaaDoorWalkR
set_option linter.unusedSimpArgs false
set_option linter.unusedVariables false
namespace Go.Proofs.YtehkkpkhpbbpnaaDoor.Dp
open Wr

/-- how many parts there are -/
def parts (m : Nat) (R : Nat → List Nat) : Nat := ((List.range m).filter fun v => decide (Wa.lab m R m v = (v : Int))).length

/-! ### by pairs -/
/-- all pairs of points beside each other -/
def prR (m : Nat) (R : Nat → List Nat) : List (Nat × Nat) := (List.range m).flatMap fun u => (R u).map fun w => (u, w)
theorem mem_prR {m : Nat} {R : Nat → List Nat} {u v : Nat} : (u, v) ∈ prR m R ↔ u < m ∧ v ∈ R u := by
  unfold prR
  simp only [List.mem_flatMap, List.mem_range, List.mem_map, Prod.mk.injEq]
  constructor
  · rintro ⟨a, ha, w, hw, rfl, rfl⟩
    exact ⟨ha, hw⟩
  · rintro ⟨h1, h2⟩
    exact ⟨u, h1, v, h2, rfl, rfl⟩
theorem prR_lt {m : Nat} {R : Nat → List Nat} (hR : Wa.Ok m R) : ∀ p ∈ prR m R, p.1 < m ∧ p.2 < m := fun p hp => by
  obtain ⟨h1, h2⟩ := mem_prR (u := p.1) (v := p.2) |>.1 hp
  exact ⟨h1, hR _ h1 _ h2⟩
theorem conn_mono {E E' : List (Nat × Nat)} (h : ∀ u v, Adj E u v → Conn E' u v) {u v : Nat} (hc : Conn E u v) : Conn E' u v := by
  induction hc with
  | refl => exact Conn.refl _
  | step _ h2 ih => exact ih.trans (h _ _ h2)
theorem conn_rchR {m : Nat} {R : Nat → List Nat} (hR : Wa.Ok m R) (hs : Wa.Sym m R) {u v : Nat} (hu : u < m) : Conn (prR m R) u v ↔ Wa.rch m R u v = true := by
  constructor
  · intro h
    induction h with
    | refl => exact Wa.rch_self hR hu
    | @step x y hc hxy ih =>
      have hx : x < m := Wa.rch_lt hR hu ih
      have hyx : y ∈ R x := by
        rcases hxy with h | h
        · exact (mem_prR.1 h).2
        · obtain ⟨h1, h2⟩ := mem_prR.1 h
          exact hs y x h1 hx h2
      exact Wa.rch_trans hR hu hx ih ((Wa.rch_iff hR hx).2 ⟨1, Wa.wk_one hx hyx⟩)
  · intro h
    obtain ⟨k, hk⟩ := (Wa.rch_iff hR hu).1 h
    clear h
    induction k generalizing v with
    | zero => rw [Wa.wk_zero] at hk; subst hk; exact Conn.refl _
    | succ k ih =>
      obtain ⟨c, hc, h1, h2⟩ := Wa.wk_succ.1 hk
      exact (ih h1).step (.inl (mem_prR.2 ⟨hc, h2⟩))
theorem fl_congr {E E' : List (Nat × Nat)} (h : ∀ u v, Conn E u v ↔ Conn E' u v) (v : Nat) : fl E v = fl E' v := by
  have h1 := fl_least ((h _ _).1 (fl_self E v))
  have h2 := fl_least ((h _ _).2 (fl_self E' v))
  omega
theorem cnt_congr {E E' : List (Nat × Nat)} (h : ∀ u v, Conn E u v ↔ Conn E' u v) (n : Nat) : cnt E n = cnt E' n := by
  unfold cnt
  congr 1
  refine List.filter_congr (fun v _ => ?_)
  rw [fl_congr h]
theorem cnt_cons {n : Nat} {E : List (Nat × Nat)} {a b : Nat} (hE : ∀ p ∈ E, p.1 < n ∧ p.2 < n) (ha : a < n) (hb : b < n) : cnt E n = cnt ((a, b) :: E) n + if fl E a = fl E b then 0 else 1 := by
  have h1 := cnt_joins n E hE
  have h2 := cnt_joins n ((a, b) :: E) (fun p hp => by
    rcases List.mem_cons.1 hp with rfl | hp
    · exact ⟨ha, hb⟩
    · exact hE p hp)
  simp only [joins] at h2
  split at h2 <;> rename_i e
  · rw [if_pos e]; omega
  · rw [if_neg e]; omega
/-- more lines, no more parts -/
theorem cnt_anti {n : Nat} {E E' : List (Nat × Nat)} (h : ∀ u v, Conn E u v → Conn E' u v) : cnt E' n ≤ cnt E n := by
  unfold cnt
  have hsub : ∀ v, fl E' v = v → fl E v = v := fun v hv => by
    have h1 := fl_least (h _ _ (fl_self E v))
    have h2 := fl_le E v
    omega
  have key : ∀ l : List Nat, (l.filter fun v => decide (fl E' v = v)).length ≤ (l.filter fun v => decide (fl E v = v)).length := by
    intro l
    induction l with
    | nil => exact Nat.le_refl _
    | cons v l ih =>
      by_cases e : fl E' v = v
      · rw [List.filter_cons_of_pos (by simpa using e), List.filter_cons_of_pos (by simpa using hsub v e)]
        simp only [List.length_cons]
        omega
      · rw [List.filter_cons_of_neg (by simpa using e)]
        by_cases e2 : fl E v = v
        · rw [List.filter_cons_of_pos (by simpa using e2)]
          simp only [List.length_cons]
          omega
        · rw [List.filter_cons_of_neg (by simpa using e2)]
          exact ih
  exact key _

section
variable {m : Nat} {R : Nat → List Nat}

theorem lab_flR (hR : Wa.Ok m R) (hs : Wa.Sym m R) {v : Nat} (hv : v < m) : Wa.lab m R m v = (fl (prR m R) v : Int) := by
  obtain ⟨u, h1, h2, h3, h4⟩ := Wa.lab_spec hR hv
  have h5 := fl_least ((conn_rchR hR hs (show u < m by omega)).2 h3)
  have h6 := fl_le (prR m R) v
  have h7 := (conn_rchR hR hs (show fl (prR m R) v < m by omega)).1 (fl_self (prR m R) v)
  have h8 : ¬ fl (prR m R) v < u := fun h => by rw [h4 _ h] at h7; cases h7
  rw [h1]
  have : u = fl (prR m R) v := by omega
  rw [this]
theorem parts_cnt (hR : Wa.Ok m R) (hs : Wa.Sym m R) : parts m R = cnt (prR m R) m := by
  unfold parts cnt
  congr 1
  refine List.filter_congr (fun v hv => ?_)
  rw [lab_flR hR hs (by simpa using hv), decide_eq_decide]
  omega

/-! ### without a line -/
theorem parts_line (hR : Wa.Ok m R) (hs : Wa.Sym m R) {a b : Nat} (ha : a < m) (hab : b ∈ R a) : parts m (rml R a b) = parts m R + if Wa.rch m (rml R a b) a b = true then 0 else 1 := by
  have hb := hR a ha b hab
  have hR' := rml_ok hR a b
  have hs' := rml_sym hs a b
  rw [parts_cnt hR hs, parts_cnt hR' hs', cnt_cons (prR_lt hR') ha hb]
  have e1 : cnt ((a, b) :: prR m (rml R a b)) m = cnt (prR m R) m := by
    refine cnt_congr (fun u v => ⟨conn_mono (fun x y h => ?_), conn_mono (fun x y h => ?_)⟩) m
    · rcases h with h | h
      · rcases List.mem_cons.1 h with e | h
        · cases e; exact Conn.one (.inl (mem_prR.2 ⟨ha, hab⟩))
        · obtain ⟨h1, h2⟩ := mem_prR.1 h
          exact Conn.one (.inl (mem_prR.2 ⟨h1, (mem_rml.1 h2).1⟩))
      · rcases List.mem_cons.1 h with e | h
        · cases e; exact Conn.one (.inr (mem_prR.2 ⟨ha, hab⟩))
        · obtain ⟨h1, h2⟩ := mem_prR.1 h
          exact Conn.one (.inr (mem_prR.2 ⟨h1, (mem_rml.1 h2).1⟩))
    · have one : ∀ x y, (x, y) ∈ prR m R → Conn ((a, b) :: prR m (rml R a b)) x y := fun x y h => by
        obtain ⟨h1, h2⟩ := mem_prR.1 h
        by_cases e : (x = a ∧ y = b) ∨ (x = b ∧ y = a)
        · rcases e with ⟨rfl, rfl⟩ | ⟨rfl, rfl⟩
          · exact Conn.one (.inl (List.mem_cons_self ..))
          · exact Conn.one (.inr (List.mem_cons_self ..))
        · exact Conn.one (.inl (List.mem_cons_of_mem _ (mem_prR.2 ⟨h1, mem_rml.2 ⟨h2, fun h => e (.inl h), fun h => e (.inr h)⟩⟩)))
      rcases h with h | h
      · exact one x y h
      · exact (one y x h).symm
  rw [e1]
  congr 1
  by_cases e : Wa.rch m (rml R a b) a b = true
  · rw [if_pos e, if_pos ((fl_conn _ _ _).2 ((conn_rchR hR' hs' ha).2 e))]
  · rw [if_neg e, if_neg (fun h => e ((conn_rchR hR' hs' ha).1 ((fl_conn _ _ _).1 h)))]
/-- rows that hold the same points have as many parts -/
theorem parts_congr (hR : Wa.Ok m R) (hs : Wa.Sym m R) {R' : Nat → List Nat} (hR' : Wa.Ok m R') (hs' : Wa.Sym m R') (h : ∀ u v, u < m → (v ∈ R u ↔ v ∈ R' u)) : parts m R = parts m R' := by
  rw [parts_cnt hR hs, parts_cnt hR' hs']
  have one : ∀ {R1 R2 : Nat → List Nat}, (∀ u v, u < m → (v ∈ R1 u ↔ v ∈ R2 u)) → ∀ u v, Adj (prR m R1) u v → Conn (prR m R2) u v := fun {R1 R2} h u v ha => by
    rcases ha with ha | ha
    · obtain ⟨h1, h2⟩ := mem_prR.1 ha
      exact Conn.one (.inl (mem_prR.2 ⟨h1, (h _ _ h1).1 h2⟩))
    · obtain ⟨h1, h2⟩ := mem_prR.1 ha
      exact Conn.one (.inr (mem_prR.2 ⟨h1, (h _ _ h1).1 h2⟩))
  exact cnt_congr (fun u v => ⟨conn_mono (one h), conn_mono (one fun u v hu => (h u v hu).symm)⟩) m

/-! ### without a point -/
/-- nothing hangs together with i without i -/
theorem lone (hR : Wa.Ok m R) {i : Nat} (hi : i < m) {v : Nat} (h : Wa.rch m (rmv R i) i v = true) : v = i :=
  closed_reach (rmv_ok hR i) (S := fun x => x = i) (fun x _ hx w hw => absurd hx (mem_rmv.1 hw).1) hi rfl h
theorem cut_iff (hR : Wa.Ok m R) (hs : Wa.Sym m R) (hirr : ∀ a, a < m → a ∉ R a) {i : Nat} (hi : i < m) : Cut m R i ↔ ∃ x y, x ∈ R i ∧ y ∈ R i ∧ Wa.rch m (rmv R i) x y = false := by
  constructor
  · intro h
    by_cases hex : ∃ x y, x ∈ R i ∧ y ∈ R i ∧ Wa.rch m (rmv R i) x y = false
    · exact hex
    · refine absurd h (not_cut hR hs hirr hi (fun x y hx hy => ?_))
      cases hr : Wa.rch m (rmv R i) x y with
      | true => rfl
      | false => exact absurd ⟨x, y, hx, hy, hr⟩ hex
  · rintro ⟨x, y, hx, hy, h⟩
    have hxm := hR i hi x hx
    have hym := hR i hi y hy
    exact ⟨x, y, hxm, hym, fun e => hirr i hi (e ▸ hx), fun e => hirr i hi (e ▸ hy), Wa.rch_trans hR hxm hi ((Wa.rch_iff hR hxm).2 ⟨1, Wa.wk_one hxm (hs i x hi hxm hx)⟩) ((Wa.rch_iff hR hi).2 ⟨1, Wa.wk_one hi hy⟩), h⟩
theorem rmv_conn (hR : Wa.Ok m R) {i u v : Nat} (h : Conn (prR m (rmv R i)) u v) : Conn (prR m R) u v :=
  conn_mono (fun x y h => h.elim (fun h => by
    obtain ⟨h1, h2⟩ := mem_prR.1 h
    exact Conn.one (.inl (mem_prR.2 ⟨h1, (mem_rmv.1 h2).2.2⟩))) (fun h => by
    obtain ⟨h1, h2⟩ := mem_prR.1 h
    exact Conn.one (.inr (mem_prR.2 ⟨h1, (mem_rmv.1 h2).2.2⟩)))) h
theorem parts_point (hR : Wa.Ok m R) (hs : Wa.Sym m R) (hirr : ∀ a, a < m → a ∉ R a) {i : Nat} (hi : i < m) : Cut m R i ↔ parts m R + 2 ≤ parts m (rmv R i) := by
  have hR' := rmv_ok hR i
  have hs' := rmv_sym hs i
  rw [parts_cnt hR hs, parts_cnt hR' hs', cut_iff hR hs hirr hi]
  -- i hangs together with none of those beside it
  have apart : ∀ x, x ∈ R i → ¬ Conn (prR m (rmv R i)) i x := fun x hx h => hirr i hi (by
    have := lone hR hi ((conn_rchR hR' hs' hi).1 h)
    exact this ▸ hx)
  constructor
  · rintro ⟨x, y, hx, hy, hxy⟩
    have hxm := hR i hi x hx
    have hym := hR i hi y hy
    have hnc : ¬ Conn (prR m (rmv R i)) x y := fun h => by
      rw [(conn_rchR hR' hs' hxm).1 h] at hxy
      cases hxy
    have h1 := cnt_cons (prR_lt hR') hi hxm
    rw [if_neg (fun h => apart x hx ((fl_conn _ _ _).1 h))] at h1
    have h2 := cnt_cons (n := m) (E := (i, x) :: prR m (rmv R i)) (fun p hp => by
      rcases List.mem_cons.1 hp with rfl | hp
      · exact ⟨hi, hxm⟩
      · exact prR_lt hR' p hp) hi hym
    rw [if_neg (fun h => by
      rcases ((fl_conn _ _ _).1 h).split with h | ⟨_, h⟩ | ⟨h, _⟩
      · exact apart y hy h
      · exact hnc h
      · exact apart x hx h)] at h2
    have h3 : cnt (prR m R) m ≤ cnt ((i, y) :: (i, x) :: prR m (rmv R i)) m := cnt_anti (fun u v => conn_mono (fun a b h => by
      have one : ∀ a b, (a, b) ∈ (i, y) :: (i, x) :: prR m (rmv R i) → Conn (prR m R) a b := fun a b h => by
        rcases List.mem_cons.1 h with e | h
        · cases e; exact Conn.one (.inl (mem_prR.2 ⟨hi, hy⟩))
        · rcases List.mem_cons.1 h with e | h
          · cases e; exact Conn.one (.inl (mem_prR.2 ⟨hi, hx⟩))
          · exact rmv_conn hR (Conn.one (.inl h))
      rcases h with h | h
      · exact one a b h
      · exact (one b a h).symm))
    omega
  · intro h
    by_cases hex : ∃ x y, x ∈ R i ∧ y ∈ R i ∧ Wa.rch m (rmv R i) x y = false
    · exact hex
    · exfalso
      have hall : ∀ x y, x ∈ R i → y ∈ R i → Wa.rch m (rmv R i) x y = true := fun x y hx hy => by
        cases hr : Wa.rch m (rmv R i) x y with
        | true => rfl
        | false => exact absurd ⟨x, y, hx, hy, hr⟩ hex
      cases hrow : R i with
      | nil =>
        have : cnt (prR m (rmv R i)) m ≤ cnt (prR m R) m := cnt_anti (fun u v => conn_mono (fun a b h => by
          have one : ∀ a b, (a, b) ∈ prR m R → Conn (prR m (rmv R i)) a b := fun a b h => by
            obtain ⟨h1, h2⟩ := mem_prR.1 h
            have ea : a ≠ i := fun e => by rw [e, hrow] at h2; cases h2
            have eb : b ≠ i := fun e => by
              have := hs a b h1 (hR a h1 b h2) h2
              rw [e, hrow] at this
              cases this
            exact Conn.one (.inl (mem_prR.2 ⟨h1, mem_rmv.2 ⟨ea, eb, h2⟩⟩))
          rcases h with h | h
          · exact one a b h
          · exact (one b a h).symm))
        omega
      | cons x0 xs =>
        have hx0 : x0 ∈ R i := by rw [hrow]; simp
        have hxm := hR i hi x0 hx0
        have h1 := cnt_cons (prR_lt hR') hi hxm
        rw [if_neg (fun h => apart x0 hx0 ((fl_conn _ _ _).1 h))] at h1
        have h2 : cnt ((i, x0) :: prR m (rmv R i)) m ≤ cnt (prR m R) m := cnt_anti (fun u v => conn_mono (fun a b h => by
          have star : ∀ y, y ∈ R i → Conn ((i, x0) :: prR m (rmv R i)) i y := fun y hy =>
            (Conn.one (.inl (List.mem_cons_self ..))).trans (((conn_rchR hR' hs' hxm).2 (hall x0 y hx0 hy)).cons _)
          have one : ∀ a b, (a, b) ∈ prR m R → Conn ((i, x0) :: prR m (rmv R i)) a b := fun a b h => by
            obtain ⟨h1, h2⟩ := mem_prR.1 h
            by_cases ea : a = i
            · rw [ea] at h2 ⊢
              exact star b h2
            · by_cases eb : b = i
              · rw [eb] at h2 ⊢
                exact (star a (hs a i h1 hi h2)).symm
              · exact Conn.one (.inl (List.mem_cons_of_mem _ (mem_prR.2 ⟨h1, mem_rmv.2 ⟨ea, eb, h2⟩⟩)))
          rcases h with h | h
          · exact one a b h
          · exact (one b a h).symm))
        omega
end

end Go.Proofs.YtehkkpkhpbbpnaaDoor.Dp
