/-
  Plain facts on a search over all points of a graph: points of one line lie within each other, the roots are the least points of those that hang together. No statement of the program is proved here; there is no condition.
-/
import Derived.Test.YtehkkpkhpbbpnaaDoorDeepL
import Derived.Test.YtehkkpkhpbbpnaaDoorWalkG
set_option linter.unusedSimpArgs false
set_option linter.unusedVariables false
namespace Go.Proofs.YtehkkpkhpbbpnaaDoor.Dp

theorem Whole.root {m : Nat} {R : Nat → List Nat} (hR : Wa.Ok m R) {F : Fo} (hF : Whole m R F) {i : Nat} (hi : i < m) : par F (-1) i = -1 ↔ Wa.lab m R m i = (i : Int) := by
  have hq := hF.spec hR
  obtain ⟨s', hd⟩ := hF
  have h1 := hd.roots hR 0 (by rw [Nat.sub_zero, ← List.range_eq_range']) (by simp) (by omega) (fun u hu => ?_) (fun u hu => ?_) i
  · rw [par_root hq.2 (fun x _ => by omega) ((hq.1 i).2 hi), h1]
    obtain ⟨u, e1, e2, e3, e4⟩ := Wa.lab_spec hR hi
    rw [e1]
    constructor
    · rintro ⟨_, _, h⟩
      rcases Nat.lt_or_ge u i with h2 | h2
      · rw [h u h2] at e3; cases e3
      · have : u = i := by omega
        rw [this]
    · intro h
      have : u = i := by omega
      subst this
      exact ⟨Nat.zero_le _, hi, e4⟩
  · constructor
    · intro h
      simp [List.getD, List.getElem?_replicate] at h
      split at h <;> simp_all
    · rintro ⟨t, ht, _⟩; omega
  · simp [List.getD, List.getElem?_replicate] at hu
    split at hu <;> simp_all

theorem Whole.back {m : Nat} {R : Nat → List Nat} (hR : Wa.Ok m R) (hs : Wa.Sym m R) {F : Fo} (hF : Whole m R F) {u w : Nat} (hu : u < m) (hw : w < m) (hne : u ≠ w) (h : w ∈ R u) :
    (met F 0 u < met F 0 w ∧ left F 0 w < left F 0 u) ∨ (met F 0 w < met F 0 u ∧ left F 0 u < left F 0 w) := by
  have hq := hF.spec hR
  obtain ⟨s', hd⟩ := hF
  exact hd.back hR hs (by simp) (by simp) 0 u w ((hq.1 u).2 hu) ((hq.1 w).2 hw) hne h

theorem Whole.times {m : Nat} {R : Nat → List Nat} (hR : Wa.Ok m R) {F : Fo} (hF : Whole m R F) {u : Nat} (hu : u < m) : met F 0 u < left F 0 u ∧ left F 0 u < 2 * m := by
  have hq := hF.spec hR
  have := times_in (k := 0) ((hq.1 u).2 hu)
  rw [hF.size hR] at this
  omega

theorem Whole.part {m : Nat} {R : Nat → List Nat} (hR : Wa.Ok m R) {F : Fo} (hF : Whole m R F) {u w : Nat} (hu : u < m) (hw : w < m) (hne : u ≠ w) : Part (met F 0 u) (left F 0 u) (met F 0 w) (left F 0 w) := by
  have hq := hF.spec hR
  exact times_part hq.2 ((hq.1 u).2 hu) ((hq.1 w).2 hw) hne

theorem Whole.par {m : Nat} {R : Nat → List Nat} (hR : Wa.Ok m R) {F : Fo} (hF : Whole m R F) {u : Nat} (hu : u < m) : Dp.par F (-1) u = -1 ∨ ∃ q, q < m ∧ Dp.par F (-1) u = (q : Int) ∧ u ∈ R q ∧ met F 0 q < met F 0 u ∧ left F 0 u < left F 0 q := by
  have hq := hF.spec hR
  obtain ⟨s', hd⟩ := hF
  rcases hd.par_of hq.2 0 (-1) u ((hq.1 u).2 hu) with ⟨_, _, h⟩ | ⟨q, h1, h2⟩
  · exact .inl h
  · exact .inr ⟨q, (hq.1 q).1 h1, h2⟩

/-- a line of a graph that is in order: two points, beside each other -/
theorem line_of {m : Nat} {ls : List Gr.Ln} (h : Gr.code (m : Int) ls = 0) {i : Nat} (hi : i < ls.length) : ∃ x y : Nat, ls.getD i (0, 0) = ((x : Int), (y : Int)) ∧ x < m ∧ y < m ∧ x ≠ y ∧ y ∈ Wa.nrow m ls x := by
  have hmem : ls.getD i (0, 0) ∈ ls := by simp [List.getD, hi]
  obtain ⟨h1, h2, h3, h4, h5⟩ := (Gr.code_zero.1 h).2.2.2 _ hmem
  refine ⟨(ls.getD i (0, 0)).1.toNat, (ls.getD i (0, 0)).2.toNat, ?_, by omega, by omega, by omega, ?_⟩
  · rw [Int.toNat_of_nonneg h1, Int.toNat_of_nonneg h3]
  · rw [Wa.mem_nrow, Int.toNat_of_nonneg h1, Int.toNat_of_nonneg h3]
    exact ⟨by omega, Gr.adj_iff.2 (.inl hmem)⟩

/-! ### all times -/
theorem times_all : ∀ {F : Fo} {k j : Nat}, F.pts.Nodup → k ≤ j → j < k + 2 * F.size → ∃ u ∈ F.pts, met F k u = j ∨ left F k u = j
  | .nil, k, j, _, h1, h2 => by simp only [Fo.size] at h2; omega
  | .cons v ch rest, k, j, hn, h1, h2 => by
    obtain ⟨n1, n2, n3, n4, n5⟩ := Fo.nodup_pts.1 hn
    simp only [Fo.size] at h2
    by_cases e1 : j = k
    · exact ⟨v, by simp [Fo.pts], .inl (by rw [met_v, e1])⟩
    · by_cases e2 : j = k + 2 * ch.size + 1
      · exact ⟨v, by simp [Fo.pts], .inr (by rw [left_v, e2])⟩
      · by_cases e3 : j < k + 2 * ch.size + 1
        · obtain ⟨u, hu, h⟩ := times_all (F := ch) (k := k + 1) (j := j) n3 (by omega) (by omega)
          have e : u ≠ v := fun e => n1 (e ▸ hu)
          exact ⟨u, by simp [Fo.pts, hu], by rw [met_c e hu, left_c e hu]; exact h⟩
        · obtain ⟨u, hu, h⟩ := times_all (F := rest) (k := k + 2 * ch.size + 2) (j := j) n4 (by omega) (by omega)
          have e : u ≠ v := fun e => n2 (e ▸ hu)
          have e' : u ∉ ch.pts := fun h => n5 u h hu
          exact ⟨u, by simp [Fo.pts, hu], by rw [met_r e e', left_r e e']; exact h⟩

/-- when each of the first i points is met and left -/
def tms (F : Fo) (i : Nat) : List Int := (List.range i).flatMap fun v => [((met F 0 v : Nat) : Int), ((left F 0 v : Nat) : Int)]
theorem tms_zero (F : Fo) : tms F 0 = [] := rfl
theorem tms_succ (F : Fo) (i : Nat) : tms F (i + 1) = tms F i ++ [((met F 0 i : Nat) : Int)] ++ [((left F 0 i : Nat) : Int)] := by simp [tms, List.range_succ, List.flatMap_append]
theorem tms_len (F : Fo) (i : Nat) : (tms F i).length = 2 * i := by
  induction i with
  | zero => rfl
  | succ i ih => rw [tms_succ]; simp [ih]; omega
theorem tms_at (F : Fo) {i v : Nat} (hv : v < i) : (tms F i).getD (2 * v) 0 = ((met F 0 v : Nat) : Int) ∧ (tms F i).getD (2 * v + 1) 0 = ((left F 0 v : Nat) : Int) := by
  induction i with
  | zero => omega
  | succ i ih =>
    rw [tms_succ, List.append_assoc]
    have hl := tms_len F i
    rcases Nat.lt_or_ge v i with h | h
    · have := ih h
      simp only [List.getD] at this ⊢
      rw [List.getElem?_append_left (by omega), List.getElem?_append_left (by omega)]
      exact this
    · obtain rfl : v = i := by omega
      have r1 : ∀ j, (tms F v ++ ([((met F 0 v : Nat) : Int)] ++ [((left F 0 v : Nat) : Int)]))[2 * v + j]? = [((met F 0 v : Nat) : Int), ((left F 0 v : Nat) : Int)][j]? := fun j => by
        rw [List.getElem?_append_right (by omega), hl, Nat.add_sub_cancel_left]; rfl
      have r2 := r1 0
      have r3 := r1 1
      rw [Nat.add_zero] at r2
      simp only [List.getD, r2, r3]
      exact ⟨rfl, rfl⟩

theorem Whole.once {m : Nat} {R : Nat → List Nat} (hR : Wa.Ok m R) {F : Fo} (hF : Whole m R F) :
    (∀ k, k < 2 * m → ∃ p, p < 2 * m ∧ (tms F m).getD p 0 = (k : Int)) ∧ (∀ p q, p < 2 * m → q < 2 * m → (tms F m).getD p 0 = (tms F m).getD q 0 → p = q) ∧ ∀ p, p < 2 * m → 0 ≤ (tms F m).getD p 0 := by
  have hq := hF.spec hR
  have hs := hF.size hR
  have split : ∀ p, p < 2 * m → ∃ v, v < m ∧ ((p = 2 * v ∧ (tms F m).getD p 0 = ((met F 0 v : Nat) : Int)) ∨ (p = 2 * v + 1 ∧ (tms F m).getD p 0 = ((left F 0 v : Nat) : Int))) := by
    intro p hp
    refine ⟨p / 2, by omega, ?_⟩
    have := tms_at F (i := m) (v := p / 2) (by omega)
    rcases Nat.mod_two_eq_zero_or_one p with h | h
    · have e : p = 2 * (p / 2) := by omega
      exact .inl ⟨e, by rw [← this.1, ← e]⟩
    · have e : p = 2 * (p / 2) + 1 := by omega
      exact .inr ⟨e, by rw [← this.2, ← e]⟩
  refine ⟨fun k hk => ?_, fun p q hp hq' he => ?_, fun p hp => ?_⟩
  · obtain ⟨u, hu, h⟩ := times_all (k := 0) hq.2 (Nat.zero_le k) (by rw [hs]; omega)
    have hum := (hq.1 u).1 hu
    have ht := tms_at F hum
    rcases h with h | h
    · exact ⟨2 * u, by omega, by rw [ht.1, h]⟩
    · exact ⟨2 * u + 1, by omega, by rw [ht.2, h]⟩
  · obtain ⟨u, hu, hpu⟩ := split p hp
    obtain ⟨v, hv, hqv⟩ := split q hq'
    have t1 := hF.times hR hu
    have t2 := hF.times hR hv
    by_cases huv : u = v
    · subst huv
      rcases hpu with ⟨e1, f1⟩ | ⟨e1, f1⟩ <;> rcases hqv with ⟨e2, f2⟩ | ⟨e2, f2⟩ <;> rw [f1, f2] at he <;> omega
    · have hp2 := hF.part hR hu hv huv
      unfold Part at hp2
      rcases hpu with ⟨e1, f1⟩ | ⟨e1, f1⟩ <;> rcases hqv with ⟨e2, f2⟩ | ⟨e2, f2⟩ <;> rw [f1, f2] at he <;> omega
  · obtain ⟨u, hu, hpu⟩ := split p hp
    rcases hpu with ⟨e1, f1⟩ | ⟨e1, f1⟩ <;> rw [f1] <;> omega

end Go.Proofs.YtehkkpkhpbbpnaaDoor.Dp
