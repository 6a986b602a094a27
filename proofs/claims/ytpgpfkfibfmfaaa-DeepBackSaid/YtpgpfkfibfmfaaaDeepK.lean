/-
  Plain facts on a search over all points of a graph: points of one line lie within each other, the roots are the least points of those that hang together. No statement of the program is proved here; there is no condition.
-/
import Derived.Test.YtpgpfkfibfmfaaaDeepL
import Derived.Test.YtpgpfkfibfmfaaaWalkG
set_option linter.unusedSimpArgs false
set_option linter.unusedVariables false
namespace Go.Proofs.Ytpgpfkfibfmfaaa.Dp

theorem Whole.root {m : Nat} {R : Nat → List Nat} (hR : Wa.Ok m R) {F : Fo} (hF : Whole m R F) {i : Nat} (hi : i < m) : par F (-1) i = -1 ↔ Wa.lab m R m i = (i : Int) := by
  have hq := hF.spec hR
  obtain ⟨s', hd⟩ := hF
  have h1 := hd.roots hR 0 (by rw [Nat.sub_zero, ← List.range_eq_range']) (by simp) (by omega) (fun u hu => ?_) (fun u hu => ?_) i
  · rw [par_root hq.2 (fun x _ => by omega) ((hq.1 i).2 hi), h1]
    obtain ⟨u, e1, e2, e3, e4⟩ := Wa.lab_spec hR hi
    rw [e1]
    constructor
    · rintro ⟨_, _, h⟩
      rcases Nat.lt_or_ge u i with h2 | h2
      · rw [h u h2] at e3; cases e3
      · have : u = i := by omega
        rw [this]
    · intro h
      have : u = i := by omega
      subst this
      exact ⟨Nat.zero_le _, hi, e4⟩
  · constructor
    · intro h
      simp [List.getD, List.getElem?_replicate] at h
      split at h <;> simp_all
    · rintro ⟨t, ht, _⟩; omega
  · simp [List.getD, List.getElem?_replicate] at hu
    split at hu <;> simp_all

theorem Whole.back {m : Nat} {R : Nat → List Nat} (hR : Wa.Ok m R) (hs : Wa.Sym m R) {F : Fo} (hF : Whole m R F) {u w : Nat} (hu : u < m) (hw : w < m) (hne : u ≠ w) (h : w ∈ R u) :
    (met F 0 u < met F 0 w ∧ left F 0 w < left F 0 u) ∨ (met F 0 w < met F 0 u ∧ left F 0 u < left F 0 w) := by
  have hq := hF.spec hR
  obtain ⟨s', hd⟩ := hF
  exact hd.back hR hs (by simp) (by simp) 0 u w ((hq.1 u).2 hu) ((hq.1 w).2 hw) hne h

theorem Whole.times {m : Nat} {R : Nat → List Nat} (hR : Wa.Ok m R) {F : Fo} (hF : Whole m R F) {u : Nat} (hu : u < m) : met F 0 u < left F 0 u ∧ left F 0 u < 2 * m := by
  have hq := hF.spec hR
  have := times_in (k := 0) ((hq.1 u).2 hu)
  rw [hF.size hR] at this
  omega

theorem Whole.part {m : Nat} {R : Nat → List Nat} (hR : Wa.Ok m R) {F : Fo} (hF : Whole m R F) {u w : Nat} (hu : u < m) (hw : w < m) (hne : u ≠ w) : Part (met F 0 u) (left F 0 u) (met F 0 w) (left F 0 w) := by
  have hq := hF.spec hR
  exact times_part hq.2 ((hq.1 u).2 hu) ((hq.1 w).2 hw) hne

theorem Whole.par {m : Nat} {R : Nat → List Nat} (hR : Wa.Ok m R) {F : Fo} (hF : Whole m R F) {u : Nat} (hu : u < m) : Dp.par F (-1) u = -1 ∨ ∃ q, q < m ∧ Dp.par F (-1) u = (q : Int) ∧ u ∈ R q ∧ met F 0 q < met F 0 u ∧ left F 0 u < left F 0 q := by
  have hq := hF.spec hR
  obtain ⟨s', hd⟩ := hF
  rcases hd.par_of hq.2 0 (-1) u ((hq.1 u).2 hu) with ⟨_, _, h⟩ | ⟨q, h1, h2⟩
  · exact .inl h
  · exact .inr ⟨q, (hq.1 q).1 h1, h2⟩

/-- a line of a graph that is in order: two points, beside each other -/
theorem line_of {m : Nat} {ls : List Gr.Ln} (h : Gr.code (m : Int) ls = 0) {i : Nat} (hi : i < ls.length) : ∃ x y : Nat, ls.getD i (0, 0) = ((x : Int), (y : Int)) ∧ x < m ∧ y < m ∧ x ≠ y ∧ y ∈ Wa.nrow m ls x := by
  have hmem : ls.getD i (0, 0) ∈ ls := by simp [List.getD, hi]
  obtain ⟨h1, h2, h3, h4, h5⟩ := (Gr.code_zero.1 h).2.2.2 _ hmem
  refine ⟨(ls.getD i (0, 0)).1.toNat, (ls.getD i (0, 0)).2.toNat, ?_, by omega, by omega, by omega, ?_⟩
  · rw [Int.toNat_of_nonneg h1, Int.toNat_of_nonneg h3]
  · rw [Wa.mem_nrow, Int.toNat_of_nonneg h1, Int.toNat_of_nonneg h3]
    exact ⟨by omega, Gr.adj_iff.2 (.inl hmem)⟩

end Go.Proofs.Ytpgpfkfibfmfaaa.Dp
