/-
  Plain facts on odd rings as package halves finds them: for each point the least round over a line whose ends are equally far, and the least of all. No statement of the program is proved here; there is no condition.
-/
import Derived.Test.YtklanopgmlmjlaaDoorHalvesN
set_option linter.unusedSimpArgs false
set_option linter.unusedVariables false
namespace Go.Proofs.YtklanopgmlmjlaaDoor.Ha
open Wa

/-- the round from s over a line whose ends are equally far, or 0 -/
def flat (m : Nat) (R : Nat → List Nat) (s : Nat) (p : Gr.Ln) : Int := if 0 ≤ dist m R s p.1.toNat ∧ dist m R s p.1.toNat = dist m R s p.2.toNat then 2 * dist m R s p.1.toNat + 1 else 0
theorem flat_pos {m : Nat} {R : Nat → List Nat} {s : Nat} {p : Gr.Ln} (h1 : 0 ≤ dist m R s p.1.toNat) (h2 : dist m R s p.1.toNat = dist m R s p.2.toNat) : flat m R s p = 2 * dist m R s p.1.toNat + 1 := if_pos ⟨h1, h2⟩
theorem flat_none {m : Nat} {R : Nat → List Nat} {s : Nat} {p : Gr.Ln} (h : ¬ (0 ≤ dist m R s p.1.toNat ∧ dist m R s p.1.toNat = dist m R s p.2.toNat)) : flat m R s p = 0 := if_neg h
theorem better_zero (q : Int) : better 0 q = q := if_neg (fun h => by omega)
/-- the least of them over some lines -/
def ow (m : Nat) (R : Nat → List Nat) (s : Nat) (ls : List Gr.Ln) : Int := ls.foldl (fun best p => better (flat m R s p) best) 0
theorem ow_take {m : Nat} {R : Nat → List Nat} {s : Nat} {ls : List Gr.Ln} {k : Nat} (hk : k < ls.length) : ow m R s (ls.take (k + 1)) = better (flat m R s (ls.getD k (0, 0))) (ow m R s (ls.take k)) := by
  unfold ow
  rw [List.take_succ_eq_append_getElem hk, List.foldl_append]
  simp [List.getD, hk]
theorem fold_best {m : Nat} {R : Nat → List Nat} {s : Nat} : ∀ {ls : List Gr.Ln} {S : Int → Prop} {best : Int}, IsBest S best → IsBest (fun y => S y ∨ ∃ p ∈ ls, y = flat m R s p) (ls.foldl (fun best p => better (flat m R s p) best) best)
  | [], S, best, h => h.congr (fun x => by simp)
  | p :: ls, S, best, h => (fold_best (ls := ls) (h.step (x := flat m R s p))).congr (fun x => by simp [or_assoc])
theorem ow_best (m : Nat) (R : Nat → List Nat) (s : Nat) (ls : List Gr.Ln) : IsBest (fun y => ∃ p ∈ ls, y = flat m R s p) (ow m R s ls) :=
  (fold_best (ls := ls) (S := fun _ => False) (best := 0) (.inl ⟨rfl, fun _ h => h.elim⟩)).congr (fun x => by simp)
/-- the least over the first points -/
def oddTo (m : Nat) (ls : List Gr.Ln) : Nat → Int
  | 0 => 0
  | k + 1 => better (ow m (nrow m ls) k ls) (oddTo m ls k)
def odd (m : Nat) (ls : List Gr.Ln) : Int := oddTo m ls m
theorem oddTo_best (m : Nat) (ls : List Gr.Ln) : ∀ k, IsBest (fun y => ∃ v, v < k ∧ y = ow m (nrow m ls) v ls) (oddTo m ls k)
  | 0 => .inl ⟨rfl, fun x ⟨v, h, _⟩ => by omega⟩
  | k + 1 => ((oddTo_best m ls k).step (x := ow m (nrow m ls) k ls)).congr (fun x => by
      constructor
      · rintro (⟨v, hv, rfl⟩ | rfl)
        · exact ⟨v, by omega, rfl⟩
        · exact ⟨k, by omega, rfl⟩
      · rintro ⟨v, hv, rfl⟩
        rcases Nat.lt_or_ge v k with h | h
        · exact .inl ⟨v, h, rfl⟩
        · have : v = k := by omega
          subst this
          exact .inr rfl)
theorem Flat.line {m : Nat} {ls : List Gr.Ln} {s d : Nat} (h : Flat m (nrow m ls) s d) : ∃ p ∈ ls, flat m (nrow m ls) s p = 2 * (d : Int) + 1 := by
  obtain ⟨u, v, hu, hv, h1, h2⟩ := h
  obtain ⟨hvm, ha⟩ := mem_nrow.1 hv
  rcases Gr.adj_iff.1 ha with hm | hm
  · refine ⟨_, hm, ?_⟩
    have e1 : ((u : Int)).toNat = u := Int.toNat_natCast u
    have e2 : ((v : Int)).toNat = v := Int.toNat_natCast v
    rw [flat_pos (by simp only [e1]; omega) (by simp only [e1, e2]; omega)]
    simp only [e1]
    omega
  · refine ⟨_, hm, ?_⟩
    have e1 : ((u : Int)).toNat = u := Int.toNat_natCast u
    have e2 : ((v : Int)).toNat = v := Int.toNat_natCast v
    rw [flat_pos (by simp only [e2]; omega) (by simp only [e1, e2]; omega)]
    simp only [e2]
    omega
theorem flat_flat {m : Nat} {ls : List Gr.Ln} (h : Gr.code (m : Int) ls = 0) {s : Nat} {p : Gr.Ln} (hp : p ∈ ls) (h0 : 0 < flat m (nrow m ls) s p) : ∃ d : Nat, flat m (nrow m ls) s p = 2 * (d : Int) + 1 ∧ Flat m (nrow m ls) s d := by
  obtain ⟨g1, g2, g3, g4, g5⟩ := (Gr.code_zero.1 h).2.2.2 p hp
  unfold flat at h0 ⊢
  split at h0
  · rename_i hh
    rw [if_pos hh]
    have hm : p.2.toNat ∈ nrow m ls p.1.toNat := by
      rw [mem_nrow, Int.toNat_of_nonneg g1, Int.toNat_of_nonneg g3]
      exact ⟨by omega, Gr.adj_iff.2 (.inl hp)⟩
    exact ⟨(dist m (nrow m ls) s p.1.toNat).toNat, by omega, p.1.toNat, p.2.toNat, by omega, hm, by omega, by omega⟩
  · omega
theorem ow_pos {m : Nat} {ls : List Gr.Ln} (h : Gr.code (m : Int) ls = 0) {s : Nat} (h0 : 0 < ow m (nrow m ls) s ls) : ∃ d : Nat, ow m (nrow m ls) s ls = 2 * (d : Int) + 1 ∧ Flat m (nrow m ls) s d := by
  rcases ow_best m (nrow m ls) s ls with ⟨e, _⟩ | ⟨_, ⟨p, hp, e⟩, _⟩
  · omega
  · rw [e] at h0 ⊢
    exact flat_flat h hp h0
theorem Flat.ow_le {m : Nat} {ls : List Gr.Ln} {s d : Nat} (h : Flat m (nrow m ls) s d) : 0 < ow m (nrow m ls) s ls ∧ ow m (nrow m ls) s ls ≤ 2 * (d : Int) + 1 := by
  obtain ⟨p, hp, e⟩ := h.line
  rcases ow_best m (nrow m ls) s ls with ⟨_, hh⟩ | ⟨h1, _, hh⟩
  · have := hh _ ⟨p, hp, rfl⟩
    omega
  · have := hh _ ⟨p, hp, rfl⟩ (by omega)
    exact ⟨h1, by omega⟩
theorem odd_is {m : Nat} {ls : List Gr.Ln} (h : Gr.code (m : Int) ls = 0) : ∃ o : Nat, odd m ls = (o : Int) ∧ OddIs m (nrow m ls) o := by
  have hR := nrow_ok m ls
  have hs := nrow_sym m ls
  rcases oddTo_best m ls m with ⟨e, hh⟩ | ⟨h0, ⟨v, hv, e⟩, hh⟩
  · refine ⟨0, e, .inl ⟨rfl, fun q hq => ?_⟩⟩
    obtain ⟨s, d, hsm, hf, _⟩ := round_flat hR hs hq
    have := hh _ ⟨s, hsm, rfl⟩
    have := hf.ow_le
    omega
  · obtain ⟨d, e2, hf⟩ := ow_pos h (s := v) (by omega)
    refine ⟨2 * d + 1, by show oddTo m ls m = _; omega, .inr ⟨hf.round hR hs hv, fun t ht hq => ?_⟩⟩
    obtain ⟨s, d2, hsm, hf2, hle⟩ := round_flat hR hs hq
    have h3 := hf2.ow_le
    have := hh _ ⟨s, hsm, rfl⟩ h3.1
    omega
theorem flat_range {m : Nat} {ls : List Gr.Ln} (h : Gr.code (m : Int) ls = 0) {s : Nat} (hs : s < m) {p : Gr.Ln} (hp : p ∈ ls) : dist m (nrow m ls) s p.1.toNat ≤ (m : Int) ∧ -1 ≤ dist m (nrow m ls) s p.1.toNat := by
  rcases dist_cases p.1.toNat (nrow_ok m ls) hs with ⟨k, hd, he⟩ | ⟨_, he⟩
  · have := hd.small (nrow_ok m ls) hs
    omega
  · omega
theorem line_at {m : Nat} {ls : List Gr.Ln} (h : Gr.code (m : Int) ls = 0) {j : Nat} (hj : j < ls.length) : ∃ p q : Nat, ls.getD j (0, 0) = ((p : Int), (q : Int)) ∧ p < m ∧ q < m ∧ ls.getD j (0, 0) ∈ ls := by
  have hm : ls.getD j (0, 0) ∈ ls := by simp [List.getD, hj]
  obtain ⟨g1, g2, g3, g4, g5⟩ := (Gr.code_zero.1 h).2.2.2 _ hm
  refine ⟨(ls.getD j (0, 0)).1.toNat, (ls.getD j (0, 0)).2.toNat, ?_, by omega, by omega, hm⟩
  rw [Int.toNat_of_nonneg g1, Int.toNat_of_nonneg g3]
theorem okB_any {m : Nat} {ls : List Gr.Ln} (h : Gr.code (m : Int) ls = 0) : okB m ls = !(ls.any fun p => decide ((parts m (nrow m ls)).getD p.1.toNat 0 = (parts m (nrow m ls)).getD p.2.toNat 0)) := by
  unfold okB
  rw [List.not_any_eq_all_not]
  rw [Bool.eq_iff_iff, List.all_eq_true, List.all_eq_true]
  refine forall_congr' fun p => forall_congr' fun hp => ?_
  obtain ⟨h1, h2, h3, h4, h5⟩ := (Gr.code_zero.1 h).2.2.2 p hp
  rw [parts_at _ (show p.1.toNat < m by omega), parts_at _ (show p.2.toNat < m by omega)]
/-- the least point that hangs together with v, and how far v is from it -/
theorem lab_dist {m : Nat} {R : Nat → List Nat} (hR : Ok m R) {v : Nat} (hv : v < m) : ∃ u : Nat, lab m R m v = (u : Int) ∧ u < m ∧ 0 ≤ dist m R u v ∧ pt m R v = (dist m R u v).tmod 2 := by
  obtain ⟨u, h1, h2, h3, _⟩ := lab_spec hR hv
  have h0 : 0 ≤ dist m R u v := by simpa [rch] using h3
  refine ⟨u, h1, by omega, h0, ?_⟩
  unfold pt
  rw [h1, Int.toNat_natCast, Int.tmod_eq_emod_of_nonneg h0]

end Go.Proofs.YtklanopgmlmjlaaDoor.Ha
