/-
  Plain facts on trees whose points stand in another order, with no program in them: they are trees, and have the same name. No statement of the program is proved here; there is no condition.
-/
import Derived.Test.YtoofpmajiphldaaTreeU
set_option linter.unusedSimpArgs false
set_option linter.unusedVariables false
namespace Go.Proofs.Ytoofpmajiphldaa.Tr
open Wa (nrow mem_nrow nrow_ok nrow_sym dist dist_zero dist_step)

/-- a line, its points in another order, turned round -/
def turnL (o : List Int) (p : Gr.Ln) : Gr.Ln := (o.getD p.2.toNat 0, o.getD p.1.toNat 0)
/-- the lines from the j-th on, from the last one back -/
def turnTo (o : List Int) (ls : List Gr.Ln) (j : Nat) : List Gr.Ln := ((ls.drop j).reverse).map (turnL o)
theorem turnTo_end (o : List Int) {ls : List Gr.Ln} {j : Nat} (h : ls.length ≤ j) : turnTo o ls j = [] := by
  unfold turnTo
  rw [List.drop_eq_nil_of_le h]
  rfl
theorem turnTo_next (o : List Int) {ls : List Gr.Ln} {j : Nat} (h : j < ls.length) : turnTo o ls j = turnTo o ls (j + 1) ++ [turnL o (ls.getD j (0, 0))] := by
  unfold turnTo
  rw [List.drop_eq_getElem_cons h, List.reverse_cons, List.map_append]
  simp [List.getD, h]
theorem turnTo_len (o : List Int) (ls : List Gr.Ln) (j : Nat) : (turnTo o ls j).length ≤ ls.length := by
  unfold turnTo
  rw [List.length_map, List.length_reverse, List.length_drop]
  omega
theorem mem_turned {o : List Int} {ls : List Gr.Ln} {p : Gr.Ln} : p ∈ turnTo o ls 0 ↔ ∃ q ∈ ls, turnL o q = p := by
  unfold turnTo
  rw [List.drop_zero, List.mem_map]
  simp

/-- an order of m points -/
structure Perm (m : Nat) (o : List Int) : Prop where
  len : o.length = m
  rng : ∀ d ∈ o, 0 ≤ d ∧ d ≤ (m : Int) - 1
  nd : o.Nodup
section
variable {m : Nat} {o : List Int} {ls : List Gr.Ln}
def at_ (o : List Int) (i : Nat) : Nat := (o.getD i 0).toNat
theorem Perm.get (h : Perm m o) {i : Nat} (hi : i < m) : o.getD i 0 = ((at_ o i : Nat) : Int) ∧ at_ o i < m := by
  have hl := h.len
  have hm : o.getD i 0 ∈ o := by
    have e : o.getD i 0 = o[i] := by simp [List.getD, hl, hi]
    rw [e]
    exact List.getElem_mem _
  have := h.rng _ hm
  unfold at_
  omega
theorem Perm.inj (h : Perm m o) {i j : Nat} (hi : i < m) (hj : j < m) (e : at_ o i = at_ o j) : i = j := by
  have hl := h.len
  have e' : o.getD i 0 = o.getD j 0 := by rw [(h.get hi).1, (h.get hj).1, e]
  have e1 : o.getD i 0 = o[i] := by simp [List.getD, hl, hi]
  have e2 : o.getD j 0 = o[j] := by simp [List.getD, hl, hj]
  rw [e1, e2] at e'
  rcases Nat.lt_trichotomy i j with hlt | hlt | hlt
  · exact absurd e' (List.pairwise_iff_getElem.1 (List.nodup_iff_pairwise_ne.1 h.nd) i j (by omega) (by omega) hlt)
  · exact hlt
  · exact absurd e'.symm (List.pairwise_iff_getElem.1 (List.nodup_iff_pairwise_ne.1 h.nd) j i (by omega) (by omega) hlt)
theorem Perm.sur (h : Perm m o) {w : Nat} (hw : w < m) : ∃ i, i < m ∧ at_ o i = w := by
  have hn : ((List.range m).map (at_ o)).Nodup := by
    rw [List.nodup_iff_pairwise_ne, List.pairwise_map]
    refine List.Pairwise.imp_of_mem ?_ (List.nodup_iff_pairwise_ne.1 (List.nodup_range (n := m)))
    intro x y hx hy hne e
    exact hne (h.inj (List.mem_range.1 hx) (List.mem_range.1 hy) e)
  have := nodup_all hn (m := List.range m) (fun x hx => by
    obtain ⟨i, hi, rfl⟩ := List.mem_map.1 hx
    exact List.mem_range.2 (h.get (List.mem_range.1 hi)).2) (by simp) w (List.mem_range.2 hw)
  obtain ⟨i, hi, e⟩ := List.mem_map.1 this
  exact ⟨i, List.mem_range.1 hi, e⟩
theorem turn_has (h : Perm m o) (hg : ∀ p ∈ ls, Gr.Good (m : Int) p) {u v : Nat} (hu : u < m) (hv : v < m) : Gr.has (turnTo o ls 0) (at_ o u : Int) (at_ o v : Int) = Gr.has ls (v : Int) (u : Int) := by
  rw [Bool.eq_iff_iff, Gr.has_iff, Gr.has_iff, mem_turned]
  constructor
  · rintro ⟨⟨p, q⟩, hm, e⟩
    obtain ⟨g1, g2, g3, g4, _⟩ := hg _ hm
    simp only at g1 g2 g3 g4
    unfold turnL at e
    simp only [Prod.mk.injEq] at e
    have e1 : q.toNat = u := h.inj (by omega) hu (by have := (h.get (i := q.toNat) (by omega)).1; omega)
    have e2 : p.toNat = v := h.inj (by omega) hv (by have := (h.get (i := p.toNat) (by omega)).1; omega)
    have e3 : p = (v : Int) := by omega
    have e4 : q = (u : Int) := by omega
    rw [← e3, ← e4]
    exact hm
  · intro hm
    refine ⟨_, hm, ?_⟩
    unfold turnL
    simp only [Int.toNat_natCast]
    rw [(h.get hu).1, (h.get hv).1]
theorem turn_ad (h : Perm m o) (hg : ∀ p ∈ ls, Gr.Good (m : Int) p) {u v : Nat} (hu : u < m) (hv : v < m) : ad (turnTo o ls 0) (at_ o u) (at_ o v) = ad ls u v := by
  unfold ad Gr.adj
  rw [turn_has h hg hu hv, turn_has h hg hv hu, Bool.or_comm]
theorem turn_good (h : Perm m o) (hg : ∀ p ∈ ls, Gr.Good (m : Int) p) : ∀ p ∈ turnTo o ls 0, Gr.Good (m : Int) p := by
  intro p hp
  obtain ⟨⟨x, y⟩, hm, rfl⟩ := mem_turned.1 hp
  obtain ⟨g1, g2, g3, g4, g5⟩ := hg _ hm
  simp only at g1 g2 g3 g4 g5
  have a1 := h.get (i := x.toNat) (by omega)
  have a2 := h.get (i := y.toNat) (by omega)
  refine ⟨?_, ?_, ?_, ?_, fun e => ?_⟩
  · show 0 ≤ o.getD y.toNat 0; omega
  · show o.getD y.toNat 0 < (m : Int); omega
  · show 0 ≤ o.getD x.toNat 0; omega
  · show o.getD x.toNat 0 < (m : Int); omega
  · have e' : o.getD y.toNat 0 = o.getD x.toNat 0 := e
    have := h.inj (i := y.toNat) (j := x.toNat) (by omega) (by omega) (by omega)
    omega
theorem turn_tree (h : Perm m o) (ht : Tree m ls) : Tree m (turnTo o ls 0) := by
  have hR := nrow_ok m (turnTo o ls 0)
  refine ⟨turn_good h ht.good, ?_, fun a b ha hb => ?_⟩
  · have := ht.len
    unfold turnTo
    rw [List.length_map, List.length_reverse, List.length_drop]
    omega
  · have key : ∀ k a b, a < m → b < m → far m ls a b = k → 0 ≤ dist m (nrow m (turnTo o ls 0)) (at_ o a) (at_ o b) := by
      intro k
      induction k with
      | zero =>
        intro a b ha hb hk
        have e := (far_zero ht ha hb).1 hk
        subst e
        rw [(dist_zero hR (h.get ha).2 (v := at_ o a)).2 rfl]
        omega
      | succ k ih =>
        intro a b ha hb hk
        have hne : b ≠ a := fun e => by
          have := (far_zero ht ha hb).2 e.symm
          omega
        obtain ⟨w, hw, hA, hf⟩ := far_back ht ha hb hne
        have h1 := ih a w ha hw (by omega)
        refine (dist_step hR (h.get ha).2 (h.get hw).2 (mem_nrow.2 ⟨(h.get hb).2, ?_⟩) h1).1
        have := turn_ad h ht.good hw hb
        rw [ad_comm ls w b, hA] at this
        exact this
    obtain ⟨i, hi, rfl⟩ := h.sur ha
    obtain ⟨j, hj, rfl⟩ := h.sur hb
    exact key _ i j hi hj rfl
/-- it is a tree, and has the same name -/
theorem turn_same (h : Perm m o) (hc : tcode (m : Int) ls = 0) : tcode (m : Int) (turnTo o ls 0) = 0 ∧ Nm.wn (ad (turnTo o ls 0)) m (far m (turnTo o ls 0)) = Nm.wn (ad ls) m (far m ls) := by
  obtain ⟨h1, ht⟩ := tcode_zero.1 hc
  have ht' := turn_tree h ht
  obtain ⟨c1, c2, c3, c4⟩ := Gr.code_zero.1 h1
  refine ⟨tcode_zero.2 ⟨Gr.code_zero.2 ⟨c1, c2, Nat.le_trans (turnTo_len o ls 0) c3, turn_good h c4⟩, ht'⟩, ?_⟩
  exact (Nm.wn_turn ht.met ht'.met (by omega) (f := at_ o) ⟨fun v hv => (h.get hv).2, fun u v hu hv e => h.inj hu hv e, fun w hw => h.sur hw, fun u v hu hv => turn_ad h c4 hu hv⟩).symm
end
end Go.Proofs.Ytoofpmajiphldaa.Tr
