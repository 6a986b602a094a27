/-
  Plain facts that the laws on package cuts ask: how many parts up to a point, which points are in the list, ends of lines that hold. No statement of the program is proved here; there is no condition.
-/
import Derived.Test.YtehkkpkhpbbpnaaCutsB
import Derived.Test.YtehkkpkhpbbpnaaWalkI
set_option linter.unusedSimpArgs false
set_option linter.unusedVariables false
namespace Go.Proofs.Ytehkkpkhpbbpnaa.Dp

theorem code_erase {n : Int} {ls : List Gr.Ln} (h : Gr.code n ls = 0) (k : Nat) : Gr.code n (ls.eraseIdx k) = 0 := by
  have := Gr.code_zero.1 h
  exact Gr.code_zero.2 ⟨this.1, this.2.1, Nat.le_trans (List.length_eraseIdx_le ls k) this.2.2.1, fun p hp => this.2.2.2 p (List.mem_of_mem_eraseIdx hp)⟩

/-- how many points below j are the first of their part -/
def rts (m : Nat) (R : Nat → List Nat) (j : Nat) : Nat := ((List.range j).filter fun v => decide (Wa.lab m R m v = (v : Int))).length
theorem rts_zero (m : Nat) (R : Nat → List Nat) : rts m R 0 = 0 := rfl
theorem rts_hit {m : Nat} {R : Nat → List Nat} {j : Nat} (h : Wa.lab m R m j = (j : Int)) : rts m R (j + 1) = rts m R j + 1 := by
  unfold rts; rw [List.range_succ, List.filter_append]; simp [h]
theorem rts_miss {m : Nat} {R : Nat → List Nat} {j : Nat} (h : Wa.lab m R m j ≠ (j : Int)) : rts m R (j + 1) = rts m R j := by
  unfold rts; rw [List.range_succ, List.filter_append]; simp [h]
theorem rts_le (m : Nat) (R : Nat → List Nat) (j : Nat) : rts m R j ≤ j := by
  have := List.length_filter_le (fun v => decide (Wa.lab m R m v = (v : Int))) (List.range j)
  simpa [rts] using this
theorem rts_all (m : Nat) (R : Nat → List Nat) : rts m R m = parts m R := rfl

theorem has_cpts {m : Nat} {R : Nat → List Nat} {i : Nat} (hi : i < m) : (upL (cpts m R)).contains (i : Int) = cutB m R i := by
  rw [Bool.eq_iff_iff, cutB_iff]
  simp only [List.contains_iff_mem, upL, List.mem_map]
  constructor
  · rintro ⟨v, hv, e⟩
    have : v = i := by omega
    exact (mem_cpts.1 (this ▸ hv)).2
  · intro h
    exact ⟨i, mem_cpts.2 ⟨hi, h⟩, rfl⟩
theorem row_up (m : Nat) (ls : List Gr.Ln) (a : Nat) : (Gr.row m ls a).length = (Wa.nrow m ls a).length := by simp [Gr.row, Wa.nrow]
theorem nrow_nodup (m : Nat) (ls : List Gr.Ln) (a : Nat) : (Wa.nrow m ls a).Nodup := List.Pairwise.filter _ List.nodup_range
/-- an end of a line that holds, with another beside it -/
theorem ends_has {m : Nat} {ls : List Gr.Ln} (h0 : Gr.code (m : Int) ls = 0) {x y : Nat} (hx : x < m) (hy : y < m) (hb : brB m ls x y = true) (hl : 1 < (Gr.row m ls x).length) : (upL (cpts m (Wa.nrow m ls))).contains (x : Int) = true := by
  rw [row_up] at hl
  have hnd := nrow_nodup m ls x
  obtain ⟨c, hc, hne⟩ : ∃ c, c ∈ Wa.nrow m ls x ∧ c ≠ y := by
    match hm : Wa.nrow m ls x with
    | [] => rw [hm] at hl; simp at hl
    | [a] => rw [hm] at hl; simp at hl
    | a :: b :: r =>
      rw [hm] at hnd
      have hab : a ≠ b := fun e => (List.nodup_cons.1 hnd).1 (e ▸ List.mem_cons_self)
      by_cases e : a = y
      · exact ⟨b, by simp, fun e' => hab (e.trans e'.symm)⟩
      · exact ⟨a, by simp, e⟩
  rw [has_cpts hx]
  exact cutB_iff.2 (mem_cpts.1 (brl_ends h0 hx hy hb hc hne)).2
theorem has_less {m : Nat} {ls : List Gr.Ln} (h0 : Gr.code (m : Int) ls = 0) {i : Nat} (hi : i < m) : (upL (cpts m (Wa.nrow m ls))).contains (i : Int) = decide (parts m (Wa.nrow m ls) < parts (m - 1) (Wa.nrow (m - 1) (Gr.without (i : Int) ls))) := by
  rw [has_cpts hi, Bool.eq_iff_iff, cutB_iff, decide_eq_true_eq]
  exact without_parts (nrow_irr h0) hi
theorem cpts_len (m : Nat) (R : Nat → List Nat) : (cpts m R).length ≤ m := by
  have := List.length_filter_le (cutB m R) (List.range m)
  simpa [cpts] using this

end Go.Proofs.Ytehkkpkhpbbpnaa.Dp
