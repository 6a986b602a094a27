/-
  Contracts of package stable: checkEachOnce.
-/
import Derived.Test.YthdibdghnfkoeaaDoorBase
import Derived.Test.YthdibdghnfkoeaaDoorArr
import Derived.Test.YthdibdghnfkoeaaDoorStableM
namespace Go.Proofs.YthdibdghnfkoeaaDoor
open Go.RowKit Go.Shelf

attribute [local go_sem] Oper.semAt_some
set_option linter.unusedSimpArgs false
set_option linter.unusedVariables false

/-- which of the first six numbers lie among the first j -/
def St.mkd (zs : List Int) (j : Nat) : List Bool := (List.range 6).map fun v : Nat => decide ((v : Int) ∈ zs.take j)
theorem St.mkd_len (zs : List Int) (j : Nat) : (St.mkd zs j).length = 6 := by simp [St.mkd]
theorem St.mkd_at (zs : List Int) (j : Nat) {v : Nat} (hv : v < 6) : (St.mkd zs j).getD v false = decide ((v : Int) ∈ zs.take j) := by simp [St.mkd, List.getD, hv]
theorem St.mkd_zero (zs : List Int) : St.mkd zs 0 = [false, false, false, false, false, false] := by simp [St.mkd, List.range, List.range.loop]
theorem St.take_mem {zs : List Int} {j : Nat} (hj : j < zs.length) (x : Int) : x ∈ zs.take (j + 1) ↔ x ∈ zs.take j ∨ x = zs.getD j 0 := by
  rw [List.take_succ_eq_append_getElem hj, List.mem_append, List.mem_singleton]
  have e : zs.getD j 0 = zs[j] := by simp [List.getD, hj]
  rw [e]
theorem St.mkd_set {zs : List Int} {j v : Nat} (hj : j < zs.length) (hv : v < 6) (e : zs.getD j 0 = (v : Int)) : (St.mkd zs j).set v true = St.mkd zs (j + 1) := by
  refine List.ext_getElem (by simp [St.mkd]) fun i h1 h2 => ?_
  have h6 : i < 6 := by simpa [St.mkd] using h2
  rw [List.getElem_set]
  simp only [St.mkd, List.getElem_map, List.getElem_range]
  have := St.take_mem hj (i : Int)
  rw [e] at this
  by_cases hi : v = i
  · subst hi
    simp [this]
  · have : ((i : Int) ∈ zs.take (j + 1)) ↔ (i : Int) ∈ zs.take j := by
      rw [this]
      constructor
      · rintro (h | h)
        · exact h
        · omega
      · exact .inl
    rw [if_neg hi]
    simp only [this]
theorem St.nodup_step {zs : List Int} {j : Nat} (hj : j < zs.length) (hn : (zs.take j).Nodup) (hx : zs.getD j 0 ∉ zs.take j) : (zs.take (j + 1)).Nodup := by
  rw [List.take_succ_eq_append_getElem hj, List.nodup_append]
  have e : zs.getD j 0 = zs[j] := by simp [List.getD, hj]
  rw [e] at hx
  exact ⟨hn, by simp, fun a ha b hb hab => hx (by simp at hb; rw [← hb, ← hab]; exact ha)⟩
theorem St.nodup_not {zs : List Int} {j : Nat} (hj : j < zs.length) (hx : zs.getD j 0 ∈ zs.take j) : ¬ zs.Nodup := by
  intro hn
  have hn' : (zs.take (j + 1)).Nodup := hn.sublist (List.take_sublist _ _)
  rw [List.take_succ_eq_append_getElem hj, List.nodup_append] at hn'
  have e : zs.getD j 0 = zs[j] := by simp [List.getD, hj]
  rw [e] at hx
  exact hn'.2.2 _ hx _ (by simp) rfl

set_option maxHeartbeats 1000000 in
theorem eachOnce_any (n : Nat) (h6 : n ≤ 6) (A : Option Addr) (k c : Nat) (zs : List Int) (w : World) (hr : Rd w w.heap.size A k c zs) :
    Calls Tryd.prog 15 #[.int .i64 (n : Int), .slice A k c] w fun e w' => e = .returned (errOf (St.rcode n zs)) ∧ Below w.heap.size w w' := by
  have HX := Lib.hid hr.len
  have hbig := hr.big
  by_cases h1 : k ≠ n
  · have hfin : Hid (St.rcode n zs = 3) := by show _ = _; unfold St.rcode; rw [if_pos (by rw [HX.out]; exact h1)]
    have hd : decide ((k : Int) = (n : Int)) = false := by simp; omega
    go_enter Tryd.func15, Tryd.ntmps15
    go_wp2
    go_ret
    exact ⟨by rw [hfin.out]; rfl, Below.refl _ _⟩
  obtain rfl : k = n := Classical.not_not.1 h1
  clear h1
  have hcode : Hid (St.rcode k zs = if St.allB 0 ((k : Int) - 1) zs = false then 1 else if ¬ zs.Nodup then 6 else 0) := by show _ = _; unfold St.rcode; rw [if_neg (fun e => e HX.out)]
  go_enter Tryd.func15, Tryd.ntmps15
  go_wp2
  go_loop [6, 17] (fun _ i => ∃ j : Nat, j ≤ k ∧ i = .int .i64 j ∧ Hid (∀ x ∈ zs.take j, 0 ≤ x ∧ x ≤ (k : Int) - 1)) (fun _ i => k - (intOf i).toNat)
  case atStart => exact ⟨0, Nat.zero_le _, rfl, by simp [Hid]⟩
  case round =>
    obtain ⟨j, hj, rfl, H⟩ := hrel
    by_cases hlt : j < k
    · obtain ⟨b1, o1, rfl, hbb, hcc⟩ := hr.at_ (by omega)
      have g1 := hcc j hlt
      clear hcc
      obtain ⟨x, hx⟩ : ∃ x, x = zs.getD j 0 := ⟨_, rfl⟩
      rw [← hx] at g1
      have HV := Lib.hid hx
      clear hx
      have hkl : Hid (j < zs.length) := by show _ < _; rw [HX.out]; exact hlt
      by_cases ha : x < 0
      · have hfin : Hid (St.rcode k zs = 1) := by
          show _ = _
          rw [hcode.out, if_pos]
          refine Bool.eq_false_iff.2 fun e => ?_
          have := St.allB_iff.1 e _ (St.getD_mem hkl.out)
          rw [← HV.out] at this
          omega
        go_wp2
        go_ret
        exact ⟨by rw [hfin.out]; rfl, Below.refl _ _⟩
      · by_cases hb : (k : Int) ≤ x
        · have hfin : Hid (St.rcode k zs = 1) := by
            show _ = _
            rw [hcode.out, if_pos]
            refine Bool.eq_false_iff.2 fun e => ?_
            have := St.allB_iff.1 e _ (St.getD_mem hkl.out)
            rw [← HV.out] at this
            omega
          go_wp2
          go_ret
          exact ⟨by rw [hfin.out]; rfl, Below.refl _ _⟩
        · have hnext : Hid (∀ x ∈ zs.take (j + 1), 0 ≤ x ∧ x ≤ (k : Int) - 1) := by
            intro y hy
            rcases (St.take_mem hkl.out y).1 hy with h | h
            · exact H.out y h
            · rw [← HV.out] at h
              omega
          go_wp2
          go_round
          case rel => exact ⟨j + 1, by omega, by push_cast; rfl, hnext⟩
          case measure => simp [intOf]; omega
    · obtain rfl : j = k := by omega
      have hall : Hid (∀ x ∈ zs, 0 ≤ x ∧ x ≤ (j : Int) - 1) := by
        have := H.out
        rw [List.take_of_length_le (by rw [HX.out]; exact Nat.le_refl _)] at this
        exact this
      have hcode2 : Hid (St.rcode j zs = if ¬ zs.Nodup then 6 else 0) := by show _ = _; rw [hcode.out, if_neg (by rw [St.allB_iff.2 hall.out]; simp)]
      clear hcode H hj hlt
      go_wp2
      go_loopw [4, 9, 32] (fun _ _ i wr => ∃ m : Nat, m ≤ j ∧ i = .int .i64 m ∧ Below w.heap.size w wr ∧ ArB wr w.heap.size 54 (St.mkd zs m) ∧ Hid ((zs.take m).Nodup)) (fun _ _ i _ => j - (intOf i).toNat)
      case atStart => exact ⟨0, Nat.zero_le _, rfl, (Below.refl _ _).alloc (Nat.le_refl _) _, by rw [St.mkd_zero]; exact ArB.new w 54 [false, false, false, false, false, false], by simp [Hid]⟩
      case round =>
        obtain ⟨m, hm, rfl, hbel, har, H⟩ := hrel
        by_cases hlt : m < j
        · obtain ⟨b1, o1, rfl, hbb, hcc⟩ := hr.at_ (by omega)
          have g1 : wr.cell? ⟨b1, o1 + m, none⟩ = some (.int .i64 (zs.getD m 0)) := (hbel.cell (by exact hbb)).trans (hcc m hlt)
          clear hcc
          have hkl : Hid (m < zs.length) := by show _ < _; rw [HX.out]; exact hlt
          obtain ⟨x, hx⟩ : ∃ x : Nat, (x : Int) = zs.getD m 0 := ⟨(zs.getD m 0).toNat, by have := hall.out _ (St.getD_mem hkl.out); omega⟩
          have hxj : x < j := by have := hall.out _ (St.getD_mem hkl.out); omega
          rw [← hx] at g1
          have HV := Lib.hid hx
          clear hx
          have g2 : wr.cell? ⟨w.heap.size, x, none⟩ = some (.bool (decide ((x : Int) ∈ zs.take m))) := by
            rw [har.cell (by rw [St.mkd_len]; omega), St.mkd_at zs m (by omega)]
          have hsz := hbel.size
          by_cases ha : (x : Int) ∈ zs.take m
          · have hfin : Hid (St.rcode j zs = 6) := by show _ = _; rw [hcode2.out, if_pos (St.nodup_not hkl.out (by rw [← HV.out]; exact ha))]
            have hd : decide ((x : Int) ∈ zs.take m) = true := by simpa using ha
            rw [hd] at g2
            clear ha hd
            go_wp2
            go_ret
            exact ⟨by rw [hfin.out]; rfl, hbel⟩
          · have hd : decide ((x : Int) ∈ zs.take m) = false := by simpa using ha
            rw [hd] at g2
            have hf := har.frozen x
            have hnd : Hid ((zs.take (m + 1)).Nodup) := St.nodup_step hkl.out H.out (by rw [← HV.out]; exact ha)
            have hst := har.store x true
            rw [St.mkd_set hkl.out (by omega) HV.out.symm] at hst
            have hb2 : Below w.heap.size w (wr.setCell ⟨w.heap.size, x, none⟩ (.bool true)) := hbel.setCell (Nat.le_refl _) _
            clear ha hd H
            go_wp2
            go_roundw
            case rel => exact ⟨m + 1, by omega, by push_cast; rfl, hb2, hst, hnd⟩
            case measure => simp [intOf]; omega
        · obtain rfl : m = j := by omega
          have hfin : Hid (St.rcode m zs = 0) := by
            show _ = _
            have := H.out
            rw [List.take_of_length_le (by rw [HX.out]; exact Nat.le_refl _)] at this
            rw [hcode2.out, if_neg (fun h => h this)]
          clear H
          go_wp2
          go_ret
          exact ⟨by rw [hfin.out]; rfl, hbel⟩

end Go.Proofs.YthdibdghnfkoeaaDoor
