/-
  What a sort of lines leaves: the same lines, by their first and then by their second point. No statement of the program is proved here; there is no condition.
-/
import Derived.Test.YtnekbgeablhgiaaDoorCmpL
import Derived.Test.YtnekbgeablhgiaaDoorLnLt
import Derived.Shelf.Abstract
namespace Go.Proofs.YtnekbgeablhgiaaDoor
open Go.RowKit

/-! ### the order -/
theorem cmpL_lt (p q : Int × Int) : Go.Proofs.ltOf cmpL p q = true ↔ Dp.lnLt p q := by
  unfold Go.Proofs.ltOf cmpL cmpI Dp.lnLt
  rw [decide_eq_true_eq]
  by_cases h1 : p.1 < q.1
  · simp [h1]
  · by_cases h2 : q.1 < p.1
    · simp [h1, h2]; omega
    · by_cases h3 : p.2 < q.2
      · simp [h1, h2, h3]; omega
      · by_cases h4 : q.2 < p.2
        · simp [h1, h2, h3, h4]
        · simp [h1, h2, h3, h4]
theorem cmpL_ge (p q : Int × Int) : Go.Proofs.ltOf cmpL p q = false ↔ ¬ Dp.lnLt p q := by
  rw [← cmpL_lt]; simp
theorem cmpL_swo : Go.Sort.SWO (Go.Proofs.ltOf cmpL) where
  irrefl x := by rw [cmpL_ge]; exact Dp.lnLt_irr x
  trans x y z h1 h2 := by rw [cmpL_lt] at *; unfold Dp.lnLt at *; omega
  ntrans x y z h1 h2 := by rw [cmpL_ge] at *; unfold Dp.lnLt at *; omega

/-! ### the cells -/
theorem flat_at (d : Array (Int × Int)) (t : Nat) (ht : t < d.size * 2) : (Go.Sort.flatK encLn 2 d)[t]! = (pcells d.toList)[t]! := by
  rw [Go.Sort.get_flatK _ _ _ _ ht]
  obtain ⟨k, hk⟩ : ∃ k, k = t / 2 := ⟨_, rfl⟩
  have hkl : k < d.toList.length := by simp; omega
  have hkd : k < d.size := by simpa using hkl
  have hg : d.toList.getD k (0, 0) = d[k]! := by simp [List.getD, hkd]
  have h1 := pcells_fst d.toList k hkl
  have h2 := pcells_snd d.toList k hkl
  rw [hg] at h1 h2
  rcases Nat.mod_two_eq_zero_or_one t with hm | hm
  · obtain rfl : t = k * 2 := by omega
    rw [← hk, hm, List.getElem!_eq_getElem?_getD (l := pcells _), h1]
    simp [encLn]
  · obtain rfl : t = k * 2 + 1 := by omega
    rw [← hk, hm, List.getElem!_eq_getElem?_getD (l := pcells _), h2]
    simp [encLn]

theorem heap_rowK (w : World) (n g : Nat) (cur : Array Value) (e : TypeId) (F : Array Value) (os : Array Obj) (hg : w.heap[g]? = some (.cells cur e (0, 0))) :
    (Go.Sort.grow (Go.Sort.putRow id (Go.Sort.ahead w n) g 0 F) os).heap[g]? = some (.cells (Go.Sort.putCells id 0 F cur) e (0, 0)) := by
  have hlt : g < w.heap.size := (Array.getElem?_eq_some_iff.1 hg).1
  show ((Go.Sort.putRow id (Go.Sort.ahead w n) g 0 F).heap ++ os)[g]? = _
  rw [Array.getElem?_append_left (by simpa [Go.Sort.putRow, Go.Sort.mapBlock, Go.Sort.ahead] using hlt)]
  simp [Go.Sort.putRow, Go.Sort.mapBlock, Go.Sort.ahead, Array.getElem?_modify, hg, Go.Sort.onCells]
theorem heap_rowK_other (w : World) (n g k : Nat) (F : Array Value) (os : Array Obj) (hk : k ≠ g) (hlt : k < w.heap.size) :
    (Go.Sort.grow (Go.Sort.putRow id (Go.Sort.ahead w n) g 0 F) os).heap[k]? = w.heap[k]? := by
  show ((Go.Sort.putRow id (Go.Sort.ahead w n) g 0 F).heap ++ os)[k]? = _
  rw [Array.getElem?_append_left (by simpa [Go.Sort.putRow, Go.Sort.mapBlock, Go.Sort.ahead] using hlt)]
  simp [Go.Sort.putRow, Go.Sort.mapBlock, Go.Sort.ahead, Array.getElem?_modify, Ne.symm hk]

/-- what a sort of lines leaves -/
def SortPost (w : World) (base g n cap : Nat) (zs : List (Int × Int)) (e : Ending) (w' : World) : Prop :=
  e = .returned (.tuple #[]) ∧ w.grownBy w' (some g) ∧ ∃ os : List (Int × Int), os.Perm zs ∧ os.Pairwise (fun p q => ¬ Dp.lnLt q p) ∧ OwnP w' base 41 (.slice (some ⟨g, 0, none⟩) n cap) os

end Go.Proofs.YtnekbgeablhgiaaDoor
