/-
  The rows and the numbers of what the reference's Far hands back.
-/
import Derived.Test.YtojkjdccjomaaaaDoorRefF
namespace Go.Proofs.YtojkjdccjomaaaaDoor.RefF
open Go.RowKit

/-- a row of it -/
theorem RdR_row {w : World} {gb cb m : Nat} {F : Nat → Nat → Int} (h : RdR w w.heap.size (some ⟨gb, 0, none⟩) m cb (matF m m F)) {i : Nat} (hi : i < m) : ∃ A' c', w.cell? ⟨gb, i, none⟩ = some (.slice A' m c') ∧ Rd w w.heap.size A' m c' (rowF m F i) := by
  obtain ⟨b, o, e, hb, hc⟩ := h.at_ (by omega)
  simp only [Option.some.injEq, Addr.mk.injEq, and_true] at e
  obtain ⟨rfl, rfl⟩ := e
  obtain ⟨A', c', h1, h2⟩ := hc i hi
  rw [matF_at F hi, rowF_len] at h1 h2
  rw [Nat.zero_add] at h1
  exact ⟨A', c', h1, h2⟩
theorem RdR_block {w : World} {gb cb m : Nat} {rows : List (List Int)} (h : RdR w w.heap.size (some ⟨gb, 0, none⟩) m cb rows) (hm : 0 < m) : gb < w.heap.size := by
  obtain ⟨b, o, e, hb, hc⟩ := h.at_ hm
  simp only [Option.some.injEq, Addr.mk.injEq, and_true] at e
  obtain ⟨rfl, rfl⟩ := e
  exact hb

/-- a number of it -/
theorem far_cell {w : World} {gb cb m : Nat} {F : Nat → Nat → Int} (h : RdR w w.heap.size (some ⟨gb, 0, none⟩) m cb (matF m m F)) {i j : Nat} (hi : i < m) (hj : j < m) : ∃ g o c, w.cell? ⟨gb, i, none⟩ = some (.slice (some ⟨g, o, none⟩) m c) ∧ w.cell? ⟨g, o + j, none⟩ = some (.int .i64 (F i j)) := by
  obtain ⟨A', c', h1, h2⟩ := RdR_row h hi
  obtain ⟨g, o, rfl, _, hc⟩ := h2.at_ (by omega)
  have := hc j hj
  rw [rowF_at F i hj] at this
  exact ⟨g, o, c', h1, this⟩

end Go.Proofs.YtojkjdccjomaaaaDoor.RefF
