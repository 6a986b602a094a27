/-
  slices.Reverse at slices of integers: the library's contract, laid at this program. No statement of the program is proved here; there is no condition.
-/
import Derived.Test.YtnekbgeablhgiaaProg
import Derived.Test.YtnekbgeablhgiaaLibS
import Derived.WalkKit
import Derived.Shelf.Slices.Reverse
namespace Go.Proofs.Ytnekbgeablhgiaa
open Go.RowKit

/-! ### slices.Reverse at []int: the library's contract, laid at this program -/
def revRen : Go.Shelf.Ren := ⟨fun | 112 => 37 | n => n, fun | 28 => 23 | 3 => 3 | 4 => 4 | 0 => 0 | n => n, fun | n => n⟩
theorem revLays : Go.Proofs.Lays.n112 Try.prog revRen := {
  mixed := by kernel_rfl
  f112 := Try.func37.trans (congrArg some (by kernel_rfl))
  t0 := Try.underlying0
  a0 := Try.isAgg0
  z0 := Try.sizeOf0
  v0 := Try.zeroValue0
  t3 := Try.underlying3
  a3 := Try.isAgg3
  z3 := Try.sizeOf3
  v3 := Try.zeroValue3
  t4 := Try.underlying4
  a4 := Try.isAgg4
  z4 := Try.sizeOf4
  v4 := Try.zeroValue4
  t28 := Try.underlying23
  a28 := Try.isAgg23
  z28 := Try.sizeOf23
  v28 := Try.zeroValue23 }

theorem rev_row (blk cap : Nat) (zs : List Int) (w : World) (hH : Go.Sort.Holds (Value.int .i64) w blk 0 zs.toArray) (hsz : zs.length ≤ 9223372036854775807) :
    Calls Try.prog 37 #[.slice (some ⟨blk, 0, none⟩) zs.length cap] w fun e w' => e = .returned (.tuple #[]) ∧ ∃ n, w' = Go.Sort.putRow (Value.int .i64) (Go.Sort.ahead w n) blk 0 zs.reverse.toArray :=
  Any.slices_Reverse_int revLays blk 0 cap zs w hH hsz
theorem rev_empty (a : Option Addr) (cap : Nat) (w : World) :
    Calls Try.prog 37 #[.slice a 0 cap] w fun e w' => e = .returned (.tuple #[]) ∧ w' = w := Any.slices_Reverse_int_empty revLays a cap w

theorem heap_putRow (w : World) (n g : Nat) (cur : Array Value) (e : TypeId) (d : Array Int) (hg : w.heap[g]? = some (.cells cur e (0, 0))) :
    (Go.Sort.putRow (Value.int .i64) (Go.Sort.ahead w n) g 0 d).heap[g]? = some (.cells (Go.Sort.putCells (Value.int .i64) 0 d cur) e (0, 0)) := by
  simp [Go.Sort.putRow, Go.Sort.mapBlock, Go.Sort.ahead, Array.getElem?_modify, hg, Go.Sort.onCells]
theorem heap_putRow_other (w : World) (n g k : Nat) (d : Array Int) (hk : k ≠ g) :
    (Go.Sort.putRow (Value.int .i64) (Go.Sort.ahead w n) g 0 d).heap[k]? = w.heap[k]? := by
  simp [Go.Sort.putRow, Go.Sort.mapBlock, Go.Sort.ahead, Array.getElem?_modify, Ne.symm hk]

/-- slices.Reverse of a slice of the call's own -/
theorem rev_own (base : Nat) (v : Value) (zs : List Int) (w : World) (hown : Own w base 3 v zs) :
    Calls Try.prog 37 #[v] w fun e w' => e = .returned (.tuple #[]) ∧ Own w' base 3 v zs.reverse ∧ w.grownBy w' v.ownBlock := by
  have hown' := hown
  rcases hown.2 with ⟨rfl, h0⟩ | ⟨g, cap, cur, rfl, hb, hg, hnc, hcm, hcs, htake⟩
  · have hz : zs = [] := List.eq_nil_of_length_eq_zero h0
    subst hz
    refine (rev_empty none 0 w).mono ?_
    rintro e w' ⟨rfl, rfl⟩
    exact ⟨rfl, hown', World.grownBy.refl _ _⟩
  · refine (rev_row g cap zs w ?_ (by simp only [maxLen] at hcm; omega)).mono ?_
    · intro j hj
      have hj' : j < zs.length := by simpa using hj
      refine ⟨?_, World.ownsRow.frozenAt hown' _⟩
      rw [Nat.zero_add, World.ownsRow.cellAt hown' j (by omega)]
      simp [hj']
    · rintro e w' ⟨rfl, n, rfl⟩
      refine ⟨rfl, ?_, ⟨rfl, rfl, rfl, by simp [Go.Sort.putRow, Go.Sort.mapBlock, Go.Sort.ahead], fun k _ hk => heap_putRow_other _ _ _ _ _ (fun e => hk (by rw [e]; rfl))⟩⟩
      unfold Own
      rw [List.length_reverse]
      refine ⟨by simp, .inr ⟨g, cap, _, rfl, hb, heap_putRow w n g cur _ _ hg, hnc, hcm, by simpa [Go.Sort.putCells] using hcs, ?_⟩⟩
      apply List.ext_getElem?
      intro k
      have hc : cur.size = cap := by simpa using hcs
      by_cases hk : k < zs.length
      · have hkc : k < cur.size := by omega
        simp [Go.Sort.putCells, hk, hkc]
      · simp [Go.Sort.putCells, List.getElem?_take, hk]

end Go.Proofs.Ytnekbgeablhgiaa
