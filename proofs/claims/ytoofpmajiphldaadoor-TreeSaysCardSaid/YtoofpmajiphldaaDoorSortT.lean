/-
  slices.Sort at a slice of texts: the library's contract, laid at this program. No statement of the program is proved here; there is no condition.
-/
import Derived.Test.YtoofpmajiphldaaDoorProg
import Derived.Test.YtoofpmajiphldaaDoorLibU
import Derived.Test.YtoofpmajiphldaaDoorTreeU
import Derived.Shelf.SortM.Plain
import Derived.Shelf.SortM.SortNone
import Derived.Sort.OwnSorted
namespace Go.Proofs.YtoofpmajiphldaaDoor
open Go.RowKit

def sortTRen : Go.Shelf.Ren := ⟨fun | 6 => 27 | 8 => 41 | 9 => 40 | 19 => 64 | 20 => 65 | 21 => 55 | 22 => 56 | 23 => 57 | 24 => 58 | 25 => 59 | 26 => 60 | 27 => 61 | 28 => 62 | 29 => 63 | 31 => 75 | 32 => 76 | 36 => 74 | 37 => 77 | 38 => 78 | 39 => 79 | 41 => 82 | n => n, fun | 0 => 0 | 3 => 3 | 4 => 4 | 5 => 5 | 9 => 9 | 26 => 53 | 27 => 53 | 29 => 9 | 32 => 77 | 35 => 102 | 36 => 103 | 41 => 107 | 44 => 110 | 46 => 112 | 53 => 133 | 57 => 137 | 63 => 142 | 64 => 143 | n => n, fun | n => n⟩
set_option maxHeartbeats 1000000 in
theorem sortTLays : Go.Proofs.SlLaysM.n6 Tryd.prog sortTRen := {
  mixed := by kernel_rfl
  f6 := ⟨Tryd.f27.name, by kernel_rfl, Tryd.func27.trans (congrArg some (by kernel_rfl))⟩
  f8 := Tryd.func41.trans (congrArg some (by kernel_rfl))
  f9 := ⟨Tryd.f40.name, by kernel_rfl, Tryd.func40.trans (congrArg some (by kernel_rfl))⟩
  f19 := Tryd.func64.trans (congrArg some (by kernel_rfl))
  f20 := Tryd.func65.trans (congrArg some (by kernel_rfl))
  f21 := ⟨Tryd.f55.name, by kernel_rfl, Tryd.func55.trans (congrArg some (by kernel_rfl))⟩
  f22 := ⟨Tryd.f56.name, by kernel_rfl, Tryd.func56.trans (congrArg some (by kernel_rfl))⟩
  f23 := ⟨Tryd.f57.name, by kernel_rfl, Tryd.func57.trans (congrArg some (by kernel_rfl))⟩
  f24 := ⟨Tryd.f58.name, by kernel_rfl, Tryd.func58.trans (congrArg some (by kernel_rfl))⟩
  f25 := ⟨Tryd.f59.name, by kernel_rfl, Tryd.func59.trans (congrArg some (by kernel_rfl))⟩
  f26 := ⟨Tryd.f60.name, by kernel_rfl, Tryd.func60.trans (congrArg some (by kernel_rfl))⟩
  f27 := ⟨Tryd.f61.name, by kernel_rfl, Tryd.func61.trans (congrArg some (by kernel_rfl))⟩
  f28 := ⟨Tryd.f62.name, by kernel_rfl, Tryd.func62.trans (congrArg some (by kernel_rfl))⟩
  f29 := ⟨Tryd.f63.name, by kernel_rfl, Tryd.func63.trans (congrArg some (by kernel_rfl))⟩
  f31 := Tryd.func75.trans (congrArg some (by kernel_rfl))
  f32 := Tryd.func76.trans (congrArg some (by kernel_rfl))
  f36 := ⟨Tryd.f74.name, by kernel_rfl, Tryd.func74.trans (congrArg some (by kernel_rfl))⟩
  f37 := ⟨Tryd.f77.name, by kernel_rfl, Tryd.func77.trans (congrArg some (by kernel_rfl))⟩
  f38 := ⟨Tryd.f78.name, by kernel_rfl, Tryd.func78.trans (congrArg some (by kernel_rfl))⟩
  f39 := ⟨Tryd.f79.name, by kernel_rfl, Tryd.func79.trans (congrArg some (by kernel_rfl))⟩
  f41 := ⟨Tryd.f82.name, by kernel_rfl, Tryd.func82.trans (congrArg some (by kernel_rfl))⟩
  t0 := Tryd.underlying0
  a0 := Tryd.isAgg0
  z0 := Tryd.sizeOf0
  v0 := Tryd.zeroValue0
  t3 := Tryd.underlying3
  a3 := Tryd.isAgg3
  z3 := Tryd.sizeOf3
  v3 := Tryd.zeroValue3
  t4 := Tryd.underlying4
  a4 := Tryd.isAgg4
  z4 := Tryd.sizeOf4
  v4 := Tryd.zeroValue4
  t5 := Tryd.underlying5
  a5 := Tryd.isAgg5
  z5 := Tryd.sizeOf5
  v5 := Tryd.zeroValue5
  t9 := Tryd.underlying9
  a9 := Tryd.isAgg9
  z9 := Tryd.sizeOf9
  v9 := Tryd.zeroValue9
  t26 := Tryd.underlying53
  a26 := Tryd.isAgg53
  z26 := Tryd.sizeOf53
  v26 := Tryd.zeroValue53
  t27 := Tryd.underlying53
  a27 := Tryd.isAgg53
  z27 := Tryd.sizeOf53
  v27 := Tryd.zeroValue53
  t29 := Tryd.underlying9
  a29 := Tryd.isAgg9
  z29 := Tryd.sizeOf9
  v29 := Tryd.zeroValue9
  t32 := Tryd.underlying77
  a32 := Tryd.isAgg77
  z32 := Tryd.sizeOf77
  v32 := Tryd.zeroValue77
  t35 := Tryd.underlying102
  a35 := Tryd.isAgg102
  z35 := Tryd.sizeOf102
  v35 := Tryd.zeroValue102
  t36 := Tryd.underlying103
  a36 := Tryd.isAgg103
  z36 := Tryd.sizeOf103
  v36 := Tryd.zeroValue103
  t41 := Tryd.underlying107
  a41 := Tryd.isAgg107
  z41 := Tryd.sizeOf107
  v41 := Tryd.zeroValue107
  t44 := Tryd.underlying110
  a44 := Tryd.isAgg110
  z44 := Tryd.sizeOf110
  v44 := Tryd.zeroValue110
  t46 := Tryd.underlying112
  a46 := Tryd.isAgg112
  z46 := Tryd.sizeOf112
  v46 := Tryd.zeroValue112
  t53 := Tryd.underlying133
  a53 := Tryd.isAgg133
  z53 := Tryd.sizeOf133
  v53 := Tryd.zeroValue133
  t57 := Tryd.underlying137
  a57 := Tryd.isAgg137
  z57 := Tryd.sizeOf137
  v57 := Tryd.zeroValue137
  t63 := Tryd.underlying142
  a63 := Tryd.isAgg142
  z63 := Tryd.sizeOf142
  v63 := Tryd.zeroValue142
  t64 := Tryd.underlying143
  a64 := Tryd.isAgg143
  z64 := Tryd.sizeOf143
  v64 := Tryd.zeroValue143 }

theorem sortT_row (blk cap : Nat) (ss : List (List UInt8)) (w : World) (hH : Go.Sort.Holds Go.Proofs.encStr w blk 0 ss.toArray) (hblk : blk < w.heap.size) (hsz : ss.length < 4611686018427387904) :
    Calls Tryd.prog 27 #[.slice (some ⟨blk, 0, none⟩) ss.length cap] w fun e w' => e = .returned (.tuple #[]) ∧ ∃ n os, w' = Go.Sort.grow (Go.Sort.putRow Go.Proofs.encStr (Go.Sort.ahead w n) blk 0 (ss.mergeSort fun x y => decide (x ≤ y)).toArray) os :=
  Go.Proofs.AnyM.slices_Sort_string sortTLays blk 0 cap ss w hH hblk hsz

/-- slices.Sort of a slice of the call's own -/
theorem sort_ownT (base : Nat) (v : Value) (zs : List (List Nat)) (w : World) (hown : OwnT w base 9 v (zs.map Nm.bs)) (hs : ∀ x ∈ zs, Nm.Sm x) (hsm : zs.length ≤ 1048576) :
    Calls Tryd.prog 27 #[v] w fun e w' => e = .returned (.tuple #[]) ∧ OwnT w' base 9 v ((Nm.srt zs).map Nm.bs) ∧ w.grownBy w' v.ownBlock := by
  have hown' := hown
  have hcv : ∀ l : List (List Nat), (l.map Nm.bs).map Value.string = (l.map Nm.u8).map Go.Proofs.encStr := fun l => by
    rw [List.map_map, List.map_map]
    rfl
  rcases hown.2 with ⟨rfl, h0⟩ | ⟨g, cap, cur, rfl, hb, hg, hnc, hcm, hcs, htake⟩
  · have hz : zs = [] := by
      have := List.eq_nil_of_length_eq_zero h0
      simpa using this
    subst hz
    refine (Go.Proofs.AnyM.slices_Sort_string_none sortTLays none 0 w).mono ?_
    rintro e w' ⟨rfl, rfl⟩
    refine ⟨rfl, ?_, World.grownBy.refl _ _⟩
    have : Nm.srt [] = [] := by unfold Nm.srt; rw [List.mergeSort_nil]
    rw [this]
    exact hown'
  · have hl : (zs.map Nm.bs).length = (zs.map Nm.u8).length := by simp
    rw [hl]
    rw [hl] at hnc
    refine (sortT_row g cap (zs.map Nm.u8) w ?_ (Array.getElem?_eq_some_iff.1 hg).1 (by simp; omega)).mono ?_
    · intro j hj
      have hj' : j < zs.length := by simpa using hj
      refine ⟨?_, World.ownsRow.frozenAt hown' _⟩
      rw [Nat.zero_add, World.ownsRow.cellAt hown' j (by simp; omega)]
      simp [hj', Nm.bs]
    · rintro e w' ⟨rfl, n, os, rfl⟩
      refine ⟨rfl, ?_, Go.grownBy_sorted _⟩
      unfold OwnT
      rw [Nm.sort_u8 hs, hcv]
      have e2 : ((Nm.srt zs).map Nm.bs).length = (zs.map Nm.u8).length := by simp [(Nm.srt_perm zs).length_eq]
      rw [e2]
      exact Go.ownsRow_sorted (by simp [(Nm.srt_perm zs).length_eq]) hb hg hnc hcm hcs

end Go.Proofs.YtoofpmajiphldaaDoor
