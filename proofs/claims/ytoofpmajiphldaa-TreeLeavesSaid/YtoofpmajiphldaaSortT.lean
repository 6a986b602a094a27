/-
  slices.Sort at a slice of texts: the library's contract, laid at this program. No statement of the program is proved here; there is no condition.
-/
import Derived.Test.YtoofpmajiphldaaProg
import Derived.Test.YtoofpmajiphldaaLibU
import Derived.Test.YtoofpmajiphldaaTreeU
import Derived.Shelf.SortM.Plain
import Derived.Shelf.SortM.SortNone
import Derived.Sort.OwnSorted
namespace Go.Proofs.Ytoofpmajiphldaa
open Go.RowKit

def sortTRen : Go.Shelf.Ren := ⟨fun | 6 => 29 | 8 => 45 | 9 => 44 | 19 => 63 | 20 => 64 | 21 => 54 | 22 => 55 | 23 => 56 | 24 => 57 | 25 => 58 | 26 => 59 | 27 => 60 | 28 => 61 | 29 => 62 | 31 => 71 | 32 => 72 | 36 => 70 | 37 => 73 | 38 => 74 | 39 => 75 | 41 => 80 | n => n, fun | 0 => 0 | 3 => 3 | 4 => 4 | 5 => 5 | 9 => 9 | 26 => 57 | 27 => 57 | 29 => 9 | 32 => 78 | 35 => 89 | 36 => 90 | 41 => 95 | 44 => 98 | 46 => 100 | 53 => 106 | 57 => 110 | 63 => 120 | 64 => 121 | n => n, fun | n => n⟩
set_option maxHeartbeats 1000000 in
theorem sortTLays : Go.Proofs.SlLaysM.n6 Try.prog sortTRen := {
  mixed := by kernel_rfl
  f6 := ⟨Try.f29.name, by kernel_rfl, Try.func29.trans (congrArg some (by kernel_rfl))⟩
  f8 := Try.func45.trans (congrArg some (by kernel_rfl))
  f9 := ⟨Try.f44.name, by kernel_rfl, Try.func44.trans (congrArg some (by kernel_rfl))⟩
  f19 := Try.func63.trans (congrArg some (by kernel_rfl))
  f20 := Try.func64.trans (congrArg some (by kernel_rfl))
  f21 := ⟨Try.f54.name, by kernel_rfl, Try.func54.trans (congrArg some (by kernel_rfl))⟩
  f22 := ⟨Try.f55.name, by kernel_rfl, Try.func55.trans (congrArg some (by kernel_rfl))⟩
  f23 := ⟨Try.f56.name, by kernel_rfl, Try.func56.trans (congrArg some (by kernel_rfl))⟩
  f24 := ⟨Try.f57.name, by kernel_rfl, Try.func57.trans (congrArg some (by kernel_rfl))⟩
  f25 := ⟨Try.f58.name, by kernel_rfl, Try.func58.trans (congrArg some (by kernel_rfl))⟩
  f26 := ⟨Try.f59.name, by kernel_rfl, Try.func59.trans (congrArg some (by kernel_rfl))⟩
  f27 := ⟨Try.f60.name, by kernel_rfl, Try.func60.trans (congrArg some (by kernel_rfl))⟩
  f28 := ⟨Try.f61.name, by kernel_rfl, Try.func61.trans (congrArg some (by kernel_rfl))⟩
  f29 := ⟨Try.f62.name, by kernel_rfl, Try.func62.trans (congrArg some (by kernel_rfl))⟩
  f31 := Try.func71.trans (congrArg some (by kernel_rfl))
  f32 := Try.func72.trans (congrArg some (by kernel_rfl))
  f36 := ⟨Try.f70.name, by kernel_rfl, Try.func70.trans (congrArg some (by kernel_rfl))⟩
  f37 := ⟨Try.f73.name, by kernel_rfl, Try.func73.trans (congrArg some (by kernel_rfl))⟩
  f38 := ⟨Try.f74.name, by kernel_rfl, Try.func74.trans (congrArg some (by kernel_rfl))⟩
  f39 := ⟨Try.f75.name, by kernel_rfl, Try.func75.trans (congrArg some (by kernel_rfl))⟩
  f41 := ⟨Try.f80.name, by kernel_rfl, Try.func80.trans (congrArg some (by kernel_rfl))⟩
  t0 := Try.underlying0
  a0 := Try.isAgg0
  z0 := Try.sizeOf0
  v0 := Try.zeroValue0
  t3 := Try.underlying3
  a3 := Try.isAgg3
  z3 := Try.sizeOf3
  v3 := Try.zeroValue3
  t4 := Try.underlying4
  a4 := Try.isAgg4
  z4 := Try.sizeOf4
  v4 := Try.zeroValue4
  t5 := Try.underlying5
  a5 := Try.isAgg5
  z5 := Try.sizeOf5
  v5 := Try.zeroValue5
  t9 := Try.underlying9
  a9 := Try.isAgg9
  z9 := Try.sizeOf9
  v9 := Try.zeroValue9
  t26 := Try.underlying57
  a26 := Try.isAgg57
  z26 := Try.sizeOf57
  v26 := Try.zeroValue57
  t27 := Try.underlying57
  a27 := Try.isAgg57
  z27 := Try.sizeOf57
  v27 := Try.zeroValue57
  t29 := Try.underlying9
  a29 := Try.isAgg9
  z29 := Try.sizeOf9
  v29 := Try.zeroValue9
  t32 := Try.underlying78
  a32 := Try.isAgg78
  z32 := Try.sizeOf78
  v32 := Try.zeroValue78
  t35 := Try.underlying89
  a35 := Try.isAgg89
  z35 := Try.sizeOf89
  v35 := Try.zeroValue89
  t36 := Try.underlying90
  a36 := Try.isAgg90
  z36 := Try.sizeOf90
  v36 := Try.zeroValue90
  t41 := Try.underlying95
  a41 := Try.isAgg95
  z41 := Try.sizeOf95
  v41 := Try.zeroValue95
  t44 := Try.underlying98
  a44 := Try.isAgg98
  z44 := Try.sizeOf98
  v44 := Try.zeroValue98
  t46 := Try.underlying100
  a46 := Try.isAgg100
  z46 := Try.sizeOf100
  v46 := Try.zeroValue100
  t53 := Try.underlying106
  a53 := Try.isAgg106
  z53 := Try.sizeOf106
  v53 := Try.zeroValue106
  t57 := Try.underlying110
  a57 := Try.isAgg110
  z57 := Try.sizeOf110
  v57 := Try.zeroValue110
  t63 := Try.underlying120
  a63 := Try.isAgg120
  z63 := Try.sizeOf120
  v63 := Try.zeroValue120
  t64 := Try.underlying121
  a64 := Try.isAgg121
  z64 := Try.sizeOf121
  v64 := Try.zeroValue121 }

theorem sortT_row (blk cap : Nat) (ss : List (List UInt8)) (w : World) (hH : Go.Sort.Holds Go.Proofs.encStr w blk 0 ss.toArray) (hblk : blk < w.heap.size) (hsz : ss.length < 4611686018427387904) :
    Calls Try.prog 29 #[.slice (some ⟨blk, 0, none⟩) ss.length cap] w fun e w' => e = .returned (.tuple #[]) ∧ ∃ n os, w' = Go.Sort.grow (Go.Sort.putRow Go.Proofs.encStr (Go.Sort.ahead w n) blk 0 (ss.mergeSort fun x y => decide (x ≤ y)).toArray) os :=
  Go.Proofs.AnyM.slices_Sort_string sortTLays blk 0 cap ss w hH hblk hsz

/-- slices.Sort of a slice of the call's own -/
theorem sort_ownT (base : Nat) (v : Value) (zs : List (List Nat)) (w : World) (hown : OwnT w base 9 v (zs.map Nm.bs)) (hs : ∀ x ∈ zs, Nm.Sm x) (hsm : zs.length ≤ 1048576) :
    Calls Try.prog 29 #[v] w fun e w' => e = .returned (.tuple #[]) ∧ OwnT w' base 9 v ((Nm.srt zs).map Nm.bs) ∧ w.grownBy w' v.ownBlock := by
  have hown' := hown
  have hcv : ∀ l : List (List Nat), (l.map Nm.bs).map Value.string = (l.map Nm.u8).map Go.Proofs.encStr := fun l => by
    rw [List.map_map, List.map_map]
    rfl
  rcases hown.2 with ⟨rfl, h0⟩ | ⟨g, cap, cur, rfl, hb, hg, hnc, hcm, hcs, htake⟩
  · have hz : zs = [] := by
      have := List.eq_nil_of_length_eq_zero h0
      simpa using this
    subst hz
    refine (Go.Proofs.AnyM.slices_Sort_string_none sortTLays none 0 w).mono ?_
    rintro e w' ⟨rfl, rfl⟩
    refine ⟨rfl, ?_, World.grownBy.refl _ _⟩
    have : Nm.srt [] = [] := by unfold Nm.srt; rw [List.mergeSort_nil]
    rw [this]
    exact hown'
  · have hl : (zs.map Nm.bs).length = (zs.map Nm.u8).length := by simp
    rw [hl]
    rw [hl] at hnc
    refine (sortT_row g cap (zs.map Nm.u8) w ?_ (Array.getElem?_eq_some_iff.1 hg).1 (by simp; omega)).mono ?_
    · intro j hj
      have hj' : j < zs.length := by simpa using hj
      refine ⟨?_, World.ownsRow.frozenAt hown' _⟩
      rw [Nat.zero_add, World.ownsRow.cellAt hown' j (by simp; omega)]
      simp [hj', Nm.bs]
    · rintro e w' ⟨rfl, n, os, rfl⟩
      refine ⟨rfl, ?_, Go.grownBy_sorted _⟩
      unfold OwnT
      rw [Nm.sort_u8 hs, hcv]
      have e2 : ((Nm.srt zs).map Nm.bs).length = (zs.map Nm.u8).length := by simp [(Nm.srt_perm zs).length_eq]
      rw [e2]
      exact Go.ownsRow_sorted (by simp [(Nm.srt_perm zs).length_eq]) hb hg hnc hcm hcs

end Go.Proofs.Ytoofpmajiphldaa
