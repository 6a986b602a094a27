/-
  slices.SortFunc at a slice of lines, whatever its length: the library's contract, laid at this program. No statement of the program is proved here; there is no condition.
-/
import Derived.Test.YtnekbgeablhgiaaProg
import Derived.Test.YtnekbgeablhgiaaSortL
import Derived.Shelf.SlSortCmp.NoneTotal
namespace Go.Proofs.Ytnekbgeablhgiaa
open Go.RowKit

def lnsRen : Go.Shelf.Ren := ⟨fun | 6 => 23 | 14 => 47 | 15 => 48 | 20 => 64 | 21 => 65 | 22 => 66 | 23 => 67 | 24 => 68 | 25 => 69 | 26 => 70 | 27 => 71 | 28 => 72 | 29 => 73 | 46 => 79 | 47 => 80 | 48 => 81 | 49 => 82 | 50 => 83 | 57 => 96 | n => n, fun | 0 => 0 | 3 => 3 | 4 => 4 | 5 => 5 | 9 => 9 | 22 => 22 | 25 => 56 | 39 => 73 | 45 => 88 | 46 => 89 | 50 => 93 | 53 => 81 | 55 => 84 | 66 => 102 | 70 => 106 | 76 => 116 | 77 => 117 | 24 => 35 | n => n, fun | n => n⟩
set_option maxHeartbeats 1000000 in
theorem lnsLays : Go.Proofs.SlLaysF0.n6 Try.prog lnsRen := {
  mixed := by kernel_rfl
  f6 := ⟨Try.f23.name, by kernel_rfl, Try.func23.trans (congrArg some (by kernel_rfl))⟩
  f14 := ⟨Try.f47.name, by kernel_rfl, Try.func47.trans (congrArg some (by kernel_rfl))⟩
  f15 := Try.func48.trans (congrArg some (by kernel_rfl))
  f20 := ⟨Try.f64.name, by kernel_rfl, Try.func64.trans (congrArg some (by kernel_rfl))⟩
  f21 := ⟨Try.f65.name, by kernel_rfl, Try.func65.trans (congrArg some (by kernel_rfl))⟩
  f22 := ⟨Try.f66.name, by kernel_rfl, Try.func66.trans (congrArg some (by kernel_rfl))⟩
  f23 := ⟨Try.f67.name, by kernel_rfl, Try.func67.trans (congrArg some (by kernel_rfl))⟩
  f24 := ⟨Try.f68.name, by kernel_rfl, Try.func68.trans (congrArg some (by kernel_rfl))⟩
  f25 := ⟨Try.f69.name, by kernel_rfl, Try.func69.trans (congrArg some (by kernel_rfl))⟩
  f26 := ⟨Try.f70.name, by kernel_rfl, Try.func70.trans (congrArg some (by kernel_rfl))⟩
  f27 := ⟨Try.f71.name, by kernel_rfl, Try.func71.trans (congrArg some (by kernel_rfl))⟩
  f28 := Try.func72.trans (congrArg some (by kernel_rfl))
  f29 := Try.func73.trans (congrArg some (by kernel_rfl))
  f46 := ⟨Try.f79.name, by kernel_rfl, Try.func79.trans (congrArg some (by kernel_rfl))⟩
  f47 := Try.func80.trans (congrArg some (by kernel_rfl))
  f48 := Try.func81.trans (congrArg some (by kernel_rfl))
  f49 := ⟨Try.f82.name, by kernel_rfl, Try.func82.trans (congrArg some (by kernel_rfl))⟩
  f50 := ⟨Try.f83.name, by kernel_rfl, Try.func83.trans (congrArg some (by kernel_rfl))⟩
  f57 := ⟨Try.f96.name, by kernel_rfl, Try.func96.trans (congrArg some (by kernel_rfl))⟩
  t0 := Try.underlying0
  a0 := Try.isAgg0
  z0 := Try.sizeOf0
  v0 := Try.zeroValue0
  t3 := Try.underlying3
  a3 := Try.isAgg3
  z3 := Try.sizeOf3
  v3 := Try.zeroValue3
  t4 := Try.underlying4
  a4 := Try.isAgg4
  z4 := Try.sizeOf4
  v4 := Try.zeroValue4
  t5 := Try.underlying5
  a5 := Try.isAgg5
  z5 := Try.sizeOf5
  v5 := Try.zeroValue5
  t9 := Try.underlying9
  a9 := Try.isAgg9
  z9 := Try.sizeOf9
  v9 := Try.zeroValue9
  t22 := Try.underlying22
  a22 := Try.isAgg22
  z22 := Try.sizeOf22
  v22 := Try.zeroValue22
  t25 := Try.underlying56
  a25 := Try.isAgg56
  z25 := Try.sizeOf56
  v25 := Try.zeroValue56
  t39 := Try.underlying73
  a39 := Try.isAgg73
  z39 := Try.sizeOf73
  v39 := Try.zeroValue73
  t45 := Try.underlying88
  a45 := Try.isAgg88
  z45 := Try.sizeOf88
  v45 := Try.zeroValue88
  t46 := Try.underlying89
  a46 := Try.isAgg89
  z46 := Try.sizeOf89
  v46 := Try.zeroValue89
  t50 := Try.underlying93
  a50 := Try.isAgg93
  z50 := Try.sizeOf93
  v50 := Try.zeroValue93
  t53 := Try.underlying81
  a53 := Try.isAgg81
  z53 := Try.sizeOf81
  v53 := Try.zeroValue81
  t55 := Try.underlying84
  a55 := Try.isAgg84
  z55 := Try.sizeOf84
  v55 := Try.zeroValue84
  t66 := Try.underlying102
  a66 := Try.isAgg102
  z66 := Try.sizeOf102
  v66 := Try.zeroValue102
  t70 := Try.underlying106
  a70 := Try.isAgg106
  z70 := Try.sizeOf106
  v70 := Try.zeroValue106
  t76 := Try.underlying116
  a76 := Try.isAgg116
  z76 := Try.sizeOf116
  v76 := Try.zeroValue116
  t77 := Try.underlying117
  a77 := Try.isAgg117
  z77 := Try.sizeOf117
  v77 := Try.zeroValue117 }

/-- a sort of no lines -/
theorem sortLns_none (A : Option Addr) (cap : Nat) (fv : Value) (w : World) :
    Calls Try.prog 23 #[.slice A 0 cap, fv] w fun e w' => e = .returned (.tuple #[]) ∧ w = w' :=
  Calls.mono (Go.Proofs.AnyF.slices_SortFunc_none lnsLays A cap fv w) fun _ _ h => ⟨h.1, h.2.symm⟩

/-- a sort of lines by a function that says which of two comes first -/
theorem sortLns_own (f : Nat) (cb : Array Value) (base g cap n : Nat) (zs : List (Int × Int)) (w : World) (hn : zs.length = n) (hown : OwnP w base 35 (.slice (some ⟨g, 0, none⟩) n cap) zs) (h62 : n < 4611686018427387904)
    (eg : ∀ args w, (callFunc f args).run Try.prog w = .ok (.enter f args) w) (hC : ∀ sz, Go.Proofs.CmpLays Try.prog f cb encLn 2 cmpL g 0 sz w) :
    Calls Try.prog 23 #[.slice (some ⟨g, 0, none⟩) n cap, .func (.func f) #[] cb] w (SortPost w base g n cap zs) := by
  subst hn
  rcases hown.2 with ⟨h0, _⟩ | ⟨g', cap', cur, hv, hb, hg, hnc, hcm, hcs, htake⟩
  · cases h0
  simp only [Value.slice.injEq, Option.some.injEq, Addr.mk.injEq, and_true] at hv
  obtain ⟨rfl, _, rfl⟩ := hv
  have hblk : g < w.heap.size := (Array.getElem?_eq_some_iff.1 hg).1
  have hH : Go.Sort.HoldsK encLn 2 w g 0 zs.toArray := by
    intro j hj
    rw [Go.Sort.size_flatK] at hj
    have hjp : j < (pcells zs).length := by rw [pcells_len]; simpa using hj
    refine ⟨?_, ?_⟩
    · rw [flat_at _ _ hj, Nat.zero_add, World.ownsRow.cellAt (w := w) hown j (by simpa using hj)]
      simp [hjp]
    · rw [Nat.zero_add]; exact World.ownsRow.frozenAt (w := w) hown j
  have key := Go.Proofs.AnyQ.slices_SortFunc lnsLays 2 Try.isAgg35 Try.sizeOf35 encLn (fun _ => rfl) (fun x v hv => by simp [encLn] at hv; rcases hv with rfl | rfl <;> rfl) cmpL cmpL_swo f cb g 0 cap zs.toArray w eg (hC _) hH hblk (by simpa using h62)
  refine Calls.mono key ?_
  rintro e w' ⟨rfl, d, k, os, ⟨hsz, _, hperm⟩, hsorted, rfl⟩
  have hds : d.size = zs.length := by simpa using hsz
  have hperm' : d.toList.Perm zs := by
    have e1 : (d.extract 0 zs.toArray.size).toList = d.toList := by simp [← hds]
    have e2 : (zs.toArray.extract 0 zs.toArray.size).toList = zs := by simp
    rwa [e1, e2] at hperm
  have hlen : d.toList.length = zs.length := by simpa using hds
  refine ⟨rfl, ⟨rfl, rfl, rfl, ?_, fun j hj hne => ?_⟩, d.toList, hperm', ?_, ?_⟩
  · show w.heap.size ≤ ((Go.Sort.putRow id (Go.Sort.ahead w k) g 0 _).heap ++ os).size
    simp [Go.Sort.putRow, Go.Sort.mapBlock, Go.Sort.ahead]
  · exact heap_rowK_other w k g j _ os (fun e => hne (by rw [e])) hj
  · rw [List.pairwise_iff_getElem]
    intro i j hi hj hij
    have := hsorted i j (Nat.zero_le _) hij (by simp; omega)
    rw [cmpL_ge] at this
    have hi' : i < d.size := by simpa using hi
    have hj' : j < d.size := by simpa using hj
    simpa [hi', hj'] using this
  · have hl3 : (pcells d.toList).length = zs.length * 2 := by rw [pcells_len, hlen]
    unfold OwnP
    rw [hlen]
    refine ⟨by rw [hl3], .inr ⟨g, cap, _, rfl, hb, heap_rowK w k g cur _ _ os hg, hnc, hcm, by simpa [Go.Sort.putCells] using hcs, ?_⟩⟩
    apply List.ext_getElem?
    intro j
    have hc : cur.size = cap * 2 := by simpa using hcs
    by_cases hj : j < zs.length * 2
    · have hjc : j < cur.size := by omega
      have hf := flat_at d j (by omega)
      have hjp : j < (pcells d.toList).length := by omega
      have hzz : j < d.size * 2 := by omega
      simp [hjp, hzz] at hf
      simp [Go.Sort.putCells, hj, hjc, hjp, hzz, hf]
    · have hjp : ¬ j < (pcells d.toList).length := by omega
      simp [List.getElem?_take, hj, hjp]

end Go.Proofs.Ytnekbgeablhgiaa
