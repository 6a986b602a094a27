/-
  slices.SortFunc at a slice of lines, whatever its length: the library's contract, laid at this program. No statement of the program is proved here; there is no condition.
-/
import Derived.Test.YtcapinapfobcbaaDoorProg
import Derived.Test.YtcapinapfobcbaaDoorSortL
import Derived.Shelf.SlSortCmp.NoneTotal
namespace Go.Proofs.YtcapinapfobcbaaDoor
open Go.RowKit

def lnsRen : Go.Shelf.Ren := ⟨fun | 6 => 25 | 14 => 37 | 15 => 38 | 20 => 44 | 21 => 45 | 22 => 46 | 23 => 47 | 24 => 48 | 25 => 49 | 26 => 50 | 27 => 51 | 28 => 52 | 29 => 53 | 46 => 54 | 47 => 55 | 48 => 56 | 49 => 57 | 50 => 58 | 57 => 59 | n => n, fun | 0 => 0 | 3 => 3 | 4 => 4 | 5 => 5 | 9 => 9 | 22 => 22 | 25 => 66 | 39 => 85 | 45 => 102 | 46 => 103 | 50 => 107 | 53 => 110 | 55 => 112 | 66 => 113 | 70 => 117 | 76 => 119 | 77 => 120 | 24 => 28 | n => n, fun | n => n⟩
set_option maxHeartbeats 1000000 in
theorem lnsLays : Go.Proofs.SlLaysF0.n6 Tryd.prog lnsRen := {
  mixed := by kernel_rfl
  f6 := ⟨Tryd.f25.name, by kernel_rfl, Tryd.func25.trans (congrArg some (by kernel_rfl))⟩
  f14 := ⟨Tryd.f37.name, by kernel_rfl, Tryd.func37.trans (congrArg some (by kernel_rfl))⟩
  f15 := Tryd.func38.trans (congrArg some (by kernel_rfl))
  f20 := ⟨Tryd.f44.name, by kernel_rfl, Tryd.func44.trans (congrArg some (by kernel_rfl))⟩
  f21 := ⟨Tryd.f45.name, by kernel_rfl, Tryd.func45.trans (congrArg some (by kernel_rfl))⟩
  f22 := ⟨Tryd.f46.name, by kernel_rfl, Tryd.func46.trans (congrArg some (by kernel_rfl))⟩
  f23 := ⟨Tryd.f47.name, by kernel_rfl, Tryd.func47.trans (congrArg some (by kernel_rfl))⟩
  f24 := ⟨Tryd.f48.name, by kernel_rfl, Tryd.func48.trans (congrArg some (by kernel_rfl))⟩
  f25 := ⟨Tryd.f49.name, by kernel_rfl, Tryd.func49.trans (congrArg some (by kernel_rfl))⟩
  f26 := ⟨Tryd.f50.name, by kernel_rfl, Tryd.func50.trans (congrArg some (by kernel_rfl))⟩
  f27 := ⟨Tryd.f51.name, by kernel_rfl, Tryd.func51.trans (congrArg some (by kernel_rfl))⟩
  f28 := Tryd.func52.trans (congrArg some (by kernel_rfl))
  f29 := Tryd.func53.trans (congrArg some (by kernel_rfl))
  f46 := ⟨Tryd.f54.name, by kernel_rfl, Tryd.func54.trans (congrArg some (by kernel_rfl))⟩
  f47 := Tryd.func55.trans (congrArg some (by kernel_rfl))
  f48 := Tryd.func56.trans (congrArg some (by kernel_rfl))
  f49 := ⟨Tryd.f57.name, by kernel_rfl, Tryd.func57.trans (congrArg some (by kernel_rfl))⟩
  f50 := ⟨Tryd.f58.name, by kernel_rfl, Tryd.func58.trans (congrArg some (by kernel_rfl))⟩
  f57 := ⟨Tryd.f59.name, by kernel_rfl, Tryd.func59.trans (congrArg some (by kernel_rfl))⟩
  t0 := Tryd.underlying0
  a0 := Tryd.isAgg0
  z0 := Tryd.sizeOf0
  v0 := Tryd.zeroValue0
  t3 := Tryd.underlying3
  a3 := Tryd.isAgg3
  z3 := Tryd.sizeOf3
  v3 := Tryd.zeroValue3
  t4 := Tryd.underlying4
  a4 := Tryd.isAgg4
  z4 := Tryd.sizeOf4
  v4 := Tryd.zeroValue4
  t5 := Tryd.underlying5
  a5 := Tryd.isAgg5
  z5 := Tryd.sizeOf5
  v5 := Tryd.zeroValue5
  t9 := Tryd.underlying9
  a9 := Tryd.isAgg9
  z9 := Tryd.sizeOf9
  v9 := Tryd.zeroValue9
  t22 := Tryd.underlying22
  a22 := Tryd.isAgg22
  z22 := Tryd.sizeOf22
  v22 := Tryd.zeroValue22
  t25 := Tryd.underlying66
  a25 := Tryd.isAgg66
  z25 := Tryd.sizeOf66
  v25 := Tryd.zeroValue66
  t39 := Tryd.underlying85
  a39 := Tryd.isAgg85
  z39 := Tryd.sizeOf85
  v39 := Tryd.zeroValue85
  t45 := Tryd.underlying102
  a45 := Tryd.isAgg102
  z45 := Tryd.sizeOf102
  v45 := Tryd.zeroValue102
  t46 := Tryd.underlying103
  a46 := Tryd.isAgg103
  z46 := Tryd.sizeOf103
  v46 := Tryd.zeroValue103
  t50 := Tryd.underlying107
  a50 := Tryd.isAgg107
  z50 := Tryd.sizeOf107
  v50 := Tryd.zeroValue107
  t53 := Tryd.underlying110
  a53 := Tryd.isAgg110
  z53 := Tryd.sizeOf110
  v53 := Tryd.zeroValue110
  t55 := Tryd.underlying112
  a55 := Tryd.isAgg112
  z55 := Tryd.sizeOf112
  v55 := Tryd.zeroValue112
  t66 := Tryd.underlying113
  a66 := Tryd.isAgg113
  z66 := Tryd.sizeOf113
  v66 := Tryd.zeroValue113
  t70 := Tryd.underlying117
  a70 := Tryd.isAgg117
  z70 := Tryd.sizeOf117
  v70 := Tryd.zeroValue117
  t76 := Tryd.underlying119
  a76 := Tryd.isAgg119
  z76 := Tryd.sizeOf119
  v76 := Tryd.zeroValue119
  t77 := Tryd.underlying120
  a77 := Tryd.isAgg120
  z77 := Tryd.sizeOf120
  v77 := Tryd.zeroValue120 }

/-- a sort of no lines -/
theorem sortLns_none (A : Option Addr) (cap : Nat) (fv : Value) (w : World) :
    Calls Tryd.prog 25 #[.slice A 0 cap, fv] w fun e w' => e = .returned (.tuple #[]) ∧ w = w' :=
  Calls.mono (Go.Proofs.AnyF.slices_SortFunc_none lnsLays A cap fv w) fun _ _ h => ⟨h.1, h.2.symm⟩

/-- a sort of lines by a function that says which of two comes first -/
theorem sortLns_own (f : Nat) (cb : Array Value) (base g cap n : Nat) (zs : List (Int × Int)) (w : World) (hn : zs.length = n) (hown : OwnP w base 28 (.slice (some ⟨g, 0, none⟩) n cap) zs) (h62 : n < 4611686018427387904)
    (eg : ∀ args w, (callFunc f args).run Tryd.prog w = .ok (.enter f args) w) (hC : ∀ sz, Go.Proofs.CmpLays Tryd.prog f cb encLn 2 cmpL g 0 sz w) :
    Calls Tryd.prog 25 #[.slice (some ⟨g, 0, none⟩) n cap, .func (.func f) #[] cb] w (SortPost w base g n cap zs) := by
  subst hn
  rcases hown.2 with ⟨h0, _⟩ | ⟨g', cap', cur, hv, hb, hg, hnc, hcm, hcs, htake⟩
  · cases h0
  simp only [Value.slice.injEq, Option.some.injEq, Addr.mk.injEq, and_true] at hv
  obtain ⟨rfl, _, rfl⟩ := hv
  have hblk : g < w.heap.size := (Array.getElem?_eq_some_iff.1 hg).1
  have hH : Go.Sort.HoldsK encLn 2 w g 0 zs.toArray := by
    intro j hj
    rw [Go.Sort.size_flatK] at hj
    have hjp : j < (pcells zs).length := by rw [pcells_len]; simpa using hj
    refine ⟨?_, ?_⟩
    · rw [flat_at _ _ hj, Nat.zero_add, World.ownsRow.cellAt (w := w) hown j (by simpa using hj)]
      simp [hjp]
    · rw [Nat.zero_add]; exact World.ownsRow.frozenAt (w := w) hown j
  have key := Go.Proofs.AnyQ.slices_SortFunc lnsLays 2 Tryd.isAgg28 Tryd.sizeOf28 encLn (fun _ => rfl) (fun x v hv => by simp [encLn] at hv; rcases hv with rfl | rfl <;> rfl) cmpL cmpL_swo f cb g 0 cap zs.toArray w eg (hC _) hH hblk (by simpa using h62)
  refine Calls.mono key ?_
  rintro e w' ⟨rfl, d, k, os, ⟨hsz, _, hperm⟩, hsorted, rfl⟩
  have hds : d.size = zs.length := by simpa using hsz
  have hperm' : d.toList.Perm zs := by
    have e1 : (d.extract 0 zs.toArray.size).toList = d.toList := by simp [← hds]
    have e2 : (zs.toArray.extract 0 zs.toArray.size).toList = zs := by simp
    rwa [e1, e2] at hperm
  have hlen : d.toList.length = zs.length := by simpa using hds
  refine ⟨rfl, ⟨rfl, rfl, rfl, ?_, fun j hj hne => ?_⟩, d.toList, hperm', ?_, ?_⟩
  · show w.heap.size ≤ ((Go.Sort.putRow id (Go.Sort.ahead w k) g 0 _).heap ++ os).size
    simp [Go.Sort.putRow, Go.Sort.mapBlock, Go.Sort.ahead]
  · exact heap_rowK_other w k g j _ os (fun e => hne (by rw [e])) hj
  · rw [List.pairwise_iff_getElem]
    intro i j hi hj hij
    have := hsorted i j (Nat.zero_le _) hij (by simp; omega)
    rw [cmpL_ge] at this
    have hi' : i < d.size := by simpa using hi
    have hj' : j < d.size := by simpa using hj
    simpa [hi', hj'] using this
  · have hl3 : (pcells d.toList).length = zs.length * 2 := by rw [pcells_len, hlen]
    unfold OwnP
    rw [hlen]
    refine ⟨by rw [hl3], .inr ⟨g, cap, _, rfl, hb, heap_rowK w k g cur _ _ os hg, hnc, hcm, by simpa [Go.Sort.putCells] using hcs, ?_⟩⟩
    apply List.ext_getElem?
    intro j
    have hc : cur.size = cap * 2 := by simpa using hcs
    by_cases hj : j < zs.length * 2
    · have hjc : j < cur.size := by omega
      have hf := flat_at d j (by omega)
      have hjp : j < (pcells d.toList).length := by omega
      have hzz : j < d.size * 2 := by omega
      simp [hjp, hzz] at hf
      simp [Go.Sort.putCells, hj, hjc, hjp, hzz, hf]
    · have hjp : ¬ j < (pcells d.toList).length := by omega
      simp [List.getElem?_take, hj, hjp]

end Go.Proofs.YtcapinapfobcbaaDoor
