/-
  slices.SortFunc at a slice of lines, whatever its length: the library's contract, laid at this program. No statement of the program is proved here; there is no condition.
-/
import Derived.Test.YtcapinapfobcbaaProg
import Derived.Test.YtcapinapfobcbaaSortL
import Derived.Shelf.SlSortCmp.NoneTotal
namespace Go.Proofs.Ytcapinapfobcbaa
open Go.RowKit

def lnsRen : Go.Shelf.Ren := ⟨fun | 6 => 27 | 14 => 37 | 15 => 38 | 20 => 42 | 21 => 43 | 22 => 44 | 23 => 45 | 24 => 46 | 25 => 47 | 26 => 48 | 27 => 49 | 28 => 50 | 29 => 51 | 46 => 52 | 47 => 53 | 48 => 54 | 49 => 55 | 50 => 56 | 57 => 57 | n => n, fun | 0 => 0 | 3 => 3 | 4 => 4 | 5 => 5 | 9 => 9 | 22 => 22 | 25 => 66 | 39 => 73 | 45 => 77 | 46 => 78 | 50 => 82 | 53 => 85 | 55 => 87 | 66 => 88 | 70 => 92 | 76 => 94 | 77 => 95 | 24 => 42 | n => n, fun | n => n⟩
set_option maxHeartbeats 1000000 in
theorem lnsLays : Go.Proofs.SlLaysF0.n6 Try.prog lnsRen := {
  mixed := by kernel_rfl
  f6 := ⟨Try.f27.name, by kernel_rfl, Try.func27.trans (congrArg some (by kernel_rfl))⟩
  f14 := ⟨Try.f37.name, by kernel_rfl, Try.func37.trans (congrArg some (by kernel_rfl))⟩
  f15 := Try.func38.trans (congrArg some (by kernel_rfl))
  f20 := ⟨Try.f42.name, by kernel_rfl, Try.func42.trans (congrArg some (by kernel_rfl))⟩
  f21 := ⟨Try.f43.name, by kernel_rfl, Try.func43.trans (congrArg some (by kernel_rfl))⟩
  f22 := ⟨Try.f44.name, by kernel_rfl, Try.func44.trans (congrArg some (by kernel_rfl))⟩
  f23 := ⟨Try.f45.name, by kernel_rfl, Try.func45.trans (congrArg some (by kernel_rfl))⟩
  f24 := ⟨Try.f46.name, by kernel_rfl, Try.func46.trans (congrArg some (by kernel_rfl))⟩
  f25 := ⟨Try.f47.name, by kernel_rfl, Try.func47.trans (congrArg some (by kernel_rfl))⟩
  f26 := ⟨Try.f48.name, by kernel_rfl, Try.func48.trans (congrArg some (by kernel_rfl))⟩
  f27 := ⟨Try.f49.name, by kernel_rfl, Try.func49.trans (congrArg some (by kernel_rfl))⟩
  f28 := Try.func50.trans (congrArg some (by kernel_rfl))
  f29 := Try.func51.trans (congrArg some (by kernel_rfl))
  f46 := ⟨Try.f52.name, by kernel_rfl, Try.func52.trans (congrArg some (by kernel_rfl))⟩
  f47 := Try.func53.trans (congrArg some (by kernel_rfl))
  f48 := Try.func54.trans (congrArg some (by kernel_rfl))
  f49 := ⟨Try.f55.name, by kernel_rfl, Try.func55.trans (congrArg some (by kernel_rfl))⟩
  f50 := ⟨Try.f56.name, by kernel_rfl, Try.func56.trans (congrArg some (by kernel_rfl))⟩
  f57 := ⟨Try.f57.name, by kernel_rfl, Try.func57.trans (congrArg some (by kernel_rfl))⟩
  t0 := Try.underlying0
  a0 := Try.isAgg0
  z0 := Try.sizeOf0
  v0 := Try.zeroValue0
  t3 := Try.underlying3
  a3 := Try.isAgg3
  z3 := Try.sizeOf3
  v3 := Try.zeroValue3
  t4 := Try.underlying4
  a4 := Try.isAgg4
  z4 := Try.sizeOf4
  v4 := Try.zeroValue4
  t5 := Try.underlying5
  a5 := Try.isAgg5
  z5 := Try.sizeOf5
  v5 := Try.zeroValue5
  t9 := Try.underlying9
  a9 := Try.isAgg9
  z9 := Try.sizeOf9
  v9 := Try.zeroValue9
  t22 := Try.underlying22
  a22 := Try.isAgg22
  z22 := Try.sizeOf22
  v22 := Try.zeroValue22
  t25 := Try.underlying66
  a25 := Try.isAgg66
  z25 := Try.sizeOf66
  v25 := Try.zeroValue66
  t39 := Try.underlying73
  a39 := Try.isAgg73
  z39 := Try.sizeOf73
  v39 := Try.zeroValue73
  t45 := Try.underlying77
  a45 := Try.isAgg77
  z45 := Try.sizeOf77
  v45 := Try.zeroValue77
  t46 := Try.underlying78
  a46 := Try.isAgg78
  z46 := Try.sizeOf78
  v46 := Try.zeroValue78
  t50 := Try.underlying82
  a50 := Try.isAgg82
  z50 := Try.sizeOf82
  v50 := Try.zeroValue82
  t53 := Try.underlying85
  a53 := Try.isAgg85
  z53 := Try.sizeOf85
  v53 := Try.zeroValue85
  t55 := Try.underlying87
  a55 := Try.isAgg87
  z55 := Try.sizeOf87
  v55 := Try.zeroValue87
  t66 := Try.underlying88
  a66 := Try.isAgg88
  z66 := Try.sizeOf88
  v66 := Try.zeroValue88
  t70 := Try.underlying92
  a70 := Try.isAgg92
  z70 := Try.sizeOf92
  v70 := Try.zeroValue92
  t76 := Try.underlying94
  a76 := Try.isAgg94
  z76 := Try.sizeOf94
  v76 := Try.zeroValue94
  t77 := Try.underlying95
  a77 := Try.isAgg95
  z77 := Try.sizeOf95
  v77 := Try.zeroValue95 }

/-- a sort of no lines -/
theorem sortLns_none (A : Option Addr) (cap : Nat) (fv : Value) (w : World) :
    Calls Try.prog 27 #[.slice A 0 cap, fv] w fun e w' => e = .returned (.tuple #[]) ∧ w = w' :=
  Calls.mono (Go.Proofs.AnyF.slices_SortFunc_none lnsLays A cap fv w) fun _ _ h => ⟨h.1, h.2.symm⟩

/-- a sort of lines by a function that says which of two comes first -/
theorem sortLns_own (f : Nat) (cb : Array Value) (base g cap n : Nat) (zs : List (Int × Int)) (w : World) (hn : zs.length = n) (hown : OwnP w base 42 (.slice (some ⟨g, 0, none⟩) n cap) zs) (h62 : n < 4611686018427387904)
    (eg : ∀ args w, (callFunc f args).run Try.prog w = .ok (.enter f args) w) (hC : ∀ sz, Go.Proofs.CmpLays Try.prog f cb encLn 2 cmpL g 0 sz w) :
    Calls Try.prog 27 #[.slice (some ⟨g, 0, none⟩) n cap, .func (.func f) #[] cb] w (SortPost w base g n cap zs) := by
  subst hn
  rcases hown.2 with ⟨h0, _⟩ | ⟨g', cap', cur, hv, hb, hg, hnc, hcm, hcs, htake⟩
  · cases h0
  simp only [Value.slice.injEq, Option.some.injEq, Addr.mk.injEq, and_true] at hv
  obtain ⟨rfl, _, rfl⟩ := hv
  have hblk : g < w.heap.size := (Array.getElem?_eq_some_iff.1 hg).1
  have hH : Go.Sort.HoldsK encLn 2 w g 0 zs.toArray := by
    intro j hj
    rw [Go.Sort.size_flatK] at hj
    have hjp : j < (pcells zs).length := by rw [pcells_len]; simpa using hj
    refine ⟨?_, ?_⟩
    · rw [flat_at _ _ hj, Nat.zero_add, World.ownsRow.cellAt (w := w) hown j (by simpa using hj)]
      simp [hjp]
    · rw [Nat.zero_add]; exact World.ownsRow.frozenAt (w := w) hown j
  have key := Go.Proofs.AnyQ.slices_SortFunc lnsLays 2 Try.isAgg42 Try.sizeOf42 encLn (fun _ => rfl) (fun x v hv => by simp [encLn] at hv; rcases hv with rfl | rfl <;> rfl) cmpL cmpL_swo f cb g 0 cap zs.toArray w eg (hC _) hH hblk (by simpa using h62)
  refine Calls.mono key ?_
  rintro e w' ⟨rfl, d, k, os, ⟨hsz, _, hperm⟩, hsorted, rfl⟩
  have hds : d.size = zs.length := by simpa using hsz
  have hperm' : d.toList.Perm zs := by
    have e1 : (d.extract 0 zs.toArray.size).toList = d.toList := by simp [← hds]
    have e2 : (zs.toArray.extract 0 zs.toArray.size).toList = zs := by simp
    rwa [e1, e2] at hperm
  have hlen : d.toList.length = zs.length := by simpa using hds
  refine ⟨rfl, ⟨rfl, rfl, rfl, ?_, fun j hj hne => ?_⟩, d.toList, hperm', ?_, ?_⟩
  · show w.heap.size ≤ ((Go.Sort.putRow id (Go.Sort.ahead w k) g 0 _).heap ++ os).size
    simp [Go.Sort.putRow, Go.Sort.mapBlock, Go.Sort.ahead]
  · exact heap_rowK_other w k g j _ os (fun e => hne (by rw [e])) hj
  · rw [List.pairwise_iff_getElem]
    intro i j hi hj hij
    have := hsorted i j (Nat.zero_le _) hij (by simp; omega)
    rw [cmpL_ge] at this
    have hi' : i < d.size := by simpa using hi
    have hj' : j < d.size := by simpa using hj
    simpa [hi', hj'] using this
  · have hl3 : (pcells d.toList).length = zs.length * 2 := by rw [pcells_len, hlen]
    unfold OwnP
    rw [hlen]
    refine ⟨by rw [hl3], .inr ⟨g, cap, _, rfl, hb, heap_rowK w k g cur _ _ os hg, hnc, hcm, by simpa [Go.Sort.putCells] using hcs, ?_⟩⟩
    apply List.ext_getElem?
    intro j
    have hc : cur.size = cap * 2 := by simpa using hcs
    by_cases hj : j < zs.length * 2
    · have hjc : j < cur.size := by omega
      have hf := flat_at d j (by omega)
      have hjp : j < (pcells d.toList).length := by omega
      have hzz : j < d.size * 2 := by omega
      simp [hjp, hzz] at hf
      simp [Go.Sort.putCells, hj, hjc, hjp, hzz, hf]
    · have hjp : ¬ j < (pcells d.toList).length := by omega
      simp [List.getElem?_take, hj, hjp]

end Go.Proofs.Ytcapinapfobcbaa
