/-
  slices.SortFunc at a slice of lines, whatever its length: the library's contract, laid at this program. No statement of the program is proved here; there is no condition.
-/
import Derived.Test.YtnekbgeablhgiaaDoorProg
import Derived.Test.YtnekbgeablhgiaaDoorSortL
import Derived.Shelf.SlSortCmp.NoneTotal
namespace Go.Proofs.YtnekbgeablhgiaaDoor
open Go.RowKit

def lnsRen : Go.Shelf.Ren := ⟨fun | 6 => 30 | 14 => 43 | 15 => 44 | 20 => 57 | 21 => 58 | 22 => 59 | 23 => 60 | 24 => 61 | 25 => 62 | 26 => 63 | 27 => 64 | 28 => 65 | 29 => 66 | 46 => 72 | 47 => 73 | 48 => 74 | 49 => 75 | 50 => 76 | 57 => 77 | n => n, fun | 0 => 0 | 3 => 3 | 4 => 4 | 5 => 5 | 9 => 9 | 22 => 22 | 25 => 63 | 39 => 70 | 45 => 97 | 46 => 98 | 50 => 102 | 53 => 90 | 55 => 93 | 66 => 122 | 70 => 126 | 76 => 128 | 77 => 129 | 24 => 41 | n => n, fun | n => n⟩
set_option maxHeartbeats 1000000 in
theorem lnsLays : Go.Proofs.SlLaysF0.n6 Tryd.prog lnsRen := {
  mixed := by kernel_rfl
  f6 := ⟨Tryd.f30.name, by kernel_rfl, Tryd.func30.trans (congrArg some (by kernel_rfl))⟩
  f14 := ⟨Tryd.f43.name, by kernel_rfl, Tryd.func43.trans (congrArg some (by kernel_rfl))⟩
  f15 := Tryd.func44.trans (congrArg some (by kernel_rfl))
  f20 := ⟨Tryd.f57.name, by kernel_rfl, Tryd.func57.trans (congrArg some (by kernel_rfl))⟩
  f21 := ⟨Tryd.f58.name, by kernel_rfl, Tryd.func58.trans (congrArg some (by kernel_rfl))⟩
  f22 := ⟨Tryd.f59.name, by kernel_rfl, Tryd.func59.trans (congrArg some (by kernel_rfl))⟩
  f23 := ⟨Tryd.f60.name, by kernel_rfl, Tryd.func60.trans (congrArg some (by kernel_rfl))⟩
  f24 := ⟨Tryd.f61.name, by kernel_rfl, Tryd.func61.trans (congrArg some (by kernel_rfl))⟩
  f25 := ⟨Tryd.f62.name, by kernel_rfl, Tryd.func62.trans (congrArg some (by kernel_rfl))⟩
  f26 := ⟨Tryd.f63.name, by kernel_rfl, Tryd.func63.trans (congrArg some (by kernel_rfl))⟩
  f27 := ⟨Tryd.f64.name, by kernel_rfl, Tryd.func64.trans (congrArg some (by kernel_rfl))⟩
  f28 := Tryd.func65.trans (congrArg some (by kernel_rfl))
  f29 := Tryd.func66.trans (congrArg some (by kernel_rfl))
  f46 := ⟨Tryd.f72.name, by kernel_rfl, Tryd.func72.trans (congrArg some (by kernel_rfl))⟩
  f47 := Tryd.func73.trans (congrArg some (by kernel_rfl))
  f48 := Tryd.func74.trans (congrArg some (by kernel_rfl))
  f49 := ⟨Tryd.f75.name, by kernel_rfl, Tryd.func75.trans (congrArg some (by kernel_rfl))⟩
  f50 := ⟨Tryd.f76.name, by kernel_rfl, Tryd.func76.trans (congrArg some (by kernel_rfl))⟩
  f57 := ⟨Tryd.f77.name, by kernel_rfl, Tryd.func77.trans (congrArg some (by kernel_rfl))⟩
  t0 := Tryd.underlying0
  a0 := Tryd.isAgg0
  z0 := Tryd.sizeOf0
  v0 := Tryd.zeroValue0
  t3 := Tryd.underlying3
  a3 := Tryd.isAgg3
  z3 := Tryd.sizeOf3
  v3 := Tryd.zeroValue3
  t4 := Tryd.underlying4
  a4 := Tryd.isAgg4
  z4 := Tryd.sizeOf4
  v4 := Tryd.zeroValue4
  t5 := Tryd.underlying5
  a5 := Tryd.isAgg5
  z5 := Tryd.sizeOf5
  v5 := Tryd.zeroValue5
  t9 := Tryd.underlying9
  a9 := Tryd.isAgg9
  z9 := Tryd.sizeOf9
  v9 := Tryd.zeroValue9
  t22 := Tryd.underlying22
  a22 := Tryd.isAgg22
  z22 := Tryd.sizeOf22
  v22 := Tryd.zeroValue22
  t25 := Tryd.underlying63
  a25 := Tryd.isAgg63
  z25 := Tryd.sizeOf63
  v25 := Tryd.zeroValue63
  t39 := Tryd.underlying70
  a39 := Tryd.isAgg70
  z39 := Tryd.sizeOf70
  v39 := Tryd.zeroValue70
  t45 := Tryd.underlying97
  a45 := Tryd.isAgg97
  z45 := Tryd.sizeOf97
  v45 := Tryd.zeroValue97
  t46 := Tryd.underlying98
  a46 := Tryd.isAgg98
  z46 := Tryd.sizeOf98
  v46 := Tryd.zeroValue98
  t50 := Tryd.underlying102
  a50 := Tryd.isAgg102
  z50 := Tryd.sizeOf102
  v50 := Tryd.zeroValue102
  t53 := Tryd.underlying90
  a53 := Tryd.isAgg90
  z53 := Tryd.sizeOf90
  v53 := Tryd.zeroValue90
  t55 := Tryd.underlying93
  a55 := Tryd.isAgg93
  z55 := Tryd.sizeOf93
  v55 := Tryd.zeroValue93
  t66 := Tryd.underlying122
  a66 := Tryd.isAgg122
  z66 := Tryd.sizeOf122
  v66 := Tryd.zeroValue122
  t70 := Tryd.underlying126
  a70 := Tryd.isAgg126
  z70 := Tryd.sizeOf126
  v70 := Tryd.zeroValue126
  t76 := Tryd.underlying128
  a76 := Tryd.isAgg128
  z76 := Tryd.sizeOf128
  v76 := Tryd.zeroValue128
  t77 := Tryd.underlying129
  a77 := Tryd.isAgg129
  z77 := Tryd.sizeOf129
  v77 := Tryd.zeroValue129 }

/-- a sort of no lines -/
theorem sortLns_none (A : Option Addr) (cap : Nat) (fv : Value) (w : World) :
    Calls Tryd.prog 30 #[.slice A 0 cap, fv] w fun e w' => e = .returned (.tuple #[]) ∧ w = w' :=
  Calls.mono (Go.Proofs.AnyF.slices_SortFunc_none lnsLays A cap fv w) fun _ _ h => ⟨h.1, h.2.symm⟩

/-- a sort of lines by a function that says which of two comes first -/
theorem sortLns_own (f : Nat) (cb : Array Value) (base g cap n : Nat) (zs : List (Int × Int)) (w : World) (hn : zs.length = n) (hown : OwnP w base 41 (.slice (some ⟨g, 0, none⟩) n cap) zs) (h62 : n < 4611686018427387904)
    (eg : ∀ args w, (callFunc f args).run Tryd.prog w = .ok (.enter f args) w) (hC : ∀ sz, Go.Proofs.CmpLays Tryd.prog f cb encLn 2 cmpL g 0 sz w) :
    Calls Tryd.prog 30 #[.slice (some ⟨g, 0, none⟩) n cap, .func (.func f) #[] cb] w (SortPost w base g n cap zs) := by
  subst hn
  rcases hown.2 with ⟨h0, _⟩ | ⟨g', cap', cur, hv, hb, hg, hnc, hcm, hcs, htake⟩
  · cases h0
  simp only [Value.slice.injEq, Option.some.injEq, Addr.mk.injEq, and_true] at hv
  obtain ⟨rfl, _, rfl⟩ := hv
  have hblk : g < w.heap.size := (Array.getElem?_eq_some_iff.1 hg).1
  have hH : Go.Sort.HoldsK encLn 2 w g 0 zs.toArray := by
    intro j hj
    rw [Go.Sort.size_flatK] at hj
    have hjp : j < (pcells zs).length := by rw [pcells_len]; simpa using hj
    refine ⟨?_, ?_⟩
    · rw [flat_at _ _ hj, Nat.zero_add, World.ownsRow.cellAt (w := w) hown j (by simpa using hj)]
      simp [hjp]
    · rw [Nat.zero_add]; exact World.ownsRow.frozenAt (w := w) hown j
  have key := Go.Proofs.AnyQ.slices_SortFunc lnsLays 2 Tryd.isAgg41 Tryd.sizeOf41 encLn (fun _ => rfl) (fun x v hv => by simp [encLn] at hv; rcases hv with rfl | rfl <;> rfl) cmpL cmpL_swo f cb g 0 cap zs.toArray w eg (hC _) hH hblk (by simpa using h62)
  refine Calls.mono key ?_
  rintro e w' ⟨rfl, d, k, os, ⟨hsz, _, hperm⟩, hsorted, rfl⟩
  have hds : d.size = zs.length := by simpa using hsz
  have hperm' : d.toList.Perm zs := by
    have e1 : (d.extract 0 zs.toArray.size).toList = d.toList := by simp [← hds]
    have e2 : (zs.toArray.extract 0 zs.toArray.size).toList = zs := by simp
    rwa [e1, e2] at hperm
  have hlen : d.toList.length = zs.length := by simpa using hds
  refine ⟨rfl, ⟨rfl, rfl, rfl, ?_, fun j hj hne => ?_⟩, d.toList, hperm', ?_, ?_⟩
  · show w.heap.size ≤ ((Go.Sort.putRow id (Go.Sort.ahead w k) g 0 _).heap ++ os).size
    simp [Go.Sort.putRow, Go.Sort.mapBlock, Go.Sort.ahead]
  · exact heap_rowK_other w k g j _ os (fun e => hne (by rw [e])) hj
  · rw [List.pairwise_iff_getElem]
    intro i j hi hj hij
    have := hsorted i j (Nat.zero_le _) hij (by simp; omega)
    rw [cmpL_ge] at this
    have hi' : i < d.size := by simpa using hi
    have hj' : j < d.size := by simpa using hj
    simpa [hi', hj'] using this
  · have hl3 : (pcells d.toList).length = zs.length * 2 := by rw [pcells_len, hlen]
    unfold OwnP
    rw [hlen]
    refine ⟨by rw [hl3], .inr ⟨g, cap, _, rfl, hb, heap_rowK w k g cur _ _ os hg, hnc, hcm, by simpa [Go.Sort.putCells] using hcs, ?_⟩⟩
    apply List.ext_getElem?
    intro j
    have hc : cur.size = cap * 2 := by simpa using hcs
    by_cases hj : j < zs.length * 2
    · have hjc : j < cur.size := by omega
      have hf := flat_at d j (by omega)
      have hjp : j < (pcells d.toList).length := by omega
      have hzz : j < d.size * 2 := by omega
      simp [hjp, hzz] at hf
      simp [Go.Sort.putCells, hj, hjc, hjp, hzz, hf]
    · have hjp : ¬ j < (pcells d.toList).length := by omega
      simp [List.getElem?_take, hj, hjp]

end Go.Proofs.YtnekbgeablhgiaaDoor
