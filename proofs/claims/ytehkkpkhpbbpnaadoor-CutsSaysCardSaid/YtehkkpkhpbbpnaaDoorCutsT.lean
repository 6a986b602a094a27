/-
  Contract of slices.SortFunc at a short slice of lines with the comparison of package cuts: the same lines, sorted by their first and then by their second point.
-/
import Derived.Test.YtehkkpkhpbbpnaaDoorCutsS
import Derived.Test.YtehkkpkhpbbpnaaDoorCutsB
import Derived.Shelf.Abstract
namespace Go.Proofs.YtehkkpkhpbbpnaaDoor
open Go.RowKit

def lnRen : Go.Shelf.Ren := ⟨fun | 20 => 37 | n => n, fun | 0 => 0 | 3 => 3 | 4 => 4 | 22 => 22 | 24 => 30 | 25 => 54 | n => n, fun | n => n⟩
set_option maxHeartbeats 1000000 in
theorem lnLays : Go.Proofs.SlLaysF0.n20 Tryd.prog lnRen := {
  mixed := by kernel_rfl
  f20 := ⟨Tryd.f37.name, by kernel_rfl, Tryd.func37.trans (congrArg some (by kernel_rfl))⟩
  t0 := Tryd.underlying0
  a0 := Tryd.isAgg0
  z0 := Tryd.sizeOf0
  v0 := Tryd.zeroValue0
  t3 := Tryd.underlying3
  a3 := Tryd.isAgg3
  z3 := Tryd.sizeOf3
  v3 := Tryd.zeroValue3
  t4 := Tryd.underlying4
  a4 := Tryd.isAgg4
  z4 := Tryd.sizeOf4
  v4 := Tryd.zeroValue4
  t22 := Tryd.underlying22
  a22 := Tryd.isAgg22
  z22 := Tryd.sizeOf22
  v22 := Tryd.zeroValue22
  t25 := Tryd.underlying54
  a25 := Tryd.isAgg54
  z25 := Tryd.sizeOf54
  v25 := Tryd.zeroValue54 }

/-! ### the order -/
theorem cmpL_lt (p q : Int × Int) : Go.Proofs.ltOf cmpL p q = true ↔ Dp.lnLt p q := by
  unfold Go.Proofs.ltOf cmpL cmpI Dp.lnLt
  rw [decide_eq_true_eq]
  by_cases h1 : p.1 < q.1
  · simp [h1]
  · by_cases h2 : q.1 < p.1
    · simp [h1, h2]; omega
    · by_cases h3 : p.2 < q.2
      · simp [h1, h2, h3]; omega
      · by_cases h4 : q.2 < p.2
        · simp [h1, h2, h3, h4]
        · simp [h1, h2, h3, h4]
theorem cmpL_ge (p q : Int × Int) : Go.Proofs.ltOf cmpL p q = false ↔ ¬ Dp.lnLt p q := by
  rw [← cmpL_lt]; simp
theorem cmpL_swo : Go.Sort.SWO (Go.Proofs.ltOf cmpL) where
  irrefl x := by rw [cmpL_ge]; exact Dp.lnLt_irr x
  trans x y z h1 h2 := by rw [cmpL_lt] at *; unfold Dp.lnLt at *; omega
  ntrans x y z h1 h2 := by rw [cmpL_ge] at *; unfold Dp.lnLt at *; omega

/-! ### the cells -/
theorem flat_at (d : Array (Int × Int)) (t : Nat) (ht : t < d.size * 2) : (Go.Sort.flatK encLn 2 d)[t]! = (pcells d.toList)[t]! := by
  rw [Go.Sort.get_flatK _ _ _ _ ht]
  obtain ⟨k, hk⟩ : ∃ k, k = t / 2 := ⟨_, rfl⟩
  have hkl : k < d.toList.length := by simp; omega
  have hkd : k < d.size := by simpa using hkl
  have hg : d.toList.getD k (0, 0) = d[k]! := by simp [List.getD, hkd]
  have h1 := pcells_fst d.toList k hkl
  have h2 := pcells_snd d.toList k hkl
  rw [hg] at h1 h2
  rcases Nat.mod_two_eq_zero_or_one t with hm | hm
  · obtain rfl : t = k * 2 := by omega
    rw [← hk, hm, List.getElem!_eq_getElem?_getD (l := pcells _), h1]
    simp [encLn]
  · obtain rfl : t = k * 2 + 1 := by omega
    rw [← hk, hm, List.getElem!_eq_getElem?_getD (l := pcells _), h2]
    simp [encLn]

theorem heap_rowK (w : World) (n g : Nat) (cur : Array Value) (e : TypeId) (F : Array Value) (os : Array Obj) (hg : w.heap[g]? = some (.cells cur e (0, 0))) :
    (Go.Sort.grow (Go.Sort.putRow id (Go.Sort.ahead w n) g 0 F) os).heap[g]? = some (.cells (Go.Sort.putCells id 0 F cur) e (0, 0)) := by
  have hlt : g < w.heap.size := (Array.getElem?_eq_some_iff.1 hg).1
  show ((Go.Sort.putRow id (Go.Sort.ahead w n) g 0 F).heap ++ os)[g]? = _
  rw [Array.getElem?_append_left (by simpa [Go.Sort.putRow, Go.Sort.mapBlock, Go.Sort.ahead] using hlt)]
  simp [Go.Sort.putRow, Go.Sort.mapBlock, Go.Sort.ahead, Array.getElem?_modify, hg, Go.Sort.onCells]
theorem heap_rowK_other (w : World) (n g k : Nat) (F : Array Value) (os : Array Obj) (hk : k ≠ g) (hlt : k < w.heap.size) :
    (Go.Sort.grow (Go.Sort.putRow id (Go.Sort.ahead w n) g 0 F) os).heap[k]? = w.heap[k]? := by
  show ((Go.Sort.putRow id (Go.Sort.ahead w n) g 0 F).heap ++ os)[k]? = _
  rw [Array.getElem?_append_left (by simpa [Go.Sort.putRow, Go.Sort.mapBlock, Go.Sort.ahead] using hlt)]
  simp [Go.Sort.putRow, Go.Sort.mapBlock, Go.Sort.ahead, Array.getElem?_modify, Ne.symm hk]

/-- what a sort of lines leaves -/
def SortPost (w : World) (base g n cap : Nat) (zs : List (Int × Int)) (e : Ending) (w' : World) : Prop :=
  e = .returned (.tuple #[]) ∧ w.grownBy w' (some g) ∧ ∃ os : List (Int × Int), os.Perm zs ∧ os.Pairwise (fun p q => ¬ Dp.lnLt q p) ∧ OwnP w' base 30 (.slice (some ⟨g, 0, none⟩) n cap) os

theorem insertLn_own (base g cap n : Nat) (zs : List (Int × Int)) (w : World) (hn : zs.length = n) (hown : OwnP w base 30 (.slice (some ⟨g, 0, none⟩) n cap) zs) (h12 : n ≤ 8) :
    Calls Tryd.prog 37 #[.slice (some ⟨g, 0, none⟩) n cap, .int .i64 0, .int .i64 (n : Int), .func (.func 22) #[] #[]] w (SortPost w base g n cap zs) := by
  subst hn
  rcases hown.2 with ⟨h0, _⟩ | ⟨g', cap', cur, hv, hb, hg, hnc, hcm, hcs, htake⟩
  · cases h0
  simp only [Value.slice.injEq, Option.some.injEq, Addr.mk.injEq, and_true] at hv
  obtain ⟨rfl, _, rfl⟩ := hv
  have hblk : g < w.heap.size := (Array.getElem?_eq_some_iff.1 hg).1
  have hC : Go.Proofs.CmpLays Tryd.prog 22 #[] encLn 2 cmpL g 0 zs.toArray.size w := fun m os dk _ x y => cmpLn_any x.1 x.2 y.1 y.2 _
  have hH : Go.Sort.HoldsK encLn 2 w g 0 zs.toArray := by
    intro j hj
    rw [Go.Sort.size_flatK] at hj
    have hjp : j < (pcells zs).length := by rw [pcells_len]; simpa using hj
    refine ⟨?_, ?_⟩
    · rw [flat_at _ _ hj, Nat.zero_add, World.ownsRow.cellAt (w := w) hown j (by simpa using hj)]
      simp [hjp]
    · rw [Nat.zero_add]; exact World.ownsRow.frozenAt (w := w) hown j
  have key := Go.Proofs.AnyQ.insertionSortCmpFunc lnLays 2 Tryd.isAgg30 Tryd.sizeOf30 encLn (fun _ => rfl) (fun x v hv => by simp [encLn] at hv; rcases hv with rfl | rfl <;> rfl) cmpL 22 #[] g 0 cap 0 zs.length zs.toArray w
    (enters_of Tryd.func22 (by kernel_rfl) rfl) hC hH hblk (Nat.zero_le _) (by simp) (by simp; omega)
  have hso := Go.Sort.insertionSort_holds (lt := Go.Proofs.ltOf cmpL) cmpL_swo zs.toArray 0 zs.length (Nat.zero_le _) (by simp)
  generalize Go.Sort.insertionSort (Go.Proofs.ltOf cmpL) zs.toArray 0 zs.length = d at key hso
  obtain ⟨⟨hsz, _, hperm⟩, hsorted⟩ := hso
  have hds : d.size = zs.length := by simpa using hsz
  refine Calls.mono key ?_
  rintro e w' ⟨rfl, k, os, rfl⟩
  have hperm' : d.toList.Perm zs := by
    have e1 : (d.extract 0 zs.length).toList = d.toList := by simp [← hds]
    have e2 : (zs.toArray.extract 0 zs.length).toList = zs := by simp
    rwa [e1, e2] at hperm
  have hlen : d.toList.length = zs.length := by simpa using hds
  refine ⟨rfl, ⟨rfl, rfl, rfl, ?_, fun j hj hne => ?_⟩, d.toList, hperm', ?_, ?_⟩
  · show w.heap.size ≤ ((Go.Sort.putRow id (Go.Sort.ahead w k) g 0 _).heap ++ os).size
    simp [Go.Sort.putRow, Go.Sort.mapBlock, Go.Sort.ahead]
  · exact heap_rowK_other w k g j _ os (fun e => hne (by rw [e])) hj
  · rw [List.pairwise_iff_getElem]
    intro i j hi hj hij
    have := hsorted i j (Nat.zero_le _) hij (by omega)
    rw [cmpL_ge] at this
    have hi' : i < d.size := by simpa using hi
    have hj' : j < d.size := by simpa using hj
    simpa [hi', hj'] using this
  · have hl3 : (pcells d.toList).length = zs.length * 2 := by rw [pcells_len, hlen]
    unfold OwnP
    rw [hlen]
    refine ⟨by rw [hl3], .inr ⟨g, cap, _, rfl, hb, heap_rowK w k g cur _ _ os hg, hnc, hcm, by simpa [Go.Sort.putCells] using hcs, ?_⟩⟩
    apply List.ext_getElem?
    intro j
    have hc : cur.size = cap * 2 := by simpa using hcs
    by_cases hj : j < zs.length * 2
    · have hjc : j < cur.size := by omega
      have hf := flat_at d j (by omega)
      have hjp : j < (pcells d.toList).length := by omega
      have hzz : j < d.size * 2 := by omega
      simp [hjp, hzz] at hf
      simp [Go.Sort.putCells, hj, hjc, hjp, hzz, hf]
    · have hjp : ¬ j < (pcells d.toList).length := by omega
      simp [List.getElem?_take, hj, hjp]

/-! ### the callers -/
set_option maxRecDepth 100000 in
set_option maxHeartbeats 1000000 in
theorem Len64_small (n : Nat) (w : World) (h : n ≤ 8) : Calls Tryd.prog 46 #[.int .u64 (n : Int)] w fun e w' => (∃ l : Int, e = .returned (.int .i64 l)) ∧ w = w' := by
  have : n = 0 ∨ n = 1 ∨ n = 2 ∨ n = 3 ∨ n = 4 ∨ n = 5 ∨ n = 6 ∨ n = 7 ∨ n = 8 := by omega
  rcases this with rfl | rfl | rfl | rfl | rfl | rfl | rfl | rfl | rfl <;>
    (go_enter Tryd.func46, Tryd.ntmps46
     go_wp2
     go_ret
     exact ⟨⟨_, rfl⟩, rfl⟩)
theorem Len_small (n : Nat) (w : World) (h : n ≤ 8) : Calls Tryd.prog 29 #[.int .u64 (n : Int)] w fun e w' => (∃ l : Int, e = .returned (.int .i64 l)) ∧ w = w' := by
  go_enter Tryd.func29, Tryd.ntmps29
  go_wp2_with fail
  refine (Len64_small n _ h).mono ?_
  rintro e w1 ⟨⟨l, rfl⟩, rfl⟩
  go_wp2
  go_ret
  exact ⟨⟨_, rfl⟩, rfl⟩

set_option maxRecDepth 100000 in
set_option maxHeartbeats 1000000 in
theorem pdqLn_own (base g cap n : Nat) (lim : Int) (zs : List (Int × Int)) (w : World) (hn : zs.length = n) (hown : OwnP w base 30 (.slice (some ⟨g, 0, none⟩) n cap) zs) (h12 : n ≤ 8) :
    Calls Tryd.prog 28 #[.slice (some ⟨g, 0, none⟩) n cap, .int .i64 0, .int .i64 (n : Int), .int .i64 lim, .func (.func 22) #[] #[]] w (SortPost w base g n cap zs) := by
  have HI := Lib.hid (insertLn_own base g cap n zs w hn hown h12)
  clear hn hown
  have k1 : IntKind.i64.wrap ((n : Int) - 0) = (n : Int) := by rw [IntKind.wrap_i64]; omega
  have k2 : (n : Int) ≤ 12 := by omega
  go_enter Tryd.func28, Tryd.ntmps28
  go_wp2
  refine wp_loop_rounds 1 ?_
  rw [rounds_succ]
  go_wp2_with fail
  refine HI.out.mono ?_
  rintro e w1 h1
  obtain ⟨rfl, h2⟩ := h1
  have H2 := Lib.hid h2
  clear h2
  go_wp2
  (try simp only [Exit.inBlock, Exit.then]); refine bodyPost_ret (results_none rfl _ _ _) rfl ?_
  exact ⟨rfl, H2.out⟩

theorem sortLn_own (base g cap n : Nat) (zs : List (Int × Int)) (w : World) (hn : zs.length = n) (hown : OwnP w base 30 (.slice (some ⟨g, 0, none⟩) n cap) zs) (h12 : n ≤ 8) :
    Calls Tryd.prog 21 #[.slice (some ⟨g, 0, none⟩) n cap, .func (.func 22) #[] #[]] w (SortPost w base g n cap zs) := by
  have HI := Lib.hid (fun lim => pdqLn_own base g cap n lim zs w hn hown h12)
  clear hn hown
  have k2 : IntKind.u64.wrap (n : Int) = (n : Int) := by rw [IntKind.wrap_u64]; omega
  go_enter Tryd.func21, Tryd.ntmps21
  go_wp2_with fail
  refine (Len_small n _ h12).mono ?_
  rintro e w1 ⟨⟨l, rfl⟩, rfl⟩
  go_wp2_with fail
  refine (HI.out l).mono ?_
  rintro e w1 ⟨rfl, h2⟩
  have H2 := Lib.hid h2
  clear h2
  go_wp2
  go_end0
  exact ⟨rfl, H2.out⟩

end Go.Proofs.YtehkkpkhpbbpnaaDoor
