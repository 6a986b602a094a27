/-
  Contracts of the laws' package: stableFact.
-/
import Derived.Test.YthdibdghnfkoeaaStableF
import Derived.Test.YthdibdghnfkoeaaRowsNew
import Derived.Test.YthdibdghnfkoeaaGraphE
namespace Go.Proofs.Ythdibdghnfkoeaa
open Go.RowKit Go.Shelf

attribute [local go_sem] Oper.semAt_some
set_option linter.unusedSimpArgs false
set_option linter.unusedVariables false

theorem sfact1 : St.code [[0, 1], [0, 1]] [[1, 0], [0, 1]] = 0 := by decide
theorem sfact2 {g : List Nat} (h : St.Opt 2 (St.pl [[0, 1], [0, 1]]) (St.pl [[1, 0], [0, 1]]) g) : g = [1, 0] := by
  have hc := St.code_zero.1 sfact1
  rw [← St.stbs_opt hc.2.1 hc.2.2 h]
  decide
theorem sfact3 : St.rcode 2 (St.up [0, 1]) = 0 := by decide
theorem sfact4 : St.Pr 2 [0, 1] := by unfold St.Pr; decide
theorem sfact5 : St.stb 2 [[0, 1], [0, 1]] [[1, 0], [0, 1]] (St.up [0, 1]) = false := by decide

theorem sfact_laid (w : World) : RdR ((((((w.alloc (.cells #[.int .i64 0, .int .i64 1] 3)).alloc (.cells #[.int .i64 0, .int .i64 1] 3)).alloc (.cells #[.slice (some ⟨w.heap.size, 0, none⟩) 2 2, .slice (some ⟨w.heap.size + 1, 0, none⟩) 2 2] 24)).alloc (.cells #[.int .i64 1, .int .i64 0] 3)).alloc (.cells #[.int .i64 0, .int .i64 1] 3)).alloc (.cells #[.slice (some ⟨w.heap.size + 1 + 1 + 1, 0, none⟩) 2 2, .slice (some ⟨w.heap.size + 1 + 1 + 1 + 1, 0, none⟩) 2 2] 24)) ((((((w.alloc (.cells #[.int .i64 0, .int .i64 1] 3)).alloc (.cells #[.int .i64 0, .int .i64 1] 3)).alloc (.cells #[.slice (some ⟨w.heap.size, 0, none⟩) 2 2, .slice (some ⟨w.heap.size + 1, 0, none⟩) 2 2] 24)).alloc (.cells #[.int .i64 1, .int .i64 0] 3)).alloc (.cells #[.int .i64 0, .int .i64 1] 3)).alloc (.cells #[.slice (some ⟨w.heap.size + 1 + 1 + 1, 0, none⟩) 2 2, .slice (some ⟨w.heap.size + 1 + 1 + 1 + 1, 0, none⟩) 2 2] 24)).heap.size (some ⟨w.heap.size + 1 + 1, 0, none⟩) 2 2 [[0, 1], [0, 1]] ∧ RdR ((((((w.alloc (.cells #[.int .i64 0, .int .i64 1] 3)).alloc (.cells #[.int .i64 0, .int .i64 1] 3)).alloc (.cells #[.slice (some ⟨w.heap.size, 0, none⟩) 2 2, .slice (some ⟨w.heap.size + 1, 0, none⟩) 2 2] 24)).alloc (.cells #[.int .i64 1, .int .i64 0] 3)).alloc (.cells #[.int .i64 0, .int .i64 1] 3)).alloc (.cells #[.slice (some ⟨w.heap.size + 1 + 1 + 1, 0, none⟩) 2 2, .slice (some ⟨w.heap.size + 1 + 1 + 1 + 1, 0, none⟩) 2 2] 24)) ((((((w.alloc (.cells #[.int .i64 0, .int .i64 1] 3)).alloc (.cells #[.int .i64 0, .int .i64 1] 3)).alloc (.cells #[.slice (some ⟨w.heap.size, 0, none⟩) 2 2, .slice (some ⟨w.heap.size + 1, 0, none⟩) 2 2] 24)).alloc (.cells #[.int .i64 1, .int .i64 0] 3)).alloc (.cells #[.int .i64 0, .int .i64 1] 3)).alloc (.cells #[.slice (some ⟨w.heap.size + 1 + 1 + 1, 0, none⟩) 2 2, .slice (some ⟨w.heap.size + 1 + 1 + 1 + 1, 0, none⟩) 2 2] 24)).heap.size (some ⟨w.heap.size + 1 + 1 + 1 + 1 + 1, 0, none⟩) 2 2 [[1, 0], [0, 1]] ∧ Below w.heap.size w ((((((w.alloc (.cells #[.int .i64 0, .int .i64 1] 3)).alloc (.cells #[.int .i64 0, .int .i64 1] 3)).alloc (.cells #[.slice (some ⟨w.heap.size, 0, none⟩) 2 2, .slice (some ⟨w.heap.size + 1, 0, none⟩) 2 2] 24)).alloc (.cells #[.int .i64 1, .int .i64 0] 3)).alloc (.cells #[.int .i64 0, .int .i64 1] 3)).alloc (.cells #[.slice (some ⟨w.heap.size + 1 + 1 + 1, 0, none⟩) 2 2, .slice (some ⟨w.heap.size + 1 + 1 + 1 + 1, 0, none⟩) 2 2] 24)) := by
  have hA := RdR.two w 0 1 0 1 3 24
  have hB := RdR.two (((w.alloc (.cells #[.int .i64 0, .int .i64 1] 3)).alloc (.cells #[.int .i64 0, .int .i64 1] 3)).alloc (.cells #[.slice (some ⟨w.heap.size, 0, none⟩) 2 2, .slice (some ⟨w.heap.size + 1, 0, none⟩) 2 2] 24)) 1 0 0 1 3 24
  have s3 : (((w.alloc (.cells #[.int .i64 0, .int .i64 1] 3)).alloc (.cells #[.int .i64 0, .int .i64 1] 3)).alloc (.cells #[.slice (some ⟨w.heap.size, 0, none⟩) 2 2, .slice (some ⟨w.heap.size + 1, 0, none⟩) 2 2] 24)).heap.size = w.heap.size + 1 + 1 + 1 := by simp
  have b3 : Below w.heap.size w (((w.alloc (.cells #[.int .i64 0, .int .i64 1] 3)).alloc (.cells #[.int .i64 0, .int .i64 1] 3)).alloc (.cells #[.slice (some ⟨w.heap.size, 0, none⟩) 2 2, .slice (some ⟨w.heap.size + 1, 0, none⟩) 2 2] 24)) := (((Below.refl _ _).alloc (Nat.le_refl _) _).alloc (by simp) _).alloc (by simp; omega) _
  rw [← s3] at hA
  rw [s3] at hB
  have b6 : Below (((w.alloc (.cells #[.int .i64 0, .int .i64 1] 3)).alloc (.cells #[.int .i64 0, .int .i64 1] 3)).alloc (.cells #[.slice (some ⟨w.heap.size, 0, none⟩) 2 2, .slice (some ⟨w.heap.size + 1, 0, none⟩) 2 2] 24)).heap.size (((w.alloc (.cells #[.int .i64 0, .int .i64 1] 3)).alloc (.cells #[.int .i64 0, .int .i64 1] 3)).alloc (.cells #[.slice (some ⟨w.heap.size, 0, none⟩) 2 2, .slice (some ⟨w.heap.size + 1, 0, none⟩) 2 2] 24)) ((((((w.alloc (.cells #[.int .i64 0, .int .i64 1] 3)).alloc (.cells #[.int .i64 0, .int .i64 1] 3)).alloc (.cells #[.slice (some ⟨w.heap.size, 0, none⟩) 2 2, .slice (some ⟨w.heap.size + 1, 0, none⟩) 2 2] 24)).alloc (.cells #[.int .i64 1, .int .i64 0] 3)).alloc (.cells #[.int .i64 0, .int .i64 1] 3)).alloc (.cells #[.slice (some ⟨w.heap.size + 1 + 1 + 1, 0, none⟩) 2 2, .slice (some ⟨w.heap.size + 1 + 1 + 1 + 1, 0, none⟩) 2 2] 24)) := (((Below.refl _ _).alloc (Nat.le_refl _) _).alloc (by simp) _).alloc (by simp <;> omega) _
  have s6 : ((((((w.alloc (.cells #[.int .i64 0, .int .i64 1] 3)).alloc (.cells #[.int .i64 0, .int .i64 1] 3)).alloc (.cells #[.slice (some ⟨w.heap.size, 0, none⟩) 2 2, .slice (some ⟨w.heap.size + 1, 0, none⟩) 2 2] 24)).alloc (.cells #[.int .i64 1, .int .i64 0] 3)).alloc (.cells #[.int .i64 0, .int .i64 1] 3)).alloc (.cells #[.slice (some ⟨w.heap.size + 1 + 1 + 1, 0, none⟩) 2 2, .slice (some ⟨w.heap.size + 1 + 1 + 1 + 1, 0, none⟩) 2 2] 24)).heap.size = w.heap.size + 1 + 1 + 1 + 1 + 1 + 1 := by simp
  refine ⟨(hA.below b6).more b6.size, ?_, b3.trans (b6.mono b3.size)⟩
  rw [s6]
  exact hB

set_option maxHeartbeats 1000000 in
theorem stableFact_any (w : World) : Calls Try.prog 7 #[] w fun e w' => e = .returned (.bool true) ∧ Below w.heap.size w w' := by
  go_enter Try.func7, Try.ntmps7
  go_wp2_with fail
  have hlay := sfact_laid w
  revert hlay
  generalize ((((((w.alloc (.cells #[.int .i64 0, .int .i64 1] 3)).alloc (.cells #[.int .i64 0, .int .i64 1] 3)).alloc (.cells #[.slice (some ⟨w.heap.size, 0, none⟩) 2 2, .slice (some ⟨w.heap.size + 1, 0, none⟩) 2 2] 24)).alloc (.cells #[.int .i64 1, .int .i64 0] 3)).alloc (.cells #[.int .i64 0, .int .i64 1] 3)).alloc (.cells #[.slice (some ⟨w.heap.size + 1 + 1 + 1, 0, none⟩) 2 2, .slice (some ⟨w.heap.size + 1 + 1 + 1 + 1, 0, none⟩) 2 2] 24)) = W
  generalize w.heap.size + 1 + 1 + 1 + 1 + 1 = b2
  generalize w.heap.size + 1 + 1 = b1
  rintro ⟨hA, hB, hbel⟩
  refine (Pairs_ok 2 _ _ 2 2 _ _ _ hA hB sfact1).mono ?_
  rintro e w1 ⟨v, g, rfl, hopt, hown, hb1⟩
  have hg := sfact2 hopt
  subst hg
  clear hopt
  obtain ⟨A1, c1, rfl, hr1⟩ := hown.rd
  have hA1 := hA.past hb1
  have hB1 := hB.past hb1
  have hbel1 := hbel.trans (hb1.mono hbel.size)
  clear hown hb1 hA hB hbel
  have hn := Rd.new w1 [0, 1] 3 2 rfl (by omega)
  have b1' : Below w1.heap.size w1 (w1.alloc (.cells #[.int .i64 0, .int .i64 1] 3)) := (Below.refl _ _).alloc (Nat.le_refl _) _
  go_wp2_with fail
  refine (Is_ok 2 _ _ _ 2 2 2 _ _ [0, 1] _ (hA1.past b1') (hB1.past b1') (hn.more (by simp)) sfact1 sfact3 sfact4).mono ?_
  rintro e w2 ⟨rfl, hb2⟩
  rw [sfact5]
  have hr2 := (hr1.past b1').past hb2
  have hbel2 := (hbel1.trans (b1'.mono hbel1.size)).trans (hb2.mono (Nat.le_trans hbel1.size b1'.size))
  clear hA1 hB1 hbel1 hr1 hn hb2 b1'
  have hn2 := Rd.new w2 [1, 0] 3 2 rfl (by omega)
  have b2' : Below w2.heap.size w2 (w2.alloc (.cells #[.int .i64 1, .int .i64 0] 3)) := (Below.refl _ _).alloc (Nat.le_refl _) _
  go_wp2_with fail
  refine (Ints_t _ _ _ _ _ _ _ _ true _ (hr2.past b2') (hn2.more (by simp)) (by decide)).mono ?_
  rintro e w3 ⟨rfl, hb3⟩
  have hbel3 := (hbel2.trans (b2'.mono hbel2.size)).trans (hb3.mono (Nat.le_trans hbel2.size b2'.size))
  clear hr2 hn2 hb3 b2' hbel2
  go_wp2
  go_ret
  exact ⟨rfl, hbel3⟩

end Go.Proofs.Ythdibdghnfkoeaa
