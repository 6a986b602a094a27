/-
  The walk of the law TopNames: for every two names and ors it returns true.
-/
import Derived.Test.YthalopmplekdoaaPairsG
import Derived.Test.YthalopmplekdoaaBoolsE
import Derived.BigQuiet
namespace Go.Proofs.Ythalopmplekdoaa.topNames
open Go.RowKit
set_option linter.unusedSimpArgs false
set_option linter.unusedVariables false

theorem orInfo : (Try.prog.info? 33).map (fun i => (i.zero, i.size, i.bytes)) = some (some (.agg #[.int .i64 0, .bool false, .int .i64 0, .bool false]), 4, 32) := by kernel_rfl
theorem none1 : Pa.code (1 : Int) [] = 0 := by kernel_rfl
theorem none2 : Pa.Least [] 1 [false] := Pa.ans_least (by decide)

set_option maxRecDepth 100000 in
set_option maxHeartbeats 4000000 in
theorem walk (w : World) (a0 : Int) (w0 : (Lit.int .i64 a0).wf = true) (a1 : Int) (w1 : (Lit.int .i64 a1).wf = true) (a2 : Option Addr) (n2 c2 : Nat) (z2 : List Or2) (w2 : RdO w w.heap.size a2 n2 c2 z2) :
    Calls Try.prog 3 #[.int .i64 a0, .int .i64 a1, .slice a2 n2 c2] w fun e w' => e = .returned (.bool true) ∧ Below w.heap.size w w' := by
  have HL := Lib.hid w2.len
  have hbig := w2.big
  go_enter Try.func3, Try.ntmps3
  go_wp2_with fail
  refine (Solve_rd 1 none 0 0 [] [false] _ (RdO.nil _ _) none1 none2).mono ?_
  rintro e x1 ⟨⟨g1, rfl, hm1⟩, b1⟩
  obtain ⟨x2, hx2⟩ : ∃ x2, x2 = x1.alloc (.cells #[.bool false] 4) := ⟨_, rfl⟩
  have hbx : Below x1.heap.size x1 x2 := by rw [hx2]; exact (Below.refl _ _).alloc (Nat.le_refl _) _
  have hr2 : RdB x2 x2.heap.size (some ⟨x1.heap.size, 0, none⟩) 1 1 [false] := by rw [hx2]; exact (RdB.one x1 false _).more (by simp)
  have b02 := b1.trans (hbx.mono b1.size)
  have HX2 := Lib.hid hx2
  clear hx2
  go_wp2_with fail
  rw [← HX2.out]
  clear HX2
  refine (Bools_t _ _ 1 1 _ 1 [false] [false] true _ (hm1.past hbx) hr2 (by decide)).mono ?_
  rintro e x3 ⟨rfl, b3⟩
  have b03 := b02.trans (b3.mono b02.size)
  have r3 := w2.past b03
  clear hm1 b1 hbx hr2 b02 b3 w2
  by_cases ha : a0 < 0 ∨ 3 < a0
  · go_wp2_with fail
    refine (topIn_no a0 0 3 _ ha).mono ?_
    rintro e _ ⟨rfl, rfl⟩
    go_wp2
    go_ret
    exact ⟨rfl, b03⟩
  by_cases hb : a1 < 0 ∨ 3 < a1
  · go_wp2_with fail
    refine (topIn_yes a0 0 3 _ (by omega) (by omega)).mono ?_
    rintro e _ ⟨rfl, rfl⟩
    go_wp2_with fail
    refine (topIn_no a1 0 3 _ hb).mono ?_
    rintro e _ ⟨rfl, rfl⟩
    go_wp2
    go_ret
    exact ⟨rfl, b03⟩
  obtain ⟨a, rfl⟩ : ∃ a : Nat, a0 = (a : Int) := ⟨a0.toNat, by omega⟩
  obtain ⟨b, rfl⟩ : ∃ b : Nat, a1 = (b : Int) := ⟨a1.toNat, by omega⟩
  have ha4 : a < 4 := by omega
  have hb4 : b < 4 := by omega
  have a00 : (0 : Int) ≤ (a : Int) := by omega
  have a03 : (a : Int) ≤ 3 := by omega
  have b00 : (0 : Int) ≤ (b : Int) := by omega
  have b03' : (b : Int) ≤ 3 := by omega
  clear ha hb
  by_cases hn : 18 < n2
  · go_wp2_with fail
    refine (topIn_yes (a : Int) 0 3 _ a00 a03).mono ?_
    rintro e _ ⟨rfl, rfl⟩
    go_wp2_with fail
    refine (topIn_yes (b : Int) 0 3 _ b00 b03').mono ?_
    rintro e _ ⟨rfl, rfl⟩
    go_wp2
    go_ret
    exact ⟨rfl, b03⟩
  · have hs3 := b03.size
    obtain ⟨ds, hds⟩ : ∃ ds, ds = z2 ++ [(((a : Int), true), ((b : Int), false))] ++ [(((b : Int), true), ((a : Int), false))] := ⟨_, rfl⟩
    have HDS : Hid (z2 ++ [(((a : Int), true), ((b : Int), false))] ++ [(((b : Int), true), ((a : Int), false))] = ds) := hds.symm
    have HL2 : Hid ((z2 ++ [(((a : Int), true), ((b : Int), false))]).length = n2 + 1) := by show _ = _; rw [List.length_append, HL.out]; rfl
    have hn18 : n2 ≤ 18 := by omega
    clear hds hn
    go_wp2_with fail
    refine (topIn_yes (a : Int) 0 3 _ a00 a03).mono ?_
    rintro e _ ⟨rfl, rfl⟩
    go_wp2_with fail
    refine (topIn_yes (b : Int) 0 3 _ b00 b03').mono ?_
    rintro e _ ⟨rfl, rfl⟩
    go_wp2_with (first
      | (at_builtin; refine wpList_appO _ rfl (.tmp 36) (.tmp 37) _ rfl w.heap.size 33 Try.underlying22 orInfo _ _ rfl (OwnO.nil x3 w.heap.size 33) a2 n2 c2 z2 rfl r3 (by simp; omega) hs3 ?_; intro v1 y1 hown1 hg1 hat1; rw [List.nil_append] at hown1; have hy1 : Below w.heap.size w y1 := b03.grown hg1 hs3 (fun _ h => by cases h); have hs1 := hy1.size; have ho1 := hown1.below ((Below.refl _ y1).alloc (Nat.le_refl _) (.cells #[.int .i64 (a : Int), .bool true, .int .i64 (b : Int), .bool false] 33)); have hz1 := hy1.alloc hs1 (.cells #[.int .i64 (a : Int), .bool true, .int .i64 (b : Int), .bool false] 33))
      | (at_builtin; refine wpList_appO _ rfl (.tmp 39) (.tmp 45) _ rfl w.heap.size 33 Try.underlying22 orInfo _ _ rfl ho1 _ 1 1 [(((a : Int), true), ((b : Int), false))] rfl (RdO.one y1 (((a : Int), true), ((b : Int), false)) _) (by rw [HL.out]; omega) (by simp; omega) ?_; intro v2 y2 hown2 hg2 hat2; have hy2 := below_appO hz1 ho1 hg2 (by simp; omega); have hs2 := hy2.size; have ho2 := hown2.below ((Below.refl _ y2).alloc (Nat.le_refl _) (.cells #[.int .i64 (b : Int), .bool true, .int .i64 (a : Int), .bool false] 33)); have hz2 := hy2.alloc hs2 (.cells #[.int .i64 (b : Int), .bool true, .int .i64 (a : Int), .bool false] 33))
      | (at_builtin; refine wpList_appO _ rfl (.tmp 47) (.tmp 53) _ rfl w.heap.size 33 Try.underlying22 orInfo _ _ rfl ho2 _ 1 1 [(((b : Int), true), ((a : Int), false))] rfl (RdO.one y2 (((b : Int), true), ((a : Int), false)) _) (by rw [HL2.out]; omega) (by simp; omega) ?_; intro v3 y3 hown3 hg3 hat3; rw [HDS.out] at hown3; have hy3 := below_appO hz2 ho2 hg3 (by simp; omega)))
    obtain ⟨A3, c3, rfl, hr3⟩ := hown3.rd
    obtain ⟨d, hd⟩ : ∃ d, d = ds.length := ⟨_, rfl⟩
    rw [← hd] at hr3 ⊢
    have HDD := Lib.hid hd
    clear hd hown1 hown2 hown3 hg1 hg2 hg3 hat1 hat2 hat3 hy1 hs1 ho1 hz1 hy2 hs2 ho2 hz2 r3 b03 hs3
    have hcase := Lib.hid (Pa.bad_or (4 : Int) ds)
    rcases hcase.out with ⟨q, hq⟩ | ⟨N, m, h4, h0, hm⟩
    · have HQ := Lib.hid hq
      clear hq
      refine (Solve_bad 4 A3 d c3 ds q _ hr3 HQ.out).mono ?_
      rintro e x5 ⟨rfl, b5⟩
      have b05 := hy3.trans (b5.mono hy3.size)
      go_wp2
      go_ret
      exact ⟨rfl, b05⟩
    · obtain rfl : N = 4 := by omega
      have HSM : Hid (m.getD a false = m.getD b false) := Pa.names_same hm.2.1 (by rw [← HDS.out]; simp) (by rw [← HDS.out]; simp)
      clear h4 hcase
      refine (Solve_rd 4 A3 d c3 ds m _ hr3 h0 hm).mono ?_
      rintro e x5 ⟨⟨g5, rfl, hm5⟩, b5⟩
      have b05 := hy3.trans (b5.mono hy3.size)
      obtain ⟨b3, o3, he3, hbb3, hc3⟩ := hm5.at_ (by omega)
      have k1 := hc3 a ha4
      have k2 := hc3 b hb4
      simp only [Option.some.injEq, Addr.mk.injEq, and_true] at he3
      obtain ⟨rfl, rfl⟩ := he3
      rw [Nat.zero_add] at k1 k2
      rw [HSM.out] at k1
      generalize m.getD b false = x at k1 k2
      have a04 : (a : Int) < 4 := by omega
      have b04 : (b : Int) < 4 := by omega
      clear hc3 hbb3 h0 hm hr3 hm5 hy3 b5
      go_wp2
      go_quiet (fail)
      go_wp2
      go_ret
      exact ⟨rfl, b05.trans (Below.drewN' _ _ _)⟩

end Go.Proofs.Ythalopmplekdoaa.topNames
