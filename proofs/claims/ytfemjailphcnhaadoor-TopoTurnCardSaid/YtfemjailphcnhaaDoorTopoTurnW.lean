/-
  The walk of the law TopoTurn: for every number of points and lines it returns true, where the library's variable errors.errorType holds what its initialiser lays. The lines take at most 2^47 - 4096 bytes, as every slice that is read.
-/
import Derived.Test.YtfemjailphcnhaaDoorTopoF
import Derived.Test.YtfemjailphcnhaaDoorRefRis
import Derived.Test.YtfemjailphcnhaaDoorIn2
namespace Go.Proofs.YtfemjailphcnhaaDoor.topoTurn
open Go.RowKit
set_option linter.unusedSimpArgs false
set_option linter.unusedVariables false

theorem back_same (ls : List Gr.Ln) : Gr.back (Gr.back ls) = ls := by
  unfold Gr.back
  rw [List.map_reverse, List.reverse_reverse, List.map_map]
  exact List.map_id'' (fun _ => rfl) ls
theorem back_bad {n : Int} {ls : List Gr.Ln} (h : Gr.code n ls ≠ 0) : Gr.code n (Gr.back ls) ≠ 0 := fun e => h (by rw [← back_same ls]; exact Gr.code_back e)
theorem back_stuck {n : Nat} {ls : List Gr.Ln} (hg : ∀ p ∈ ls, Gr.Good (n : Int) p) {o : List Int} (h : To.Step n ls o) (hk : To.Stuck n ls o) (hl : o.length < n) : ∃ o', To.Step n (Gr.back ls) o' ∧ To.Stuck n (Gr.back ls) o' ∧ o'.length < n := by
  obtain ⟨o', h1, h2⟩ := To.Step.all n (Gr.back ls)
  refine ⟨o', h1, h2, ?_⟩
  rcases Nat.lt_or_ge o'.length n with h3 | h3
  · exact h3
  · exact absurd (h.ring hg hl hk).back (h1.no_ring (Nat.le_antisymm h1.le h3))
theorem Back_rd (A : Option Addr) (n c : Nat) (ls : List Gr.Ln) (w : World) (hr : RdP w w.heap.size A n c ls) (hn : n * 16 ≤ 140737488351232) :
    Calls Tryd.prog 19 #[.slice A n c] w fun e w' => ∃ A1 c1, e = .returned (.slice A1 n c1) ∧ RdP w' w'.heap.size A1 n c1 (Gr.back ls) ∧ Below w.heap.size w w' := by
  have hl := hr.len
  refine (Back_any A n c ls w hr (by omega)).mono ?_
  rintro e w' ⟨v, rfl, hown, hb⟩
  obtain ⟨A1, c1, rfl, hrd⟩ := hown.rd
  rw [Gr.back_len, hl] at hrd ⊢
  exact ⟨A1, c1, rfl, hrd, hb⟩
theorem Rising_rd (A : Option Addr) (m c : Nat) (zs : List Int) (w : World) (hr : Rd w w.heap.size A m c zs) (hm : m ≤ 1000) :
    Calls Tryd.prog 20 #[.slice A m c] w fun e w' => ∃ A1 c1 r, e = .returned (.slice A1 m c1) ∧ Rd w' w'.heap.size A1 m c1 r ∧ Hid (r.Pairwise (· ≤ ·) ∧ r.Perm zs) ∧ Below w.heap.size w w' := by
  have hl := hr.len
  refine (RefR.Rising_any A m c zs w hr hm).mono ?_
  rintro e w' ⟨v, r, rfl, hown, h1, h2, hb⟩
  obtain ⟨A1, c1, rfl, hrd⟩ := hown.rd
  have e1 : r.length = m := by rw [h2.length_eq, hl]
  rw [e1] at hrd ⊢
  exact ⟨A1, c1, r, rfl, hrd, ⟨h1, h2⟩, hb⟩

set_option maxRecDepth 100000 in
set_option maxHeartbeats 1000000 in
/-- something is wrong with the lines -/
theorem bad (w : World) (het : tld.EtIs w) (a0 : Int) (a1 : Option Addr) (n1 c1 : Nat) (z1 : List Gr.Ln) (w1 : RdP w w.heap.size a1 n1 c1 z1) (s1 : n1 * 16 ≤ 140737488351232) (hc : Gr.code a0 z1 ≠ 0) :
    Calls Tryd.prog 6 #[.int .i64 a0, .slice a1 n1 c1] w fun e w' => e = .returned (.bool true) ∧ Below w.heap.size w w' := by
  have HN := Lib.hid hc
  have HB : Hid (Gr.code a0 (Gr.back z1) ≠ 0) := back_bad hc
  have HS := Lib.hid s1
  clear hc s1
  go_enter Tryd.func6, Tryd.ntmps6
  go_wp2_with fail
  refine (topoFact_any _ het).mono ?_
  rintro e x1 ⟨rfl, b1⟩
  go_wp2_with fail
  refine (Deep_code a0 a1 n1 c1 z1 _ (w1.past b1) HN.out).mono ?_
  rintro e x2 ⟨rfl, b2⟩
  have b02 := b1.trans (b2.mono b1.size)
  go_wp2_with fail
  refine (Back_rd a1 n1 c1 z1 _ (w1.past b02) HS.out).mono ?_
  rintro e x3 ⟨A3, c3, rfl, r3, b3⟩
  have b03 := b02.trans (b3.mono b02.size)
  go_wp2_with fail
  refine (Deep_code a0 A3 n1 c3 _ _ r3 HB.out).mono ?_
  rintro e x4 ⟨rfl, b4⟩
  have b04 := b03.trans (b4.mono b03.size)
  go_wp2_with fail
  refine (Back_rd a1 n1 c1 z1 _ (w1.past b04) HS.out).mono ?_
  rintro e x5 ⟨A5, c5, rfl, r5, b5⟩
  have b05 := b04.trans (b5.mono b04.size)
  go_wp2_with fail
  refine (Order_code a0 A5 n1 c5 _ _ r5 HB.out).mono ?_
  rintro e x6 ⟨rfl, b6⟩
  have b06 := b05.trans (b6.mono b05.size)
  go_wp2
  go_ret
  exact ⟨rfl, b06⟩

set_option maxRecDepth 100000 in
set_option maxHeartbeats 1000000 in
/-- there is no order -/
theorem none_ (w : World) (het : tld.EtIs w) (m : Nat) (a1 : Option Addr) (n1 c1 : Nat) (z1 : List Gr.Ln) (o o2 : List Int) (w1 : RdP w w.heap.size a1 n1 c1 z1) (s1 : n1 * 16 ≤ 140737488351232) (h0 : Gr.code (m : Int) z1 = 0) (hs : To.Step m z1 o) (hk : To.Stuck m z1 o) (hl : o.length < m)
    (h2 : To.Step m (Gr.back z1) o2) (k2 : To.Stuck m (Gr.back z1) o2) (l2 : o2.length < m) :
    Calls Tryd.prog 6 #[.int .i64 (m : Int), .slice a1 n1 c1] w fun e w' => e = .returned (.bool true) ∧ Below w.heap.size w w' := by
  have H0 := Lib.hid h0
  have HL := Lib.hid hl
  have HL2 := Lib.hid l2
  have HB : Hid (Gr.code (m : Int) (Gr.back z1) = 0) := Gr.code_back h0
  have HS := Lib.hid s1
  clear h0 hl s1 l2
  go_enter Tryd.func6, Tryd.ntmps6
  go_wp2_with fail
  refine (topoFact_any _ het).mono ?_
  rintro e x1 ⟨rfl, b1⟩
  go_wp2_with fail
  refine (Deep_no m a1 n1 c1 z1 o _ (w1.past b1) H0.out hs hk HL.out).mono ?_
  rintro e x2 ⟨rfl, b2⟩
  have b02 := b1.trans (b2.mono b1.size)
  go_wp2_with fail
  refine (Back_rd a1 n1 c1 z1 _ (w1.past b02) HS.out).mono ?_
  rintro e x3 ⟨A3, c3, rfl, r3, b3⟩
  have b03 := b02.trans (b3.mono b02.size)
  go_wp2_with fail
  refine (Deep_no m A3 n1 c3 _ o2 _ r3 HB.out h2 k2 HL2.out).mono ?_
  rintro e x4 ⟨rfl, b4⟩
  have b04 := b03.trans (b4.mono b03.size)
  go_wp2_with fail
  refine (Back_rd a1 n1 c1 z1 _ (w1.past b04) HS.out).mono ?_
  rintro e x5 ⟨A5, c5, rfl, r5, b5⟩
  have b05 := b04.trans (b5.mono b04.size)
  go_wp2_with fail
  refine (Order_bad m A5 n1 c5 _ o2 _ r5 HB.out h2 k2 HL2.out).mono ?_
  rintro e x6 ⟨rfl, b6⟩
  have b06 := b05.trans (b6.mono b05.size)
  go_wp2
  go_ret
  exact ⟨rfl, b06⟩

set_option maxRecDepth 100000 in
set_option maxHeartbeats 2000000 in
/-- there is one -/
theorem good (w : World) (het : tld.EtIs w) (m : Nat) (a1 : Option Addr) (n1 c1 : Nat) (z1 : List Gr.Ln) (o o2 : List Int) (w1 : RdP w w.heap.size a1 n1 c1 z1) (s1 : n1 * 16 ≤ 140737488351232) (h0 : Gr.code (m : Int) z1 = 0) (hs : To.Step m z1 o) (hl : o.length = m)
    (h2 : To.Step m (Gr.back z1) o2) (l2 : o2.length = m) :
    Calls Tryd.prog 6 #[.int .i64 (m : Int), .slice a1 n1 c1] w fun e w' => e = .returned (.bool true) ∧ Below w.heap.size w w' := by
  have hm8 : m ≤ 8 := by have := (Gr.code_zero.1 h0).2.1; omega
  have hm1 : 1 ≤ m := by have := (Gr.code_zero.1 h0).1; omega
  have HG := Lib.hid (Gr.code_zero.1 h0).2.2.2
  have H0 := Lib.hid h0
  have HST := Lib.hid hs
  have HL := Lib.hid hl
  have HST2 := Lib.hid h2
  have HL2 := Lib.hid l2
  have HB : Hid (Gr.code (m : Int) (Gr.back z1) = 0) := Gr.code_back h0
  have HS := Lib.hid s1
  clear h0 hl s1 l2 hs h2
  go_enter Tryd.func6, Tryd.ntmps6
  go_wp2_with fail
  refine (topoFact_any _ het).mono ?_
  rintro e x1 ⟨rfl, b1⟩
  go_wp2_with fail
  refine (Deep_yes m a1 n1 c1 z1 o _ (w1.past b1) H0.out HST.out HL.out).mono ?_
  rintro e x2 ⟨A2, c2, rfl, r2, b2⟩
  have b02 := b1.trans (b2.mono b1.size)
  go_wp2_with fail
  refine (Back_rd a1 n1 c1 z1 _ (w1.past b02) HS.out).mono ?_
  rintro e x3 ⟨A3, c3, rfl, r3, b3⟩
  have b03 := b02.trans (b3.mono b02.size)
  go_wp2_with fail
  refine (Deep_yes m A3 n1 c3 _ o2 _ r3 HB.out HST2.out HL2.out).mono ?_
  rintro e x4 ⟨A4, c4, rfl, r4, b4⟩
  have b04 := b03.trans (b4.mono b03.size)
  go_wp2_with fail
  refine (Back_rd a1 n1 c1 z1 _ (w1.past b04) HS.out).mono ?_
  rintro e x5 ⟨A5, c5, rfl, r5, b5⟩
  have b05 := b04.trans (b5.mono b04.size)
  go_wp2_with fail
  refine (Order_yes m A5 n1 c5 _ o2 _ r5 HB.out HST2.out HL2.out).mono ?_
  rintro e x6 ⟨A6, c6, rfl, r6, b6⟩
  have b06 := b05.trans (b6.mono b05.size)
  have r2 := (((r2.past b3).past b4).past b5).past b6
  have r4 := (r4.past b5).past b6
  clear r3 r5 r6 b1 b2 b3 b4 b5 b6 b02 b03 b04 b05 w1
  go_wp2_with fail
  refine (Rising_rd A2 m c2 _ _ r2 (by omega)).mono ?_
  rintro e x7 ⟨A7, c7, p7, rfl, r7, HP7, b7⟩
  have b07 := b06.trans (b7.mono b06.size)
  have r4 := r4.past b7
  go_wp2_with fail
  refine (Rising_rd A4 m c4 _ _ r4 (by omega)).mono ?_
  rintro e x8 ⟨A8, c8, p8, rfl, r8, HP8, b8⟩
  have b08 := b07.trans (b8.mono b07.size)
  have r7 := r7.past b8
  clear r2 r4 b7 b8 b06 b07
  obtain ⟨d, hd, hdm, htop⟩ := To.top_deps HG.out HST.out HL.out HP7.out.1 HP7.out.2 (by omega)
  obtain ⟨d', hd', _, htop'⟩ := To.top_deps (To.good_back HG.out) HST2.out HL2.out HP8.out.1 HP8.out.2 (by omega)
  obtain rfl : d = d' := htop.back.unique htop'
  obtain ⟨b1, o1, rfl, hb1, hc1⟩ := r7.at_ (by omega)
  obtain ⟨b2, q2, rfl, hb2, hc2⟩ := r8.at_ (by omega)
  obtain ⟨p, hp⟩ : ∃ p, p = m - 1 := ⟨_, rfl⟩
  have g1 := hc1 p (by omega)
  have g2 := hc2 p (by omega)
  rw [hp, hd, ← hp] at g1
  rw [hp, hd', ← hp] at g2
  have hwr : IntKind.i64.wrap ((m : Int) - 1) = (p : Int) := by rw [IntKind.wrap_i64] <;> omega
  have p1 : (0 : Int) ≤ (p : Int) := by omega
  have p2 : (p : Int) < (m : Int) := by omega
  have e1 : (0 : Int) ≤ (d : Int) := by omega
  have e2 : (d : Int) ≤ (p : Int) := by omega
  have d1 : ((d : Int) == (d : Int)) = true := by simp
  clear hc1 hc2 hd hd' htop htop' hp r7 r8 hdm HP7 HP8
  go_wp2
  go_quiet (first | (go_at_call 21; exact Calls.quiet_of_same ((in2_yes _ _ _ _ (by omega) (by omega)).mono fun _ _ h => ⟨h.1, h.2.symm⟩)))
  go_wp2
  go_ret
  exact ⟨rfl, b08.trans (Below.drewN' _ _ _)⟩

theorem walk (w : World) (het : tld.EtIs w) (a0 : Int) (w0 : (Lit.int .i64 a0).wf = true) (a1 : Option Addr) (n1 c1 : Nat) (z1 : List Gr.Ln) (w1 : RdP w w.heap.size a1 n1 c1 z1) (s1 : n1 * 16 ≤ 140737488351232) :
    Calls Tryd.prog 6 #[.int .i64 a0, .slice a1 n1 c1] w fun e w' => e = .returned (.bool true) ∧ Below w.heap.size w w' := by
  by_cases h : Gr.code a0 z1 = 0
  · obtain ⟨m, rfl⟩ : ∃ m : Nat, a0 = (m : Int) := ⟨a0.toNat, by have := (Gr.code_zero.1 h).1; omega⟩
    obtain ⟨o, hs, hk⟩ := To.Step.all m z1
    have hg := (Gr.code_zero.1 h).2.2.2
    rcases Nat.lt_or_ge o.length m with hl | hl
    · obtain ⟨o2, h2, k2, l2⟩ := back_stuck hg hs hk hl
      exact none_ w het m a1 n1 c1 z1 o o2 w1 s1 h hs hk hl h2 k2 l2
    · have hl' := Nat.le_antisymm hs.le hl
      obtain ⟨o2, h2, l2⟩ := To.order_turn hg hs hl'
      exact good w het m a1 n1 c1 z1 o o2 w1 s1 h hs hl' h2 l2
  · exact bad w het a0 a1 n1 c1 z1 w1 s1 h

end Go.Proofs.YtfemjailphcnhaaDoor.topoTurn
