/-
  The walk of the law TopoKahn: for every number of points and lines it returns true, where the library's variable errors.errorType holds what its initialiser lays.
-/
import Derived.Test.YtfemjailphcnhaaDoorTopoF
import Derived.Test.YtfemjailphcnhaaDoorRefOne
import Derived.Test.YtfemjailphcnhaaDoorRefAll
import Derived.Test.YtfemjailphcnhaaDoorRefTwo
import Derived.Test.YtfemjailphcnhaaDoorPlace
namespace Go.Proofs.YtfemjailphcnhaaDoor.topoKahn
open Go.RowKit
set_option linter.unusedSimpArgs false
set_option linter.unusedVariables false

set_option maxRecDepth 100000 in
set_option maxHeartbeats 1000000 in
/-- something is wrong with the lines -/
theorem bad (w : World) (het : tld.EtIs w) (a0 : Int) (a1 : Option Addr) (n1 c1 : Nat) (z1 : List Gr.Ln) (w1 : RdP w w.heap.size a1 n1 c1 z1) (hc : Gr.code a0 z1 ≠ 0) :
    Calls Tryd.prog 4 #[.int .i64 a0, .slice a1 n1 c1] w fun e w' => e = .returned (.bool true) ∧ Below w.heap.size w w' := by
  have HN := Lib.hid hc
  obtain ⟨k, hk⟩ : ∃ k, k = Gr.code a0 z1 := ⟨_, rfl⟩
  have d1 : (k != 0) = true := by simpa [hk] using hc
  have HK := Lib.hid hk
  clear hc hk
  go_enter Tryd.func4, Tryd.ntmps4
  go_wp2_with fail
  refine (topoFact_any _ het).mono ?_
  rintro e x1 ⟨rfl, b1⟩
  go_wp2_with fail
  refine (Order_code a0 a1 n1 c1 z1 _ (w1.past b1) HN.out).mono ?_
  rintro e x2 ⟨rfl, b2⟩
  have b02 := b1.trans (b2.mono b1.size)
  go_wp2_with fail
  refine (RefL.Lines_any a0 a1 n1 c1 z1 _ (w1.past b02)).mono ?_
  rintro e x3 ⟨rfl, b3⟩
  have b03 := b02.trans (b3.mono b02.size)
  rw [← HK.out]
  go_wp2
  go_ret
  exact ⟨rfl, b03⟩

set_option maxRecDepth 100000 in
set_option maxHeartbeats 2000000 in
/-- there is no order -/
theorem none_ (w : World) (het : tld.EtIs w) (m : Nat) (a1 : Option Addr) (n1 c1 : Nat) (z1 : List Gr.Ln) (o : List Int) (w1 : RdP w w.heap.size a1 n1 c1 z1) (h0 : Gr.code (m : Int) z1 = 0) (hs : To.Step m z1 o) (hk : To.Stuck m z1 o) (hl : o.length < m) :
    Calls Tryd.prog 4 #[.int .i64 (m : Int), .slice a1 n1 c1] w fun e w' => e = .returned (.bool true) ∧ Below w.heap.size w w' := by
  have hm8 : m ≤ 8 := by have := (Gr.code_zero.1 h0).2.1; omega
  have HR := Lib.hid (To.has_back_ring (Gr.code_zero.1 h0).2.2.2 hs hl hk)
  have HB0 : Hid (To.backTo m z1 0 = false) := rfl
  have H0 := Lib.hid h0
  have HL := Lib.hid hl
  clear h0 hl
  go_enter Tryd.func4, Tryd.ntmps4
  go_wp2_with fail
  refine (topoFact_any _ het).mono ?_
  rintro e x1 ⟨rfl, b1⟩
  go_wp2_with fail
  refine (Order_bad m a1 n1 c1 z1 o _ (w1.past b1) H0.out hs hk HL.out).mono ?_
  rintro e x2 ⟨rfl, b2⟩
  have b02 := b1.trans (b2.mono b1.size)
  go_wp2_with fail
  refine (RefL.Lines_any (m : Int) a1 n1 c1 z1 _ (w1.past b02)).mono ?_
  rintro e x3 ⟨rfl, b3⟩
  have b03 := b02.trans (b3.mono b02.size)
  rw [H0.out]
  have r3 := w1.past b03
  have het3 := het.below b03
  clear b1 b2 b3 b02 w1
  go_wp2
  go_loopw [8, 9] (fun bv iv wr => ∃ (i : Nat) (t : Bool), i ≤ m ∧ iv = .int .i64 (i : Int) ∧ bv = .bool t ∧ Hid (To.backTo m z1 i = t) ∧ Below x3.heap.size x3 wr) (fun _ iv _ => m - (intOf iv).toNat)
  case atStart => exact ⟨0, false, Nat.zero_le _, rfl, rfl, HB0, Below.refl _ _⟩
  case round =>
    obtain ⟨i, t, him, rfl, rfl, HT, hb⟩ := hrel
    by_cases hlt : i < m
    · obtain ⟨s, hs⟩ : ∃ s, To.comes m z1 i i = s := ⟨_, rfl⟩
      have HN : Hid (To.backTo m z1 (i + 1) = (t || s)) := by show _ = _; rw [To.backTo_succ, HT.out, hs]
      have HS := Lib.hid hs
      clear hs
      cases t with
      | true =>
        have HN2 : Hid (To.backTo m z1 (i + 1) = true) := by show _ = _; rw [HN.out]; rfl
        clear HN HT
        go_wp2
        go_roundw
        case rel => exact ⟨i + 1, true, by omega, by go_num, rfl, HN2, hb⟩
        case measure => simp [intOf]; omega
      | false =>
        have HN2 : Hid (To.backTo m z1 (i + 1) = s) := by show _ = _; rw [HN.out]; rfl
        clear HN HT
        go_wp2_with fail
        refine (RefF.Comes_any m i i a1 n1 c1 z1 s _ (r3.past hb) hm8 hlt hlt HS.out).mono ?_
        rintro e y ⟨rfl, hy⟩
        go_wp2
        go_roundw
        case rel => exact ⟨i + 1, s, by omega, by go_num, rfl, HN2, hb.trans (hy.mono hb.size)⟩
        case measure => simp [intOf]; omega
    · obtain rfl : i = m := by omega
      obtain rfl : t = true := HT.out.symm.trans HR.out
      have het4 := het3.below hb
      go_wp2_with fail
      refine (Err_same 5 _ het4).mono ?_
      rintro e y ⟨rfl, hy⟩
      go_wp2
      go_ret
      exact ⟨rfl, b03.trans ((hb.trans (hy.mono hb.size)).mono b03.size)⟩

set_option maxRecDepth 100000 in
set_option maxHeartbeats 4000000 in
/-- there is one -/
theorem good (w : World) (het : tld.EtIs w) (m : Nat) (a1 : Option Addr) (n1 c1 : Nat) (z1 : List Gr.Ln) (o : List Int) (w1 : RdP w w.heap.size a1 n1 c1 z1) (h0 : Gr.code (m : Int) z1 = 0) (hs : To.Step m z1 o) (hl : o.length = m) :
    Calls Tryd.prog 4 #[.int .i64 (m : Int), .slice a1 n1 c1] w fun e w' => e = .returned (.bool true) ∧ Below w.heap.size w w' := by
  have hm8 : m ≤ 8 := by have := (Gr.code_zero.1 h0).2.1; omega
  have HG := Lib.hid (Gr.code_zero.1 h0).2.2.2
  have HR := Lib.hid (To.no_back HG.out hs hl)
  have HB0 : Hid (To.backTo m z1 0 = false) := rfl
  have HX := Lib.hid w1.len
  have hbig := w1.big
  have hrow := hs.row hl
  obtain ⟨q, hq⟩ : ∃ q : Int, q = (m : Int) - 1 := ⟨_, rfl⟩
  have HALL : Hid (∀ d ∈ o, 0 ≤ d ∧ d ≤ q) := fun d hd => by have := hrow.rng d hd; omega
  have HND : Hid (o.Nodup) := hrow.nodup
  have hwr : IntKind.i64.wrap ((m : Int) - 1) = q := by rw [IntKind.wrap_i64] <;> omega
  have H0 := Lib.hid h0
  have HST := Lib.hid hs
  have HL := Lib.hid hl
  clear h0 hl hs hrow hq
  go_enter Tryd.func4, Tryd.ntmps4
  go_wp2_with fail
  refine (topoFact_any _ het).mono ?_
  rintro e x1 ⟨rfl, b1⟩
  go_wp2_with fail
  refine (Order_yes m a1 n1 c1 z1 o _ (w1.past b1) H0.out HST.out HL.out).mono ?_
  rintro e x2 ⟨A2, c2, rfl, r2, b2⟩
  have b02 := b1.trans (b2.mono b1.size)
  go_wp2_with fail
  refine (RefL.Lines_any (m : Int) a1 n1 c1 z1 _ (w1.past b02)).mono ?_
  rintro e x3 ⟨rfl, b3⟩
  have b03 := b02.trans (b3.mono b02.size)
  rw [H0.out]
  have r3 := w1.past b03
  have r2 := r2.past b3
  clear b1 b2 b3 b02 w1
  go_wp2
  go_loopw [8, 9] (fun bv iv wr => ∃ (i : Nat), i ≤ m ∧ iv = .int .i64 (i : Int) ∧ bv = .bool false ∧ Hid (To.backTo m z1 i = false) ∧ Below x3.heap.size x3 wr) (fun _ iv _ => m - (intOf iv).toNat)
  case atStart => exact ⟨0, Nat.zero_le _, rfl, rfl, HB0, Below.refl _ _⟩
  case round =>
    obtain ⟨i, him, rfl, rfl, HT, hb⟩ := hrel
    by_cases hlt : i < m
    · have hs : To.comes m z1 i i = false := by
        cases h : To.comes m z1 i i with
        | false => rfl
        | true =>
          have : To.backTo m z1 m = true := List.any_eq_true.2 ⟨i, List.mem_range.2 hlt, h⟩
          rw [HR.out] at this
          cases this
      have HN : Hid (To.backTo m z1 (i + 1) = false) := by show _ = _; rw [To.backTo_succ, HT.out, hs]; rfl
      have HS := Lib.hid hs
      clear hs HT
      go_wp2_with fail
      refine (RefF.Comes_any m i i a1 n1 c1 z1 false _ (r3.past hb) hm8 hlt hlt HS.out).mono ?_
      rintro e y ⟨rfl, hy⟩
      go_wp2
      go_roundw
      case rel => exact ⟨i + 1, by omega, by go_num, rfl, HN, hb.trans (hy.mono hb.size)⟩
      case measure => simp [intOf]; omega
    · obtain rfl : i = m := by omega
      obtain ⟨W, hW⟩ : ∃ W, W = wr := ⟨_, rfl⟩
      subst hW
      have r2 := r2.past hb
      have r4 := r3.past hb
      have b04 := b03.trans (hb.mono b03.size)
      clear r3 hb b03 HT
      go_wp2_with fail
      refine (All_in A2 i c2 o 0 q _ r2 HALL.out).mono ?_
      rintro e y ⟨rfl, rfl⟩
      go_wp2_with fail
      refine (Twice_no A2 i c2 o _ r2 HND.out).mono ?_
      rintro e y ⟨rfl, hy⟩
      have r5 := r2.past hy
      have r6 := r4.past hy
      have b05 := b04.trans (hy.mono b04.size)
      clear r2 r4 hy b04
      go_wp2
      go_loopw [10] (fun kv wr => ∃ (k : Nat), k ≤ n1 ∧ kv = .int .i64 (k : Int) ∧ Below y.heap.size y wr) (fun kv _ => n1 - (intOf kv).toNat)
      case atStart => exact ⟨0, Nat.zero_le _, rfl, Below.refl _ _⟩
      case round =>
        obtain ⟨k, hkn, rfl, hb⟩ := hrel
        by_cases hk : k < n1
        · have hr6 := r6.past hb
          have hr5 := r5.past hb
          obtain ⟨b1, o1, rfl, hbb, hcc⟩ := hr6.at_ (by omega)
          obtain ⟨g1, g2⟩ := hcc k hk
          clear hcc
          have hkl : k < z1.length := by rw [HX.out]; exact hk
          have hmem : z1.getD k (0, 0) ∈ z1 := by simp [List.getD, hkl]
          obtain ⟨⟨p, q'⟩, hp⟩ : ∃ p, p = z1.getD k (0, 0) := ⟨_, rfl⟩
          rw [← hp] at g1 g2 hmem
          simp only at g1 g2
          have hh : Gr.has z1 p q' = true := Gr.has_iff.2 hmem
          obtain ⟨a, b, rfl, rfl, ha, hb', _⟩ := To.ends HG.out hh
          have hline := HST.out.line HL.out hb' hh
          obtain ⟨t1, ht1⟩ : ∃ t1, St.plc o (a : Int) = t1 := ⟨_, rfl⟩
          obtain ⟨t2, ht2⟩ : ∃ t2, St.plc o (b : Int) = t2 := ⟨_, rfl⟩
          rw [ht1, ht2] at hline
          have H1 := Lib.hid ht1
          have H2 := Lib.hid ht2
          have d1 : decide (t2 < t1) = false := by simp; omega
          have k1 : (0 : Int) ≤ (k : Int) := by omega
          have k2 : (k : Int) < (n1 : Int) := by omega
          clear ht1 ht2 hp hh hmem hkl
          go_wp2
          go_quiet (first
            | (go_at_call 18; with_reducible exact Calls.quiet_of_same ((Place_t A2 i c2 o (a : Int) t1 _ (hr5.drewN _) H1.out).mono fun _ _ h => ⟨h.1, h.2.symm⟩))
            | (go_at_call 18; with_reducible exact Calls.quiet_of_same ((Place_t A2 i c2 o (b : Int) t2 _ (hr5.drewN _) H2.out).mono fun _ _ h => ⟨h.1, h.2.symm⟩)))
          go_wp2
          go_roundw
          case rel => exact ⟨k + 1, by omega, by go_num, hb.trans (Below.drewN' _ _ _)⟩
          case measure => simp [intOf]; omega
        · obtain rfl : k = n1 := by omega
          go_wp2
          go_ret
          exact ⟨rfl, b05.trans (hb.mono b05.size)⟩

theorem walk (w : World) (het : tld.EtIs w) (a0 : Int) (w0 : (Lit.int .i64 a0).wf = true) (a1 : Option Addr) (n1 c1 : Nat) (z1 : List Gr.Ln) (w1 : RdP w w.heap.size a1 n1 c1 z1) :
    Calls Tryd.prog 4 #[.int .i64 a0, .slice a1 n1 c1] w fun e w' => e = .returned (.bool true) ∧ Below w.heap.size w w' := by
  by_cases h : Gr.code a0 z1 = 0
  · obtain ⟨m, rfl⟩ : ∃ m : Nat, a0 = (m : Int) := ⟨a0.toNat, by have := (Gr.code_zero.1 h).1; omega⟩
    obtain ⟨o, hs, hk⟩ := To.Step.all m z1
    rcases Nat.lt_or_ge o.length m with hl | hl
    · exact none_ w het m a1 n1 c1 z1 o w1 h hs hk hl
    · exact good w het m a1 n1 c1 z1 o w1 h hs (Nat.le_antisymm hs.le hl)
  · exact bad w het a0 a1 n1 c1 z1 w1 h

end Go.Proofs.YtfemjailphcnhaaDoor.topoKahn
