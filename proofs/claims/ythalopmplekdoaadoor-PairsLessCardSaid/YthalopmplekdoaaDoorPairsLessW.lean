/-
  The walk of the law PairsLess: for every names, ors and place it returns true.
-/
import Derived.Test.YthalopmplekdoaaDoorPairsF
import Derived.Test.YthalopmplekdoaaDoorPairsG
import Derived.Test.YthalopmplekdoaaDoorIn2
namespace Go.Proofs.YthalopmplekdoaaDoor.pairsLess
open Go.RowKit
set_option linter.unusedSimpArgs false
set_option linter.unusedVariables false

theorem orInfo : (Tryd.prog.info? 43).map (fun i => (i.zero, i.size, i.bytes)) = some (some (.agg #[.int .i64 0, .bool false, .int .i64 0, .bool false]), 4, 32) := by kernel_rfl

set_option maxRecDepth 100000 in
set_option maxHeartbeats 2000000 in
theorem bad (w : World) (het : tld.EtIs w) (a0 : Int) (a1 : Option Addr) (n1 c1 : Nat) (z1 : List Or2) (w1 : RdO w w.heap.size a1 n1 c1 z1) (a2 : Int) (q : Int) (hq : Pa.Bad a0 z1 q) :
    Calls Tryd.prog 6 #[.int .i64 a0, .slice a1 n1 c1, .int .i64 a2] w fun e w' => e = .returned (.bool true) ∧ Below w.heap.size w w' := by
  have HQ := Lib.hid hq
  clear hq
  go_enter Tryd.func6, Tryd.ntmps6
  go_wp2_with fail
  refine (pairsFact_any _ het).mono ?_
  rintro e x1 ⟨rfl, hb1⟩
  have r1 := w1.past hb1
  clear w1
  go_wp2_with fail
  refine (Solve_bad a0 a1 n1 c1 z1 q _ r1 HQ.out).mono ?_
  rintro e x2 ⟨rfl, hb2⟩
  have hb02 := hb1.trans (hb2.mono hb1.size)
  clear r1 hb1 hb2
  go_wp2
  go_ret
  exact ⟨rfl, hb02⟩

set_option maxRecDepth 100000 in
set_option maxHeartbeats 4000000 in
theorem good (w : World) (het : tld.EtIs w) (N : Nat) (a1 : Option Addr) (n1 c1 : Nat) (z1 : List Or2) (w1 : RdO w w.heap.size a1 n1 c1 z1) (a2 : Int) (w2 : (Lit.int .i64 a2).wf = true) (m : List Bool) (h0 : Pa.code (N : Int) z1 = 0) (hm : Pa.Least z1 N m) :
    Calls Tryd.prog 6 #[.int .i64 (N : Int), .slice a1 n1 c1, .int .i64 a2] w fun e w' => e = .returned (.bool true) ∧ Below w.heap.size w w' := by
  have H0 := Lib.hid h0
  have HM := Lib.hid hm
  have hN4 := (Pa.code_good h0).2.1
  have hNN : ((N : Int) == (N : Int)) = true := by simp
  have hl20 : n1 ≤ 20 := by have := (Pa.code_good h0).2.2.1; rw [w1.len] at this; exact this
  have hwr : IntKind.i64.wrap ((n1 : Int) - 1) = (n1 : Int) - 1 := by rw [IntKind.wrap_i64]; omega
  clear h0 hm
  go_enter Tryd.func6, Tryd.ntmps6
  go_wp2_with fail
  refine (pairsFact_any _ het).mono ?_
  rintro e x1 ⟨rfl, hb1⟩
  have r1 := w1.past hb1
  clear w1
  go_wp2_with fail
  refine (Solve_rd N a1 n1 c1 z1 m _ r1 H0.out HM.out).mono ?_
  rintro e x2 ⟨⟨g, rfl, hm2⟩, hb2⟩
  have r2 := r1.past hb2
  have hb02 := hb1.trans (hb2.mono hb1.size)
  clear r1 hb1 hb2
  by_cases hin : 0 ≤ a2 ∧ a2 < n1
  · obtain ⟨k, hkk⟩ : ∃ k : Nat, a2 = (k : Int) := ⟨a2.toNat, by omega⟩
    subst hkk
    have hk1 : (0 : Int) ≤ (k : Int) := hin.1
    have hk2 : (k : Int) ≤ (n1 : Int) - 1 := by omega
    have hkn : k < n1 := by omega
    have hnc := r2.le
    have hcap := r2.cap
    have HL := Lib.hid r2.len
    obtain ⟨K, hK⟩ : ∃ K, K = k + 1 := ⟨_, rfl⟩
    have kw : IntKind.i64.wrap ((k : Int) + 1) = (K : Int) := by rw [IntKind.wrap_i64]; omega
    have q2 : (k : Int) ≤ (c1 : Int) := by omega
    have q3 : (0 : Int) ≤ (K : Int) := by omega
    have q4 : (K : Int) ≤ (n1 : Int) := by omega
    have q5 : (n1 : Int) ≤ (c1 : Int) := by omega
    have HT := Lib.hid (r2.take (k := k) (by omega))
    obtain ⟨b0, o0, rfl, _, _⟩ := r2.at_ (by omega)
    have hsz := hb02.size
    -- the ors without the k-th
    obtain ⟨ds, hds⟩ : ∃ ds, ds = z1.take k ++ z1.drop K := ⟨_, rfl⟩
    have hsub : ∀ c ∈ ds, c ∈ z1 := fun c hc => by
      rw [hds] at hc
      rcases List.mem_append.1 hc with h | h
      · exact List.mem_of_mem_take h
      · exact List.mem_of_mem_drop h
    have hdl : ds.length ≤ 20 := by rw [hds]; simp [HL.out]; omega
    have HD0 : Hid (Pa.code (N : Int) ds = 0) := Pa.code_le H0.out hdl hsub
    obtain ⟨m', hle', hlx⟩ := HM.out.less hsub
    have HM' := Lib.hid hle'
    have HLX := Lib.hid hlx
    have HDS := Lib.hid hds
    have HK := Lib.hid hK
    have q6 : K ≤ n1 := by omega
    have q7 : K ≠ 0 := by omega
    have HTL : Hid ((z1.take k).length = k) := by show _ = _; rw [List.length_take, HL.out]; omega
    have HDS2 : Hid (z1.take k ++ z1.drop K = ds) := HDS.out.symm
    have HDL : Hid (ds.length ≤ 20) := (Pa.code_good HD0.out).2.2.1
    have hm2n := hm2
    clear hin hsub hdl hle' hlx hnc hK hm2n
    go_wp2_with fail
    refine (in2_yes _ _ _ _ hk1 hk2).mono ?_
    rintro e _ ⟨rfl, rfl⟩
    by_cases hcK : c1 = K
    · obtain rfl : K = n1 := by omega
      subst hcK
      have hR := r2.none_left (k := c1) rfl
      rw [Nat.sub_self] at hR
      go_wp2_with (first
        | (at_builtin; refine wpList_appO _ rfl (.tmp 39) (.tmp 42) _ rfl x2.heap.size 43 Tryd.underlying22 orInfo _ _ rfl (OwnO.nil x2 x2.heap.size 43) (some ⟨b0, o0, none⟩) k c1 (z1.take k) rfl HT.out (by simp; omega) (Nat.le_refl _) ?_; intro v1 y1 hown1 hg1 hat1; rw [List.nil_append] at hown1; have hy1 : Below x2.heap.size x2 y1 := (Below.refl _ _).grown hg1 (Nat.le_refl _) (fun _ h => by cases h); have hs1 := hy1.size; have hR1 := hR.past hy1)
        | (at_builtin; refine wpList_appO _ rfl (.tmp 44) (.tmp 48) _ rfl x2.heap.size 43 Tryd.underlying22 orInfo _ _ rfl hown1 _ 0 0 (z1.drop c1) rfl hR1 (by rw [HTL.out]; omega) hs1 ?_; intro v2 y2 hown2 hg2 hat2; rw [HDS2.out] at hown2; have hbx := below_appO hy1 hown1 hg2 hs1))
      have hb3 := hb02.trans (hbx.mono hb02.size)
      have hm3 := hm2.past hbx
      obtain ⟨A3, c3, rfl, hr3⟩ := hown2.rd
      obtain ⟨d, hd⟩ : ∃ d, d = ds.length := ⟨_, rfl⟩
      rw [← hd] at hr3 ⊢
      have HDD := Lib.hid hd
      clear hd hown1 hown2 hg1 hg2 hat1 hat2 hy1 hs1 hR1 hR hbx hm2 r2 hb02 hsz
      refine (Solve_rd N A3 d c3 ds m' _ hr3 HD0.out HM'.out).mono ?_
      rintro e x4 ⟨⟨g2, rfl, hx4⟩, hb4⟩
      have hm4 := hm3.past hb4
      have hb04 := hb3.trans (hb4.mono hb3.size)
      clear hr3 hm3 hb3 hb4
      have HML : Hid (m'.length = N) := hx4.len
      have h00 : Hid (∀ i, i < 0 → m'.getD i false = m.getD i false) := fun i hi => by omega
      go_wp2
      go_loopw [12] (fun iv wr => ∃ j : Nat, j ≤ N ∧ iv = .int .i64 (j : Int) ∧ Below x4.heap.size x4 wr ∧ Hid (∀ i, i < j → m'.getD i false = m.getD i false)) (fun iv _ => N - (intOf iv).toNat)
      case atStart => exact ⟨0, Nat.zero_le _, rfl, Below.refl _ _, h00⟩
      case round =>
        clear h00
        obtain ⟨j, hj, rfl, hbel, H⟩ := hrel
        have hb5 := hb04.trans (hbel.mono hb04.size)
        by_cases hlt : j < N
        · obtain ⟨b2, o2, he2, hbb, hc⟩ := (hm4.past hbel).at_ (by omega)
          obtain ⟨b3, o3, he3, hbb3, hc3⟩ := (hx4.past hbel).at_ (by omega)
          have k2 := hc j hlt
          have k3 := hc3 j hlt
          simp only [Option.some.injEq, Addr.mk.injEq, and_true] at he3 he2
          obtain ⟨rfl, rfl⟩ := he3
          obtain ⟨rfl, rfl⟩ := he2
          rw [Nat.zero_add] at k3 k2
          obtain ⟨p, hp⟩ : ∃ p, p = m'.getD j false := ⟨_, rfl⟩
          obtain ⟨q, hq⟩ : ∃ q, q = m.getD j false := ⟨_, rfl⟩
          rw [← hp] at k3
          rw [← hq] at k2
          have j0 : (0 : Int) ≤ (j : Int) := by omega
          have j1 : (j : Int) < (N : Int) := by omega
          clear hc hc3 hbb hbb3
          by_cases he : p = q
          · have HN : Hid (∀ i, i < j + 1 → m'.getD i false = m.getD i false) := fun i hi => by
              by_cases e : i = j
              · rw [e, ← hp, ← hq, he]
              · exact H.out i (by omega)
            subst he
            clear hp hq
            go_wp2
            go_quiet (fail)
            go_wp2
            go_roundw
            case rel => exact ⟨j + 1, by omega, by go_num, hbel.trans (Below.drewN' _ _ _), HN⟩
            case measure => simp [intOf]; omega
          · have hqt : q = true := by
              rw [hq]
              exact HLX.out j (by rw [HML.out]; exact hlt) H.out (by rw [← hp, ← hq]; exact he)
            subst hqt
            obtain rfl : p = false := by cases p; rfl; exact absurd rfl he
            clear hp hq he
            go_wp2
            go_quiet (fail)
            obtain ⟨y5, hy5⟩ : ∃ y5, y5 = wr.drewN nq := ⟨_, rfl⟩
            have m2 : y5.cell? ⟨g, j, none⟩ = some (.bool true) := by rw [hy5]; exact k2
            have hb6 : Below w.heap.size w y5 := by rw [hy5]; exact hb5.trans (Below.drewN' _ _ _)
            rw [← hy5]
            clear hy5 k2 k3 hb5 hbel
            go_wp2
            go_ret
            exact ⟨rfl, hb6⟩
        · go_wp2
          go_ret
          exact ⟨rfl, hb5⟩
    · have hR := r2.drop (k := K) (by omega)
      go_wp2_with (first
        | (at_builtin; refine wpList_appO _ rfl (.tmp 39) (.tmp 42) _ rfl x2.heap.size 43 Tryd.underlying22 orInfo _ _ rfl (OwnO.nil x2 x2.heap.size 43) (some ⟨b0, o0, none⟩) k c1 (z1.take k) rfl HT.out (by simp; omega) (Nat.le_refl _) ?_; intro v1 y1 hown1 hg1 hat1; rw [List.nil_append] at hown1; have hy1 : Below x2.heap.size x2 y1 := (Below.refl _ _).grown hg1 (Nat.le_refl _) (fun _ h => by cases h); have hs1 := hy1.size; have hR1 := hR.past hy1)
        | (at_builtin; refine wpList_appO _ rfl (.tmp 44) (.tmp 48) _ rfl x2.heap.size 43 Tryd.underlying22 orInfo _ _ rfl hown1 _ (n1 - K) (c1 - K) (z1.drop K) rfl hR1 (by rw [HTL.out]; omega) hs1 ?_; intro v2 y2 hown2 hg2 hat2; rw [HDS2.out] at hown2; have hbx := below_appO hy1 hown1 hg2 hs1))
      have hb3 := hb02.trans (hbx.mono hb02.size)
      have hm3 := hm2.past hbx
      obtain ⟨A3, c3, rfl, hr3⟩ := hown2.rd
      obtain ⟨d, hd⟩ : ∃ d, d = ds.length := ⟨_, rfl⟩
      rw [← hd] at hr3 ⊢
      have HDD := Lib.hid hd
      clear hd hown1 hown2 hg1 hg2 hat1 hat2 hy1 hs1 hR1 hR hbx hm2 r2 hb02 hsz
      refine (Solve_rd N A3 d c3 ds m' _ hr3 HD0.out HM'.out).mono ?_
      rintro e x4 ⟨⟨g2, rfl, hx4⟩, hb4⟩
      have hm4 := hm3.past hb4
      have hb04 := hb3.trans (hb4.mono hb3.size)
      clear hr3 hm3 hb3 hb4
      have HML : Hid (m'.length = N) := hx4.len
      have h00 : Hid (∀ i, i < 0 → m'.getD i false = m.getD i false) := fun i hi => by omega
      go_wp2
      go_loopw [12] (fun iv wr => ∃ j : Nat, j ≤ N ∧ iv = .int .i64 (j : Int) ∧ Below x4.heap.size x4 wr ∧ Hid (∀ i, i < j → m'.getD i false = m.getD i false)) (fun iv _ => N - (intOf iv).toNat)
      case atStart => exact ⟨0, Nat.zero_le _, rfl, Below.refl _ _, h00⟩
      case round =>
        clear h00
        obtain ⟨j, hj, rfl, hbel, H⟩ := hrel
        have hb5 := hb04.trans (hbel.mono hb04.size)
        by_cases hlt : j < N
        · obtain ⟨b2, o2, he2, hbb, hc⟩ := (hm4.past hbel).at_ (by omega)
          obtain ⟨b3, o3, he3, hbb3, hc3⟩ := (hx4.past hbel).at_ (by omega)
          have k2 := hc j hlt
          have k3 := hc3 j hlt
          simp only [Option.some.injEq, Addr.mk.injEq, and_true] at he3 he2
          obtain ⟨rfl, rfl⟩ := he3
          obtain ⟨rfl, rfl⟩ := he2
          rw [Nat.zero_add] at k3 k2
          obtain ⟨p, hp⟩ : ∃ p, p = m'.getD j false := ⟨_, rfl⟩
          obtain ⟨q, hq⟩ : ∃ q, q = m.getD j false := ⟨_, rfl⟩
          rw [← hp] at k3
          rw [← hq] at k2
          have j0 : (0 : Int) ≤ (j : Int) := by omega
          have j1 : (j : Int) < (N : Int) := by omega
          clear hc hc3 hbb hbb3
          by_cases he : p = q
          · have HN : Hid (∀ i, i < j + 1 → m'.getD i false = m.getD i false) := fun i hi => by
              by_cases e : i = j
              · rw [e, ← hp, ← hq, he]
              · exact H.out i (by omega)
            subst he
            clear hp hq
            go_wp2
            go_quiet (fail)
            go_wp2
            go_roundw
            case rel => exact ⟨j + 1, by omega, by go_num, hbel.trans (Below.drewN' _ _ _), HN⟩
            case measure => simp [intOf]; omega
          · have hqt : q = true := by
              rw [hq]
              exact HLX.out j (by rw [HML.out]; exact hlt) H.out (by rw [← hp, ← hq]; exact he)
            subst hqt
            obtain rfl : p = false := by cases p; rfl; exact absurd rfl he
            clear hp hq he
            go_wp2
            go_quiet (fail)
            obtain ⟨y5, hy5⟩ : ∃ y5, y5 = wr.drewN nq := ⟨_, rfl⟩
            have m2 : y5.cell? ⟨g, j, none⟩ = some (.bool true) := by rw [hy5]; exact k2
            have hb6 : Below w.heap.size w y5 := by rw [hy5]; exact hb5.trans (Below.drewN' _ _ _)
            rw [← hy5]
            clear hy5 k2 k3 hb5 hbel
            go_wp2
            go_ret
            exact ⟨rfl, hb6⟩
        · go_wp2
          go_ret
          exact ⟨rfl, hb5⟩
  · have hno : a2 < 0 ∨ (n1 : Int) - 1 < a2 := by omega
    go_wp2_with fail
    refine (in2_no _ _ _ _ hno).mono ?_
    rintro e _ ⟨rfl, rfl⟩
    go_wp2
    go_ret
    exact ⟨rfl, hb02⟩

theorem walk (w : World) (het : tld.EtIs w) (a0 : Int) (w0 : (Lit.int .i64 a0).wf = true) (a1 : Option Addr) (n1 c1 : Nat) (z1 : List Or2) (w1 : RdO w w.heap.size a1 n1 c1 z1) (a2 : Int) (w2 : (Lit.int .i64 a2).wf = true) :
    Calls Tryd.prog 6 #[.int .i64 a0, .slice a1 n1 c1, .int .i64 a2] w fun e w' => e = .returned (.bool true) ∧ Below w.heap.size w w' := by
  rcases Pa.bad_or a0 z1 with ⟨q, hq⟩ | ⟨N, m, rfl, h0, hm⟩
  · exact bad w het a0 a1 n1 c1 z1 w1 a2 q hq
  · exact good w het N a1 n1 c1 z1 w1 a2 w2 m h0 hm

end Go.Proofs.YthalopmplekdoaaDoor.pairsLess
