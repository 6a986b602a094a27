/-
  The walk of the law TopoDeep: for every number of points and lines it returns true, where the library's variable errors.errorType holds what its initialiser lays.
-/
import Derived.Test.YtfemjailphcnhaaDoorTopoF
namespace Go.Proofs.YtfemjailphcnhaaDoor.topoDeep
open Go.RowKit
set_option linter.unusedSimpArgs false
set_option linter.unusedVariables false

set_option maxRecDepth 100000 in
set_option maxHeartbeats 1000000 in
/-- something is wrong with the lines -/
theorem bad (w : World) (het : tld.EtIs w) (a0 : Int) (a1 : Option Addr) (n1 c1 : Nat) (z1 : List Gr.Ln) (w1 : RdP w w.heap.size a1 n1 c1 z1) (hc : Gr.code a0 z1 ≠ 0) :
    Calls Tryd.prog 5 #[.int .i64 a0, .slice a1 n1 c1] w fun e w' => e = .returned (.bool true) ∧ Below w.heap.size w w' := by
  have HN := Lib.hid hc
  clear hc
  go_enter Tryd.func5, Tryd.ntmps5
  go_wp2_with fail
  refine (topoFact_any _ het).mono ?_
  rintro e x1 ⟨rfl, b1⟩
  go_wp2_with fail
  refine (Deep_code a0 a1 n1 c1 z1 _ (w1.past b1) HN.out).mono ?_
  rintro e x2 ⟨rfl, b2⟩
  go_wp2
  go_ret
  exact ⟨rfl, b1.trans (b2.mono b1.size)⟩

set_option maxRecDepth 100000 in
set_option maxHeartbeats 1000000 in
/-- there is no order -/
theorem none_ (w : World) (het : tld.EtIs w) (m : Nat) (a1 : Option Addr) (n1 c1 : Nat) (z1 : List Gr.Ln) (o : List Int) (w1 : RdP w w.heap.size a1 n1 c1 z1) (h0 : Gr.code (m : Int) z1 = 0) (hs : To.Step m z1 o) (hk : To.Stuck m z1 o) (hl : o.length < m) :
    Calls Tryd.prog 5 #[.int .i64 (m : Int), .slice a1 n1 c1] w fun e w' => e = .returned (.bool true) ∧ Below w.heap.size w w' := by
  have H0 := Lib.hid h0
  have HL := Lib.hid hl
  clear h0 hl
  go_enter Tryd.func5, Tryd.ntmps5
  go_wp2_with fail
  refine (topoFact_any _ het).mono ?_
  rintro e x1 ⟨rfl, b1⟩
  go_wp2_with fail
  refine (Deep_no m a1 n1 c1 z1 o _ (w1.past b1) H0.out hs hk HL.out).mono ?_
  rintro e x2 ⟨rfl, b2⟩
  go_wp2
  go_ret
  exact ⟨rfl, b1.trans (b2.mono b1.size)⟩

set_option maxRecDepth 100000 in
set_option maxHeartbeats 4000000 in
/-- there is one -/
theorem good (w : World) (het : tld.EtIs w) (m : Nat) (a1 : Option Addr) (n1 c1 : Nat) (z1 : List Gr.Ln) (o : List Int) (w1 : RdP w w.heap.size a1 n1 c1 z1) (h0 : Gr.code (m : Int) z1 = 0) (hs : To.Step m z1 o) (hl : o.length = m) :
    Calls Tryd.prog 5 #[.int .i64 (m : Int), .slice a1 n1 c1] w fun e w' => e = .returned (.bool true) ∧ Below w.heap.size w w' := by
  have hm8 : m ≤ 8 := by have := (Gr.code_zero.1 h0).2.1; omega
  have HG := Lib.hid (Gr.code_zero.1 h0).2.2.2
  have HX := Lib.hid w1.len
  have hbig := w1.big
  have H0 := Lib.hid h0
  have HS := Lib.hid hs
  have HL := Lib.hid hl
  clear h0 hl hs
  go_enter Tryd.func5, Tryd.ntmps5
  go_wp2_with fail
  refine (topoFact_any _ het).mono ?_
  rintro e x1 ⟨rfl, b1⟩
  go_wp2_with fail
  refine (Deep_yes m a1 n1 c1 z1 o _ (w1.past b1) H0.out HS.out HL.out).mono ?_
  rintro e x2 ⟨A2, c2, rfl, hrd, b2⟩
  have b12 := b1.trans (b2.mono b1.size)
  have r1 := w1.past b12
  clear b1 b2 w1
  go_wp2
  go_loopw [8, 9, 10] (fun iv _ _ wr => ∃ i : Nat, i ≤ m ∧ iv = .int .i64 (i : Int) ∧ x2 = wr) (fun iv _ _ _ => m - (intOf iv).toNat)
  case atStart => exact ⟨0, Nat.zero_le _, rfl, rfl⟩
  case round =>
    obtain ⟨i, him, rfl, rfl⟩ := hrel
    by_cases hlt : i < m
    · have i1 : (0 : Int) ≤ (i : Int) := by omega
      have i2 : (i : Int) < (m : Int) := by omega
      have HE := Lib.hid (To.dep_lines HG.out HS.out HL.out hlt)
      have HSM := Lib.hid (To.dep_small HG.out HS.out HL.out hlt)
      obtain ⟨b3, o3, rfl, hb3, hc3⟩ := hrd.at_ (by omega)
      have HD : Hid (∀ j : Nat, j < m → x2.cell? ⟨b3, o3 + j, none⟩ = some (.int .i64 (To.dpF z1 m (j : Int) : Int))) := fun j hj => by
        have := hc3 j hj
        rw [To.deps_at z1 hj] at this
        exact this
      clear hc3
      go_wp2
      go_loopw [9, 10] (fun mv kv wr => ∃ (k : Nat) (mo : Int), k ≤ n1 ∧ kv = .int .i64 (k : Int) ∧ mv = .int .i64 mo ∧ Hid (To.Mst z1 (fun j => To.dpF z1 m (j : Int)) i k mo) ∧ x2 = wr) (fun _ kv _ => n1 - (intOf kv).toNat)
      case atStart => exact ⟨0, -1, Nat.zero_le _, rfl, rfl, To.Mst.start _ _ _, rfl⟩
      case round =>
        obtain ⟨k, mo, hkn, rfl, rfl, HM, rfl⟩ := hrel
        by_cases hk : k < n1
        · obtain ⟨b1, o1, rfl, hbb, hcc⟩ := r1.at_ (by omega)
          obtain ⟨g1, g2⟩ := hcc k hk
          clear hcc
          have hkl : k < z1.length := by rw [HX.out]; exact hk
          have hmem : z1.getD k (0, 0) ∈ z1 := by simp [List.getD, hkl]
          obtain ⟨⟨p, q⟩, hp⟩ : ∃ p, p = z1.getD k (0, 0) := ⟨_, rfl⟩
          rw [← hp] at g1 g2 hmem
          simp only at g1 g2
          have hgp := HG.out _ hmem
          unfold Gr.Good at hgp
          simp only at hgp
          obtain ⟨c, rfl⟩ : ∃ c : Nat, p = (c : Int) := ⟨p.toNat, by omega⟩
          have hcm : c < m := by omega
          have c1' : (0 : Int) ≤ (c : Int) := by omega
          have c2' : (c : Int) < (m : Int) := by omega
          have k1 : (0 : Int) ≤ (k : Int) := by omega
          have k2 : (k : Int) < (n1 : Int) := by omega
          have g3 := HD.out c hcm
          by_cases hq : q = (i : Int)
          · have d1 : (q == (i : Int)) = true := by simpa using hq
            by_cases hlo : mo < (To.dpF z1 m (c : Int) : Int)
            · have HN : Hid (To.Mst z1 (fun j => To.dpF z1 m (j : Int)) i (k + 1) (To.dpF z1 m (c : Int) : Int)) := HM.out.more hkl (c := c) (by rw [← hq]; exact hp) hlo
              generalize ((To.dpF z1 m (c : Int) : Nat) : Int) = d at g3 HN hlo
              have d2 : decide (mo < d) = true := by simpa using hlo
              clear hp hkl hmem hgp hq HM hlo
              go_wp2
              go_roundw
              case rel => exact ⟨k + 1, _, by omega, by go_num, rfl, HN, trivial⟩
              case measure => simp [intOf]; omega
            · have HN : Hid (To.Mst z1 (fun j => To.dpF z1 m (j : Int)) i (k + 1) mo) := HM.out.less hkl (c := c) (by rw [← hq]; exact hp) hlo
              generalize ((To.dpF z1 m (c : Int) : Nat) : Int) = d at g3 hlo
              have d2 : decide (mo < d) = false := by simpa using hlo
              clear hp hkl hmem hgp hq HM hlo
              go_wp2
              go_roundw
              case rel => exact ⟨k + 1, _, by omega, by go_num, rfl, HN, trivial⟩
              case measure => simp [intOf]; omega
          · have d1 : (q == (i : Int)) = false := by simpa using hq
            have HN : Hid (To.Mst z1 (fun j => To.dpF z1 m (j : Int)) i (k + 1) mo) := HM.out.skip hkl hp hq
            clear hp hkl hmem hgp hq HM g3
            go_wp2
            go_roundw
            case rel => exact ⟨k + 1, _, by omega, by go_num, rfl, HN, trivial⟩
            case measure => simp [intOf]; omega
        · obtain rfl : k = n1 := by omega
          have hend : ((To.dpF z1 m (i : Int) : Nat) : Int) = mo + 1 := by
            have := HM.out
            rw [← HX.out] at this
            exact this.end_ HE.out
          have hsm := HSM.out
          have g3 := HD.out i hlt
          obtain ⟨x, hx⟩ : ∃ x : Int, x = ((To.dpF z1 m (i : Int) : Nat) : Int) := ⟨_, rfl⟩
          have hwr : IntKind.i64.wrap (mo + 1) = x := by rw [IntKind.wrap_i64] <;> omega
          rw [← hx] at g3
          have d1 : (x != x) = false := by simp
          clear hx hend hsm HM
          go_wp2
          go_roundw
          case rel => exact ⟨i + 1, by omega, by go_num, trivial⟩
          case measure => simp [intOf]; omega
    · obtain rfl : i = m := by omega
      go_wp2
      go_ret
      exact ⟨rfl, b12⟩

theorem walk (w : World) (het : tld.EtIs w) (a0 : Int) (w0 : (Lit.int .i64 a0).wf = true) (a1 : Option Addr) (n1 c1 : Nat) (z1 : List Gr.Ln) (w1 : RdP w w.heap.size a1 n1 c1 z1) :
    Calls Tryd.prog 5 #[.int .i64 a0, .slice a1 n1 c1] w fun e w' => e = .returned (.bool true) ∧ Below w.heap.size w w' := by
  by_cases h : Gr.code a0 z1 = 0
  · obtain ⟨m, rfl⟩ : ∃ m : Nat, a0 = (m : Int) := ⟨a0.toNat, by have := (Gr.code_zero.1 h).1; omega⟩
    obtain ⟨o, hs, hk⟩ := To.Step.all m z1
    rcases Nat.lt_or_ge o.length m with hl | hl
    · exact none_ w het m a1 n1 c1 z1 o w1 h hs hk hl
    · exact good w het m a1 n1 c1 z1 o w1 h hs (Nat.le_antisymm hs.le hl)
  · exact bad w het a0 a1 n1 c1 z1 w1 h

end Go.Proofs.YtfemjailphcnhaaDoor.topoDeep
