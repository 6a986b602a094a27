/-
  The walk of the law HalvesKonig: for every number of points and lines it returns true, where the library's variable errors.errorType holds what its initialiser lays.
-/
import Derived.Test.YtklanopgmlmjlaaDoorHalvesC
import Derived.Test.YtklanopgmlmjlaaDoorRefAll
import Derived.Test.YtklanopgmlmjlaaDoorTold
import Derived.BigQuiet
namespace Go.Proofs.YtklanopgmlmjlaaDoor.halvesKonig
open Go.RowKit
set_option linter.unusedSimpArgs false
set_option linter.unusedVariables false

theorem Err_same (k : Int) (w : World) (het : tld.EtIs w) : Calls Tryd.prog 9 #[errv k, .int .i64 k] w fun e w' => e = .returned (.bool true) ∧ Below w.heap.size w w' :=
  (Error_err k k w het).mono fun _ _ h => ⟨h.1.trans (by simp), h.2⟩

set_option maxRecDepth 100000 in
set_option maxHeartbeats 1000000 in
/-- something is wrong with the lines -/
theorem bad (w : World) (het : tld.EtIs w) (a0 : Int) (a1 : Option Addr) (n1 c1 : Nat) (z1 : List Gr.Ln) (w1 : RdP w w.heap.size a1 n1 c1 z1) (hc : Gr.code a0 z1 ≠ 0) :
    Calls Tryd.prog 4 #[.int .i64 a0, .slice a1 n1 c1] w fun e w' => e = .returned (.bool true) ∧ Below w.heap.size w w' := by
  have HN := Lib.hid hc
  clear hc
  go_enter Tryd.func4, Tryd.ntmps4
  go_wp2_with fail
  refine (halvesFact_any _).mono ?_
  rintro e x1 ⟨rfl, b1⟩
  go_wp2_with fail
  refine (Odd_err a0 a1 n1 c1 z1 _ (w1.past b1) HN.out).mono ?_
  rintro e x2 ⟨rfl, b2⟩
  have b02 := b1.trans (b2.mono b1.size)
  go_wp2_with fail
  refine (Part_err a0 a1 n1 c1 z1 _ (w1.past b02) HN.out).mono ?_
  rintro e x3 ⟨rfl, b3⟩
  have b03 := b02.trans (b3.mono b02.size)
  go_wp2
  go_ret
  exact ⟨rfl, b03⟩

set_option maxRecDepth 100000 in
set_option maxHeartbeats 1000000 in
/-- there is an odd ring -/
theorem none_ (w : World) (het : tld.EtIs w) (m : Nat) (a1 : Option Addr) (n1 c1 : Nat) (z1 : List Gr.Ln) (w1 : RdP w w.heap.size a1 n1 c1 z1) (h0 : Gr.code (m : Int) z1 = 0) (hk : Ha.okB m z1 = false) :
    Calls Tryd.prog 4 #[.int .i64 (m : Int), .slice a1 n1 c1] w fun e w' => e = .returned (.bool true) ∧ Below w.heap.size w w' := by
  obtain ⟨o, ho, hor⟩ := Ha.odd_range h0
  have hno : ¬ o = 0 := fun e => by
    have := Ha.okB_odd h0
    rw [hk, ho, e] at this
    cases this
  have hor2 : o % 2 = 1 ∧ 3 ≤ o ∧ o ≤ m := hor.elim (fun e => absurd e hno) id
  have d1 : ((o : Int) == 0) = false := by simpa using hno
  have d2 : (o == 0) = false := by simpa using hno
  have d3 : ((o : Int).tmod 2 == 0) = false := by
    rw [Int.tmod_eq_emod_of_nonneg (by omega)]
    simp; omega
  have d4 : ((o : Int) % 2 == 0) = false := by simp; omega
  have d5 : decide ((m : Int) < (o : Int)) = false := by simp; omega
  have d6 : decide (m < o) = false := by simp; omega
  have d7 : (o : Int) ≤ (m : Int) := by omega
  have H0 := Lib.hid h0
  have HK := Lib.hid hk
  have HO := Lib.hid ho
  clear h0 hk ho hor hno hor2
  go_enter Tryd.func4, Tryd.ntmps4
  go_wp2_with fail
  refine (halvesFact_any _).mono ?_
  rintro e x1 ⟨rfl, b1⟩
  go_wp2_with fail
  refine (Odd_ok m a1 n1 c1 z1 _ (w1.past b1) H0.out).mono ?_
  rw [HO.out]
  rintro e x2 ⟨rfl, b2⟩
  have b02 := b1.trans (b2.mono b1.size)
  go_wp2_with fail
  refine (Part_no m a1 n1 c1 z1 _ (w1.past b02) H0.out HK.out).mono ?_
  rintro e x3 ⟨rfl, b3⟩
  have b03 := b02.trans (b3.mono b02.size)
  go_wp2_with fail
  refine (Err_same 5 _ (het.below b03)).mono ?_
  rintro e x4 ⟨rfl, b4⟩
  have b04 := b03.trans (b4.mono b03.size)
  go_wp2
  go_ret
  exact ⟨rfl, b04⟩

set_option maxRecDepth 100000 in
set_option maxHeartbeats 1000000 in
/-- the points can be parted -/
theorem good (w : World) (het : tld.EtIs w) (m : Nat) (a1 : Option Addr) (n1 c1 : Nat) (z1 : List Gr.Ln) (w1 : RdP w w.heap.size a1 n1 c1 z1) (h0 : Gr.code (m : Int) z1 = 0) (hk : Ha.okB m z1 = true) :
    Calls Tryd.prog 4 #[.int .i64 (m : Int), .slice a1 n1 c1] w fun e w' => e = .returned (.bool true) ∧ Below w.heap.size w w' := by
  have hm1 : 1 ≤ m := by have := (Gr.code_zero.1 h0).1; omega
  have hm8 : m ≤ 8 := by have := (Gr.code_zero.1 h0).2.1; omega
  have hl24 : n1 ≤ 24 := by have := (Gr.code_zero.1 h0).2.2.1; have := w1.len; omega
  have ho : Ha.odd m z1 = 0 := by
    have := Ha.okB_odd h0
    rw [hk] at this
    simpa using this.symm
  have s1 : ((m : Int) == (m : Int)) = true := by simp
  have s2 : ((m : Int) != (m : Int)) = false := by simp
  have s3 : (m == m) = true := by simp
  have s4 : (m != m) = false := by simp
  have s5 : (0 : Int) ≤ (m : Int) := by omega
  have H0 := Lib.hid h0
  have HK := Lib.hid hk
  have HO := Lib.hid ho
  have HX := Lib.hid w1.len
  clear h0 hk ho
  go_enter Tryd.func4, Tryd.ntmps4
  go_wp2_with fail
  refine (halvesFact_any _).mono ?_
  rintro e x1 ⟨rfl, b1⟩
  go_wp2_with fail
  refine (Odd_ok m a1 n1 c1 z1 _ (w1.past b1) H0.out).mono ?_
  rw [HO.out]
  rintro e x2 ⟨rfl, b2⟩
  have b02 := b1.trans (b2.mono b1.size)
  go_wp2_with fail
  refine (Part_yes m a1 n1 c1 z1 _ (w1.past b02) H0.out HK.out).mono ?_
  rintro e x3 ⟨g, rfl, hop, b3⟩
  have b03 := b02.trans (b3.mono b02.size)
  have hrp := hop.rd'
  have hlw := w1.past b03
  clear b1 b2 b02 b3 w1
  go_wp2_with fail
  refine (All_in _ m m (Ha.parts m (Wa.nrow m z1)) 0 1 _ hrp (by
    intro d hd
    unfold Ha.parts at hd
    obtain ⟨v, _, rfl⟩ := List.mem_map.1 hd
    exact Ha.pt_range _ v)).mono ?_
  rintro e x4 ⟨rfl, rfl⟩
  have HCP : Hid (∀ V : World, Below x3.heap.size x3 V → ∀ p, p < m → V.cell? ⟨g, p, none⟩ = some (.int .i64 ((Ha.parts m (Wa.nrow m z1)).getD p 0))) := fun V hV p hp => (hV.cell (p := ⟨g, p, none⟩) (hop.lt g rfl)).trans (hop.cell p hp)
  clear hrp hop
  go_wp2
  go_loopw [10] (fun jv wr => ∃ j : Nat, j ≤ n1 ∧ jv = .int .i64 (j : Int) ∧ Below x3.heap.size x3 wr) (fun jv _ => n1 - (intOf jv).toNat)
  case atStart => exact ⟨0, Nat.zero_le _, rfl, Below.refl _ _⟩
  case round =>
    obtain ⟨j, hjn, rfl, hbel⟩ := hrel
    by_cases hlt : j < n1
    · have hjl : j < z1.length := by rw [HX.out]; exact hlt
      obtain ⟨bl, ol, rfl, hbb, hcc⟩ := (hlw.below hbel).at_ (by omega)
      obtain ⟨g1, g2⟩ := hcc j hlt
      clear hcc
      obtain ⟨p, q, hpq, hp, hq, hmem⟩ := Ha.line_at H0.out hjl
      have g3 := HCP.out wr hbel p hp
      have g4 := HCP.out wr hbel q hq
      have hne := Ha.okB_line H0.out HK.out hmem
      rw [hpq] at g1 g2 hne
      simp only [Int.toNat_natCast] at g1 g2 hne
      generalize (Ha.parts m (Wa.nrow m z1)).getD p 0 = dp at g3 hne
      generalize (Ha.parts m (Wa.nrow m z1)).getD q 0 = dq at g4 hne
      have k1 : (0 : Int) ≤ (j : Int) := by omega
      have k2 : (j : Int) < (n1 : Int) := by omega
      have k3 : (0 : Int) ≤ (p : Int) := by omega
      have k4 : (p : Int) < (m : Int) := by omega
      have k5 : (0 : Int) ≤ (q : Int) := by omega
      have k6 : (q : Int) < (m : Int) := by omega
      have e1 : (dp == dq) = false := by simpa using hne
      clear hpq hmem hjl hne
      go_wp2
      go_quiet (fail)
      go_wp2
      go_roundw
      case rel => exact ⟨j + 1, by omega, by go_num, hbel.trans (Below.drewN' _ _ _)⟩
      case measure => simp [intOf]; omega
    · obtain rfl : j = n1 := by omega
      go_wp2
      go_ret
      exact ⟨rfl, b03.trans (hbel.mono b03.size)⟩

theorem walk (w : World) (het : tld.EtIs w) (a0 : Int) (_w0 : (Lit.int .i64 a0).wf = true) (a1 : Option Addr) (n1 c1 : Nat) (z1 : List Gr.Ln) (w1 : RdP w w.heap.size a1 n1 c1 z1) :
    Calls Tryd.prog 4 #[.int .i64 a0, .slice a1 n1 c1] w fun e w' => e = .returned (.bool true) ∧ Below w.heap.size w w' := by
  by_cases hc : Gr.code a0 z1 = 0
  · obtain ⟨m, rfl⟩ : ∃ m : Nat, a0 = (m : Int) := ⟨a0.toNat, by have := (Gr.code_zero.1 hc).1; omega⟩
    cases hb : Ha.okB m z1 with
    | false => exact none_ w het m a1 n1 c1 z1 w1 hc hb
    | true => exact good w het m a1 n1 c1 z1 w1 hc hb
  · exact bad w het a0 a1 n1 c1 z1 w1 hc

end Go.Proofs.YtklanopgmlmjlaaDoor.halvesKonig
