/-
  The walk of the law StableBest: for every two sides and pairs it returns true.
-/
import Derived.Test.YthdibdghnfkoeaaStableG
import Derived.Test.YthdibdghnfkoeaaStableH
import Derived.Test.YthdibdghnfkoeaaStableO
import Derived.Test.YthdibdghnfkoeaaRefAll
import Derived.Test.YthdibdghnfkoeaaRefTwo
import Derived.BigQuiet
namespace Go.Proofs.Ythdibdghnfkoeaa.stableBest
open Go.RowKit Go.Shelf
set_option linter.unusedSimpArgs false
set_option linter.unusedVariables false

set_option maxRecDepth 100000 in
set_option maxHeartbeats 1000000 in
/-- something is wrong with the rankings -/
theorem bad (w : World) (a0 : Option Addr) (n0 c0 : Nat) (z0 : List (List Int)) (w0 : RdR w w.heap.size a0 n0 c0 z0) (a1 : Option Addr) (n1 c1 : Nat) (z1 : List (List Int)) (w1 : RdR w w.heap.size a1 n1 c1 z1) (a2 : Option Addr) (n2 c2 : Nat) (z2 : List Int) (w2 : Rd w w.heap.size a2 n2 c2 z2) (hc : St.code z0 z1 ≠ 0) :
    Calls Try.prog 4 #[.slice a0 n0 c0, .slice a1 n1 c1, .slice a2 n2 c2] w fun e w' => e = .returned (.bool true) ∧ Below w.heap.size w w' := by
  have HN := Lib.hid hc
  clear hc
  go_enter Try.func4, Try.ntmps4
  go_wp2_with fail
  refine (stableFact_any _).mono ?_
  rintro e x1 ⟨rfl, b1⟩
  go_wp2_with fail
  refine (Is_err a0 a1 a2 n0 n1 n2 c0 c1 c2 z0 z1 z2 _ (w0.past b1) (w1.past b1) (w2.past b1) HN.out).mono ?_
  rintro e x2 ⟨rfl, b2⟩
  go_wp2
  go_ret
  exact ⟨rfl, b1.trans (b2.mono b1.size)⟩

set_option maxRecDepth 100000 in
set_option maxHeartbeats 1000000 in
/-- something is wrong with the pairs -/
theorem wrong (w : World) (n : Nat) (a0 : Option Addr) (c0 : Nat) (z0 : List (List Int)) (w0 : RdR w w.heap.size a0 n c0 z0) (a1 : Option Addr) (c1 : Nat) (z1 : List (List Int)) (w1 : RdR w w.heap.size a1 n c1 z1) (a2 : Option Addr) (n2 c2 : Nat) (z2 : List Int) (w2 : Rd w w.heap.size a2 n2 c2 z2) (hc : St.code z0 z1 = 0) (h2 : St.rcode n z2 ≠ 0) :
    Calls Try.prog 4 #[.slice a0 n c0, .slice a1 n c1, .slice a2 n2 c2] w fun e w' => e = .returned (.bool true) ∧ Below w.heap.size w w' := by
  have HN := Lib.hid hc
  have H2 := Lib.hid h2
  clear hc h2
  go_enter Try.func4, Try.ntmps4
  go_wp2_with fail
  refine (stableFact_any _).mono ?_
  rintro e x1 ⟨rfl, b1⟩
  go_wp2_with fail
  refine (Is_bad n a0 a1 a2 n2 c0 c1 c2 z0 z1 z2 _ (w0.past b1) (w1.past b1) (w2.past b1) HN.out H2.out).mono ?_
  rintro e x2 ⟨rfl, b2⟩
  go_wp2
  go_ret
  exact ⟨rfl, b1.trans (b2.mono b1.size)⟩

set_option maxRecDepth 100000 in
set_option maxHeartbeats 1000000 in
/-- the pairs are not stable -/
theorem loose (w : World) (n : Nat) (a0 : Option Addr) (c0 : Nat) (z0 : List (List Int)) (w0 : RdR w w.heap.size a0 n c0 z0) (a1 : Option Addr) (c1 : Nat) (z1 : List (List Int)) (w1 : RdR w w.heap.size a1 n c1 z1) (a2 : Option Addr) (c2 : Nat) (p : List Nat) (w2 : Rd w w.heap.size a2 n c2 (St.up p)) (hc : St.code z0 z1 = 0) (h2 : St.rcode n (St.up p) = 0) (hp : St.Pr n p) (hs : St.stb n z0 z1 (St.up p) = false) :
    Calls Try.prog 4 #[.slice a0 n c0, .slice a1 n c1, .slice a2 n c2] w fun e w' => e = .returned (.bool true) ∧ Below w.heap.size w w' := by
  have HN := Lib.hid hc
  have H2 := Lib.hid h2
  have HP := Lib.hid hp
  have HS := Lib.hid hs
  clear hc h2 hp hs
  go_enter Try.func4, Try.ntmps4
  go_wp2_with fail
  refine (stableFact_any _).mono ?_
  rintro e x1 ⟨rfl, b1⟩
  go_wp2_with fail
  refine (Is_ok n a0 a1 a2 c0 c1 c2 z0 z1 p _ (w0.past b1) (w1.past b1) (w2.past b1) HN.out H2.out HP.out).mono ?_
  rw [HS.out]
  rintro e x2 ⟨rfl, b2⟩
  go_wp2
  go_ret
  exact ⟨rfl, b1.trans (b2.mono b1.size)⟩

set_option maxRecDepth 100000 in
set_option maxHeartbeats 2000000 in
/-- the pairs are stable -/
theorem good (w : World) (n : Nat) (a0 : Option Addr) (c0 : Nat) (z0 : List (List Int)) (w0 : RdR w w.heap.size a0 n c0 z0) (a1 : Option Addr) (c1 : Nat) (z1 : List (List Int)) (w1 : RdR w w.heap.size a1 n c1 z1) (a2 : Option Addr) (c2 : Nat) (p : List Nat) (w2 : Rd w w.heap.size a2 n c2 (St.up p)) (hc : St.code z0 z1 = 0) (h2 : St.rcode n (St.up p) = 0) (hp : St.Pr n p) (hs : St.stb n z0 z1 (St.up p) = true) :
    Calls Try.prog 4 #[.slice a0 n c0, .slice a1 n c1, .slice a2 n c2] w fun e w' => e = .returned (.bool true) ∧ Below w.heap.size w w' := by
  have HN := Lib.hid hc
  have H2 := Lib.hid h2
  have HP := Lib.hid hp
  have HS := Lib.hid hs
  have hcz := St.code_zero.1 hc
  rw [w0.len] at hcz
  have h6 := hcz.1
  have HL := Lib.hid hcz.2.1
  have HR := Lib.hid hcz.2.2
  have HST : Hid (St.Stab n (St.pl z0) (St.pl z1) p) := (St.stb_iff HL.out HR.out hp).1 hs
  clear hc hcz h2 hp hs
  have s1 : IntKind.i64.wrap ((n : Int) - 1) = (n : Int) - 1 := by rw [IntKind.wrap_i64]; omega
  have s2 : ((n : Int) != (n : Int)) = false := by simp
  have s3 : (n != n) = false := by simp
  go_enter Try.func4, Try.ntmps4
  go_wp2_with fail
  refine (stableFact_any _).mono ?_
  rintro e x1 ⟨rfl, b1⟩
  go_wp2_with fail
  refine (Is_ok n a0 a1 a2 c0 c1 c2 z0 z1 p _ (w0.past b1) (w1.past b1) (w2.past b1) HN.out H2.out HP.out).mono ?_
  rw [HS.out]
  rintro e x2 ⟨rfl, b2⟩
  have b02 := b1.trans (b2.mono b1.size)
  go_wp2_with fail
  refine (Pairs_rd n a0 a1 c0 c1 z0 z1 _ (w0.past b02) (w1.past b02) HN.out).mono ?_
  rintro e x3 ⟨A3, c3, g, rfl, hopt, hr3, b3⟩
  have b03 := b02.trans (b3.mono b02.size)
  have HO := Lib.hid hopt
  clear hopt b1 b2 b02 b3
  go_wp2_with fail
  refine (All_in A3 n c3 (St.up g) 0 ((n : Int) - 1) _ hr3 HO.out.1.row.rng).mono ?_
  rintro e x4 ⟨rfl, rfl⟩
  go_wp2_with fail
  refine (Twice_no A3 n c3 (St.up g) _ hr3 HO.out.1.row.nodup).mono ?_
  rintro e x5 ⟨rfl, b5⟩
  have b05 := b03.trans (b5.mono b03.size)
  have q0 := w0.past b05
  have q1 := w1.past b05
  have q2 := w2.past b05
  have q3 := hr3.past b5
  clear b03 b5 hr3 w0 w1 w2
  go_wp2
  go_loopw [11] (fun iv wr => ∃ k : Nat, k ≤ n ∧ iv = .int .i64 (k : Int) ∧ Below x5.heap.size x5 wr) (fun iv _ => n - (intOf iv).toNat)
  case atStart => exact ⟨0, Nat.zero_le _, rfl, Below.refl _ _⟩
  case round =>
    obtain ⟨k, hk, rfl, hbel⟩ := hrel
    by_cases hlt : k < n
    · have HB1 := Lib.hid (St.best_left HL.out HO.out HP.out HST.out hlt)
      have HB2 := Lib.hid (St.worst_right HL.out HR.out HO.out HP.out HST.out hlt)
      obtain ⟨b0, o0, rfl, hb0, hc0⟩ := (q0.below hbel).at_ (by omega)
      obtain ⟨d0, e0, f0, r0⟩ := hc0 k hlt
      obtain ⟨b1, o1, rfl, hb1, hc1⟩ := (q1.below hbel).at_ (by omega)
      obtain ⟨d1, e1, f1, r1⟩ := hc1 k hlt
      have q2k := q2.below hbel
      have q3k := q3.below hbel
      obtain ⟨b2, o2, rfl, hb2, hc2⟩ := q2k.at_ (by omega)
      have f2 := hc2 k hlt
      obtain ⟨b3, o3, rfl, hb3, hc3⟩ := q3k.at_ (by omega)
      have f3 := hc3 k hlt
      clear hc0 hc1 hc2 hc3
      generalize (St.up p).getD k 0 = x at f2 HB1
      generalize (St.up g).getD k 0 = y at f3 HB1
      generalize hrow0 : z0.getD k [] = row0 at f0 r0 HB1
      generalize hrow1 : z1.getD k [] = row1 at f1 r1 HB2
      clear hrow0 hrow1
      obtain ⟨l0, hl0⟩ : ∃ l0, l0 = row0.length := ⟨_, rfl⟩
      obtain ⟨l1, hl1⟩ : ∃ l1, l1 = row1.length := ⟨_, rfl⟩
      rw [← hl0] at f0 r0
      rw [← hl1] at f1 r1
      clear hl0 hl1
      obtain ⟨t1, ht1⟩ : ∃ t, St.plc row0 x = t := ⟨_, rfl⟩
      obtain ⟨t2, ht2⟩ : ∃ t, St.plc row0 y = t := ⟨_, rfl⟩
      obtain ⟨t3, ht3⟩ : ∃ t, St.plc (St.up p) (k : Int) = t := ⟨_, rfl⟩
      obtain ⟨t4, ht4⟩ : ∃ t, St.plc (St.up g) (k : Int) = t := ⟨_, rfl⟩
      obtain ⟨t5, ht5⟩ : ∃ t, St.plc row1 t3 = t := ⟨_, rfl⟩
      obtain ⟨t6, ht6⟩ : ∃ t, St.plc row1 t4 = t := ⟨_, rfl⟩
      rw [ht1, ht2] at HB1
      rw [ht3, ht4, ht5, ht6] at HB2
      have K1 : t2 ≤ t1 := by have := HB1.out; omega
      have K2 : t5 ≤ t6 := by have := HB2.out; omega
      have H1 := Lib.hid ht1
      have H2 := Lib.hid ht2
      have H3 := Lib.hid ht3
      have H4 := Lib.hid ht4
      have H5 := Lib.hid ht5
      have H6 := Lib.hid ht6
      clear HB1 HB2 ht1 ht2 ht3 ht4 ht5 ht6
      have k1 : (0 : Int) ≤ (k : Int) := by omega
      have k2 : (k : Int) < (n : Int) := by omega
      go_wp2
      go_quiet (first
        | (go_at_call 12; with_reducible exact Calls.quiet_of_same ((Place_t d0 l0 e0 row0 x t1 _ (r0.drewN _) H1.out).mono fun _ _ h => ⟨h.1, h.2.symm⟩))
        | (go_at_call 12; with_reducible exact Calls.quiet_of_same ((Place_t d0 l0 e0 row0 y t2 _ (r0.drewN _) H2.out).mono fun _ _ h => ⟨h.1, h.2.symm⟩)))
      obtain ⟨y1, hy1⟩ : ∃ y1, y1 = wr.drewN nq := ⟨_, rfl⟩
      have hbel1 : Below x5.heap.size x5 y1 := by rw [hy1]; exact hbel.trans (Below.drewN' _ _ _)
      replace f0 : y1.cell? ⟨b0, o0 + k, none⟩ = some (.slice d0 l0 e0) := by rw [hy1]; exact f0
      replace f1 : y1.cell? ⟨b1, o1 + k, none⟩ = some (.slice d1 l1 e1) := by rw [hy1]; exact f1
      replace r1 : Rd y1 x5.heap.size d1 l1 e1 row1 := by rw [hy1]; exact r1.drewN _
      replace q2k : Rd y1 x5.heap.size (some ⟨b2, o2, none⟩) n c2 (St.up p) := by rw [hy1]; exact q2k.drewN _
      replace q3k : Rd y1 x5.heap.size (some ⟨b3, o3, none⟩) n c3 (St.up g) := by rw [hy1]; exact q3k.drewN _
      rw [← hy1]
      clear hy1 hbel r0 f2 f3
      go_wp2
      go_quiet (first
        | (go_at_call 12; with_reducible exact Calls.quiet_of_same ((Place_t (some ⟨b2, o2, none⟩) n c2 (St.up p) (k : Int) t3 _ (q2k.drewN _) H3.out).mono fun _ _ h => ⟨h.1, h.2.symm⟩))
        | (go_at_call 12; with_reducible exact Calls.quiet_of_same ((Place_t d1 l1 e1 row1 t3 t5 _ (r1.drewN _) H5.out).mono fun _ _ h => ⟨h.1, h.2.symm⟩))
        | (go_at_call 12; with_reducible exact Calls.quiet_of_same ((Place_t (some ⟨b3, o3, none⟩) n c3 (St.up g) (k : Int) t4 _ (q3k.drewN _) H4.out).mono fun _ _ h => ⟨h.1, h.2.symm⟩))
        | (go_at_call 12; with_reducible exact Calls.quiet_of_same ((Place_t d1 l1 e1 row1 t4 t6 _ (r1.drewN _) H6.out).mono fun _ _ h => ⟨h.1, h.2.symm⟩)))
      go_wp2
      go_roundw
      case rel => exact ⟨k + 1, by omega, by go_num, hbel1.trans (Below.drewN' _ _ _)⟩
      case measure => simp [intOf]; omega
    · obtain rfl : k = n := by omega
      go_wp2
      go_ret
      exact ⟨rfl, b05.trans (hbel.mono b05.size)⟩

theorem walk (w : World) (a0 : Option Addr) (n0 c0 : Nat) (z0 : List (List Int)) (w0 : RdR w w.heap.size a0 n0 c0 z0) (a1 : Option Addr) (n1 c1 : Nat) (z1 : List (List Int)) (w1 : RdR w w.heap.size a1 n1 c1 z1) (a2 : Option Addr) (n2 c2 : Nat) (z2 : List Int) (w2 : Rd w w.heap.size a2 n2 c2 z2) :
    Calls Try.prog 4 #[.slice a0 n0 c0, .slice a1 n1 c1, .slice a2 n2 c2] w fun e w' => e = .returned (.bool true) ∧ Below w.heap.size w w' := by
  by_cases hc : St.code z0 z1 = 0
  · have e := St.code_len hc
    rw [w0.len, w1.len] at e
    subst e
    by_cases h2 : St.rcode n1 z2 = 0
    · have hrow := St.rcode_zero.1 h2
      have e2 : n2 = n1 := by rw [← w2.len]; exact hrow.len
      subst e2
      obtain ⟨p, rfl, hp⟩ := hrow.pr
      cases hs : St.stb n2 z0 z1 (St.up p) with
      | true => exact good w n2 a0 c0 z0 w0 a1 c1 z1 w1 a2 c2 p w2 hc h2 hp hs
      | false => exact loose w n2 a0 c0 z0 w0 a1 c1 z1 w1 a2 c2 p w2 hc h2 hp hs
    · exact wrong w n1 a0 c0 z0 w0 a1 c1 z1 w1 a2 n2 c2 z2 w2 hc h2
  · exact bad w a0 n0 c0 z0 w0 a1 n1 c1 z1 w1 a2 n2 c2 z2 w2 hc

end Go.Proofs.Ythdibdghnfkoeaa.stableBest
