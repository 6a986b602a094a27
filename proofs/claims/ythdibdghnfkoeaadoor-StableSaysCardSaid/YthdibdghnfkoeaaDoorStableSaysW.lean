/-
  The walk of the law StableSays: for every two sides and pairs it returns true, where the library's variable errors.errorType holds what its initialiser lays.
-/
import Derived.Test.YthdibdghnfkoeaaDoorStableF
import Derived.Test.YthdibdghnfkoeaaDoorStableO
import Derived.Test.YthdibdghnfkoeaaDoorRefStB
import Derived.Test.YthdibdghnfkoeaaDoorTold
namespace Go.Proofs.YthdibdghnfkoeaaDoor.stableSays
open Go.RowKit Go.Shelf
set_option linter.unusedSimpArgs false
set_option linter.unusedVariables false

theorem Err_same (k : Int) (w : World) (het : tld.EtIs w) : Calls Tryd.prog 5 #[errv k, .int .i64 k] w fun e w' => e = .returned (.bool true) ∧ Below w.heap.size w w' :=
  (Error_err k k w het).mono fun _ _ h => ⟨h.1.trans (by simp), h.2⟩
theorem Err_ok (w : World) : Calls Tryd.prog 5 #[.nilIface, .int .i64 0] w fun e w' => e = .returned (.bool true) ∧ w = w' :=
  (Error_nil 0 w).mono fun _ _ h => ⟨h.1.trans (by simp), h.2⟩

set_option maxRecDepth 100000 in
set_option maxHeartbeats 1000000 in
/-- something is wrong with the rankings -/
theorem bad (w : World) (het : tld.EtIs w) (a0 : Option Addr) (n0 c0 : Nat) (z0 : List (List Int)) (w0 : RdR w w.heap.size a0 n0 c0 z0) (a1 : Option Addr) (n1 c1 : Nat) (z1 : List (List Int)) (w1 : RdR w w.heap.size a1 n1 c1 z1) (a2 : Option Addr) (n2 c2 : Nat) (z2 : List Int) (w2 : Rd w w.heap.size a2 n2 c2 z2) (k : Int) (hk : St.code z0 z1 = k) (hc : k ≠ 0) :
    Calls Tryd.prog 3 #[.slice a0 n0 c0, .slice a1 n1 c1, .slice a2 n2 c2] w fun e w' => e = .returned (.bool true) ∧ Below w.heap.size w w' := by
  have HK := Lib.hid hk
  have HN : Hid (St.code z0 z1 ≠ 0) := by show _; rw [hk]; exact hc
  have HE : Hid (errOf k = errv k) := errOf_pos hc
  have d1 : (k == 0) = false := by simpa using hc
  clear hk hc
  go_enter Tryd.func3, Tryd.ntmps3
  go_wp2_with fail
  refine (RefS2.Orders_any a0 a1 n0 n1 c0 c1 z0 z1 _ w0 w1).mono ?_
  rw [HK.out]
  rintro e x1 ⟨rfl, b01⟩
  go_wp2_with fail
  refine (SCheck_any a0 a1 n0 n1 c0 c1 z0 z1 _ (w0.past b01) (w1.past b01)).mono ?_
  rw [HK.out, HE.out]
  rintro e x2 ⟨rfl, b2⟩
  have b02 := b01.trans (b2.mono b01.size)
  go_wp2_with fail
  refine (Err_same k _ (het.below b02)).mono ?_
  rintro e x3 ⟨rfl, b3⟩
  have b03 := b02.trans (b3.mono b02.size)
  go_wp2_with fail
  refine (Pairs_err a0 a1 n0 n1 c0 c1 z0 z1 _ (w0.past b03) (w1.past b03) HN.out).mono ?_
  rw [HK.out]
  rintro e x4 ⟨rfl, b4⟩
  have b04 := b03.trans (b4.mono b03.size)
  go_wp2_with fail
  refine (Err_same k _ (het.below b04)).mono ?_
  rintro e x5 ⟨rfl, b5⟩
  have b05 := b04.trans (b5.mono b04.size)
  go_wp2_with fail
  refine (Ints_t none none 0 0 0 0 [] [] true _ (Rd.nil _ _) (Rd.nil _ _) rfl).mono ?_
  rintro e x6 ⟨rfl, b6⟩
  have b06 := b05.trans (b6.mono b05.size)
  go_wp2_with fail
  refine (Is_err a0 a1 a2 n0 n1 n2 c0 c1 c2 z0 z1 z2 _ (w0.past b06) (w1.past b06) (w2.past b06) HN.out).mono ?_
  rw [HK.out]
  rintro e x7 ⟨rfl, b7⟩
  have b07 := b06.trans (b7.mono b06.size)
  go_wp2_with fail
  refine (Err_same k _ (het.below b07)).mono ?_
  rintro e x8 ⟨rfl, b8⟩
  have b08 := b07.trans (b8.mono b07.size)
  go_wp2
  go_ret
  exact ⟨rfl, b08⟩

set_option maxRecDepth 100000 in
set_option maxHeartbeats 2000000 in
theorem len (w : World) (het : tld.EtIs w) (n : Nat) (a0 : Option Addr) (c0 : Nat) (z0 : List (List Int)) (w0 : RdR w w.heap.size a0 n c0 z0) (a1 : Option Addr) (c1 : Nat) (z1 : List (List Int)) (w1 : RdR w w.heap.size a1 n c1 z1) (a2 : Option Addr) (n2 c2 : Nat) (z2 : List Int) (w2 : Rd w w.heap.size a2 n2 c2 z2) (hc : St.code z0 z1 = 0) (hln : n2 ≠ n) (hc3 : St.rcode n z2 = 3) :
    Calls Tryd.prog 3 #[.slice a0 n c0, .slice a1 n c1, .slice a2 n2 c2] w fun e w' => e = .returned (.bool true) ∧ Below w.heap.size w w' := by
  have HN := Lib.hid hc
  have hcz := St.code_zero.1 hc
  rw [w0.len] at hcz
  have h6 := hcz.1
  have HL := Lib.hid hcz.2.1
  have HR := Lib.hid hcz.2.2
  clear hc hcz
  have s1 : IntKind.i64.wrap ((n : Int) - 1) = (n : Int) - 1 := by rw [IntKind.wrap_i64]; omega
  have HC := Lib.hid hc3
  have e1 : ((n2 : Int) != (n : Int)) = true := by simp; omega
  have e2 : (n2 != n) = true := by simpa using hln
  clear hc3 hln
  go_enter Tryd.func3, Tryd.ntmps3
  go_wp2_with fail
  refine (RefS2.Orders_any a0 a1 n n c0 c1 z0 z1 _ w0 w1).mono ?_
  rw [HN.out]
  rintro e x1 ⟨rfl, b01⟩
  go_wp2_with fail
  refine (SCheck_any a0 a1 n n c0 c1 z0 z1 _ (w0.past b01) (w1.past b01)).mono ?_
  rw [errOf_zero HN.out]
  rintro e x2 ⟨rfl, b2⟩
  have b02 := b01.trans (b2.mono b01.size)
  go_wp2_with fail
  refine (Err_ok _).mono ?_
  rintro e _ ⟨rfl, rfl⟩
  go_wp2_with fail
  refine (RefS2.Stables_any n h6 a0 a1 c0 c1 z0 z1 n [] none 0 0 _ (by omega) (w0.past b02) (w1.past b02) (Rd.nil _ _)).mono ?_
  rintro e x3 ⟨v3, rfl, hsee, b3⟩
  have b03 := b02.trans (b3.mono b02.size)
  go_wp2_with fail
  refine (Pairs_rd n a0 a1 c0 c1 z0 z1 _ (w0.past b03) (w1.past b03) HN.out).mono ?_
  rintro e x4 ⟨A4, c4, g, rfl, hopt, hr4, b4⟩
  have b04 := b03.trans (b4.mono b03.size)
  have hsee4 := hsee.past b4
  rw [St.stbs_opt HL.out HR.out hopt] at hsee4
  obtain ⟨A3, c3, rfl, hr3⟩ := hsee4
  have hgl : g.length = n := hopt.1.1
  rw [hgl] at hr3 ⊢
  clear hopt hgl hsee b01 b2 b02 b3 b03 b4
  go_wp2_with fail
  refine (Err_ok _).mono ?_
  rintro e _ ⟨rfl, rfl⟩
  go_wp2_with fail
  refine (Ints_t A4 A3 n n c4 c3 (St.up g) (St.up g) true _ hr4 hr3 (by simp)).mono ?_
  rintro e x6 ⟨rfl, b6⟩
  have b06 := b04.trans (b6.mono b04.size)
  have hl6 := w0.past b06
  have hm6 := w1.past b06
  have hh6 := w2.past b06
  have ht6 := het.below b06
  clear hr3 hr4 b04 b6 w0 w1 w2 het
  have hl7 := hl6
  have hm7 := hm6
  have hh7 := hh6
  have ht7 := ht6
  have b07 := b06
  go_wp2_with fail
  refine (Is_bad n a0 a1 a2 n2 c0 c1 c2 z0 z1 z2 _ hl7 hm7 hh7 HN.out (by rw [HC.out]; decide)).mono ?_
  rw [HC.out]
  rintro e x8 ⟨rfl, b8⟩
  have b08 := b07.trans (b8.mono b07.size)
  go_wp2_with fail
  refine (Err_same 3 _ (ht7.below b8)).mono ?_
  rintro e x9 ⟨rfl, b9⟩
  go_wp2
  go_ret
  exact ⟨rfl, b08.trans (b9.mono b08.size)⟩

set_option maxRecDepth 100000 in
set_option maxHeartbeats 2000000 in
theorem range (w : World) (het : tld.EtIs w) (n : Nat) (a0 : Option Addr) (c0 : Nat) (z0 : List (List Int)) (w0 : RdR w w.heap.size a0 n c0 z0) (a1 : Option Addr) (c1 : Nat) (z1 : List (List Int)) (w1 : RdR w w.heap.size a1 n c1 z1) (a2 : Option Addr) (c2 : Nat) (z2 : List Int) (w2 : Rd w w.heap.size a2 n c2 z2) (hc : St.code z0 z1 = 0) (hal : ¬ ∀ x ∈ z2, 0 ≤ x ∧ x ≤ (n : Int) - 1) (hc3 : St.rcode n z2 = 1) :
    Calls Tryd.prog 3 #[.slice a0 n c0, .slice a1 n c1, .slice a2 n c2] w fun e w' => e = .returned (.bool true) ∧ Below w.heap.size w w' := by
  have HN := Lib.hid hc
  have hcz := St.code_zero.1 hc
  rw [w0.len] at hcz
  have h6 := hcz.1
  have HL := Lib.hid hcz.2.1
  have HR := Lib.hid hcz.2.2
  clear hc hcz
  have s1 : IntKind.i64.wrap ((n : Int) - 1) = (n : Int) - 1 := by rw [IntKind.wrap_i64]; omega
  have HC := Lib.hid hc3
  have HA := Lib.hid hal
  clear hc3 hal
  have e1 : ((n : Int) != (n : Int)) = false := by simp
  have e2 : (n != n) = false := by simp
  go_enter Tryd.func3, Tryd.ntmps3
  go_wp2_with fail
  refine (RefS2.Orders_any a0 a1 n n c0 c1 z0 z1 _ w0 w1).mono ?_
  rw [HN.out]
  rintro e x1 ⟨rfl, b01⟩
  go_wp2_with fail
  refine (SCheck_any a0 a1 n n c0 c1 z0 z1 _ (w0.past b01) (w1.past b01)).mono ?_
  rw [errOf_zero HN.out]
  rintro e x2 ⟨rfl, b2⟩
  have b02 := b01.trans (b2.mono b01.size)
  go_wp2_with fail
  refine (Err_ok _).mono ?_
  rintro e _ ⟨rfl, rfl⟩
  go_wp2_with fail
  refine (RefS2.Stables_any n h6 a0 a1 c0 c1 z0 z1 n [] none 0 0 _ (by omega) (w0.past b02) (w1.past b02) (Rd.nil _ _)).mono ?_
  rintro e x3 ⟨v3, rfl, hsee, b3⟩
  have b03 := b02.trans (b3.mono b02.size)
  go_wp2_with fail
  refine (Pairs_rd n a0 a1 c0 c1 z0 z1 _ (w0.past b03) (w1.past b03) HN.out).mono ?_
  rintro e x4 ⟨A4, c4, g, rfl, hopt, hr4, b4⟩
  have b04 := b03.trans (b4.mono b03.size)
  have hsee4 := hsee.past b4
  rw [St.stbs_opt HL.out HR.out hopt] at hsee4
  obtain ⟨A3, c3, rfl, hr3⟩ := hsee4
  have hgl : g.length = n := hopt.1.1
  rw [hgl] at hr3 ⊢
  clear hopt hgl hsee b01 b2 b02 b3 b03 b4
  go_wp2_with fail
  refine (Err_ok _).mono ?_
  rintro e _ ⟨rfl, rfl⟩
  go_wp2_with fail
  refine (Ints_t A4 A3 n n c4 c3 (St.up g) (St.up g) true _ hr4 hr3 (by simp)).mono ?_
  rintro e x6 ⟨rfl, b6⟩
  have b06 := b04.trans (b6.mono b04.size)
  have hl6 := w0.past b06
  have hm6 := w1.past b06
  have hh6 := w2.past b06
  have ht6 := het.below b06
  clear hr3 hr4 b04 b6 w0 w1 w2 het
  go_wp2_with fail
  refine (All_no a2 n c2 z2 0 ((n : Int) - 1) _ hh6 HA.out).mono ?_
  rintro e x7 ⟨rfl, rfl⟩
  have hl7 := hl6
  have hm7 := hm6
  have hh7 := hh6
  have ht7 := ht6
  have b07 := b06
  go_wp2_with fail
  refine (Is_bad n a0 a1 a2 n c0 c1 c2 z0 z1 z2 _ hl7 hm7 hh7 HN.out (by rw [HC.out]; decide)).mono ?_
  rw [HC.out]
  rintro e x8 ⟨rfl, b8⟩
  have b08 := b07.trans (b8.mono b07.size)
  go_wp2_with fail
  refine (Err_same 1 _ (ht7.below b8)).mono ?_
  rintro e x9 ⟨rfl, b9⟩
  go_wp2
  go_ret
  exact ⟨rfl, b08.trans (b9.mono b08.size)⟩

set_option maxRecDepth 100000 in
set_option maxHeartbeats 2000000 in
theorem clash (w : World) (het : tld.EtIs w) (n : Nat) (a0 : Option Addr) (c0 : Nat) (z0 : List (List Int)) (w0 : RdR w w.heap.size a0 n c0 z0) (a1 : Option Addr) (c1 : Nat) (z1 : List (List Int)) (w1 : RdR w w.heap.size a1 n c1 z1) (a2 : Option Addr) (c2 : Nat) (z2 : List Int) (w2 : Rd w w.heap.size a2 n c2 z2) (hc : St.code z0 z1 = 0) (hal : ∀ x ∈ z2, 0 ≤ x ∧ x ≤ (n : Int) - 1) (hnd : ¬ z2.Nodup) (hc3 : St.rcode n z2 = 6) :
    Calls Tryd.prog 3 #[.slice a0 n c0, .slice a1 n c1, .slice a2 n c2] w fun e w' => e = .returned (.bool true) ∧ Below w.heap.size w w' := by
  have HN := Lib.hid hc
  have hcz := St.code_zero.1 hc
  rw [w0.len] at hcz
  have h6 := hcz.1
  have HL := Lib.hid hcz.2.1
  have HR := Lib.hid hcz.2.2
  clear hc hcz
  have s1 : IntKind.i64.wrap ((n : Int) - 1) = (n : Int) - 1 := by rw [IntKind.wrap_i64]; omega
  have HC := Lib.hid hc3
  have HA := Lib.hid hal
  have HD := Lib.hid hnd
  clear hc3 hal hnd
  have e1 : ((n : Int) != (n : Int)) = false := by simp
  have e2 : (n != n) = false := by simp
  go_enter Tryd.func3, Tryd.ntmps3
  go_wp2_with fail
  refine (RefS2.Orders_any a0 a1 n n c0 c1 z0 z1 _ w0 w1).mono ?_
  rw [HN.out]
  rintro e x1 ⟨rfl, b01⟩
  go_wp2_with fail
  refine (SCheck_any a0 a1 n n c0 c1 z0 z1 _ (w0.past b01) (w1.past b01)).mono ?_
  rw [errOf_zero HN.out]
  rintro e x2 ⟨rfl, b2⟩
  have b02 := b01.trans (b2.mono b01.size)
  go_wp2_with fail
  refine (Err_ok _).mono ?_
  rintro e _ ⟨rfl, rfl⟩
  go_wp2_with fail
  refine (RefS2.Stables_any n h6 a0 a1 c0 c1 z0 z1 n [] none 0 0 _ (by omega) (w0.past b02) (w1.past b02) (Rd.nil _ _)).mono ?_
  rintro e x3 ⟨v3, rfl, hsee, b3⟩
  have b03 := b02.trans (b3.mono b02.size)
  go_wp2_with fail
  refine (Pairs_rd n a0 a1 c0 c1 z0 z1 _ (w0.past b03) (w1.past b03) HN.out).mono ?_
  rintro e x4 ⟨A4, c4, g, rfl, hopt, hr4, b4⟩
  have b04 := b03.trans (b4.mono b03.size)
  have hsee4 := hsee.past b4
  rw [St.stbs_opt HL.out HR.out hopt] at hsee4
  obtain ⟨A3, c3, rfl, hr3⟩ := hsee4
  have hgl : g.length = n := hopt.1.1
  rw [hgl] at hr3 ⊢
  clear hopt hgl hsee b01 b2 b02 b3 b03 b4
  go_wp2_with fail
  refine (Err_ok _).mono ?_
  rintro e _ ⟨rfl, rfl⟩
  go_wp2_with fail
  refine (Ints_t A4 A3 n n c4 c3 (St.up g) (St.up g) true _ hr4 hr3 (by simp)).mono ?_
  rintro e x6 ⟨rfl, b6⟩
  have b06 := b04.trans (b6.mono b04.size)
  have hl6 := w0.past b06
  have hm6 := w1.past b06
  have hh6 := w2.past b06
  have ht6 := het.below b06
  clear hr3 hr4 b04 b6 w0 w1 w2 het
  go_wp2_with fail
  refine (All_in a2 n c2 z2 0 ((n : Int) - 1) _ hh6 HA.out).mono ?_
  rintro e x7 ⟨rfl, rfl⟩
  go_wp2_with fail
  refine (Twice_any a2 n c2 z2 _ hh6 HD.out).mono ?_
  rintro e x8 ⟨rfl, b7⟩
  have hl7 := hl6.past b7
  have hm7 := hm6.past b7
  have hh7 := hh6.past b7
  have ht7 := ht6.below b7
  have b07 := b06.trans (b7.mono b06.size)
  go_wp2_with fail
  refine (Is_bad n a0 a1 a2 n c0 c1 c2 z0 z1 z2 _ hl7 hm7 hh7 HN.out (by rw [HC.out]; decide)).mono ?_
  rw [HC.out]
  rintro e x8 ⟨rfl, b8⟩
  have b08 := b07.trans (b8.mono b07.size)
  go_wp2_with fail
  refine (Err_same 6 _ (ht7.below b8)).mono ?_
  rintro e x9 ⟨rfl, b9⟩
  go_wp2
  go_ret
  exact ⟨rfl, b08.trans (b9.mono b08.size)⟩

set_option maxRecDepth 100000 in
set_option maxHeartbeats 2000000 in
theorem fine (w : World) (het : tld.EtIs w) (n : Nat) (a0 : Option Addr) (c0 : Nat) (z0 : List (List Int)) (w0 : RdR w w.heap.size a0 n c0 z0) (a1 : Option Addr) (c1 : Nat) (z1 : List (List Int)) (w1 : RdR w w.heap.size a1 n c1 z1) (a2 : Option Addr) (c2 : Nat) (z2 : List Int) (w2 : Rd w w.heap.size a2 n c2 z2) (hc : St.code z0 z1 = 0) (p : List Nat) (hz : z2 = St.up p) (hp : St.Pr n p) :
    Calls Tryd.prog 3 #[.slice a0 n c0, .slice a1 n c1, .slice a2 n c2] w fun e w' => e = .returned (.bool true) ∧ Below w.heap.size w w' := by
  have HN := Lib.hid hc
  have hcz := St.code_zero.1 hc
  rw [w0.len] at hcz
  have h6 := hcz.1
  have HL := Lib.hid hcz.2.1
  have HR := Lib.hid hcz.2.2
  clear hc hcz
  have s1 : IntKind.i64.wrap ((n : Int) - 1) = (n : Int) - 1 := by rw [IntKind.wrap_i64]; omega
  have HZ := Lib.hid hz
  have HP := Lib.hid hp
  have HC : Hid (St.rcode n (St.up p) = 0) := St.rcode_zero.2 hp.row
  have HA : Hid (∀ x ∈ z2, 0 ≤ x ∧ x ≤ (n : Int) - 1) := by show ∀ x ∈ z2, _; rw [hz]; exact hp.row.rng
  have HD : Hid z2.Nodup := by show z2.Nodup; rw [hz]; exact hp.row.nodup
  clear hz hp
  have e1 : ((n : Int) != (n : Int)) = false := by simp
  have e2 : (n != n) = false := by simp
  go_enter Tryd.func3, Tryd.ntmps3
  go_wp2_with fail
  refine (RefS2.Orders_any a0 a1 n n c0 c1 z0 z1 _ w0 w1).mono ?_
  rw [HN.out]
  rintro e x1 ⟨rfl, b01⟩
  go_wp2_with fail
  refine (SCheck_any a0 a1 n n c0 c1 z0 z1 _ (w0.past b01) (w1.past b01)).mono ?_
  rw [errOf_zero HN.out]
  rintro e x2 ⟨rfl, b2⟩
  have b02 := b01.trans (b2.mono b01.size)
  go_wp2_with fail
  refine (Err_ok _).mono ?_
  rintro e _ ⟨rfl, rfl⟩
  go_wp2_with fail
  refine (RefS2.Stables_any n h6 a0 a1 c0 c1 z0 z1 n [] none 0 0 _ (by omega) (w0.past b02) (w1.past b02) (Rd.nil _ _)).mono ?_
  rintro e x3 ⟨v3, rfl, hsee, b3⟩
  have b03 := b02.trans (b3.mono b02.size)
  go_wp2_with fail
  refine (Pairs_rd n a0 a1 c0 c1 z0 z1 _ (w0.past b03) (w1.past b03) HN.out).mono ?_
  rintro e x4 ⟨A4, c4, g, rfl, hopt, hr4, b4⟩
  have b04 := b03.trans (b4.mono b03.size)
  have hsee4 := hsee.past b4
  rw [St.stbs_opt HL.out HR.out hopt] at hsee4
  obtain ⟨A3, c3, rfl, hr3⟩ := hsee4
  have hgl : g.length = n := hopt.1.1
  rw [hgl] at hr3 ⊢
  clear hopt hgl hsee b01 b2 b02 b3 b03 b4
  go_wp2_with fail
  refine (Err_ok _).mono ?_
  rintro e _ ⟨rfl, rfl⟩
  go_wp2_with fail
  refine (Ints_t A4 A3 n n c4 c3 (St.up g) (St.up g) true _ hr4 hr3 (by simp)).mono ?_
  rintro e x6 ⟨rfl, b6⟩
  have b06 := b04.trans (b6.mono b04.size)
  have hl6 := w0.past b06
  have hm6 := w1.past b06
  have hh6 := w2.past b06
  have ht6 := het.below b06
  clear hr3 hr4 b04 b6 w0 w1 w2 het
  go_wp2_with fail
  refine (All_in a2 n c2 z2 0 ((n : Int) - 1) _ hh6 HA.out).mono ?_
  rintro e x7 ⟨rfl, rfl⟩
  go_wp2_with fail
  refine (Twice_no a2 n c2 z2 _ hh6 HD.out).mono ?_
  rintro e x8 ⟨rfl, b7⟩
  have hl7 := hl6.past b7
  have hm7 := hm6.past b7
  have hh7 := hh6.past b7
  rw [HZ.out] at hh7
  have b07 := b06.trans (b7.mono b06.size)
  clear hl6 hm6 hh6 b06 b7 ht6
  go_wp2_with fail
  refine (Is_ok n a0 a1 a2 c0 c1 c2 z0 z1 p _ hl7 hm7 hh7 HN.out HC.out HP.out).mono ?_
  rintro e x9 ⟨rfl, b8⟩
  have b08 := b07.trans (b8.mono b07.size)
  have hl8 := hl7.past b8
  have hm8 := hm7.past b8
  have hh8 := hh7.past b8
  clear hl7 hm7 hh7 b07 b8
  obtain ⟨t, ht⟩ : ∃ t, St.stb n z0 z1 (St.up p) = t := ⟨_, rfl⟩
  have HT := Lib.hid ht
  rw [ht]
  clear ht
  have et : (t == t) = true := by simp
  go_wp2_with fail
  refine (Err_ok _).mono ?_
  rintro e _ ⟨rfl, rfl⟩
  go_wp2_with fail
  refine (RefS2.Stable_any n a0 a1 a2 c0 c1 c2 z0 z1 (St.up p) _ hl8 hm8 hh8).mono ?_
  rw [HT.out]
  rintro e x10 ⟨rfl, b9⟩
  go_wp2
  go_ret
  exact ⟨by simp, b08.trans (b9.mono b08.size)⟩

theorem walk (w : World) (het : tld.EtIs w) (a0 : Option Addr) (n0 c0 : Nat) (z0 : List (List Int)) (w0 : RdR w w.heap.size a0 n0 c0 z0) (a1 : Option Addr) (n1 c1 : Nat) (z1 : List (List Int)) (w1 : RdR w w.heap.size a1 n1 c1 z1) (a2 : Option Addr) (n2 c2 : Nat) (z2 : List Int) (w2 : Rd w w.heap.size a2 n2 c2 z2) :
    Calls Tryd.prog 3 #[.slice a0 n0 c0, .slice a1 n1 c1, .slice a2 n2 c2] w fun e w' => e = .returned (.bool true) ∧ Below w.heap.size w w' := by
  by_cases hc : St.code z0 z1 = 0
  · have e := St.code_len hc
    rw [w0.len, w1.len] at e
    subst e
    by_cases h2 : n2 = n1
    · subst h2
      by_cases hal : ∀ x ∈ z2, 0 ≤ x ∧ x ≤ (n2 : Int) - 1
      · by_cases hnd : z2.Nodup
        · obtain ⟨p, hz, hp⟩ := St.Row.pr ⟨w2.len, hal, hnd⟩
          exact fine w het n2 a0 c0 z0 w0 a1 c1 z1 w1 a2 c2 z2 w2 hc p hz hp
        · exact clash w het n2 a0 c0 z0 w0 a1 c1 z1 w1 a2 c2 z2 w2 hc hal hnd (by unfold St.rcode; rw [if_neg (by rw [w2.len]; exact fun e => e rfl), if_neg (by rw [St.allB_iff.2 hal]; simp), if_pos hnd])
      · exact range w het n2 a0 c0 z0 w0 a1 c1 z1 w1 a2 c2 z2 w2 hc hal (by unfold St.rcode; rw [if_neg (by rw [w2.len]; exact fun e => e rfl), if_pos (by cases hb : St.allB 0 ((n2 : Int) - 1) z2 with | false => rfl | true => exact absurd (St.allB_iff.1 hb) hal)])
    · exact len w het n1 a0 c0 z0 w0 a1 c1 z1 w1 a2 n2 c2 z2 w2 hc h2 (by unfold St.rcode; rw [if_pos (by rw [w2.len]; exact h2)])
  · exact bad w het a0 n0 c0 z0 w0 a1 n1 c1 z1 w1 a2 n2 c2 z2 w2 _ rfl hc

end Go.Proofs.YthdibdghnfkoeaaDoor.stableSays
