/-
  The walk of the law PruferSays: for every number of points, lines and row it returns true, where the library's variable errors.errorType holds what its initialiser lays.
-/
import Derived.Test.YtnekbgeablhgiaaDoorPruferF
import Derived.Test.YtnekbgeablhgiaaDoorRefPr
import Derived.Test.YtnekbgeablhgiaaDoorRefGr
import Derived.Test.YtnekbgeablhgiaaDoorRefTr
import Derived.Test.YtnekbgeablhgiaaDoorErrS
import Derived.Test.YtnekbgeablhgiaaDoorRefAll
import Derived.Test.YtnekbgeablhgiaaDoorRefAllN
namespace Go.Proofs.YtnekbgeablhgiaaDoor.pruferSays
open Go.RowKit
set_option linter.unusedSimpArgs false
set_option linter.unusedVariables false

theorem Ints_none (w : World) : Calls Tryd.prog 8 #[.slice none 0 0, .slice none 0 0] w fun e w' => e = .returned (.bool true) ∧ Below w.heap.size w w' :=
  Ints_t none none 0 0 0 0 [] [] true w (Rd.nil _ _) (Rd.nil _ _) (by decide)
theorem Lines_none (w : World) : Calls Tryd.prog 12 #[.slice none 0 0, .slice none 0 0] w fun e w' => e = .returned (.bool true) ∧ Below w.heap.size w w' :=
  Lines_any none none 0 0 0 0 [] [] true w (RdP.nil _ _) (RdP.nil _ _) (by decide)

set_option maxRecDepth 100000 in
set_option maxHeartbeats 2000000 in
theorem af (w : World) (het : tld.EtIs w) (a0 : Int) (a1 : Option Addr) (n1 c1 : Nat) (z1 : List Gr.Ln) (w1 : RdP w w.heap.size a1 n1 c1 z1) (a2 : Option Addr) (n2 c2 : Nat) (z2 : List Int) (w2 : Rd w w.heap.size a2 n2 c2 z2) (hc : Tr.tcode a0 z1 ≠ 0) (h6 : 6 < n2) :
    Calls Tryd.prog 3 #[.int .i64 a0, .slice a1 n1 c1, .slice a2 n2 c2] w fun e w' => e = .returned (.bool true) ∧ Below w.heap.size w w' := by
  have hbig2 := w2.big
  obtain ⟨k, hk⟩ : ∃ k, k = Tr.tcode a0 z1 := ⟨_, rfl⟩
  have d1 : (k == 0) = false := by rw [hk]; simpa using hc
  have H := Lib.hid hc
  have HK := Lib.hid hk
  clear hc hk
  have d6 : decide ((6 : Int) < (n2 : Int)) = true := by simp; omega
  go_enter Tryd.func3, Tryd.ntmps3
  go_wp2_with fail
  refine (RefTr.Tree_any a0 a1 n1 c1 z1 _ w1).mono ?_
  rintro e x1 ⟨rfl, b1⟩
  rw [← HK.out]
  go_wp2_with fail
  refine (Write_code a0 a1 n1 c1 z1 _ (w1.past b1) H.out).mono ?_
  rintro e x2 ⟨rfl, b2⟩
  have b02 := b1.trans (b2.mono b1.size)
  rw [← HK.out]
  clear b1 b2
  go_wp2_with fail
  refine (Err_same k _ (het.below b02)).mono ?_
  rintro e x3 ⟨rfl, b3⟩
  have b03 := b02.trans (b3.mono b02.size)
  clear b02 b3
  go_wp2_with fail
  refine (Ints_none _).mono ?_
  rintro e x5 ⟨rfl, b5⟩
  have b05 := b03.trans (b5.mono b03.size)
  clear b03 b5
  go_wp2_with fail
  refine (Read_full a2 n2 c2 z2 _ (w2.past b05) h6).mono ?_
  rintro e x6 ⟨rfl, b6⟩
  have b06 := b05.trans (b6.mono b05.size)
  clear b05 b6
  go_wp2_with fail
  refine (Err_same 4 _ (het.below b06)).mono ?_
  rintro e x7 ⟨rfl, b7⟩
  have b07 := b06.trans (b7.mono b06.size)
  clear b06 b7
  go_wp2_with fail
  refine (Lines_none _).mono ?_
  rintro e x8 ⟨rfl, b8⟩
  go_wp2
  go_ret
  exact ⟨rfl, b07.trans (b8.mono b07.size)⟩

set_option maxRecDepth 100000 in
set_option maxHeartbeats 2000000 in
theorem ar (w : World) (het : tld.EtIs w) (a0 : Int) (a1 : Option Addr) (n1 c1 : Nat) (z1 : List Gr.Ln) (w1 : RdP w w.heap.size a1 n1 c1 z1) (a2 : Option Addr) (n2 c2 : Nat) (z2 : List Int) (w2 : Rd w w.heap.size a2 n2 c2 z2) (hc : Tr.tcode a0 z1 ≠ 0) (h6 : n2 ≤ 6) (hbad : ¬ Pf.okr z2) :
    Calls Tryd.prog 3 #[.int .i64 a0, .slice a1 n1 c1, .slice a2 n2 c2] w fun e w' => e = .returned (.bool true) ∧ Below w.heap.size w w' := by
  have hbig2 := w2.big
  obtain ⟨k, hk⟩ : ∃ k, k = Tr.tcode a0 z1 := ⟨_, rfl⟩
  have d1 : (k == 0) = false := by rw [hk]; simpa using hc
  have H := Lib.hid hc
  have HK := Lib.hid hk
  clear hc hk
  have d6 : decide ((6 : Int) < (n2 : Int)) = false := by simp; omega
  have HNO := Lib.hid hbad
  have hall : Hid (¬ ∀ d ∈ z2, (0 : Int) ≤ d ∧ d ≤ (n2 : Int) + 1) := fun h => hbad (fun x hx => by have := h x hx; have := w2.len; omega)
  clear hbad
  go_enter Tryd.func3, Tryd.ntmps3
  go_wp2_with fail
  refine (RefTr.Tree_any a0 a1 n1 c1 z1 _ w1).mono ?_
  rintro e x1 ⟨rfl, b1⟩
  rw [← HK.out]
  go_wp2_with fail
  refine (Write_code a0 a1 n1 c1 z1 _ (w1.past b1) H.out).mono ?_
  rintro e x2 ⟨rfl, b2⟩
  have b02 := b1.trans (b2.mono b1.size)
  rw [← HK.out]
  clear b1 b2
  go_wp2_with fail
  refine (Err_same k _ (het.below b02)).mono ?_
  rintro e x3 ⟨rfl, b3⟩
  have b03 := b02.trans (b3.mono b02.size)
  clear b02 b3
  go_wp2_with fail
  refine (Ints_none _).mono ?_
  rintro e x5 ⟨rfl, b5⟩
  have b05 := b03.trans (b5.mono b03.size)
  clear b03 b5
  go_wp2_with fail
  refine (All_no a2 n2 c2 z2 0 ((n2 : Int) + 1) _ (w2.past b05) hall.out).mono ?_
  rintro e y1 ⟨rfl, rfl⟩
  go_wp2_with fail
  refine (Read_range a2 n2 c2 z2 _ (w2.past b05) h6 HNO.out).mono ?_
  rintro e x6 ⟨rfl, b6⟩
  have b06 := b05.trans (b6.mono b05.size)
  clear b05 b6
  go_wp2_with fail
  refine (Err_same 1 _ (het.below b06)).mono ?_
  rintro e x7 ⟨rfl, b7⟩
  have b07 := b06.trans (b7.mono b06.size)
  clear b06 b7
  go_wp2_with fail
  refine (Lines_none _).mono ?_
  rintro e x8 ⟨rfl, b8⟩
  go_wp2
  go_ret
  exact ⟨rfl, b07.trans (b8.mono b07.size)⟩

set_option maxRecDepth 100000 in
set_option maxHeartbeats 2000000 in
theorem ag (w : World) (het : tld.EtIs w) (a0 : Int) (a1 : Option Addr) (n1 c1 : Nat) (z1 : List Gr.Ln) (w1 : RdP w w.heap.size a1 n1 c1 z1) (a2 : Option Addr) (n2 c2 : Nat) (z2 : List Int) (w2 : Rd w w.heap.size a2 n2 c2 z2) (hc : Tr.tcode a0 z1 ≠ 0) (h6 : n2 ≤ 6) (hok : Pf.okr z2) :
    Calls Tryd.prog 3 #[.int .i64 a0, .slice a1 n1 c1, .slice a2 n2 c2] w fun e w' => e = .returned (.bool true) ∧ Below w.heap.size w w' := by
  have hbig2 := w2.big
  obtain ⟨k, hk⟩ : ∃ k, k = Tr.tcode a0 z1 := ⟨_, rfl⟩
  have d1 : (k == 0) = false := by rw [hk]; simpa using hc
  have H := Lib.hid hc
  have HK := Lib.hid hk
  clear hc hk
  have d6 : decide ((6 : Int) < (n2 : Int)) = false := by simp; omega
  have HOK := Lib.hid hok
  have hall : Hid (∀ d ∈ z2, (0 : Int) ≤ d ∧ d ≤ (n2 : Int) + 1) := fun x hx => by have := hok x hx; have := w2.len; omega
  have hrc : Hid (Pf.rcode z2 = 0) := Pf.rcode_zero.2 ⟨by have := w2.len; omega, hok⟩
  have hll : Hid ((Pf.rdL (Pf.nrow z2)).length = n2 + 1) := by
    show _ = _
    rw [Pf.rd_len (Pf.nrow_lt hok), Pf.nrow_len, w2.len]
  clear hok
  go_enter Tryd.func3, Tryd.ntmps3
  go_wp2_with fail
  refine (RefTr.Tree_any a0 a1 n1 c1 z1 _ w1).mono ?_
  rintro e x1 ⟨rfl, b1⟩
  rw [← HK.out]
  go_wp2_with fail
  refine (Write_code a0 a1 n1 c1 z1 _ (w1.past b1) H.out).mono ?_
  rintro e x2 ⟨rfl, b2⟩
  have b02 := b1.trans (b2.mono b1.size)
  rw [← HK.out]
  clear b1 b2
  go_wp2_with fail
  refine (Err_same k _ (het.below b02)).mono ?_
  rintro e x3 ⟨rfl, b3⟩
  have b03 := b02.trans (b3.mono b02.size)
  clear b02 b3
  go_wp2_with fail
  refine (Ints_none _).mono ?_
  rintro e x5 ⟨rfl, b5⟩
  have b05 := b03.trans (b5.mono b03.size)
  clear b03 b5
  go_wp2_with fail
  refine (All_in a2 n2 c2 z2 0 ((n2 : Int) + 1) _ (w2.past b05) hall.out).mono ?_
  rintro e y1 ⟨rfl, rfl⟩
  go_wp2_with fail
  refine (RefGr.Grown_any a2 n2 c2 z2 _ (w2.past b05) h6 HOK.out).mono ?_
  rintro e x6 ⟨v6, rfl, hown6, b6⟩
  have b06 := b05.trans (b6.mono b05.size)
  obtain ⟨A6, d6', rfl, hrd6⟩ := hown6.rd
  rw [hll.out] at hrd6 ⊢
  clear b05 b6 hown6
  go_wp2_with fail
  refine (Read_yes a2 n2 c2 z2 _ (w2.past b06) hrc.out).mono ?_
  rintro e x7 ⟨A7, d7, rfl, hrd7, b7⟩
  have b07 := b06.trans (b7.mono b06.size)
  have hrd67 := hrd6.past b7
  clear b06 b7 hrd6
  go_wp2_with fail
  refine (Err_none _).mono ?_
  rintro e y2 ⟨rfl, rfl⟩
  go_wp2_with fail
  refine (Lines_any A7 A6 (n2 + 1) (n2 + 1) d7 d6' _ _ true _ hrd7 hrd67 (by simp)).mono ?_
  rintro e x8 ⟨rfl, b8⟩
  go_wp2
  go_ret
  exact ⟨rfl, b07.trans (b8.mono b07.size)⟩

set_option maxRecDepth 100000 in
set_option maxHeartbeats 2000000 in
theorem bf (w : World) (het : tld.EtIs w) (a1 : Option Addr) (n1 c1 : Nat) (z1 : List Gr.Ln) (w1 : RdP w w.heap.size a1 n1 c1 z1) (a2 : Option Addr) (n2 c2 : Nat) (z2 : List Int) (w2 : Rd w w.heap.size a2 n2 c2 z2) (hc : Tr.tcode 1 z1 = 0) (h6 : 6 < n2) :
    Calls Tryd.prog 3 #[.int .i64 1, .slice a1 n1 c1, .slice a2 n2 c2] w fun e w' => e = .returned (.bool true) ∧ Below w.heap.size w w' := by
  have hbig2 := w2.big
  have H := Lib.hid hc
  clear hc
  have d6 : decide ((6 : Int) < (n2 : Int)) = true := by simp; omega
  go_enter Tryd.func3, Tryd.ntmps3
  go_wp2_with fail
  refine (RefTr.Tree_any 1 a1 n1 c1 z1 _ w1).mono ?_
  rintro e x1 ⟨rfl, b1⟩
  rw [H.out]
  go_wp2_with fail
  refine (Write_one a1 n1 c1 z1 _ (w1.past b1) H.out).mono ?_
  rintro e x2 ⟨rfl, b2⟩
  have b02 := b1.trans (b2.mono b1.size)
  clear b1 b2
  go_wp2_with fail
  refine (Err_same 5 _ (het.below b02)).mono ?_
  rintro e x3 ⟨rfl, b3⟩
  have b03 := b02.trans (b3.mono b02.size)
  clear b02 b3
  go_wp2_with fail
  refine (Ints_none _).mono ?_
  rintro e x5 ⟨rfl, b5⟩
  have b05 := b03.trans (b5.mono b03.size)
  clear b03 b5
  go_wp2_with fail
  refine (Read_full a2 n2 c2 z2 _ (w2.past b05) h6).mono ?_
  rintro e x6 ⟨rfl, b6⟩
  have b06 := b05.trans (b6.mono b05.size)
  clear b05 b6
  go_wp2_with fail
  refine (Err_same 4 _ (het.below b06)).mono ?_
  rintro e x7 ⟨rfl, b7⟩
  have b07 := b06.trans (b7.mono b06.size)
  clear b06 b7
  go_wp2_with fail
  refine (Lines_none _).mono ?_
  rintro e x8 ⟨rfl, b8⟩
  go_wp2
  go_ret
  exact ⟨rfl, b07.trans (b8.mono b07.size)⟩

set_option maxRecDepth 100000 in
set_option maxHeartbeats 2000000 in
theorem br (w : World) (het : tld.EtIs w) (a1 : Option Addr) (n1 c1 : Nat) (z1 : List Gr.Ln) (w1 : RdP w w.heap.size a1 n1 c1 z1) (a2 : Option Addr) (n2 c2 : Nat) (z2 : List Int) (w2 : Rd w w.heap.size a2 n2 c2 z2) (hc : Tr.tcode 1 z1 = 0) (h6 : n2 ≤ 6) (hbad : ¬ Pf.okr z2) :
    Calls Tryd.prog 3 #[.int .i64 1, .slice a1 n1 c1, .slice a2 n2 c2] w fun e w' => e = .returned (.bool true) ∧ Below w.heap.size w w' := by
  have hbig2 := w2.big
  have H := Lib.hid hc
  clear hc
  have d6 : decide ((6 : Int) < (n2 : Int)) = false := by simp; omega
  have HNO := Lib.hid hbad
  have hall : Hid (¬ ∀ d ∈ z2, (0 : Int) ≤ d ∧ d ≤ (n2 : Int) + 1) := fun h => hbad (fun x hx => by have := h x hx; have := w2.len; omega)
  clear hbad
  go_enter Tryd.func3, Tryd.ntmps3
  go_wp2_with fail
  refine (RefTr.Tree_any 1 a1 n1 c1 z1 _ w1).mono ?_
  rintro e x1 ⟨rfl, b1⟩
  rw [H.out]
  go_wp2_with fail
  refine (Write_one a1 n1 c1 z1 _ (w1.past b1) H.out).mono ?_
  rintro e x2 ⟨rfl, b2⟩
  have b02 := b1.trans (b2.mono b1.size)
  clear b1 b2
  go_wp2_with fail
  refine (Err_same 5 _ (het.below b02)).mono ?_
  rintro e x3 ⟨rfl, b3⟩
  have b03 := b02.trans (b3.mono b02.size)
  clear b02 b3
  go_wp2_with fail
  refine (Ints_none _).mono ?_
  rintro e x5 ⟨rfl, b5⟩
  have b05 := b03.trans (b5.mono b03.size)
  clear b03 b5
  go_wp2_with fail
  refine (All_no a2 n2 c2 z2 0 ((n2 : Int) + 1) _ (w2.past b05) hall.out).mono ?_
  rintro e y1 ⟨rfl, rfl⟩
  go_wp2_with fail
  refine (Read_range a2 n2 c2 z2 _ (w2.past b05) h6 HNO.out).mono ?_
  rintro e x6 ⟨rfl, b6⟩
  have b06 := b05.trans (b6.mono b05.size)
  clear b05 b6
  go_wp2_with fail
  refine (Err_same 1 _ (het.below b06)).mono ?_
  rintro e x7 ⟨rfl, b7⟩
  have b07 := b06.trans (b7.mono b06.size)
  clear b06 b7
  go_wp2_with fail
  refine (Lines_none _).mono ?_
  rintro e x8 ⟨rfl, b8⟩
  go_wp2
  go_ret
  exact ⟨rfl, b07.trans (b8.mono b07.size)⟩

set_option maxRecDepth 100000 in
set_option maxHeartbeats 2000000 in
theorem bg (w : World) (het : tld.EtIs w) (a1 : Option Addr) (n1 c1 : Nat) (z1 : List Gr.Ln) (w1 : RdP w w.heap.size a1 n1 c1 z1) (a2 : Option Addr) (n2 c2 : Nat) (z2 : List Int) (w2 : Rd w w.heap.size a2 n2 c2 z2) (hc : Tr.tcode 1 z1 = 0) (h6 : n2 ≤ 6) (hok : Pf.okr z2) :
    Calls Tryd.prog 3 #[.int .i64 1, .slice a1 n1 c1, .slice a2 n2 c2] w fun e w' => e = .returned (.bool true) ∧ Below w.heap.size w w' := by
  have hbig2 := w2.big
  have H := Lib.hid hc
  clear hc
  have d6 : decide ((6 : Int) < (n2 : Int)) = false := by simp; omega
  have HOK := Lib.hid hok
  have hall : Hid (∀ d ∈ z2, (0 : Int) ≤ d ∧ d ≤ (n2 : Int) + 1) := fun x hx => by have := hok x hx; have := w2.len; omega
  have hrc : Hid (Pf.rcode z2 = 0) := Pf.rcode_zero.2 ⟨by have := w2.len; omega, hok⟩
  have hll : Hid ((Pf.rdL (Pf.nrow z2)).length = n2 + 1) := by
    show _ = _
    rw [Pf.rd_len (Pf.nrow_lt hok), Pf.nrow_len, w2.len]
  clear hok
  go_enter Tryd.func3, Tryd.ntmps3
  go_wp2_with fail
  refine (RefTr.Tree_any 1 a1 n1 c1 z1 _ w1).mono ?_
  rintro e x1 ⟨rfl, b1⟩
  rw [H.out]
  go_wp2_with fail
  refine (Write_one a1 n1 c1 z1 _ (w1.past b1) H.out).mono ?_
  rintro e x2 ⟨rfl, b2⟩
  have b02 := b1.trans (b2.mono b1.size)
  clear b1 b2
  go_wp2_with fail
  refine (Err_same 5 _ (het.below b02)).mono ?_
  rintro e x3 ⟨rfl, b3⟩
  have b03 := b02.trans (b3.mono b02.size)
  clear b02 b3
  go_wp2_with fail
  refine (Ints_none _).mono ?_
  rintro e x5 ⟨rfl, b5⟩
  have b05 := b03.trans (b5.mono b03.size)
  clear b03 b5
  go_wp2_with fail
  refine (All_in a2 n2 c2 z2 0 ((n2 : Int) + 1) _ (w2.past b05) hall.out).mono ?_
  rintro e y1 ⟨rfl, rfl⟩
  go_wp2_with fail
  refine (RefGr.Grown_any a2 n2 c2 z2 _ (w2.past b05) h6 HOK.out).mono ?_
  rintro e x6 ⟨v6, rfl, hown6, b6⟩
  have b06 := b05.trans (b6.mono b05.size)
  obtain ⟨A6, d6', rfl, hrd6⟩ := hown6.rd
  rw [hll.out] at hrd6 ⊢
  clear b05 b6 hown6
  go_wp2_with fail
  refine (Read_yes a2 n2 c2 z2 _ (w2.past b06) hrc.out).mono ?_
  rintro e x7 ⟨A7, d7, rfl, hrd7, b7⟩
  have b07 := b06.trans (b7.mono b06.size)
  have hrd67 := hrd6.past b7
  clear b06 b7 hrd6
  go_wp2_with fail
  refine (Err_none _).mono ?_
  rintro e y2 ⟨rfl, rfl⟩
  go_wp2_with fail
  refine (Lines_any A7 A6 (n2 + 1) (n2 + 1) d7 d6' _ _ true _ hrd7 hrd67 (by simp)).mono ?_
  rintro e x8 ⟨rfl, b8⟩
  go_wp2
  go_ret
  exact ⟨rfl, b07.trans (b8.mono b07.size)⟩

set_option maxRecDepth 100000 in
set_option maxHeartbeats 2000000 in
theorem cf (w : World) (het : tld.EtIs w) (m : Nat) (a1 : Option Addr) (n1 c1 : Nat) (z1 : List Gr.Ln) (w1 : RdP w w.heap.size a1 n1 c1 z1) (a2 : Option Addr) (n2 c2 : Nat) (z2 : List Int) (w2 : Rd w w.heap.size a2 n2 c2 z2) (hc : Tr.tcode (m : Int) z1 = 0) (hm2 : 2 ≤ m) (h6 : 6 < n2) :
    Calls Tryd.prog 3 #[.int .i64 (m : Int), .slice a1 n1 c1, .slice a2 n2 c2] w fun e w' => e = .returned (.bool true) ∧ Below w.heap.size w w' := by
  have hbig2 := w2.big
  obtain ⟨hg, hT⟩ := Tr.tcode_zero.1 hc
  have hm8 : m ≤ 8 := by have := (Gr.code_zero.1 hg).2.1; omega
  have hne1 : ((m : Int) == 1) = false := by simp; omega
  have hwl : (upN (Pf.wr m z1)).length = m - 2 := by rw [upN_len, Pf.wr_len]
  obtain ⟨r, hre⟩ : ∃ r, r = m - 2 := ⟨_, rfl⟩
  rw [← hre] at hwl
  obtain ⟨xs, hxs⟩ : ∃ xs, xs = upN (Pf.wr m z1) := ⟨_, rfl⟩
  rw [← hxs] at hwl
  have H := Lib.hid hc
  have HR := Lib.hid hre
  have HXS := Lib.hid hxs
  have HWL := Lib.hid hwl
  clear hc hg hT hre hxs hwl
  have d6 : decide ((6 : Int) < (n2 : Int)) = true := by simp; omega
  go_enter Tryd.func3, Tryd.ntmps3
  go_wp2_with fail
  refine (RefTr.Tree_any (m : Int) a1 n1 c1 z1 _ w1).mono ?_
  rintro e x1 ⟨rfl, b1⟩
  rw [H.out]
  go_wp2_with fail
  refine (RefPr.Prufer_any m a1 n1 c1 z1 _ (w1.past b1) H.out hm2).mono ?_
  rintro e x2 ⟨v2, rfl, hown2, b2⟩
  have b02 := b1.trans (b2.mono b1.size)
  rw [← HXS.out] at hown2
  obtain ⟨A2, d2, rfl, hrd2⟩ := hown2.rd
  rw [HWL.out] at hrd2 ⊢
  clear b1 b2 hown2
  go_wp2_with fail
  refine (Write_yes m a1 n1 c1 z1 _ (w1.past b02) H.out hm2).mono ?_
  rintro e x3 ⟨A3, d3, rfl, hrd3, b3⟩
  rw [← HXS.out, ← HR.out] at hrd3
  rw [← HR.out]
  have b03 := b02.trans (b3.mono b02.size)
  have hrd23 := hrd2.past b3
  clear b02 b3 hrd2
  go_wp2_with fail
  refine (Err_none _).mono ?_
  rintro e x4 ⟨rfl, rfl⟩
  go_wp2_with fail
  refine (Ints_t A3 A2 r r d3 d2 xs xs true _ hrd3 hrd23 (by simp)).mono ?_
  rintro e x5 ⟨rfl, b5⟩
  have b05 := b03.trans (b5.mono b03.size)
  clear b03 b5 hrd3 hrd23
  go_wp2_with fail
  refine (Read_full a2 n2 c2 z2 _ (w2.past b05) h6).mono ?_
  rintro e x6 ⟨rfl, b6⟩
  have b06 := b05.trans (b6.mono b05.size)
  clear b05 b6
  go_wp2_with fail
  refine (Err_same 4 _ (het.below b06)).mono ?_
  rintro e x7 ⟨rfl, b7⟩
  have b07 := b06.trans (b7.mono b06.size)
  clear b06 b7
  go_wp2_with fail
  refine (Lines_none _).mono ?_
  rintro e x8 ⟨rfl, b8⟩
  go_wp2
  go_ret
  exact ⟨rfl, b07.trans (b8.mono b07.size)⟩

set_option maxRecDepth 100000 in
set_option maxHeartbeats 2000000 in
theorem cr (w : World) (het : tld.EtIs w) (m : Nat) (a1 : Option Addr) (n1 c1 : Nat) (z1 : List Gr.Ln) (w1 : RdP w w.heap.size a1 n1 c1 z1) (a2 : Option Addr) (n2 c2 : Nat) (z2 : List Int) (w2 : Rd w w.heap.size a2 n2 c2 z2) (hc : Tr.tcode (m : Int) z1 = 0) (hm2 : 2 ≤ m) (h6 : n2 ≤ 6) (hbad : ¬ Pf.okr z2) :
    Calls Tryd.prog 3 #[.int .i64 (m : Int), .slice a1 n1 c1, .slice a2 n2 c2] w fun e w' => e = .returned (.bool true) ∧ Below w.heap.size w w' := by
  have hbig2 := w2.big
  obtain ⟨hg, hT⟩ := Tr.tcode_zero.1 hc
  have hm8 : m ≤ 8 := by have := (Gr.code_zero.1 hg).2.1; omega
  have hne1 : ((m : Int) == 1) = false := by simp; omega
  have hwl : (upN (Pf.wr m z1)).length = m - 2 := by rw [upN_len, Pf.wr_len]
  obtain ⟨r, hre⟩ : ∃ r, r = m - 2 := ⟨_, rfl⟩
  rw [← hre] at hwl
  obtain ⟨xs, hxs⟩ : ∃ xs, xs = upN (Pf.wr m z1) := ⟨_, rfl⟩
  rw [← hxs] at hwl
  have H := Lib.hid hc
  have HR := Lib.hid hre
  have HXS := Lib.hid hxs
  have HWL := Lib.hid hwl
  clear hc hg hT hre hxs hwl
  have d6 : decide ((6 : Int) < (n2 : Int)) = false := by simp; omega
  have HNO := Lib.hid hbad
  have hall : Hid (¬ ∀ d ∈ z2, (0 : Int) ≤ d ∧ d ≤ (n2 : Int) + 1) := fun h => hbad (fun x hx => by have := h x hx; have := w2.len; omega)
  clear hbad
  go_enter Tryd.func3, Tryd.ntmps3
  go_wp2_with fail
  refine (RefTr.Tree_any (m : Int) a1 n1 c1 z1 _ w1).mono ?_
  rintro e x1 ⟨rfl, b1⟩
  rw [H.out]
  go_wp2_with fail
  refine (RefPr.Prufer_any m a1 n1 c1 z1 _ (w1.past b1) H.out hm2).mono ?_
  rintro e x2 ⟨v2, rfl, hown2, b2⟩
  have b02 := b1.trans (b2.mono b1.size)
  rw [← HXS.out] at hown2
  obtain ⟨A2, d2, rfl, hrd2⟩ := hown2.rd
  rw [HWL.out] at hrd2 ⊢
  clear b1 b2 hown2
  go_wp2_with fail
  refine (Write_yes m a1 n1 c1 z1 _ (w1.past b02) H.out hm2).mono ?_
  rintro e x3 ⟨A3, d3, rfl, hrd3, b3⟩
  rw [← HXS.out, ← HR.out] at hrd3
  rw [← HR.out]
  have b03 := b02.trans (b3.mono b02.size)
  have hrd23 := hrd2.past b3
  clear b02 b3 hrd2
  go_wp2_with fail
  refine (Err_none _).mono ?_
  rintro e x4 ⟨rfl, rfl⟩
  go_wp2_with fail
  refine (Ints_t A3 A2 r r d3 d2 xs xs true _ hrd3 hrd23 (by simp)).mono ?_
  rintro e x5 ⟨rfl, b5⟩
  have b05 := b03.trans (b5.mono b03.size)
  clear b03 b5 hrd3 hrd23
  go_wp2_with fail
  refine (All_no a2 n2 c2 z2 0 ((n2 : Int) + 1) _ (w2.past b05) hall.out).mono ?_
  rintro e y1 ⟨rfl, rfl⟩
  go_wp2_with fail
  refine (Read_range a2 n2 c2 z2 _ (w2.past b05) h6 HNO.out).mono ?_
  rintro e x6 ⟨rfl, b6⟩
  have b06 := b05.trans (b6.mono b05.size)
  clear b05 b6
  go_wp2_with fail
  refine (Err_same 1 _ (het.below b06)).mono ?_
  rintro e x7 ⟨rfl, b7⟩
  have b07 := b06.trans (b7.mono b06.size)
  clear b06 b7
  go_wp2_with fail
  refine (Lines_none _).mono ?_
  rintro e x8 ⟨rfl, b8⟩
  go_wp2
  go_ret
  exact ⟨rfl, b07.trans (b8.mono b07.size)⟩

set_option maxRecDepth 100000 in
set_option maxHeartbeats 2000000 in
theorem cg (w : World) (het : tld.EtIs w) (m : Nat) (a1 : Option Addr) (n1 c1 : Nat) (z1 : List Gr.Ln) (w1 : RdP w w.heap.size a1 n1 c1 z1) (a2 : Option Addr) (n2 c2 : Nat) (z2 : List Int) (w2 : Rd w w.heap.size a2 n2 c2 z2) (hc : Tr.tcode (m : Int) z1 = 0) (hm2 : 2 ≤ m) (h6 : n2 ≤ 6) (hok : Pf.okr z2) :
    Calls Tryd.prog 3 #[.int .i64 (m : Int), .slice a1 n1 c1, .slice a2 n2 c2] w fun e w' => e = .returned (.bool true) ∧ Below w.heap.size w w' := by
  have hbig2 := w2.big
  obtain ⟨hg, hT⟩ := Tr.tcode_zero.1 hc
  have hm8 : m ≤ 8 := by have := (Gr.code_zero.1 hg).2.1; omega
  have hne1 : ((m : Int) == 1) = false := by simp; omega
  have hwl : (upN (Pf.wr m z1)).length = m - 2 := by rw [upN_len, Pf.wr_len]
  obtain ⟨r, hre⟩ : ∃ r, r = m - 2 := ⟨_, rfl⟩
  rw [← hre] at hwl
  obtain ⟨xs, hxs⟩ : ∃ xs, xs = upN (Pf.wr m z1) := ⟨_, rfl⟩
  rw [← hxs] at hwl
  have H := Lib.hid hc
  have HR := Lib.hid hre
  have HXS := Lib.hid hxs
  have HWL := Lib.hid hwl
  clear hc hg hT hre hxs hwl
  have d6 : decide ((6 : Int) < (n2 : Int)) = false := by simp; omega
  have HOK := Lib.hid hok
  have hall : Hid (∀ d ∈ z2, (0 : Int) ≤ d ∧ d ≤ (n2 : Int) + 1) := fun x hx => by have := hok x hx; have := w2.len; omega
  have hrc : Hid (Pf.rcode z2 = 0) := Pf.rcode_zero.2 ⟨by have := w2.len; omega, hok⟩
  have hll : Hid ((Pf.rdL (Pf.nrow z2)).length = n2 + 1) := by
    show _ = _
    rw [Pf.rd_len (Pf.nrow_lt hok), Pf.nrow_len, w2.len]
  clear hok
  go_enter Tryd.func3, Tryd.ntmps3
  go_wp2_with fail
  refine (RefTr.Tree_any (m : Int) a1 n1 c1 z1 _ w1).mono ?_
  rintro e x1 ⟨rfl, b1⟩
  rw [H.out]
  go_wp2_with fail
  refine (RefPr.Prufer_any m a1 n1 c1 z1 _ (w1.past b1) H.out hm2).mono ?_
  rintro e x2 ⟨v2, rfl, hown2, b2⟩
  have b02 := b1.trans (b2.mono b1.size)
  rw [← HXS.out] at hown2
  obtain ⟨A2, d2, rfl, hrd2⟩ := hown2.rd
  rw [HWL.out] at hrd2 ⊢
  clear b1 b2 hown2
  go_wp2_with fail
  refine (Write_yes m a1 n1 c1 z1 _ (w1.past b02) H.out hm2).mono ?_
  rintro e x3 ⟨A3, d3, rfl, hrd3, b3⟩
  rw [← HXS.out, ← HR.out] at hrd3
  rw [← HR.out]
  have b03 := b02.trans (b3.mono b02.size)
  have hrd23 := hrd2.past b3
  clear b02 b3 hrd2
  go_wp2_with fail
  refine (Err_none _).mono ?_
  rintro e x4 ⟨rfl, rfl⟩
  go_wp2_with fail
  refine (Ints_t A3 A2 r r d3 d2 xs xs true _ hrd3 hrd23 (by simp)).mono ?_
  rintro e x5 ⟨rfl, b5⟩
  have b05 := b03.trans (b5.mono b03.size)
  clear b03 b5 hrd3 hrd23
  go_wp2_with fail
  refine (All_in a2 n2 c2 z2 0 ((n2 : Int) + 1) _ (w2.past b05) hall.out).mono ?_
  rintro e y1 ⟨rfl, rfl⟩
  go_wp2_with fail
  refine (RefGr.Grown_any a2 n2 c2 z2 _ (w2.past b05) h6 HOK.out).mono ?_
  rintro e x6 ⟨v6, rfl, hown6, b6⟩
  have b06 := b05.trans (b6.mono b05.size)
  obtain ⟨A6, d6', rfl, hrd6⟩ := hown6.rd
  rw [hll.out] at hrd6 ⊢
  clear b05 b6 hown6
  go_wp2_with fail
  refine (Read_yes a2 n2 c2 z2 _ (w2.past b06) hrc.out).mono ?_
  rintro e x7 ⟨A7, d7, rfl, hrd7, b7⟩
  have b07 := b06.trans (b7.mono b06.size)
  have hrd67 := hrd6.past b7
  clear b06 b7 hrd6
  go_wp2_with fail
  refine (Err_none _).mono ?_
  rintro e y2 ⟨rfl, rfl⟩
  go_wp2_with fail
  refine (Lines_any A7 A6 (n2 + 1) (n2 + 1) d7 d6' _ _ true _ hrd7 hrd67 (by simp)).mono ?_
  rintro e x8 ⟨rfl, b8⟩
  go_wp2
  go_ret
  exact ⟨rfl, b07.trans (b8.mono b07.size)⟩

theorem walk (w : World) (het : tld.EtIs w) (a0 : Int) (w0 : (Lit.int .i64 a0).wf = true) (a1 : Option Addr) (n1 c1 : Nat) (z1 : List Gr.Ln) (w1 : RdP w w.heap.size a1 n1 c1 z1) (a2 : Option Addr) (n2 c2 : Nat) (z2 : List Int) (w2 : Rd w w.heap.size a2 n2 c2 z2) :
    Calls Tryd.prog 3 #[.int .i64 a0, .slice a1 n1 c1, .slice a2 n2 c2] w fun e w' => e = .returned (.bool true) ∧ Below w.heap.size w w' := by
  by_cases h6 : 6 < n2
  · by_cases h : Tr.tcode a0 z1 = 0
    · by_cases h1 : a0 = 1
      · subst h1
        exact bf w het a1 n1 c1 z1 w1 a2 n2 c2 z2 w2 h h6
      · obtain ⟨m, rfl, h2, _, ht, _⟩ := Pf.wcode_tree (Pf.wcode_zero.2 ⟨h, h1⟩)
        exact cf w het m a1 n1 c1 z1 w1 a2 n2 c2 z2 w2 ht h2 h6
    · exact af w het a0 a1 n1 c1 z1 w1 a2 n2 c2 z2 w2 h h6
  · by_cases hok : Pf.okr z2
    · by_cases h : Tr.tcode a0 z1 = 0
      · by_cases h1 : a0 = 1
        · subst h1
          exact bg w het a1 n1 c1 z1 w1 a2 n2 c2 z2 w2 h (by omega) hok
        · obtain ⟨m, rfl, h2, _, ht, _⟩ := Pf.wcode_tree (Pf.wcode_zero.2 ⟨h, h1⟩)
          exact cg w het m a1 n1 c1 z1 w1 a2 n2 c2 z2 w2 ht h2 (by omega) hok
      · exact ag w het a0 a1 n1 c1 z1 w1 a2 n2 c2 z2 w2 h (by omega) hok
    · by_cases h : Tr.tcode a0 z1 = 0
      · by_cases h1 : a0 = 1
        · subst h1
          exact br w het a1 n1 c1 z1 w1 a2 n2 c2 z2 w2 h (by omega) hok
        · obtain ⟨m, rfl, h2, _, ht, _⟩ := Pf.wcode_tree (Pf.wcode_zero.2 ⟨h, h1⟩)
          exact cr w het m a1 n1 c1 z1 w1 a2 n2 c2 z2 w2 ht h2 (by omega) hok
      · exact ar w het a0 a1 n1 c1 z1 w1 a2 n2 c2 z2 w2 h (by omega) hok

end Go.Proofs.YtnekbgeablhgiaaDoor.pruferSays
