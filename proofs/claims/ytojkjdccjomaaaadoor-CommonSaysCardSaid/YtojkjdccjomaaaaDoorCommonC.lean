/-
  The contracts of Of and Way of package common: whom two hang on in common; the way between two; or what is wrong. No statement of the program is proved here; there is no condition.
-/
import Derived.Test.YtojkjdccjomaaaaDoorCommonB
import Derived.Test.YtojkjdccjomaaaaDoorIdxI
namespace Go.Proofs.YtojkjdccjomaaaaDoor
open Go.RowKit
set_option linter.unusedSimpArgs false
set_option linter.unusedVariables false

/-! ### Way -/
set_option maxHeartbeats 400000 in
theorem Way_ups (n a b : Int) (A : Option Addr) (k c : Nat) (ls : List Gr.Ln) (w : World) (hr : RdP w w.heap.size A k c ls) (h : Co.ccode n ls b ≠ 0) :
    Calls Tryd.prog 12 #[.int .i64 n, .slice A k c, .int .i64 a, .int .i64 b] w fun e w' => e = .returned (.tuple #[.slice none 0 0, errv (Co.ccode n ls b)]) ∧ Below w.heap.size w w' := by
  have H := Lib.hid h
  clear h
  go_enter Tryd.func12, Tryd.ntmps12
  go_wp2_with fail
  refine (Ups_bad n b A k c ls _ hr H.out).mono ?_
  rintro e w1 ⟨rfl, hb⟩
  go_wp2
  go_ret2
  exact ⟨rfl, hb⟩

set_option maxHeartbeats 400000 in
theorem Way_range (m b : Nat) (a : Int) (A : Option Addr) (k c : Nat) (ls : List Gr.Ln) (w : World) (hr : RdP w w.heap.size A k c ls) (h : Tr.tcode (m : Int) ls = 0) (hb : b < m) (ha : a < 0 ∨ (m : Int) ≤ a) :
    Calls Tryd.prog 12 #[.int .i64 (m : Int), .slice A k c, .int .i64 a, .int .i64 (b : Int)] w fun e w' => e = .returned (.tuple #[.slice none 0 0, errv 1]) ∧ Below w.heap.size w w' := by
  have H := Lib.hid h
  have HA := Lib.hid ha
  clear h ha
  go_enter Tryd.func12, Tryd.ntmps12
  go_wp2_with fail
  refine (Ups_ok m b A k c ls _ hr H.out hb).mono ?_
  rintro e w1 ⟨g, rfl, hown, hb1⟩
  go_wp2_with fail
  refine (cIsV_no _ _ _ HA.out).mono ?_
  rintro e w2 ⟨rfl, rfl⟩
  go_wp2
  go_ret2
  exact ⟨rfl, hb1⟩

theorem Way_bad (n a b : Int) (A : Option Addr) (k c : Nat) (ls : List Gr.Ln) (w : World) (hr : RdP w w.heap.size A k c ls) (h : Co.ycode n ls a b ≠ 0) :
    Calls Tryd.prog 12 #[.int .i64 n, .slice A k c, .int .i64 a, .int .i64 b] w fun e w' => e = .returned (.tuple #[.slice none 0 0, errv (Co.ycode n ls a b)]) ∧ Below w.heap.size w w' := by
  by_cases hb : Co.ccode n ls b = 0
  · obtain ⟨ht, h0, h1⟩ := Co.ccode_zero.1 hb
    obtain ⟨m, rfl⟩ : ∃ m : Nat, n = (m : Int) := ⟨n.toNat, by omega⟩
    obtain ⟨b, rfl⟩ : ∃ b' : Nat, b = (b' : Int) := ⟨b.toNat, by omega⟩
    have ha : a < 0 ∨ (m : Int) ≤ a := by
      rcases Classical.em (a < 0 ∨ (m : Int) ≤ a) with ha | ha
      · exact ha
      · exact absurd (Co.ycode_zero.2 ⟨ht, ⟨by omega, by omega⟩, h0, h1⟩) h
    rw [Co.ycode_range ht (.inl ha)]
    exact Way_range m b a A k c ls w hr ht (by omega) ha
  · rw [Co.ycode_ccode hb]
    exact Way_ups n a b A k c ls w hr hb

set_option maxHeartbeats 400000 in
theorem Way_ok (m a b : Nat) (A : Option Addr) (k c : Nat) (ls : List Gr.Ln) (w : World) (hr : RdP w w.heap.size A k c ls) (h : Tr.tcode (m : Int) ls = 0) (ha : a < m) (hb : b < m) :
    Calls Tryd.prog 12 #[.int .i64 (m : Int), .slice A k c, .int .i64 (a : Int), .int .i64 (b : Int)] w fun e w' => ∃ A1 c1, e = .returned (.tuple #[.slice A1 (Tr.far m ls a b + 1) c1, .nilIface]) ∧ Rd w' w'.heap.size A1 (Tr.far m ls a b + 1) c1 (Co.wayI m ls a b) ∧ Below w.heap.size w w' := by
  obtain ⟨hc, hT⟩ := Tr.tcode_zero.1 h
  have hm8 : m ≤ 8 := by have := (Gr.code_zero.1 hc).2.1; omega
  have H := Lib.hid h
  have HT := Lib.hid hT
  have HL := Lib.hid (Co.wayI_len hT ha hb)
  clear h hc hT
  go_enter Tryd.func12, Tryd.ntmps12
  go_wp2_with fail
  refine (Ups_ok m b A k c ls _ hr H.out hb).mono ?_
  rintro e w1 ⟨g, rfl, hown, hb1⟩
  have hrd := hown.rd'
  clear hown
  go_wp2_with fail
  refine (cIsV_yes _ _ _ (by omega) (by omega)).mono ?_
  rintro e w2 ⟨rfl, rfl⟩
  go_wp2_with fail
  refine (upward_any m a b ls HT.out hm8 ha hb _ _ _ hrd).mono ?_
  rintro e w3 ⟨v, rfl, hown, hb3⟩
  have hb03 := hb1.trans (hb3.mono hb1.size)
  clear hb1 hb3 hrd
  obtain ⟨A1, c1, rfl, hrd⟩ := hown.rd
  rw [HL.out] at hrd ⊢
  clear hown
  go_wp2
  go_ret2
  exact ⟨A1, c1, rfl, hrd, hb03⟩

/-- whichever it is -/
theorem Way_any (n a b : Int) (A : Option Addr) (k c : Nat) (ls : List Gr.Ln) (w : World) (hr : RdP w w.heap.size A k c ls) :
    Calls Tryd.prog 12 #[.int .i64 n, .slice A k c, .int .i64 a, .int .i64 b] w fun e w' => Below w.heap.size w w' ∧ ((Co.ycode n ls a b ≠ 0 ∧ e = .returned (.tuple #[.slice none 0 0, errv (Co.ycode n ls a b)])) ∨ (Co.ycode n ls a b = 0 ∧ ∃ A1 N c1, e = .returned (.tuple #[.slice A1 N c1, .nilIface]))) := by
  by_cases h : Co.ycode n ls a b = 0
  · obtain ⟨ht, ha, hb⟩ := Co.ycode_zero.1 h
    obtain ⟨m, rfl⟩ : ∃ m : Nat, n = (m : Int) := ⟨n.toNat, by omega⟩
    obtain ⟨a, rfl⟩ : ∃ b' : Nat, a = (b' : Int) := ⟨a.toNat, by omega⟩
    obtain ⟨b, rfl⟩ : ∃ b' : Nat, b = (b' : Int) := ⟨b.toNat, by omega⟩
    refine (Way_ok m a b A k c ls w hr ht (by omega) (by omega)).mono ?_
    rintro e w1 ⟨A1, c1, rfl, _, hb1⟩
    exact ⟨hb1, .inr ⟨h, A1, _, c1, rfl⟩⟩
  · refine (Way_bad n a b A k c ls w hr h).mono ?_
    rintro e w1 ⟨rfl, hb1⟩
    exact ⟨hb1, .inl ⟨h, rfl⟩⟩

/-! ### Of -/
set_option maxHeartbeats 400000 in
theorem COf_ups (n r a b : Int) (A : Option Addr) (k c : Nat) (ls : List Gr.Ln) (w : World) (hr : RdP w w.heap.size A k c ls) (h : Co.ccode n ls r ≠ 0) :
    Calls Tryd.prog 11 #[.int .i64 n, .slice A k c, .int .i64 r, .int .i64 a, .int .i64 b] w fun e w' => e = .returned (.tuple #[.int .i64 0, errv (Co.ccode n ls r)]) ∧ Below w.heap.size w w' := by
  have H := Lib.hid h
  clear h
  go_enter Tryd.func11, Tryd.ntmps11
  go_wp2_with fail
  refine (Ups_bad n r A k c ls _ hr H.out).mono ?_
  rintro e w1 ⟨rfl, hb⟩
  go_wp2
  go_ret2
  exact ⟨rfl, hb⟩

set_option maxHeartbeats 400000 in
theorem COf_range (m r : Nat) (a b : Int) (A : Option Addr) (k c : Nat) (ls : List Gr.Ln) (w : World) (hr : RdP w w.heap.size A k c ls) (h : Tr.tcode (m : Int) ls = 0) (hrm : r < m) (hab : (a < 0 ∨ (m : Int) ≤ a) ∨ (b < 0 ∨ (m : Int) ≤ b)) :
    Calls Tryd.prog 11 #[.int .i64 (m : Int), .slice A k c, .int .i64 (r : Int), .int .i64 a, .int .i64 b] w fun e w' => e = .returned (.tuple #[.int .i64 0, errv 1]) ∧ Below w.heap.size w w' := by
  have H := Lib.hid h
  clear h
  by_cases ha : a < 0 ∨ (m : Int) ≤ a
  · have HA := Lib.hid ha
    clear ha hab
    go_enter Tryd.func11, Tryd.ntmps11
    go_wp2_with fail
    refine (Ups_ok m r A k c ls _ hr H.out hrm).mono ?_
    rintro e w1 ⟨g, rfl, hown, hb1⟩
    go_wp2_with fail
    refine (cIsV_no _ _ _ HA.out).mono ?_
    rintro e w2 ⟨rfl, rfl⟩
    go_wp2
    go_ret2
    exact ⟨rfl, hb1⟩
  · have hb : b < 0 ∨ (m : Int) ≤ b := hab.resolve_left ha
    have h1 : 0 ≤ a := by omega
    have h2 : a < (m : Int) := by omega
    have HB := Lib.hid hb
    clear ha hab hb
    go_enter Tryd.func11, Tryd.ntmps11
    go_wp2_with fail
    refine (Ups_ok m r A k c ls _ hr H.out hrm).mono ?_
    rintro e w1 ⟨g, rfl, hown, hb1⟩
    go_wp2_with fail
    refine (cIsV_yes _ _ _ h1 h2).mono ?_
    rintro e w2 ⟨rfl, rfl⟩
    go_wp2_with fail
    refine (cIsV_no _ _ _ HB.out).mono ?_
    rintro e w2 ⟨rfl, rfl⟩
    go_wp2
    go_ret2
    exact ⟨rfl, hb1⟩

theorem COf_bad (n r a b : Int) (A : Option Addr) (k c : Nat) (ls : List Gr.Ln) (w : World) (hr : RdP w w.heap.size A k c ls) (h : Co.ocode n ls r a b ≠ 0) :
    Calls Tryd.prog 11 #[.int .i64 n, .slice A k c, .int .i64 r, .int .i64 a, .int .i64 b] w fun e w' => e = .returned (.tuple #[.int .i64 0, errv (Co.ocode n ls r a b)]) ∧ Below w.heap.size w w' := by
  by_cases hc : Co.ccode n ls r = 0
  · obtain ⟨ht, h0, h1⟩ := Co.ccode_zero.1 hc
    obtain ⟨m, rfl⟩ : ∃ m : Nat, n = (m : Int) := ⟨n.toNat, by omega⟩
    obtain ⟨r, rfl⟩ : ∃ b' : Nat, r = (b' : Int) := ⟨r.toNat, by omega⟩
    have hab : (a < 0 ∨ (m : Int) ≤ a) ∨ (b < 0 ∨ (m : Int) ≤ b) := by
      rcases Classical.em ((a < 0 ∨ (m : Int) ≤ a) ∨ (b < 0 ∨ (m : Int) ≤ b)) with ha | ha
      · exact ha
      · exact absurd (Co.ocode_zero.2 ⟨hc, ⟨by omega, by omega⟩, by omega, by omega⟩) h
    rw [Co.ocode_range hc hab]
    exact COf_range m r a b A k c ls w hr ht (by omega) hab
  · rw [Co.ocode_bad hc]
    exact COf_ups n r a b A k c ls w hr hc

set_option maxRecDepth 100000 in
set_option maxHeartbeats 1000000 in
theorem COf_ok (m r a b : Nat) (A : Option Addr) (k c : Nat) (ls : List Gr.Ln) (w : World) (hr : RdP w w.heap.size A k c ls) (h : Tr.tcode (m : Int) ls = 0) (hrm : r < m) (ha : a < m) (hb : b < m) :
    Calls Tryd.prog 11 #[.int .i64 (m : Int), .slice A k c, .int .i64 (r : Int), .int .i64 (a : Int), .int .i64 (b : Int)] w fun e w' => e = .returned (.tuple #[.int .i64 (Co.lowN m ls r a b : Int), .nilIface]) ∧ Below w.heap.size w w' := by
  obtain ⟨hc, hT⟩ := Tr.tcode_zero.1 h
  have hm8 : m ≤ 8 := by have := (Gr.code_zero.1 hc).2.1; omega
  obtain ⟨D, hD⟩ : ∃ D, D = Tr.far m ls b r := ⟨_, rfl⟩
  have HP0 : Hid (b = (Co.way m ls b r).getD 0 0) := by
    show _ = _
    have := Co.pos_zero hT hb hrm
    unfold Co.pos at this
    rw [if_pos (Nat.zero_le _)] at this
    omega
  have H := Lib.hid h
  have HT := Lib.hid hT
  have HD := Lib.hid hD
  have HL := Lib.hid (Co.wayI_len hT ha hrm)
  clear h hc hT hD
  go_enter Tryd.func11, Tryd.ntmps11
  go_wp2_with fail
  refine (Ups_ok m r A k c ls _ hr H.out hrm).mono ?_
  rintro e w1 ⟨g, rfl, hown, hb1⟩
  have hrd := hown.rd'
  clear hown
  go_wp2_with fail
  refine (cIsV_yes _ _ _ (by omega) (by omega)).mono ?_
  rintro e w2 ⟨rfl, rfl⟩
  go_wp2_with fail
  refine (cIsV_yes _ _ _ (by omega) (by omega)).mono ?_
  rintro e w2 ⟨rfl, rfl⟩
  go_wp2_with fail
  refine (upward_any m a r ls HT.out hm8 ha hrm _ _ _ hrd).mono ?_
  rintro e w3 ⟨v, rfl, hown, hb3⟩
  have hb03 := hb1.trans (hb3.mono hb1.size)
  have hru := hrd.past hb3
  clear hb1 hb3 hrd
  obtain ⟨A1, c1, rfl, hra⟩ := hown.rd
  rw [HL.out] at hra ⊢
  obtain ⟨L, hLL⟩ : ∃ L, L = Tr.far m ls a r + 1 := ⟨_, rfl⟩
  rw [← hLL] at hra ⊢
  have hbigu := hru.big
  obtain ⟨b2, o2, e2, hbb, hc2⟩ := hru.at_ (by omega)
  simp only [Option.some.injEq, Addr.mk.injEq, and_true] at e2
  obtain ⟨rfl, rfl⟩ := e2
  have HC := Lib.hid hc2
  clear hown hc2 hLL
  go_wp2
  go_loopw [4] (fun bv wr => ∃ (k x : Nat), k ≤ D ∧ bv = .int .i64 (x : Int) ∧ Hid (x = (Co.way m ls b r).getD k 0) ∧ Hid (∀ j, j < k → (Co.way m ls b r).getD j 0 ∉ Co.way m ls a r) ∧ w3 = wr) (fun bv _ => Co.mu m ls r (intOf bv))
  case atStart => exact ⟨0, b, Nat.zero_le _, rfl, HP0, fun j hj => absurd hj (Nat.not_lt_zero _), rfl⟩
  case round =>
    clear HP0
    obtain ⟨k, x, hk, rfl, HX, HN, rfl⟩ := hrel
    have hkD : k ≤ Tr.far m ls b r := by rw [← HD.out]; exact hk
    obtain ⟨v, e1, hvm, e3, e4, e5⟩ := Co.pos_in HT.out hb hrm hkD
    obtain rfl : v = x := by rw [HX.out, e3]
    by_cases hin : v ∈ Co.way m ls a r
    · have hcon : (Co.wayI m ls a r).contains (v : Int) = true := by rw [Co.wayI_has]; simpa using hin
      have HF : Hid (v = Co.lowN m ls r a b) := by
        refine Co.low_eq HT.out hrm ha hb ?_
        have := Co.low_at HT.out hrm ha hb hkD (by rw [← e3]; exact hin) HN.out
        rwa [← e3] at this
      clear e1 e3 e4 e5 hin HX HN hkD
      go_wp2_with fail
      refine (ContainsI_any A1 L c1 _ (v : Int) true _ hra hcon).mono ?_
      rintro e w4 ⟨rfl, rfl⟩
      go_wp2
      go_ret2
      exact ⟨by rw [← HF.out]; rfl, hb03⟩
    · have hcon : (Co.wayI m ls a r).contains (v : Int) = false := by rw [Co.wayI_has]; simpa using hin
      have hlt : k < D := by
        rcases Nat.lt_or_ge k D with h1 | h1
        · exact h1
        · exfalso
          have he : k = Tr.far m ls b r := by rw [← HD.out]; omega
          have := Co.low_last HT.out hrm ha hb
          rw [← he, ← e3] at this
          exact hin this
      have hkD1 : k + 1 ≤ Tr.far m ls b r := by rw [← HD.out]; omega
      obtain ⟨u, f1, hum, f3, _, _⟩ := Co.pos_in HT.out hb hrm hkD1
      have hmu := Co.mu_lt HT.out hb hrm hkD
      rw [e1, f1] at hmu
      have g1 := HC.out v hvm
      rw [Nat.zero_add, Co.ups_at ls r hvm, e4, f1] at g1
      have HNN : Hid (∀ j, j < k + 1 → (Co.way m ls b r).getD j 0 ∉ Co.way m ls a r) := by
        show ∀ j, _
        intro j hj
        by_cases e : j = k
        · rw [e, ← e3]; exact hin
        · exact HN.out j (by omega)
      have HU := Lib.hid f3
      have HMU := Lib.hid hmu
      have v0 : (0 : Int) ≤ (v : Int) := by omega
      have v1 : (v : Int) < (m : Int) := by omega
      clear e1 e3 e4 e5 f1 f3 hin HX HN hkD hkD1 hmu
      go_wp2_with fail
      refine (ContainsI_any A1 L c1 _ (v : Int) false _ hra hcon).mono ?_
      rintro e w4 ⟨rfl, rfl⟩
      go_wp2
      go_roundw
      case rel => exact ⟨k + 1, u, by omega, rfl, HU, HNN, trivial⟩
      case measure => simpa [intOf] using HMU.out

end Go.Proofs.YtojkjdccjomaaaaDoor
