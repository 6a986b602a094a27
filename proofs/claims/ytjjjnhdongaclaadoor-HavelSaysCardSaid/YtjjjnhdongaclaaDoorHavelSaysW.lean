/-
  The walk of the law HavelSays: for every list of numbers it returns true, where the library's variable errors.errorType holds what its initialiser lays.
-/
import Derived.Test.YtjjjnhdongaclaaDoorHavelE
import Derived.Test.YtjjjnhdongaclaaDoorRefH
namespace Go.Proofs.YtjjjnhdongaclaaDoor.havelSays
open Go.RowKit

theorem Havel_ok (A : Option Addr) (n c : Nat) (l : List Int) (w : World) (hr : Rd w w.heap.size A n c l) (h : De.code l = 0) :
    Calls Tryd.prog 7 #[.slice A n c] w (RefD.HavPost (De.havel 9 (l.map Int.toNat)) w) := by
  obtain ⟨h1, h8, hok⟩ := De.code_zero.1 h
  have hup : De.up (l.map Int.toNat) = l := De.up_toNat fun d hd => (hok d hd).1
  have hlen := hr.len
  refine RefD.Havel_any A n c (l.map Int.toNat) w (by rw [hup]; exact hr) (by omega) (by omega) ?_
  intro x hx
  obtain ⟨d, hd, rfl⟩ := List.mem_map.1 hx
  have := hok d hd
  omega

set_option maxRecDepth 100000 in
set_option maxHeartbeats 4000000 in
theorem walk (w : World) (het : tld.EtIs w) (a0 : Option Addr) (n0 c0 : Nat) (z0 : List Int) (w0 : Rd w w.heap.size a0 n0 c0 z0) :
    Calls Tryd.prog 3 #[.slice a0 n0 c0] w fun e w' => e = .returned (.bool true) ∧ Below w.heap.size w w' := by
  by_cases hc : De.code z0 = 0
  · have HC := Lib.hid hc
    obtain ⟨r, hr⟩ : ∃ r, De.havel 9 (z0.map Int.toNat) = r := ⟨_, rfl⟩
    have HR := Lib.hid hr
    clear hr
    go_enter Tryd.func3, Tryd.ntmps3
    go_wp2_with fail
    refine (RefD.Degrees_any a0 n0 c0 z0 _ w0).mono ?_
    rintro e x0 ⟨rfl, rfl⟩
    rw [hc]
    clear hc
    go_wp2_with fail
    refine (Havel_ok a0 n0 c0 z0 _ w0 HC.out).mono ?_
    rw [HR.out]
    cases r with
    | none =>
      rintro e x1 ⟨hb1, (⟨_, rfl⟩ | ⟨os, v, h0, _⟩)⟩
      rotate_left
      · cases h0
      have s1 := w0.past hb1
      go_wp2_with fail
      refine (Make_ok a0 n0 c0 z0 _ s1 HC.out).mono ?_
      rw [HR.out]
      rintro e x2 ⟨hb2, (⟨_, rfl⟩ | ⟨os, v, h0, _⟩)⟩
      rotate_left
      · cases h0
      have hb02 := hb1.trans (hb2.mono hb1.size)
      have het2 : tld.EtIs x2 := het.below hb02
      clear s1 hb1 hb2
      go_wp2_with fail
      refine (Err_same 5 _ het2).mono ?_
      rintro e x3 ⟨rfl, hb3⟩
      have hb03 := hb02.trans (hb3.mono hb02.size)
      clear hb02 hb3 het2
      go_wp2_with fail
      refine (Lines_any none none 0 0 0 0 [] [] true _ (RdP.nil _ _) (RdP.nil _ _) rfl).mono ?_
      rintro e x4 ⟨rfl, hb4⟩
      go_wp2
      go_ret
      exact ⟨rfl, hb03.trans (hb4.mono hb03.size)⟩
    | some os =>
      rintro e x1 ⟨hb1, (⟨h0, _⟩ | ⟨os1, v1, h1, rfl, hown1⟩)⟩
      · cases h0
      cases h1
      obtain ⟨A1, c1, rfl, hrd1⟩ := hown1.rd
      have s1 := w0.past hb1
      clear hown1
      obtain ⟨k, hk⟩ : ∃ k, k = os.length := ⟨_, rfl⟩
      rw [← hk] at hrd1 ⊢
      clear hk
      go_wp2_with fail
      refine (Make_ok a0 n0 c0 z0 _ s1 HC.out).mono ?_
      rw [HR.out]
      rintro e x2 ⟨hb2, (⟨h0, _⟩ | ⟨os2, v2, h2, rfl, hown2⟩)⟩
      · cases h0
      cases h2
      obtain ⟨A2, c2, rfl, hrd2⟩ := hown2.rd
      have hb02 := hb1.trans (hb2.mono hb1.size)
      have hrd1' := hrd1.past hb2
      clear s1 hb1 hb2 hown2 hrd1
      obtain ⟨k2, hk2⟩ : ∃ k2, k2 = os.length := ⟨_, rfl⟩
      rw [← hk2] at hrd2 ⊢
      clear hk2
      go_wp2_with fail
      refine (Err_ok _).mono ?_
      rintro e x3 ⟨rfl, rfl⟩
      go_wp2_with fail
      refine (Lines_any A2 A1 k2 k c2 c1 os os true _ hrd2 hrd1' (by simp)).mono ?_
      rintro e x4 ⟨rfl, hb4⟩
      go_wp2
      go_ret
      exact ⟨rfl, hb02.trans (hb4.mono hb02.size)⟩
  · have HC := Lib.hid hc
    obtain ⟨k, hk⟩ : ∃ k, k = De.code z0 := ⟨_, rfl⟩
    rw [← hk] at hc
    have hd : (k == 0) = false := by simpa using hc
    have HK := Lib.hid hk.symm
    clear hk hc
    go_enter Tryd.func3, Tryd.ntmps3
    go_wp2_with fail
    refine (RefD.Degrees_any a0 n0 c0 z0 _ w0).mono ?_
    rintro e x0 ⟨rfl, rfl⟩
    rw [HK.out]
    go_wp2_with fail
    refine (Make_err a0 n0 c0 z0 _ w0 HC.out).mono ?_
    rintro e x2 ⟨rfl, hb2⟩
    rw [HK.out]
    have het2 : tld.EtIs x2 := het.below hb2
    go_wp2_with fail
    refine (Err_same k _ het2).mono ?_
    rintro e x3 ⟨rfl, hb3⟩
    have hb03 := hb2.trans (hb3.mono hb2.size)
    clear hb3 het2 hb2
    go_wp2_with fail
    refine (Lines_any none none 0 0 0 0 [] [] true _ (RdP.nil _ _) (RdP.nil _ _) rfl).mono ?_
    rintro e x4 ⟨rfl, hb4⟩
    go_wp2
    go_ret
    exact ⟨rfl, hb03.trans (hb4.mono hb03.size)⟩

end Go.Proofs.YtjjjnhdongaclaaDoor.havelSays
