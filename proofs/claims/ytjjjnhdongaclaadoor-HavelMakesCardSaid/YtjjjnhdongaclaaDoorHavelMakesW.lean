/-
  The walk of the law HavelMakes: for every list of numbers it returns true, where the library's variable errors.errorType holds what its initialiser lays.
-/
import Derived.Test.YtjjjnhdongaclaaDoorHavelE
import Derived.Test.YtjjjnhdongaclaaDoorDegreeE
namespace Go.Proofs.YtjjjnhdongaclaaDoor.havelMakes
open Go.RowKit

theorem in_q (x a b : Int) (w : World) (n : Nat) (h1 : a ≤ x) (h2 : x ≤ b) : Calls Tryd.prog 14 #[.int .i64 x, .int .i64 a, .int .i64 b] (w.drewN n) fun e w' => e = .returned (.bool true) ∧ ∃ m, w' = w.drewN m :=
  Calls.quiet_of_same ((in_yes x a b _ h1 h2).mono fun _ _ h => ⟨h.1, h.2.symm⟩)
theorem Between_q (A : Option Addr) (k c : Nat) (os : List Gr.Ln) (a b : Int) (w : World) (n : Nat) {B : Nat} (hr : RdP w B A k c os) (hsm : k ≤ 1048576) (h : os.countP (De.joins a b) = 1) :
    Calls Tryd.prog 15 #[.slice A k c, .int .i64 a, .int .i64 b] (w.drewN n) fun e w' => e = .returned (.int .i64 1) ∧ ∃ m, w' = w.drewN m :=
  Calls.quiet_of_same ((Between_any A k c os a b _ (hr.drewN n) hsm).mono fun _ _ g => ⟨g.1.trans (by rw [h]; rfl), g.2.symm⟩)

set_option maxRecDepth 100000 in
set_option maxHeartbeats 4000000 in
theorem walk (w : World) (het : tld.EtIs w) (a0 : Option Addr) (n0 c0 : Nat) (z0 : List Int) (w0 : Rd w w.heap.size a0 n0 c0 z0) :
    Calls Tryd.prog 4 #[.slice a0 n0 c0] w fun e w' => e = .returned (.bool true) ∧ Below w.heap.size w w' := by
  go_enter Tryd.func4, Tryd.ntmps4
  go_wp2_with fail
  refine (havelFact_any _ het).mono ?_
  rintro e x1 ⟨rfl, hb1⟩
  have s1 := w0.past hb1
  by_cases hc : De.code z0 = 0
  rotate_left
  · have HC := Lib.hid hc
    clear hc
    go_wp2_with fail
    refine (Can_err a0 n0 c0 z0 _ s1 HC.out).mono ?_
    rintro e x2 ⟨rfl, hb2⟩
    have s2 := s1.past hb2
    have hb02 := hb1.trans (hb2.mono hb1.size)
    clear hb1 hb2 s1
    go_wp2_with fail
    refine (Make_err a0 n0 c0 z0 _ s2 HC.out).mono ?_
    rintro e x3 ⟨rfl, hb3⟩
    go_wp2
    go_ret
    exact ⟨rfl, hb02.trans (hb3.mono hb02.size)⟩
  have HC := Lib.hid hc
  have hhc := De.havel_can hc
  obtain ⟨hl1, hl8, hok⟩ := De.code_zero.1 hc
  have hn8 : n0 ≤ 8 := by rw [← w0.len]; exact hl8
  have hn1 : 1 ≤ n0 := by rw [← w0.len]; exact hl1
  clear hc
  cases ht : De.can z0 with
  | false =>
    rw [ht] at hhc
    have hnone : De.havel 9 (z0.map Int.toNat) = none := by simpa using hhc
    have HT := Lib.hid ht
    have HN := Lib.hid hnone
    clear ht hnone hhc hok hl1 hl8
    go_wp2_with fail
    refine (Can_ok a0 n0 c0 z0 false _ s1 HC.out HT.out).mono ?_
    rintro e x2 ⟨rfl, hb2⟩
    have s2 := s1.past hb2
    have hb02 := hb1.trans (hb2.mono hb1.size)
    clear hb1 hb2 s1
    go_wp2_with fail
    refine (Make_ok a0 n0 c0 z0 _ s2 HC.out).mono ?_
    rw [HN.out]
    rintro e x3 ⟨hb3, (⟨_, rfl⟩ | ⟨os, v, h0, _⟩)⟩
    rotate_left
    · cases h0
    have hb03 := hb02.trans (hb3.mono hb02.size)
    have het3 : tld.EtIs x3 := het.below hb03
    clear hb02 hb3 s2
    go_wp2_with fail
    refine (Err_same 5 _ het3).mono ?_
    rintro e x4 ⟨rfl, hb4⟩
    go_wp2
    go_ret
    exact ⟨rfl, hb03.trans (hb4.mono hb03.size)⟩
  | true =>
    rw [ht] at hhc
    obtain ⟨os, hos⟩ : ∃ os, De.havel 9 (z0.map Int.toNat) = some os := Option.isSome_iff_exists.1 hhc
    have hne : z0.map Int.toNat ≠ [] := by
      intro e
      have := congrArg List.length e
      rw [List.length_map] at this
      simp at this
      rw [this] at hl1
      simp at hl1
    have hmade := De.havel_made 9 _ os hne hos
    have hml : (z0.map Int.toNat).length = n0 := by rw [List.length_map]; exact w0.len
    have hup : De.up (z0.map Int.toNat) = z0 := De.up_toNat fun x hx => (hok x hx).1
    have htot : De.tot z0 = 2 * ((os.length : Nat) : Int) := by
      rw [← hup, De.tot_up, hmade.sum]
      omega
    have htb := (De.tot_bound hok).2
    have hat : ∀ i, z0.getD i 0 = (((z0.map Int.toNat).getD i 0 : Nat) : Int) := fun i => by rw [← De.up_getD, hup]
    have HT := Lib.hid ht
    have HOS := Lib.hid hos
    have HMD := Lib.hid hmade
    have HML := Lib.hid hml
    have HAT := Lib.hid hat
    have HOK := Lib.hid hok
    clear ht hos hmade hml hat hhc hne hup hok
    go_wp2_with fail
    refine (Can_ok a0 n0 c0 z0 true _ s1 HC.out HT.out).mono ?_
    rintro e x2 ⟨rfl, hb2⟩
    have s2 := s1.past hb2
    have hb02 := hb1.trans (hb2.mono hb1.size)
    clear hb1 hb2 s1
    go_wp2_with fail
    refine (Make_ok a0 n0 c0 z0 _ s2 HC.out).mono ?_
    rw [HOS.out]
    rintro e x3 ⟨hb3, (⟨h0, _⟩ | ⟨os', v, hs, rfl, hown⟩)⟩
    · cases h0
    cases hs
    obtain ⟨A3, c3, rfl, hrd⟩ := hown.rd
    have hb03 := hb02.trans (hb3.mono hb02.size)
    have s3 := s2.past hb3
    clear hown hb3 hb02 s2
    obtain ⟨k, hk⟩ : ∃ k, k = os.length := ⟨_, rfl⟩
    have hk28 : k ≤ 28 := by rw [hk]; omega
    rw [← hk] at hrd htot ⊢
    have HTT := Lib.hid htot
    have HK := Lib.hid hk
    clear hk htot htb hl1 hl8
    go_wp2_with fail
    refine (ESum_any a0 n0 c0 z0 _ s3 HOK.out hn8).mono ?_
    rintro e x4 ⟨rfl, rfl⟩
    rw [HTT.out]
    have hnn : ((2 * (k : Int)) != (2 * (k : Int))) = false := by simp
    go_wp2
    go_loopw [8] (fun i wr => ∃ j : Nat, j ≤ k ∧ i = .int .i64 j ∧ Below x3.heap.size x3 wr) (fun i _ => k - (intOf i).toNat)
    case atStart => exact ⟨0, Nat.zero_le _, rfl, Below.refl _ _⟩
    case round =>
      obtain ⟨j, hj, rfl, hbel⟩ := hrel
      by_cases hlt : j < k
      · have hrj := hrd.below hbel
        obtain ⟨b1, o1, rfl, hb1, hc1⟩ := hrj.at_ (by omega)
        obtain ⟨g1, g2⟩ := hc1 j hlt
        have hjl : j < os.length := by rw [← HK.out]; exact hlt
        have hmem : os.getD j (0, 0) ∈ os := by
          have e : os.getD j (0, 0) = os[j] := by simp [List.getD, hjl]
          rw [e]; exact List.getElem_mem hjl
        obtain ⟨a, b, hab, hlab, hbn⟩ := HMD.out.good _ hmem
        have honce := HMD.out.once hmem
        rw [hab] at g1 g2 honce
        rw [HML.out] at hbn
        replace g1 : wr.cell? ⟨b1, o1 + j * 2, none⟩ = some (.int .i64 (a : Int)) := g1
        replace g2 : wr.cell? ⟨b1, o1 + j * 2 + 1, none⟩ = some (.int .i64 (b : Int)) := g2
        have HON : Hid (os.countP (De.joins (a : Int) (b : Int)) = 1) := honce
        clear hc1 hmem hab honce hjl
        have k1 : (0 : Int) ≤ (j : Int) := by omega
        have k2 : (j : Int) < (k : Int) := by omega
        have k3 : IntKind.i64.wrap ((n0 : Int) - 1) = (n0 : Int) - 1 := by rw [IntKind.wrap_i64]; omega
        have k4 : IntKind.i64.wrap ((a : Int) + 1) = (a : Int) + 1 := by rw [IntKind.wrap_i64]; omega
        go_wp2
        go_quiet (first
          | (go_at_call 14; exact in_q _ _ _ _ _ (by omega) (by omega))
          | (go_at_call 15; exact Between_q _ k c3 os (a : Int) (b : Int) _ _ hrj (by omega) HON.out))
        go_wp2
        go_roundw
        case rel => exact ⟨j + 1, by omega, by go_num, hbel.trans (Below.drewN' _ _ _)⟩
        case measure => simp [intOf]; omega
      · have hl4 := hrd.past hbel
        have s4 := s3.past hbel
        have hb04 := hb03.trans (hbel.mono hb03.size)
        clear hrd s3 hb03 hbel
        obtain ⟨x4, hx4⟩ : ∃ x4, x4 = wr := ⟨_, rfl⟩
        subst hx4
        go_wp2
        go_loopw [9] (fun i wr => ∃ j : Nat, j ≤ n0 ∧ i = .int .i64 j ∧ Below x4.heap.size x4 wr) (fun i _ => n0 - (intOf i).toNat)
        case atStart => exact ⟨0, Nat.zero_le _, rfl, Below.refl _ _⟩
        case round =>
          obtain ⟨i, hi, rfl, hbel⟩ := hrel
          by_cases hin : i < n0
          · obtain ⟨b1, o1, rfl, hb1, hc1⟩ := s4.at_ (by omega)
            have g1 : wr.cell? ⟨b1, o1 + i, none⟩ = some (.int .i64 (z0.getD i 0)) := (hbel.cell (p := ⟨b1, o1 + i, none⟩) hb1).trans (hc1 i hin)
            have hnear := HMD.out.near i
            rw [HML.out] at hnear
            rw [HAT.out i] at g1
            obtain ⟨q, hq⟩ : ∃ q, q = (z0.map Int.toNat).getD i 0 := ⟨_, rfl⟩
            rw [← hq] at g1 hnear
            have HNE := Lib.hid hnear
            have hl5 := hl4.past hbel
            clear hq hnear hc1
            have e1 : wr.drew.cell? ⟨b1, o1 + i, none⟩ = some (.int .i64 (q : Int)) := g1
            have hbd : Below x4.heap.size x4 wr.drew := hbel.drew
            have hl6 : RdP wr.drew wr.drew.heap.size A3 k c3 os := hl5
            have hqq : ((q : Int) != (q : Int)) = false := by simp
            go_wp2
            go_region_held3 (fun w' : World => w'.cell? ⟨b1, o1 + i, none⟩ = some (.int .i64 (q : Int))) (first | exact g1 | assumption)
              (first
                | (go_at_call 16; refine (Near_len n0 A3 k c3 os i q _ hl6 hn8 HNE.out).mono ?_; rintro e w5 ⟨A5, c5, rfl, hb5⟩; have hk5 := (hb5.cell (World.block_lt_of_cell? _ _ e1)).trans e1))
            go_wp2
            go_roundw
            case rel => exact ⟨i + 1, by omega, by go_num, hbd.trans (hb5.mono hbd.size)⟩
            case measure => simp [intOf]; omega
          · go_wp2
            go_ret
            exact ⟨rfl, hb04.trans (hbel.mono hb04.size)⟩

end Go.Proofs.YtjjjnhdongaclaaDoor.havelMakes
