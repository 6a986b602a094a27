/-
  The walk of the law EliasOnly: for every slice of integers it returns true.
-/
import Derived.Test.YtnjfnfooljlnkaaEliasF
namespace Go.Proofs.Ytnjfnfooljlnkaa.eliasOnly
open Go.RowKit

theorem codes_le (code : Nat → List Int) (ns : List Int) (k : Nat) : (El.codes code (ns.take k)).length ≤ (El.codes code ns).length := by
  have h : El.codes code ns = El.codes code (ns.take k) ++ El.codes code (ns.drop k) := by
    unfold El.codes
    rw [← List.flatMap_append, List.take_append_drop]
  rw [h, List.length_append]
  omega
theorem codes_take (code : Nat → List Int) (ns : List Int) (k : Nat) (h : k < ns.length) : El.codes code (ns.take (k + 1)) = El.codes code (ns.take k) ++ code (ns.getD k 0).toNat := by
  rw [List.take_succ_eq_append_getElem h, El.codes_snoc]
  simp [List.getD, h]
theorem nums_at {ns : List Int} (h : El.Nums ns) {k : Nat} (hk : k < ns.length) : 1 ≤ ns.getD k 0 ∧ ns.getD k 0 ≤ 1000000 := by
  refine h _ ?_
  simp [List.getD, hk]

set_option maxHeartbeats 2000000 in
theorem walk (w : World) (a0 : Option Addr) (n0 c0 : Nat) (z0 : List Int) (w0 : Rd w w.heap.size a0 n0 c0 z0) :
    Calls Try.prog 7 #[.slice a0 n0 c0] w fun e w' => e = .returned (.bool true) ∧ Below w.heap.size w w' := by
  have HX := Lib.hid w0.len
  go_enter Try.func7, Try.ntmps7
  go_wp2_with fail
  refine (fact_any _).mono ?_
  rintro e w1 ⟨rfl, hb1⟩
  have hr1 := w0.past hb1
  have hs1 := hb1.size
  go_wp2_with fail
  refine (ReadGamma_any _ _ _ z0 _ hr1).mono ?_
  rintro e w2 ⟨hb2, ⟨h0, rfl⟩ | ⟨v2, ns, h0, h1, rfl, hown2⟩⟩
  · have H0 := Lib.hid h0
    clear h0
    have hr2 := hr1.past hb2
    have hs2 := hb2.size
    have hw2 : Below w.heap.size w w2 := hb1.trans (hb2.mono hs1)
    go_wp2_with fail
    have hwp := hw2
    have hrp := hr2
    clear hb1 hb2 hr1 hr2 hw2 H0
    refine (ReadDelta_any _ _ _ z0 _ hrp).mono ?_
    rintro e w5 ⟨hb5, ⟨h0, rfl⟩ | ⟨v5, ns, h0, h1, rfl, hown5⟩⟩
    · have H0 := Lib.hid h0
      clear h0
      go_wp2
      go_ret
      exact ⟨rfl, hwp.trans (hb5.mono hwp.size)⟩
    · obtain ⟨hlen, hbits, _, _⟩ := rcode_zero h0
      rw [HX.out] at hlen
      obtain ⟨hcodes, hnums⟩ := El.readD_some hbits h1
      clear h0 h1
      obtain ⟨A5, c5, rfl, hr5⟩ := hown5.rd
      obtain ⟨L, hL⟩ : ∃ L, L = ns.length := ⟨_, rfl⟩
      have hbigL := hr5.big
      rw [← hL] at hr5 hbigL ⊢
      have HL := Lib.hid hL
      have HCD := Lib.hid hcodes
      have HNU := Lib.hid hnums
      have hsp := hwp.size
      have hs5 := hb5.size
      clear hL hcodes hnums hown5
      go_wp2_with fail
      go_loopw [10, 11] (fun v i wr => ∃ k : Nat, k ≤ L ∧ i = .int .i64 k ∧ Own wr w5.heap.size 3 v (El.codes El.delta (ns.take k)) ∧ Below w5.heap.size w5 wr) (fun _ i _ => L - (intOf i).toNat)
      case atStart => exact ⟨0, Nat.zero_le _, rfl, Own.nil _ _ _, Below.refl _ _⟩
      case round =>
        obtain ⟨k, hk, rfl, hown, hbel⟩ := hrel
        have hszr := hbel.size
        by_cases hlt : k < L
        · obtain ⟨b6, o6, rfl, hb6, hc6⟩ := hr5.at_ (by omega)
          have g6 : wr.cell? ⟨b6, o6 + k, none⟩ = some (.int .i64 (ns.getD k 0)) := (hbel.cell (by exact hb6)).trans (hc6 k hlt)
          clear hc6
          have hkn : k < ns.length := by rw [← HL.out]; exact hlt
          obtain ⟨q1, q2⟩ := nums_at HNU.out hkn
          have hct := codes_take El.delta ns k hkn
          have hcl := codes_le El.delta ns (k + 1)
          rw [HCD.out, HX.out] at hcl
          obtain ⟨m, hm⟩ : ∃ m : Nat, ns.getD k 0 = m := ⟨(ns.getD k 0).toNat, by omega⟩
          rw [hm] at g6 hct q1 q2
          rw [Int.toNat_natCast] at hct
          rw [hct, List.length_append] at hcl
          have HCT := Lib.hid hct
          clear hct hm hkn
          have hm1 : 1 ≤ m := by omega
          have hm2 : m ≤ 1000000 := by omega
          go_wp2_with fail
          refine (Delta_yes m _ hm1 hm2).mono ?_
          rintro e w7 ⟨v7, rfl, hown7, hb7⟩
          obtain ⟨A7, c7, rfl, hr7⟩ := hown7.rd
          have hown' := hown.below hb7
          have hs7 := hb7.size
          have hw7 : Below w5.heap.size w5 w7 := hbel.trans (hb7.mono hszr)
          go_wp2_with (at_builtin; refine wpList_app _ rfl (.tmp 76) (.tmp 77) _ rfl w5.heap.size 3 Try.underlying26 intInfo _ _ rfl hown' _ _ _ _ rfl hr7 (by omega) (by omega) ?_; intro v8 w8 hown8 hg8 hat8)
          have hw8 := below_app hw7 hown' hg8 (by omega)
          go_roundw
          case rel => exact ⟨k + 1, by omega, by go_num, by rw [HCT.out]; exact hown8, hw8⟩
          case measure => simp [intOf]; omega
        · obtain rfl : k = L := by omega
          have hall : El.codes El.delta (ns.take k) = z0 := by rw [List.take_of_length_le (by rw [HL.out]; exact Nat.le_refl _)]; exact HCD.out
          rw [hall] at hown
          clear hall
          obtain ⟨A9, c9, rfl, hr9⟩ := hown.rd
          rw [HX.out] at hr9 ⊢
          have hrb := (hrp.past hb5).past hbel
          go_wp2_with fail
          refine (Ints_any _ _ _ _ _ _ z0 z0 _ hr9 hrb).mono ?_
          rintro e w10 ⟨rfl, hb10⟩
          go_wp2
          go_ret
          exact ⟨by simp, ((hwp.trans (hb5.mono hsp)).trans (hbel.mono (by omega))).trans (hb10.mono (by omega))⟩
  · obtain ⟨hlen, hbits, _, _⟩ := rcode_zero h0
    rw [HX.out] at hlen
    obtain ⟨hcodes, hnums⟩ := El.readG_some hbits h1
    clear h0 h1
    obtain ⟨A2, c2, rfl, hr2⟩ := hown2.rd
    obtain ⟨L, hL⟩ : ∃ L, L = ns.length := ⟨_, rfl⟩
    have hbigL := hr2.big
    rw [← hL] at hr2 hbigL ⊢
    have HL := Lib.hid hL
    have HCD := Lib.hid hcodes
    have HNU := Lib.hid hnums
    have hs2 := hb2.size
    clear hL hcodes hnums hown2
    go_wp2_with fail
    go_loopw [6, 7] (fun v i wr => ∃ k : Nat, k ≤ L ∧ i = .int .i64 k ∧ Own wr w2.heap.size 3 v (El.codes El.gamma (ns.take k)) ∧ Below w2.heap.size w2 wr) (fun _ i _ => L - (intOf i).toNat)
    case atStart => exact ⟨0, Nat.zero_le _, rfl, Own.nil _ _ _, Below.refl _ _⟩
    case round =>
      obtain ⟨k, hk, rfl, hown, hbel⟩ := hrel
      have hszr := hbel.size
      by_cases hlt : k < L
      · obtain ⟨b6, o6, rfl, hb6, hc6⟩ := hr2.at_ (by omega)
        have g6 : wr.cell? ⟨b6, o6 + k, none⟩ = some (.int .i64 (ns.getD k 0)) := (hbel.cell (by exact hb6)).trans (hc6 k hlt)
        clear hc6
        have hkn : k < ns.length := by rw [← HL.out]; exact hlt
        obtain ⟨q1, q2⟩ := nums_at HNU.out hkn
        have hct := codes_take El.gamma ns k hkn
        have hcl := codes_le El.gamma ns (k + 1)
        rw [HCD.out, HX.out] at hcl
        obtain ⟨m, hm⟩ : ∃ m : Nat, ns.getD k 0 = m := ⟨(ns.getD k 0).toNat, by omega⟩
        rw [hm] at g6 hct q1 q2
        rw [Int.toNat_natCast] at hct
        rw [hct, List.length_append] at hcl
        have HCT := Lib.hid hct
        clear hct hm hkn
        have hm1 : 1 ≤ m := by omega
        have hm2 : m ≤ 1000000 := by omega
        go_wp2_with fail
        refine (Gamma_yes m _ hm1 hm2).mono ?_
        rintro e w7 ⟨v7, rfl, hown7, hb7⟩
        obtain ⟨A7, c7, rfl, hr7⟩ := hown7.rd
        have hown' := hown.below hb7
        have hs7 := hb7.size
        have hw7 : Below w2.heap.size w2 w7 := hbel.trans (hb7.mono hszr)
        go_wp2_with (at_builtin; refine wpList_app _ rfl (.tmp 40) (.tmp 41) _ rfl w2.heap.size 3 Try.underlying26 intInfo _ _ rfl hown' _ _ _ _ rfl hr7 (by omega) (by omega) ?_; intro v8 w8 hown8 hg8 hat8)
        have hw8 := below_app hw7 hown' hg8 (by omega)
        go_roundw
        case rel => exact ⟨k + 1, by omega, by go_num, by rw [HCT.out]; exact hown8, hw8⟩
        case measure => simp [intOf]; omega
      · obtain rfl : k = L := by omega
        have hall : El.codes El.gamma (ns.take k) = z0 := by rw [List.take_of_length_le (by rw [HL.out]; exact Nat.le_refl _)]; exact HCD.out
        rw [hall] at hown
        clear hall
        obtain ⟨A9, c9, rfl, hr9⟩ := hown.rd
        rw [HX.out] at hr9 ⊢
        have hrb := (hr1.past hb2).past hbel
        go_wp2_with fail
        refine (Ints_any _ _ _ _ _ _ z0 z0 _ hr9 hrb).mono ?_
        rintro e w10 ⟨rfl, hb10⟩
        have hwp : Below w.heap.size w w10 := ((hb1.trans (hb2.mono hs1)).trans (hbel.mono (by omega))).trans (hb10.mono (by omega))
        have hrp := hrb.past hb10
        have hyes : decide (z0 = z0) = true := by simp
        clear hlen hb1 hb2 hr1 hr2 hown hbel hr9 hrb hb10 HL HCD HNU hbits
        rw [hyes]
        clear hyes
        go_wp2_with fail
        refine (ReadDelta_any _ _ _ z0 _ hrp).mono ?_
        rintro e w5 ⟨hb5, ⟨h0, rfl⟩ | ⟨v5, ns, h0, h1, rfl, hown5⟩⟩
        · have H0 := Lib.hid h0
          clear h0
          go_wp2
          go_ret
          exact ⟨rfl, hwp.trans (hb5.mono hwp.size)⟩
        · obtain ⟨hlen, hbits, _, _⟩ := rcode_zero h0
          rw [HX.out] at hlen
          obtain ⟨hcodes, hnums⟩ := El.readD_some hbits h1
          clear h0 h1
          obtain ⟨A5, c5, rfl, hr5⟩ := hown5.rd
          obtain ⟨L, hL⟩ : ∃ L, L = ns.length := ⟨_, rfl⟩
          have hbigL := hr5.big
          rw [← hL] at hr5 hbigL ⊢
          have HL := Lib.hid hL
          have HCD := Lib.hid hcodes
          have HNU := Lib.hid hnums
          have hsp := hwp.size
          have hs5 := hb5.size
          clear hL hcodes hnums hown5
          go_wp2_with fail
          go_loopw [10, 11] (fun v i wr => ∃ k : Nat, k ≤ L ∧ i = .int .i64 k ∧ Own wr w5.heap.size 3 v (El.codes El.delta (ns.take k)) ∧ Below w5.heap.size w5 wr) (fun _ i _ => L - (intOf i).toNat)
          case atStart => exact ⟨0, Nat.zero_le _, rfl, Own.nil _ _ _, Below.refl _ _⟩
          case round =>
            obtain ⟨k, hk, rfl, hown, hbel⟩ := hrel
            have hszr := hbel.size
            by_cases hlt : k < L
            · obtain ⟨b6, o6, rfl, hb6, hc6⟩ := hr5.at_ (by omega)
              have g6 : wr.cell? ⟨b6, o6 + k, none⟩ = some (.int .i64 (ns.getD k 0)) := (hbel.cell (by exact hb6)).trans (hc6 k hlt)
              clear hc6
              have hkn : k < ns.length := by rw [← HL.out]; exact hlt
              obtain ⟨q1, q2⟩ := nums_at HNU.out hkn
              have hct := codes_take El.delta ns k hkn
              have hcl := codes_le El.delta ns (k + 1)
              rw [HCD.out, HX.out] at hcl
              obtain ⟨m, hm⟩ : ∃ m : Nat, ns.getD k 0 = m := ⟨(ns.getD k 0).toNat, by omega⟩
              rw [hm] at g6 hct q1 q2
              rw [Int.toNat_natCast] at hct
              rw [hct, List.length_append] at hcl
              have HCT := Lib.hid hct
              clear hct hm hkn
              have hm1 : 1 ≤ m := by omega
              have hm2 : m ≤ 1000000 := by omega
              go_wp2_with fail
              refine (Delta_yes m _ hm1 hm2).mono ?_
              rintro e w7 ⟨v7, rfl, hown7, hb7⟩
              obtain ⟨A7, c7, rfl, hr7⟩ := hown7.rd
              have hown' := hown.below hb7
              have hs7 := hb7.size
              have hw7 : Below w5.heap.size w5 w7 := hbel.trans (hb7.mono hszr)
              go_wp2_with (at_builtin; refine wpList_app _ rfl (.tmp 76) (.tmp 77) _ rfl w5.heap.size 3 Try.underlying26 intInfo _ _ rfl hown' _ _ _ _ rfl hr7 (by omega) (by omega) ?_; intro v8 w8 hown8 hg8 hat8)
              have hw8 := below_app hw7 hown' hg8 (by omega)
              go_roundw
              case rel => exact ⟨k + 1, by omega, by go_num, by rw [HCT.out]; exact hown8, hw8⟩
              case measure => simp [intOf]; omega
            · obtain rfl : k = L := by omega
              have hall : El.codes El.delta (ns.take k) = z0 := by rw [List.take_of_length_le (by rw [HL.out]; exact Nat.le_refl _)]; exact HCD.out
              rw [hall] at hown
              clear hall
              obtain ⟨A9, c9, rfl, hr9⟩ := hown.rd
              rw [HX.out] at hr9 ⊢
              have hrb := (hrp.past hb5).past hbel
              go_wp2_with fail
              refine (Ints_any _ _ _ _ _ _ z0 z0 _ hr9 hrb).mono ?_
              rintro e w10 ⟨rfl, hb10⟩
              go_wp2
              go_ret
              exact ⟨by simp, ((hwp.trans (hb5.mono hsp)).trans (hbel.mono (by omega))).trans (hb10.mono (by omega))⟩

end Go.Proofs.Ytnjfnfooljlnkaa.eliasOnly
