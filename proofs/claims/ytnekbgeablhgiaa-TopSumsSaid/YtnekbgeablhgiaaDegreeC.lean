/-
  The contract of package degree's Can: whether the numbers can be degrees, by the test of sums, or what is wrong.
-/
import Derived.Test.YtnekbgeablhgiaaDegreeA
import Derived.Test.YtnekbgeablhgiaaSortV
import Derived.Test.YtnekbgeablhgiaaRev
namespace Go.Proofs.Ytnekbgeablhgiaa
open Go.RowKit

theorem dsum_t {B : Nat} (A : Option Addr) (n c : Nat) (l : List Int) (a : Int) (w : World) (hr : Rd w B A n c l) (hb : ∀ d ∈ l, 0 ≤ d ∧ d ≤ 7) (h8 : n ≤ 8) (ha : De.tot l = a) :
    Calls Try.prog 38 #[.slice A n c] w fun e w' => e = .returned (.int .i64 a) ∧ w' = w :=
  (dsum_any A n c l w hr hb h8).mono fun _ _ h => ⟨h.1.trans (by rw [ha]), h.2.symm⟩
theorem mostEnds_t {B : Nat} (q : Nat) (A : Option Addr) (n c : Nat) (l : List Int) (a : Int) (w : World) (hr : Rd w B A n c l) (hb : ∀ d ∈ l, 0 ≤ d ∧ d ≤ 7) (h8 : n ≤ 8) (hq : q ≤ 8) (ha : (q : Int) * ((q : Int) - 1) + De.ends (q : Int) l = a) :
    Calls Try.prog 39 #[.int .i64 (q : Int), .slice A n c] w fun e w' => e = .returned (.int .i64 a) ∧ w' = w :=
  (mostEnds_any q A n c l w hr hb h8 hq).mono fun _ _ h => ⟨h.1.trans (by rw [ha]), h.2.symm⟩
theorem DCheck_nil {B : Nat} (A : Option Addr) (n c : Nat) (l : List Int) (w : World) (hr : Rd w B A n c l) (h : De.code l = 0) :
    Calls Try.prog 34 #[.slice A n c] w fun e w' => e = .returned .nilIface ∧ w = w' :=
  (DCheck_any A n c l w hr).mono fun _ _ h' => ⟨h'.1.trans (by rw [errOf_zero h]), h'.2⟩
theorem DCheck_err {B : Nat} (A : Option Addr) (n c : Nat) (l : List Int) (w : World) (hr : Rd w B A n c l) (h : De.code l ≠ 0) :
    Calls Try.prog 34 #[.slice A n c] w fun e w' => e = .returned (errv (De.code l)) ∧ w = w' :=
  (DCheck_any A n c l w hr).mono fun _ _ h' => ⟨h'.1.trans (by rw [errOf_pos h]), h'.2⟩

theorem sq_cast (k : Nat) : ((k * (k - 1) : Nat) : Int) = (k : Int) * ((k : Int) - 1) := by
  cases k with
  | zero => rfl
  | succ k =>
    rw [Nat.succ_sub_one, Int.natCast_mul]
    congr 1
    omega

theorem Can_err (A : Option Addr) (n c : Nat) (l : List Int) (w : World) (hr : Rd w w.heap.size A n c l) (h : De.code l ≠ 0) :
    Calls Try.prog 14 #[.slice A n c] w fun e w' => e = .returned (.tuple #[.bool false, errv (De.code l)]) ∧ Below w.heap.size w w' := by
  have H := Lib.hid h
  clear h
  go_enter Try.func14, Try.ntmps14
  go_wp2_with fail
  refine (DCheck_err A n c l _ hr H.out).mono ?_
  rintro e w1 ⟨rfl, rfl⟩
  go_wp2
  go_ret2
  exact ⟨rfl, Below.refl _ _⟩

set_option maxRecDepth 100000 in
set_option maxHeartbeats 2000000 in
theorem Can_ok (A : Option Addr) (n c : Nat) (l : List Int) (t : Bool) (w : World) (hr : Rd w w.heap.size A n c l) (h : De.code l = 0) (ht : De.can l = t) :
    Calls Try.prog 14 #[.slice A n c] w fun e w' => e = .returned (.tuple #[.bool t, .nilIface]) ∧ Below w.heap.size w w' := by
  obtain ⟨hl1, hl8, hok⟩ := De.code_zero.1 h
  have hn8 : n ≤ 8 := by rw [← hr.len]; exact hl8
  have hn1 : 1 ≤ n := by rw [← hr.len]; exact hl1
  obtain ⟨F, hF⟩ : ∃ F, F = De.fl l := ⟨_, rfl⟩
  have hFn : F.length = n := by rw [hF, De.fl_len]; exact hr.len
  have hs : (l.mergeSort fun x y => decide (x ≤ y)).reverse = De.up F := by rw [hF]; exact De.sorted_fl fun d hd => (hok d hd).1
  have hF7 : ∀ d ∈ De.up F, 0 ≤ d ∧ d ≤ 7 := by
    intro d hd
    rw [← hs, List.mem_reverse, List.mem_mergeSort] at hd
    exact hok d hd
  have ht' : De.egFrom F 0 0 = t := by rw [← ht, hF]; rfl
  have HL := Lib.hid hr.len
  have H := Lib.hid h
  have HS := Lib.hid hs
  have HN := Lib.hid hFn
  have H7 := Lib.hid hF7
  have HT := Lib.hid ht'
  clear h hs hFn hF7 ht' ht hF hok hl1 hl8
  go_enter Try.func14, Try.ntmps14
  go_wp2_with fail
  refine (DCheck_nil A n c l _ hr H.out).mono ?_
  rintro e w1 ⟨rfl, rfl⟩
  go_wp2_with fail
  refine (Values_any A n c _).mono ?_
  rintro e w1 ⟨rfl, rfl⟩
  go_wp2_with fail
  refine (Sorted_any w.heap.size A n c l _ (by simp) ((hr.alloc (Nat.le_refl _) _).more (by simp)) (by omega)).mono ?_
  rintro e w2 ⟨v, rfl, hown, hb⟩
  go_wp2_with fail
  refine (rev_own _ v _ _ hown).mono ?_
  rintro e w3 ⟨rfl, hown3, hg⟩
  have hb0 : Below w.heap.size w (w.alloc (.cells #[.slice A n c] 23)) := (Below.refl _ _).alloc (Nat.le_refl _) _
  have hb3 : Below w.heap.size w w3 := (hb0.trans (hb.mono hb0.size)).grown hg (Nat.le_trans hb0.size hb.size) (fun k e => Nat.le_trans hb0.size (hown.at_base k e))
  rw [HS.out] at hown3
  clear hg hown hb hb0
  obtain ⟨A3, c3, rfl, hr3⟩ := hown3.rd
  have hlen : (De.up F).length = n := by rw [De.up_len]; exact HN.out
  rw [hlen] at hr3 hown3 ⊢
  clear hlen hown3
  obtain ⟨b3, o3, rfl, hbb3, _⟩ := hr3.at_ (by omega)
  have hc3 := hr3.cap
  have hnc3 := hr3.le
  obtain ⟨s, hs⟩ : ∃ s : Int, s = De.tot (De.up F) := ⟨_, rfl⟩
  have hs0 : 0 ≤ s := by rw [hs]; exact (De.tot_bound H7.out).1
  have hs56 : s ≤ 56 := by have := (De.tot_bound H7.out).2; rw [De.up_len, HN.out] at this; omega
  have hsN : s = (De.sm F : Nat) := by rw [hs, De.tot_up]
  have HSM := Lib.hid hs
  have HSN := Lib.hid hsN
  clear hs hsN
  go_wp2_with fail
  refine (dsum_t _ n c3 (De.up F) s _ hr3 H7.out hn8 HSM.out.symm).mono ?_
  rintro e w4 ⟨rfl, rfl⟩
  by_cases hev : s % 2 = 0
  · have hd : (s % 2 != 0) = false := by rw [hev]; rfl
    have HEV := Lib.hid hev
    clear hev
    go_wp2
    go_loopw [6, 24] (fun _ i wr => ∃ k : Nat, k ≤ n + 1 ∧ i = .int .i64 k ∧ Below w4.heap.size w4 wr ∧ Hid (k ≤ n → t = De.egFrom (F.drop k) k (De.sm (F.take k))) ∧ Hid (k = n + 1 → t = true)) (fun _ i _ => n + 1 - (intOf i).toNat)
    case atStart => exact ⟨0, Nat.zero_le _, rfl, Below.refl _ _, fun _ => HT.out.symm, fun h0 => by omega⟩
    case round =>
      obtain ⟨k, hk, rfl, hbel, H1, H2⟩ := hrel
      by_cases hlt : k < n + 1
      · have hrk : Rd wr w4.heap.size (some ⟨b3, o3, none⟩) n c3 (De.up F) := hr3.below hbel
        have hrt := hrk.take (k := k) (by omega)
        rw [De.up_take] at hrt
        have h7t : Hid (∀ d ∈ De.up (F.take k), 0 ≤ d ∧ d ≤ 7) := fun d hd => H7.out d (by rw [← De.up_take] at hd; exact List.mem_of_mem_take hd)
        have h7d : Hid (∀ d ∈ De.up (F.drop k), 0 ≤ d ∧ d ≤ 7) := fun d hd => H7.out d (by rw [← De.up_drop] at hd; exact List.mem_of_mem_drop hd)
        obtain ⟨x, hx⟩ : ∃ x : Int, x = De.tot (De.up (F.take k)) := ⟨_, rfl⟩
        obtain ⟨y, hy⟩ : ∃ y : Int, y = (k : Int) * ((k : Int) - 1) + De.ends (k : Int) (De.up (F.drop k)) := ⟨_, rfl⟩
        have hxN : x = ((De.sm (F.take k) : Nat) : Int) := by rw [hx, De.tot_up]
        have hyN : y = ((k * (k - 1) + De.mins k (F.drop k) : Nat) : Int) := by rw [hy, De.ends_up, Int.natCast_add, sq_cast]
        have HX := Lib.hid hx
        have HY := Lib.hid hy
        have hcmp : Hid (y < x ↔ k * (k - 1) + De.mins k (F.drop k) < De.sm (F.take k)) := by show _ ↔ _; omega
        clear hx hy hxN hyN
        by_cases hgt : y < x
        · have hfin : Hid (t = false) := by show _ = _; rw [H1.out (by omega)]; exact De.egFrom_bad (hcmp.out.1 hgt)
          by_cases hck : c3 = k
          · have hrd : Rd wr w4.heap.size (some ⟨b3, o3, none⟩) (n - k) (c3 - k) (De.up (F.drop k)) := by
              have := hrk.drop (k := k) (by omega)
              rwa [De.up_drop, if_pos hck] at this
            subst hck
            obtain rfl : n = c3 := by omega
            rw [Nat.sub_self] at hrd
            go_wp2
            go_quiet (first | (go_at_call 38; exact Calls.quiet_of_same (dsum_t _ _ _ _ x _ (hrt.drewN _) h7t.out (by omega) HX.out.symm)) | (go_at_call 39; exact Calls.quiet_of_same (mostEnds_t _ _ _ _ _ y _ (hrd.drewN _) h7d.out (by omega) (by omega) HY.out.symm)))
            go_wp2
            go_ret2
            exact ⟨by rw [hfin.out]; rfl, (hb3.trans (hbel.mono hb3.size)).trans (Below.drewN' _ _ _)⟩
          · have hrd : Rd wr w4.heap.size (some ⟨b3, o3 + k, none⟩) (n - k) (c3 - k) (De.up (F.drop k)) := by
              have := hrk.drop_lit (k := k) (by omega) hck
              rwa [De.up_drop] at this
            go_wp2
            go_quiet (first | (go_at_call 38; exact Calls.quiet_of_same (dsum_t _ _ _ _ x _ (hrt.drewN _) h7t.out (by omega) HX.out.symm)) | (go_at_call 39; exact Calls.quiet_of_same (mostEnds_t _ _ _ _ _ y _ (hrd.drewN _) h7d.out (by omega) (by omega) HY.out.symm)))
            go_wp2
            go_ret2
            exact ⟨by rw [hfin.out]; rfl, (hb3.trans (hbel.mono hb3.size)).trans (Below.drewN' _ _ _)⟩
        · have hnx1 : Hid (k + 1 ≤ n → t = De.egFrom (F.drop (k + 1)) (k + 1) (De.sm (F.take (k + 1)))) := by
            intro hk1
            have hkl : k < F.length := by rw [HN.out]; omega
            have hle : De.sm (F.take k) ≤ k * (k - 1) + De.mins k (F.drop k) := by
              rcases Nat.lt_or_ge (k * (k - 1) + De.mins k (F.drop k)) (De.sm (F.take k)) with h | h
              · exact absurd (hcmp.out.2 h) hgt
              · exact h
            rw [H1.out (by omega), List.drop_eq_getElem_cons hkl]
            rw [List.drop_eq_getElem_cons hkl] at hle
            rw [De.egFrom_step hle, List.take_succ_eq_append_getElem hkl, De.sm_app]
            rfl
          have hnx2 : Hid (k + 1 = n + 1 → t = true) := by
            intro hk1
            have hle : De.sm (F.take k) ≤ k * (k - 1) + De.mins k (F.drop k) := by
              rcases Nat.lt_or_ge (k * (k - 1) + De.mins k (F.drop k)) (De.sm (F.take k)) with h | h
              · exact absurd (hcmp.out.2 h) hgt
              · exact h
            have hkn : F.length ≤ k := by rw [HN.out]; omega
            rw [H1.out (by omega), List.drop_eq_nil_of_le hkn]
            rw [List.drop_eq_nil_of_le hkn] at hle
            refine De.egFrom_end hle ?_
            rw [List.take_of_length_le hkn]
            have := HSN.out
            have := HEV.out
            omega
          by_cases hck : c3 = k
          · have hrd : Rd wr w4.heap.size (some ⟨b3, o3, none⟩) (n - k) (c3 - k) (De.up (F.drop k)) := by
              have := hrk.drop (k := k) (by omega)
              rwa [De.up_drop, if_pos hck] at this
            subst hck
            obtain rfl : n = c3 := by omega
            rw [Nat.sub_self] at hrd
            go_wp2
            go_quiet (first | (go_at_call 38; exact Calls.quiet_of_same (dsum_t _ _ _ _ x _ (hrt.drewN _) h7t.out (by omega) HX.out.symm)) | (go_at_call 39; exact Calls.quiet_of_same (mostEnds_t _ _ _ _ _ y _ (hrd.drewN _) h7d.out (by omega) (by omega) HY.out.symm)))
            go_wp2
            go_roundw
            case rel => exact ⟨n + 1, by omega, by go_num, hbel.trans (Below.drewN' _ _ _), hnx1, fun _ => hnx2.out trivial⟩
            case measure => simp [intOf]
          · have hrd : Rd wr w4.heap.size (some ⟨b3, o3 + k, none⟩) (n - k) (c3 - k) (De.up (F.drop k)) := by
              have := hrk.drop_lit (k := k) (by omega) hck
              rwa [De.up_drop] at this
            go_wp2
            go_quiet (first | (go_at_call 38; exact Calls.quiet_of_same (dsum_t _ _ _ _ x _ (hrt.drewN _) h7t.out (by omega) HX.out.symm)) | (go_at_call 39; exact Calls.quiet_of_same (mostEnds_t _ _ _ _ _ y _ (hrd.drewN _) h7d.out (by omega) (by omega) HY.out.symm)))
            go_wp2
            go_roundw
            case rel => exact ⟨k + 1, by omega, by go_num, hbel.trans (Below.drewN' _ _ _), hnx1, hnx2⟩
            case measure => simp [intOf]; omega
      · have hfin : Hid (t = true) := H2.out (by omega)
        go_wp2
        go_ret2
        exact ⟨by rw [hfin.out]; rfl, hb3.trans (hbel.mono hb3.size)⟩
  · have hd : (s % 2 != 0) = true := by simpa using hev
    have hfin : Hid (t = false) := by
      show _ = _
      rw [← HT.out]
      exact De.egFrom_odd (by have := HSN.out; omega)
    clear hev
    go_wp2
    go_ret2
    exact ⟨by rw [hfin.out]; rfl, hb3⟩

end Go.Proofs.Ytnekbgeablhgiaa
