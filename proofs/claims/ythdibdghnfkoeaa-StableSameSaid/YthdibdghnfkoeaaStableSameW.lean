/-
  The walk of the law StableSame: for every two sides and pairs it returns true.
-/
import Derived.Test.YthdibdghnfkoeaaStableG
import Derived.Test.YthdibdghnfkoeaaStableH
import Derived.Test.YthdibdghnfkoeaaStableO
import Derived.Test.YthdibdghnfkoeaaRefTwo
import Derived.Test.YthdibdghnfkoeaaTwice
import Derived.Test.YthdibdghnfkoeaaIn2
namespace Go.Proofs.Ythdibdghnfkoeaa.stableSame
open Go.RowKit Go.Shelf
set_option linter.unusedSimpArgs false
set_option linter.unusedVariables false

set_option maxRecDepth 100000 in
set_option maxHeartbeats 1000000 in
/-- something is wrong with the rankings -/
theorem bad (w : World) (a0 : Option Addr) (n0 c0 : Nat) (z0 : List (List Int)) (w0 : RdR w w.heap.size a0 n0 c0 z0) (a1 : Option Addr) (n1 c1 : Nat) (z1 : List (List Int)) (w1 : RdR w w.heap.size a1 n1 c1 z1) (a2 : Option Addr) (n2 c2 : Nat) (z2 : List Int) (w2 : Rd w w.heap.size a2 n2 c2 z2) (hc : St.code z0 z1 ≠ 0) :
    Calls Try.prog 5 #[.slice a0 n0 c0, .slice a1 n1 c1, .slice a2 n2 c2] w fun e w' => e = .returned (.bool true) ∧ Below w.heap.size w w' := by
  have HN := Lib.hid hc
  have HM : Hid (St.code z1 z0 ≠ 0) := fun e => hc (St.code_turn e)
  clear hc
  go_enter Try.func5, Try.ntmps5
  go_wp2_with fail
  refine (stableFact_any _).mono ?_
  rintro e x1 ⟨rfl, b1⟩
  go_wp2_with fail
  refine (Pairs_err a0 a1 n0 n1 c0 c1 z0 z1 _ (w0.past b1) (w1.past b1) HN.out).mono ?_
  rintro e x2 ⟨rfl, b2⟩
  have b02 := b1.trans (b2.mono b1.size)
  go_wp2_with fail
  refine (Pairs_err a1 a0 n1 n0 c1 c0 z1 z0 _ (w1.past b02) (w0.past b02) HM.out).mono ?_
  rintro e x3 ⟨rfl, b3⟩
  go_wp2
  go_ret
  exact ⟨rfl, b02.trans (b3.mono b02.size)⟩

/-- what is known behind the loop -/
def Mid (n : Nat) (a0 a1 a2 A3 : Option Addr) (c0 c1 n2 c2 c3 : Nat) (z0 z1 : List (List Int)) (z2 : List Int) (g : List Nat) (w wr : World) : Prop :=
  RdR wr wr.heap.size a0 n c0 z0 ∧ RdR wr wr.heap.size a1 n c1 z1 ∧ Rd wr wr.heap.size a2 n2 c2 z2 ∧ Rd wr wr.heap.size A3 n c3 (St.up g) ∧ Below w.heap.size w wr
theorem Mid.past {n : Nat} {a0 a1 a2 A3 : Option Addr} {c0 c1 n2 c2 c3 : Nat} {z0 z1 : List (List Int)} {z2 : List Int} {g : List Nat} {w wr w' : World} (h : Mid n a0 a1 a2 A3 c0 c1 n2 c2 c3 z0 z1 z2 g w wr) (hb : Below wr.heap.size wr w') : Mid n a0 a1 a2 A3 c0 c1 n2 c2 c3 z0 z1 z2 g w w' :=
  ⟨h.1.past hb, h.2.1.past hb, h.2.2.1.past hb, h.2.2.2.1.past hb, h.2.2.2.2.trans (hb.mono h.2.2.2.2.size)⟩

set_option maxRecDepth 100000 in
set_option maxHeartbeats 4000000 in
/-- nothing is wrong with them -/
theorem good (w : World) (n : Nat) (a0 : Option Addr) (c0 : Nat) (z0 : List (List Int)) (w0 : RdR w w.heap.size a0 n c0 z0) (a1 : Option Addr) (c1 : Nat) (z1 : List (List Int)) (w1 : RdR w w.heap.size a1 n c1 z1) (a2 : Option Addr) (n2 c2 : Nat) (z2 : List Int) (w2 : Rd w w.heap.size a2 n2 c2 z2) (hc : St.code z0 z1 = 0) :
    Calls Try.prog 5 #[.slice a0 n c0, .slice a1 n c1, .slice a2 n2 c2] w fun e w' => e = .returned (.bool true) ∧ Below w.heap.size w w' := by
  have HN := Lib.hid hc
  have HM : Hid (St.code z1 z0 = 0) := St.code_turn hc
  have hcz := St.code_zero.1 hc
  rw [w0.len] at hcz
  have h6 := hcz.1
  have HL := Lib.hid hcz.2.1
  have HR := Lib.hid hcz.2.2
  clear hc hcz
  have s1 : IntKind.i64.wrap ((n : Int) - 1) = (n : Int) - 1 := by rw [IntKind.wrap_i64]; omega
  have s2 : ((n : Int) != (n : Int)) = false := by simp
  have s3 : (n != n) = false := by simp
  go_enter Try.func5, Try.ntmps5
  go_wp2_with fail
  refine (stableFact_any _).mono ?_
  rintro e x1 ⟨rfl, b1⟩
  go_wp2_with fail
  refine (Pairs_rd n a0 a1 c0 c1 z0 z1 _ (w0.past b1) (w1.past b1) HN.out).mono ?_
  rintro e x2 ⟨A3, c3, g, rfl, hopt, hr3, b2⟩
  have b02 := b1.trans (b2.mono b1.size)
  go_wp2_with fail
  refine (Pairs_rd n a1 a0 c1 c0 z1 z0 _ (w1.past b02) (w0.past b02) HM.out).mono ?_
  rintro e x3 ⟨A4, c4, r, rfl, hopt2, hr4, b3⟩
  have b03 := b02.trans (b3.mono b02.size)
  have hM : Mid n a0 a1 a2 A3 c0 c1 n2 c2 c3 z0 z1 z2 g w x3 := ⟨w0.past b03, w1.past b03, w2.past b03, hr3.past b3, b03⟩
  have HO := Lib.hid hopt
  have HO2 := Lib.hid hopt2
  clear hopt hopt2 b1 b2 b02 b3 b03 hr3 w0 w1 w2
  go_wp2
  go_loopw [12, 13, 14] (fun fv sv iv wr => ∃ (k : Nat) (t : Bool), k ≤ n ∧ iv = .int .i64 (k : Int) ∧ sv = .bool t ∧ Hid (t = St.same g r k) ∧ Own wr x3.heap.size 3 fv (St.firsts z0 k) ∧ Below x3.heap.size x3 wr) (fun _ _ iv _ => n - (intOf iv).toNat)
  case atStart => exact ⟨0, true, Nat.zero_le _, rfl, rfl, (St.same_zero _ _).symm, Own.nil _ _ _, Below.refl _ _⟩
  case round =>
    obtain ⟨k, t, hk, rfl, rfl, HT, hown, hbel⟩ := hrel
    have hsz := hbel.size
    by_cases hlt : k < n
    · have hrow := HL.out.row hlt
      obtain ⟨b0, o0, rfl, hb0, hc0⟩ := (hM.1.below hbel).at_ (by omega)
      obtain ⟨d0, e0, f0, r0⟩ := hc0 k hlt
      have hl0 : 0 < (z0.getD k []).length := by rw [hrow.len]; omega
      obtain ⟨q0, p0, rfl, hq0, hcc⟩ := r0.at_ hl0
      have f1 := hcc 0 hl0
      rw [Nat.add_zero] at f1
      clear hcc
      obtain ⟨x, hx⟩ : ∃ x, x = (z0.getD k []).getD 0 0 := ⟨_, rfl⟩
      rw [← hx] at f1
      have HF : Hid (St.firsts z0 (k + 1) = St.firsts z0 k ++ [x]) := St.firsts_succ z0 k x hx
      have hlen := hrow.len
      rw [hlen] at f0
      have hroom : (St.firsts z0 k).length + 1 ≤ 17592186044416 := by rw [St.firsts_len]; omega
      clear hx hc0 hlen hl0 hrow r0
      obtain ⟨b3, o3, rfl, hb3, hc3⟩ := (hM.2.2.2.1.below hbel).at_ (by omega)
      have f3 := hc3 k hlt
      obtain ⟨b4, o4, rfl, hb4, hc4⟩ := (hr4.below hbel).at_ (by omega)
      have hgk := HO.out.1.at_lt hlt
      have f4 := hc4 (g.getD k 0) hgk
      rw [St.up_at] at f3 f4
      have HT2 : Hid (St.same g r (k + 1) = (t && decide (r.getD (g.getD k 0) 0 = k))) := by show _ = _; rw [St.same_succ, ← HT.out]
      clear hc3 hc4
      generalize r.getD (g.getD k 0) 0 = v at f4 HT2
      generalize g.getD k 0 = u at f3 f4 hgk
      have k1 : (0 : Int) ≤ (k : Int) := by omega
      have k2 : (k : Int) < (n : Int) := by omega
      have u1 : (0 : Int) ≤ (u : Int) := by omega
      have u2 : (u : Int) < (n : Int) := by omega
      have n0 : (0 : Int) < (n : Int) := by omega
      have hownA := hown.below ((Below.refl _ _).alloc (Nat.le_refl _) (.cells #[.int .i64 x] 3))
      have hbA := hbel.alloc hsz (.cells #[.int .i64 x] 3)
      cases t with
      | false =>
        have HT3 : Hid (false = St.same g r (k + 1)) := by show _ = _; rw [HT2.out]; rfl
        clear HT2
        go_wp2_with (at_builtin; refine wpList_app _ rfl (.tmp 62) (.tmp 69) _ rfl x3.heap.size 3 Try.underlying24 intInfo _ (St.firsts z0 k) rfl hownA (some ⟨wr.heap.size, 0, none⟩) 1 1 [x] rfl (Rd.one _ _ _) hroom hbA.size ?_; intro v3 y3 hown3 hg3 hat3; have hb3' := below_app hbA hownA hg3 hbA.size)
        go_roundw
        case rel => exact ⟨k + 1, false, by omega, by go_num, rfl, HT3, by rw [HF.out]; exact hown3, hb3'⟩
        case measure => simp [intOf]; omega
      | true =>
        by_cases hv : v = k
        · have HT3 : Hid (true = St.same g r (k + 1)) := by show _ = _; rw [HT2.out]; simp [hv]
          have d1 : ((v : Int) == (k : Int)) = true := by simp [hv]
          have d2 : (v == k) = true := by simpa using hv
          clear HT2 hv
          go_wp2_with (at_builtin; refine wpList_app _ rfl (.tmp 62) (.tmp 69) _ rfl x3.heap.size 3 Try.underlying24 intInfo _ (St.firsts z0 k) rfl hownA (some ⟨wr.heap.size, 0, none⟩) 1 1 [x] rfl (Rd.one _ _ _) hroom hbA.size ?_; intro v3 y3 hown3 hg3 hat3; have hb3' := below_app hbA hownA hg3 hbA.size; replace f3 := (hb3'.cell (p := ⟨b3, o3 + k, none⟩) hb3).trans ((hbel.cell (p := ⟨b3, o3 + k, none⟩) hb3).symm.trans f3); replace f4 := (hb3'.cell (p := ⟨b4, o4 + u, none⟩) hb4).trans ((hbel.cell (p := ⟨b4, o4 + u, none⟩) hb4).symm.trans f4))
          refine (in2_yes (u : Int) 0 ((n : Int) - 1) _ (by omega) (by omega)).mono ?_
          rintro e y4 ⟨rfl, rfl⟩
          go_wp2
          go_roundw
          case rel => exact ⟨k + 1, true, by omega, by go_num, rfl, HT3, by rw [HF.out]; exact hown3, hb3'⟩
          case measure => simp [intOf]; omega
        · have HT3 : Hid (false = St.same g r (k + 1)) := by show _ = _; rw [HT2.out]; simp [hv]
          have d1 : ((v : Int) == (k : Int)) = false := by simp; omega
          have d2 : (v == k) = false := by simpa using hv
          clear HT2 hv
          go_wp2_with (at_builtin; refine wpList_app _ rfl (.tmp 62) (.tmp 69) _ rfl x3.heap.size 3 Try.underlying24 intInfo _ (St.firsts z0 k) rfl hownA (some ⟨wr.heap.size, 0, none⟩) 1 1 [x] rfl (Rd.one _ _ _) hroom hbA.size ?_; intro v3 y3 hown3 hg3 hat3; have hb3' := below_app hbA hownA hg3 hbA.size; replace f3 := (hb3'.cell (p := ⟨b3, o3 + k, none⟩) hb3).trans ((hbel.cell (p := ⟨b3, o3 + k, none⟩) hb3).symm.trans f3); replace f4 := (hb3'.cell (p := ⟨b4, o4 + u, none⟩) hb4).trans ((hbel.cell (p := ⟨b4, o4 + u, none⟩) hb4).symm.trans f4))
          refine (in2_yes (u : Int) 0 ((n : Int) - 1) _ (by omega) (by omega)).mono ?_
          rintro e y4 ⟨rfl, rfl⟩
          go_wp2
          go_roundw
          case rel => exact ⟨k + 1, false, by omega, by go_num, rfl, HT3, by rw [HF.out]; exact hown3, hb3'⟩
          case measure => simp [intOf]; omega
    · obtain rfl : k = n := by omega
      have hMr := hM.past hbel
      obtain ⟨A5, c5, rfl, hr5⟩ := hown.rd
      rw [St.firsts_len] at hr5 ⊢
      clear hM hr4 hown hbel hsz
      -- what the pairs are
      have HIs : Hid ((St.rcode k z2 ≠ 0) ∨ ∃ p, z2 = St.up p ∧ n2 = k ∧ St.rcode k (St.up p) = 0 ∧ St.Pr k p) := by
        by_cases h2 : St.rcode k z2 = 0
        · have hrow := St.rcode_zero.1 h2
          have e2 : n2 = k := by rw [← hMr.2.2.1.len]; exact hrow.len
          obtain ⟨p, rfl, hp⟩ := hrow.pr
          exact .inr ⟨p, rfl, e2, h2, hp⟩
        · exact .inl h2
      cases t with
      | false =>
        by_cases hf : (St.firsts z0 k).Nodup
        · have HE1 : Hid (decide (St.up g = St.firsts z0 k) = true) := by show _ = _; rw [St.firsts_only HL.out hf HO.out]; simp
          have HF := Lib.hid hf
          clear hf
          go_wp2_with fail
          refine (Twice_no A5 k c5 (St.firsts z0 k) _ hr5 HF.out).mono ?_
          rintro e y6 ⟨rfl, b6⟩
          have hM6 := hMr.past b6
          have hr6 := hr5.past b6
          go_wp2_with fail
          refine (Ints_t A3 A5 k k c3 c5 (St.up g) (St.firsts z0 k) true _ hM6.2.2.2.1 hr6 HE1.out).mono ?_
          rintro e y7 ⟨rfl, b7⟩
          have hM7 := hM6.past b7
          clear hMr hM6 hr5 hr6 b6 b7 HE1 HF
          rcases HIs.out with h2 | ⟨p, hz, hn2, h2, hp⟩
          · have H2 := Lib.hid h2
            clear h2 HIs
            go_wp2_with fail
            refine (Is_bad _ a0 a1 a2 n2 c0 c1 c2 z0 z1 z2 _ hM7.1 hM7.2.1 hM7.2.2.1 HN.out H2.out).mono ?_
            rintro e y8 ⟨rfl, b8⟩
            go_wp2
            go_ret
            exact ⟨rfl, (hM7.past b8).2.2.2.2⟩
          · subst hz
            subst hn2
            have H2 := Lib.hid h2
            have HP := Lib.hid hp
            clear h2 hp HIs
            cases hs : St.stb n2 z0 z1 (St.up p) with
            | false =>
              have HS := Lib.hid hs
              clear hs
              go_wp2_with fail
              refine (Is_ok _ a0 a1 a2 c0 c1 c2 z0 z1 p _ hM7.1 hM7.2.1 hM7.2.2.1 HN.out H2.out HP.out).mono ?_
              rw [HS.out]
              rintro e y8 ⟨rfl, b8⟩
              have hM8 := hM7.past b8
              go_wp2
              go_ret
              exact ⟨rfl, hM8.2.2.2.2⟩
            | true =>
              have HS := Lib.hid hs
              clear hs
              go_wp2_with fail
              refine (Is_ok _ a0 a1 a2 c0 c1 c2 z0 z1 p _ hM7.1 hM7.2.1 hM7.2.2.1 HN.out H2.out HP.out).mono ?_
              rw [HS.out]
              rintro e y8 ⟨rfl, b8⟩
              have hM8 := hM7.past b8
              go_wp2
              go_ret
              exact ⟨rfl, hM8.2.2.2.2⟩
        · have HF := Lib.hid hf
          clear hf
          go_wp2_with fail
          refine (Twice_any A5 k c5 (St.firsts z0 k) _ hr5 HF.out).mono ?_
          rintro e y6 ⟨rfl, b6⟩
          have hM6 := hMr.past b6
          clear hMr hr5 b6 HF
          rcases HIs.out with h2 | ⟨p, hz, hn2, h2, hp⟩
          · have H2 := Lib.hid h2
            clear h2 HIs
            go_wp2_with fail
            refine (Is_bad _ a0 a1 a2 n2 c0 c1 c2 z0 z1 z2 _ hM6.1 hM6.2.1 hM6.2.2.1 HN.out H2.out).mono ?_
            rintro e y8 ⟨rfl, b8⟩
            go_wp2
            go_ret
            exact ⟨rfl, (hM6.past b8).2.2.2.2⟩
          · subst hz
            subst hn2
            have H2 := Lib.hid h2
            have HP := Lib.hid hp
            clear h2 hp HIs
            cases hs : St.stb n2 z0 z1 (St.up p) with
            | false =>
              have HS := Lib.hid hs
              clear hs
              go_wp2_with fail
              refine (Is_ok _ a0 a1 a2 c0 c1 c2 z0 z1 p _ hM6.1 hM6.2.1 hM6.2.2.1 HN.out H2.out HP.out).mono ?_
              rw [HS.out]
              rintro e y8 ⟨rfl, b8⟩
              have hM8 := hM6.past b8
              go_wp2
              go_ret
              exact ⟨rfl, hM8.2.2.2.2⟩
            | true =>
              have HS := Lib.hid hs
              clear hs
              go_wp2_with fail
              refine (Is_ok _ a0 a1 a2 c0 c1 c2 z0 z1 p _ hM6.1 hM6.2.1 hM6.2.2.1 HN.out H2.out HP.out).mono ?_
              rw [HS.out]
              rintro e y8 ⟨rfl, b8⟩
              have hM8 := hM6.past b8
              go_wp2
              go_ret
              exact ⟨rfl, hM8.2.2.2.2⟩
      | true =>
        by_cases hf : (St.firsts z0 k).Nodup
        · have HE1 : Hid (decide (St.up g = St.firsts z0 k) = true) := by show _ = _; rw [St.firsts_only HL.out hf HO.out]; simp
          have HF := Lib.hid hf
          clear hf
          go_wp2_with fail
          refine (Twice_no A5 k c5 (St.firsts z0 k) _ hr5 HF.out).mono ?_
          rintro e y6 ⟨rfl, b6⟩
          have hM6 := hMr.past b6
          have hr6 := hr5.past b6
          go_wp2_with fail
          refine (Ints_t A3 A5 k k c3 c5 (St.up g) (St.firsts z0 k) true _ hM6.2.2.2.1 hr6 HE1.out).mono ?_
          rintro e y7 ⟨rfl, b7⟩
          have hM7 := hM6.past b7
          clear hMr hM6 hr5 hr6 b6 b7 HE1 HF
          rcases HIs.out with h2 | ⟨p, hz, hn2, h2, hp⟩
          · have H2 := Lib.hid h2
            clear h2 HIs
            go_wp2_with fail
            refine (Is_bad _ a0 a1 a2 n2 c0 c1 c2 z0 z1 z2 _ hM7.1 hM7.2.1 hM7.2.2.1 HN.out H2.out).mono ?_
            rintro e y8 ⟨rfl, b8⟩
            go_wp2
            go_ret
            exact ⟨rfl, (hM7.past b8).2.2.2.2⟩
          · subst hz
            subst hn2
            have H2 := Lib.hid h2
            have HP := Lib.hid hp
            clear h2 hp HIs
            cases hs : St.stb n2 z0 z1 (St.up p) with
            | false =>
              have HS := Lib.hid hs
              clear hs
              go_wp2_with fail
              refine (Is_ok _ a0 a1 a2 c0 c1 c2 z0 z1 p _ hM7.1 hM7.2.1 hM7.2.2.1 HN.out H2.out HP.out).mono ?_
              rw [HS.out]
              rintro e y8 ⟨rfl, b8⟩
              have hM8 := hM7.past b8
              go_wp2
              go_ret
              exact ⟨rfl, hM8.2.2.2.2⟩
            | true =>
              have HS := Lib.hid hs
              clear hs
              go_wp2_with fail
              refine (Is_ok _ a0 a1 a2 c0 c1 c2 z0 z1 p _ hM7.1 hM7.2.1 hM7.2.2.1 HN.out H2.out HP.out).mono ?_
              rw [HS.out]
              rintro e y8 ⟨rfl, b8⟩
              have hM8 := hM7.past b8
              have HE : Hid (decide (St.up p = St.up g) = true) := by
                show _ = _
                rw [HO.out.only HL.out.ord HR.out.ord HO2.out (St.same_back HT.out.symm) HP.out ((St.stb_iff HL.out HR.out HP.out).1 HS.out)]
                simp
              go_wp2_with fail
              refine (Ints_t a2 A3 _ _ c2 c3 (St.up p) (St.up g) true _ hM8.2.2.1 hM8.2.2.2.1 HE.out).mono ?_
              rintro e y9 ⟨rfl, b9⟩
              go_wp2
              go_ret
              exact ⟨rfl, (hM8.past b9).2.2.2.2⟩
        · have HF := Lib.hid hf
          clear hf
          go_wp2_with fail
          refine (Twice_any A5 k c5 (St.firsts z0 k) _ hr5 HF.out).mono ?_
          rintro e y6 ⟨rfl, b6⟩
          have hM6 := hMr.past b6
          clear hMr hr5 b6 HF
          rcases HIs.out with h2 | ⟨p, hz, hn2, h2, hp⟩
          · have H2 := Lib.hid h2
            clear h2 HIs
            go_wp2_with fail
            refine (Is_bad _ a0 a1 a2 n2 c0 c1 c2 z0 z1 z2 _ hM6.1 hM6.2.1 hM6.2.2.1 HN.out H2.out).mono ?_
            rintro e y8 ⟨rfl, b8⟩
            go_wp2
            go_ret
            exact ⟨rfl, (hM6.past b8).2.2.2.2⟩
          · subst hz
            subst hn2
            have H2 := Lib.hid h2
            have HP := Lib.hid hp
            clear h2 hp HIs
            cases hs : St.stb n2 z0 z1 (St.up p) with
            | false =>
              have HS := Lib.hid hs
              clear hs
              go_wp2_with fail
              refine (Is_ok _ a0 a1 a2 c0 c1 c2 z0 z1 p _ hM6.1 hM6.2.1 hM6.2.2.1 HN.out H2.out HP.out).mono ?_
              rw [HS.out]
              rintro e y8 ⟨rfl, b8⟩
              have hM8 := hM6.past b8
              go_wp2
              go_ret
              exact ⟨rfl, hM8.2.2.2.2⟩
            | true =>
              have HS := Lib.hid hs
              clear hs
              go_wp2_with fail
              refine (Is_ok _ a0 a1 a2 c0 c1 c2 z0 z1 p _ hM6.1 hM6.2.1 hM6.2.2.1 HN.out H2.out HP.out).mono ?_
              rw [HS.out]
              rintro e y8 ⟨rfl, b8⟩
              have hM8 := hM6.past b8
              have HE : Hid (decide (St.up p = St.up g) = true) := by
                show _ = _
                rw [HO.out.only HL.out.ord HR.out.ord HO2.out (St.same_back HT.out.symm) HP.out ((St.stb_iff HL.out HR.out HP.out).1 HS.out)]
                simp
              go_wp2_with fail
              refine (Ints_t a2 A3 _ _ c2 c3 (St.up p) (St.up g) true _ hM8.2.2.1 hM8.2.2.2.1 HE.out).mono ?_
              rintro e y9 ⟨rfl, b9⟩
              go_wp2
              go_ret
              exact ⟨rfl, (hM8.past b9).2.2.2.2⟩

theorem walk (w : World) (a0 : Option Addr) (n0 c0 : Nat) (z0 : List (List Int)) (w0 : RdR w w.heap.size a0 n0 c0 z0) (a1 : Option Addr) (n1 c1 : Nat) (z1 : List (List Int)) (w1 : RdR w w.heap.size a1 n1 c1 z1) (a2 : Option Addr) (n2 c2 : Nat) (z2 : List Int) (w2 : Rd w w.heap.size a2 n2 c2 z2) :
    Calls Try.prog 5 #[.slice a0 n0 c0, .slice a1 n1 c1, .slice a2 n2 c2] w fun e w' => e = .returned (.bool true) ∧ Below w.heap.size w w' := by
  by_cases hc : St.code z0 z1 = 0
  · have e := St.code_len hc
    rw [w0.len, w1.len] at e
    subst e
    exact good w n1 a0 c0 z0 w0 a1 c1 z1 w1 a2 n2 c2 z2 w2 hc
  · exact bad w a0 n0 c0 z0 w0 a1 n1 c1 z1 w1 a2 n2 c2 z2 w2 hc

end Go.Proofs.Ythdibdghnfkoeaa.stableSame
