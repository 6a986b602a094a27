/-
  The walk of the law TrailOnce: for every number of points and lines it returns true, where the library's variable errors.errorType holds what its initialiser lays.
-/
import Derived.Test.YtibphofiaodnmaaDoorTrailY
import Derived.Deep.RegionHeld3
namespace Go.Proofs.YtibphofiaodnmaaDoor.trailOnce
open Go.RowKit
set_option linter.unusedSimpArgs false
set_option linter.unusedVariables false

set_option maxRecDepth 100000 in
set_option maxHeartbeats 1000000 in
/-- something is wrong with the lines -/
theorem bad (w : World) (het : tld.EtIs w) (a0 : Int) (a1 : Option Addr) (n1 c1 : Nat) (z1 : List Gr.Ln) (w1 : RdP w w.heap.size a1 n1 c1 z1) (hc : Gr.code a0 z1 ≠ 0) :
    Calls Tryd.prog 5 #[.int .i64 a0, .slice a1 n1 c1] w fun e w' => e = .returned (.bool true) ∧ Below w.heap.size w w' := by
  have HN := Lib.hid hc
  clear hc
  go_enter Tryd.func5, Tryd.ntmps5
  go_wp2_with fail
  refine (trailFact_any _ het).mono ?_
  rintro e x1 ⟨rfl, b1⟩
  go_wp2_with fail
  refine (Find_err a0 a1 n1 c1 z1 _ (w1.past b1) HN.out).mono ?_
  rintro e x2 ⟨rfl, b2⟩
  go_wp2
  go_ret
  exact ⟨rfl, b1.trans (b2.mono b1.size)⟩

set_option maxRecDepth 100000 in
set_option maxHeartbeats 1000000 in
/-- there is no way -/
theorem none_ (w : World) (het : tld.EtIs w) (m : Nat) (a1 : Option Addr) (n1 c1 : Nat) (z1 : List Gr.Ln) (w1 : RdP w w.heap.size a1 n1 c1 z1) (h0 : Gr.code (m : Int) z1 = 0) (hc : Tl.canB m z1 = false) :
    Calls Tryd.prog 5 #[.int .i64 (m : Int), .slice a1 n1 c1] w fun e w' => e = .returned (.bool true) ∧ Below w.heap.size w w' := by
  have H0 := Lib.hid h0
  have HC := Lib.hid hc
  clear h0 hc
  go_enter Tryd.func5, Tryd.ntmps5
  go_wp2_with fail
  refine (trailFact_any _ het).mono ?_
  rintro e x1 ⟨rfl, b1⟩
  go_wp2_with fail
  refine (Find_no m a1 n1 c1 z1 _ (w1.past b1) H0.out HC.out).mono ?_
  rintro e x2 ⟨rfl, b2⟩
  go_wp2
  go_ret
  exact ⟨rfl, b1.trans (b2.mono b1.size)⟩

set_option maxRecDepth 100000 in
set_option maxHeartbeats 2000000 in
/-- there is a way -/
theorem good (w : World) (het : tld.EtIs w) (m : Nat) (a1 : Option Addr) (n1 c1 : Nat) (z1 : List Gr.Ln) (w1 : RdP w w.heap.size a1 n1 c1 z1) (h0 : Gr.code (m : Int) z1 = 0) (hc : Tl.canB m z1 = true) :
    Calls Tryd.prog 5 #[.int .i64 (m : Int), .slice a1 n1 c1] w fun e w' => e = .returned (.bool true) ∧ Below w.heap.size w w' := by
  have hm8 : m ≤ 8 := by have := (Gr.code_zero.1 h0).2.1; omega
  have hm1 : 1 ≤ m := by have := (Gr.code_zero.1 h0).1; omega
  have hl24 : n1 ≤ 24 := by have := (Gr.code_zero.1 h0).2.2.1; have := w1.len; omega
  have H0 := Lib.hid h0
  have HC := Lib.hid hc
  have HL := Lib.hid w1.len
  have hcap := w1.le
  have hcap2 := w1.cap
  clear h0 hc
  go_enter Tryd.func5, Tryd.ntmps5
  go_wp2_with fail
  refine (trailFact_any _ het).mono ?_
  rintro e x1 ⟨rfl, b1⟩
  have hr1 := w1.past b1
  go_wp2_with fail
  refine (Find_yes m a1 n1 c1 z1 _ hr1 H0.out HC.out).mono ?_
  rintro e x2 ⟨b2, B2, k2, d2, rfl, hk2, s2⟩
  have b02 := b1.trans (b2.mono b1.size)
  have hr2 := hr1.past b2
  clear hr1 w1 b1 b2
  go_wp2_with fail
  refine (Ends_rd m a1 n1 c1 z1 _ hr2 H0.out).mono ?_
  rintro e x3 ⟨b3, B3, k3, d3, rfl, hk3, s3⟩
  have b03 := b02.trans (b3.mono b02.size)
  have hr3 := hr2.past b3
  have s23 := s2.past b3
  have hk25 : k2 ≤ 25 := by have := hk2.out; omega
  have hk1 : 0 < k2 := by have := hk2.out; omega
  have hk38 : k3 ≤ 8 := by have h1 := hk3.out; have h2 : (Tl.ends m z1).length ≤ m := Tl.endsTo_len z1 m; omega
  obtain ⟨M, hM⟩ : ∃ M, M = m - 1 := ⟨_, rfl⟩
  have km : IntKind.i64.wrap ((m : Int) - 1) = (M : Int) := by rw [IntKind.wrap_i64]; omega
  have kn : IntKind.i64.wrap ((n1 : Int) + 1) = (k2 : Int) := by rw [IntKind.wrap_i64]; have := hk2.out; omega
  have hall : Hid (∀ d ∈ upL (Tl.way m z1), (0 : Int) ≤ d ∧ d ≤ (M : Int)) := fun d hd => by
    obtain ⟨v, hv, rfl⟩ := List.mem_map.1 hd
    have := Tl.way_lt H0.out HC.out v hv
    omega
  have HM := Lib.hid hM
  clear hM hr2 b02 b3 s2
  go_wp2_with fail
  refine (All_in B2 k2 d2 _ 0 (M : Int) _ s23 hall.out).mono ?_
  rintro e _ ⟨rfl, rfl⟩
  go_wp2_with fail
  refine (RefL.Lines_any (m : Int) a1 n1 c1 z1 _ hr3).mono ?_
  rw [H0.out]
  rintro e x4 ⟨rfl, b4⟩
  have b04 := b03.trans (b4.mono b03.size)
  have hr4 := hr3.past b4
  have s24 := s23.past b4
  have s34 := s3.past b4
  clear b03 b4 hr3 s23 s3 hall
  obtain ⟨b, o, rfl, hbb, hcc⟩ := s24.at_ hk1
  have HCC : Hid (∀ k, k < k2 → x4.cell? ⟨b, o + k, none⟩ = some (.int .i64 (((Tl.way m z1).getD k 0 : Nat) : Int))) := fun k hk => by rw [← upL_at]; exact hcc k hk
  clear hcc
  go_wp2
  go_loopw [9, 10] (fun v iv wr => ∃ (i j : Nat), i ≤ k2 ∧ iv = .int .i64 (i : Int) ∧ Hid (i = j + 1) ∧ OwnP wr x4.heap.size 37 v (Tl.goneTo (Tl.way m z1) j) ∧ Below x4.heap.size x4 wr) (fun _ iv _ => k2 - (intOf iv).toNat)
  case atStart => exact ⟨1, 0, hk1, rfl, rfl, OwnP.nil _ _ _, Below.refl _ _⟩
  case round =>
    obtain ⟨i, j, hik, rfl, hij, hown, hbel⟩ := hrel
    have hsz := hbel.size
    by_cases hlt : i < k2
    · have hji : j < i := by rw [hij.out]; exact Nat.lt_succ_self _
      have g1 := (hbel.cell (p := ⟨b, o + j, none⟩) hbb).trans (HCC.out j (Nat.lt_trans hji hlt))
      have g2 := (hbel.cell (p := ⟨b, o + i, none⟩) hbb).trans (HCC.out i hlt)
      have hnext : Hid (Tl.goneTo (Tl.way m z1) i = Tl.goneTo (Tl.way m z1) j ++ [((((Tl.way m z1).getD j 0 : Nat) : Int), (((Tl.way m z1).getD i 0 : Nat) : Int))]) := by show _ = _; rw [hij.out]; exact Tl.goneTo_step _ _
      generalize (((Tl.way m z1).getD j 0 : Nat) : Int) = p at g1 hnext
      generalize (((Tl.way m z1).getD i 0 : Nat) : Int) = q at g2 hnext
      have k0 : (0 : Int) ≤ (j : Int) := by omega
      have k1 : (j : Int) < (k2 : Int) := by omega
      have k4 : (0 : Int) ≤ (i : Int) := by omega
      have k5 : (i : Int) < (k2 : Int) := by omega
      have kj : IntKind.i64.wrap ((i : Int) - 1) = (j : Int) := by rw [IntKind.wrap_i64]; have := hij.out; omega
      have hlen : (Tl.goneTo (Tl.way m z1) j).length + 1 ≤ 8796093022208 := by rw [Tl.goneTo_len]; omega
      have hownd := (show OwnP wr.drew x4.heap.size 37 _ (Tl.goneTo (Tl.way m z1) j) from hown).below ((Below.refl _ wr.drew).alloc (Nat.le_refl _) (.cells #[.int .i64 p, .int .i64 q] 37))
      have hrd4 : RdP (wr.drew.alloc (.cells #[.int .i64 p, .int .i64 q] 37)) (wr.heap.size + 1) (some ⟨wr.heap.size, 0, none⟩) 1 1 [(p, q)] := RdP.one wr.drew _ _
      have hbase : x4.heap.size ≤ (wr.drew.alloc (.cells #[.int .i64 p, .int .i64 q] 37)).heap.size := by simp; omega
      have e1 : (wr.drew.alloc (.cells #[.int .i64 p, .int .i64 q] 37)).cell? ⟨b, o + j, none⟩ = some (.int .i64 p) := ((Below.refl _ wr.drew).alloc (Nat.le_refl _) _).cell (p := ⟨b, o + j, none⟩) (Nat.lt_of_lt_of_le hbb hsz) |>.trans g1
      have e2 : (wr.drew.alloc (.cells #[.int .i64 p, .int .i64 q] 37)).cell? ⟨b, o + i, none⟩ = some (.int .i64 q) := ((Below.refl _ wr.drew).alloc (Nat.le_refl _) _).cell (p := ⟨b, o + i, none⟩) (Nat.lt_of_lt_of_le hbb hsz) |>.trans g2
      have hbb4 : Below x4.heap.size x4 (wr.drew.alloc (.cells #[.int .i64 p, .int .i64 q] 37)) := hbel.drew.alloc hsz _
      have hkeep : ∀ w3 : World, Below x4.heap.size x4 w3 → w3.cell? ⟨b, o + j, none⟩ = some (.int .i64 p) ∧ w3.cell? ⟨b, o + i, none⟩ = some (.int .i64 q) := fun w3 hb => ⟨((hb.cell (p := ⟨b, o + j, none⟩) hbb).trans (hbb4.cell (p := ⟨b, o + j, none⟩) hbb).symm).trans e1, ((hb.cell (p := ⟨b, o + i, none⟩) hbb).trans (hbb4.cell (p := ⟨b, o + i, none⟩) hbb).symm).trans e2⟩
      have HO := Lib.hid hownd
      have HK := Lib.hid hkeep
      have HLT := Lib.hid hlt
      clear hownd hkeep hji
      go_wp2
      go_region_held3 (fun w' : World => w'.cell? ⟨b, o + j, none⟩ = some (.int .i64 p) ∧ w'.cell? ⟨b, o + i, none⟩ = some (.int .i64 q)) (first | exact ⟨g1, g2⟩ | exact ⟨e1, e2⟩ | assumption)
        (first
          | (refine step_appP _ rfl (.tmp 64) (.tmp 75) 22 rfl x4.heap.size 37 Tryd.underlying22 lineInfo _ (Tl.goneTo (Tl.way m z1) j) rfl HO.out (some ⟨wr.heap.size, 0, none⟩) 1 1 [(p, q)] rfl hrd4 hlen hbase ?_; intro v3 w3 hown3 hg3 hat3; have hb3 := below_appP hbb4 HO.out hg3 hbase; have hk3 := HK.out w3 hb3))
      go_wp2
      go_roundw
      case rel => exact ⟨i + 1, i, HLT.out, by go_num, rfl, by rw [hnext.out]; exact hown3, hb3⟩
      case measure => simp [intOf]; omega
    · obtain rfl : i = k2 := by omega
      have hjn : Hid (j = n1) := by show _ = _; have h1 := hk2.out; have h2 := hij.out; omega
      obtain ⟨A5, c5, rfl, hr5⟩ := hown.rd
      rw [Tl.goneTo_len] at hr5 ⊢
      have hr4' := hr4.past hbel
      have hj24 : j ≤ 24 := by have := hjn.out; omega
      have hbf := b04.trans (hbel.mono b04.size)
      have HBT : Hid (∀ a b : Nat, (Tl.goneTo (Tl.way m z1) j).countP (Tl.jn (a : Int) (b : Int)) = z1.countP (Tl.jn (a : Int) (b : Int))) := fun a b => by
        have := Tl.way_between H0.out HC.out a b
        rw [HL.out, ← hjn.out] at this
        exact this
      have s25 := s24.past hbel
      have s35 := s34.past hbel
      have g1 := (hbel.cell (p := ⟨b, o + 0, none⟩) hbb).trans (HCC.out 0 hk1)
      have g2 := (hbel.cell (p := ⟨b, o + j, none⟩) hbb).trans (HCC.out j (by rw [hij.out]; exact Nat.lt_succ_self _))
      rw [Nat.add_zero] at g1
      have hjz : Hid (j = z1.length) := by show _ = _; rw [HL.out]; exact hjn.out
      obtain ⟨f, hf⟩ : ∃ f, f = (Tl.way m z1).getD 0 0 := ⟨_, rfl⟩
      obtain ⟨t, ht⟩ : ∃ t, t = (Tl.way m z1).getD j 0 := ⟨_, rfl⟩
      rw [← hf] at g1
      rw [← ht] at g2
      have HE0 : Hid (Tl.ends m z1 = [] → f = t) := fun he => by rw [hf, ht, hjz.out]; exact Tl.once_none H0.out HC.out he
      have HE1 : Hid (Tl.ends m z1 ≠ [] → f ≠ t ∧ f = (Tl.ends m z1).getD 0 0 ∧ t ∈ Tl.ends m z1) := fun he => by rw [hf, ht, hjz.out]; exact Tl.once_two H0.out HC.out he
      have q1 : (0 : Int) ≤ (j : Int) := by omega
      have q2 : (j : Int) < (i : Int) := by have := hij.out; omega
      have q3 : (0 : Int) < (i : Int) := by omega
      have qj : IntKind.i64.wrap ((i : Int) - 1) = (j : Int) := by rw [IntKind.wrap_i64]; have := hij.out; omega
      clear hf ht
      clear hown hlt hbel hsz hr4 s24 s34 hik
      go_wp2
      go_loop [11] (fun av => ∃ a : Nat, a ≤ m ∧ av = .int .i64 (a : Int)) (fun av => m - (intOf av).toNat)
      case atStart => exact ⟨0, Nat.zero_le _, rfl⟩
      case round =>
        obtain ⟨a, ham, rfl⟩ := hrel
        by_cases hla : a < m
        · have ka1 : (0 : Int) ≤ (a : Int) := by omega
          have ka2 : (a : Int) < (m : Int) := by omega
          go_wp2
          go_loop [12] (fun bv => ∃ c : Nat, c ≤ a ∧ bv = .int .i64 (c : Int)) (fun bv => a - (intOf bv).toNat)
          case atStart => exact ⟨0, Nat.zero_le _, rfl⟩
          case round =>
            obtain ⟨c, hca, rfl⟩ := hrel
            by_cases hlc : c < a
            · have kc1 : (0 : Int) ≤ (c : Int) := by omega
              have kc2 : (c : Int) < (a : Int) := by omega
              go_wp2_with fail
              refine (Between_any A5 j c5 _ (a : Int) (c : Int) _ hr5 (by omega)).mono ?_
              rintro e _ ⟨t1, rfl, ht1, rfl⟩
              go_wp2_with fail
              refine (Between_any a1 n1 c1 z1 (a : Int) (c : Int) _ hr4' (by omega)).mono ?_
              rintro e _ ⟨t2, rfl, ht2, rfl⟩
              have ht : Hid (t1 = t2) := by show _ = _; rw [ht1.out, ht2.out]; exact HBT.out a c
              obtain rfl := ht.out
              clear ht1 ht2 ht
              go_wp2
              go_round
              case rel => exact ⟨c + 1, by omega, by go_num⟩
              case measure => simp [intOf]; omega
            · obtain rfl : c = a := by omega
              go_wp2
              go_round
              case rel => exact ⟨c + 1, by omega, by go_num⟩
              case measure => simp [intOf]; omega
        · have hfin : a = m := by omega
          have HFIN := Lib.hid hfin
          have da : decide ((a : Int) < (m : Int)) = false := by simp; omega
          have da2 : decide (a < m) = false := by simp; omega
          clear hfin hla ham
          by_cases h3 : k3 = 0
          · have hft := HE0.out (List.eq_nil_of_length_eq_zero (by rw [← hk3.out]; exact h3))
            subst hft
            have r1 : ((k3 : Int) == 0) = true := by simp; omega
            have r2 : (k3 == 0) = true := by simp; omega
            have r3 : decide (k3 = 0) = true := by simp; omega
            clear h3
            go_wp2
            go_ret
            exact ⟨rfl, hbf⟩
          · have hp3 : 0 < k3 := by omega
            obtain ⟨v1, v2, v3⟩ := HE1.out (fun e => h3 (by rw [hk3.out, e]; rfl))
            have r1 : ((k3 : Int) == 0) = false := by simp; omega
            have r2 : (k3 == 0) = false := by simp; omega
            have r3 : decide (k3 = 0) = false := by simp; omega
            have u1 : ((f : Int) == (t : Int)) = false := by simp; omega
            have u2 : (f == t) = false := by simp; omega
            have u3 : decide (f = t) = false := by simp; omega
            have u4 : ((f : Int) != (t : Int)) = true := by simp; omega
            have u5 : (f != t) = true := by simp; omega
            have p3 : (0 : Int) < (k3 : Int) := by omega
            obtain ⟨b', o', rfl, hbb', hcc'⟩ := s35.at_ hp3
            have g3 := hcc' 0 hp3
            rw [upL_at, Nat.add_zero, ← v2] at g3
            have hHas : Hid ((upL (Tl.ends m z1)).contains (t : Int) = true) := by
              show _ = _
              rw [List.contains_iff_mem]
              exact List.mem_map.2 ⟨t, v3, rfl⟩
            clear v1 v2 v3 h3 hcc'
            go_wp2_with fail
            refine (Has_any _ k3 d3 _ (t : Int) true _ s35 hHas.out).mono ?_
            rintro e _ ⟨rfl, rfl⟩
            go_wp2
            go_ret
            exact ⟨rfl, hbf⟩

theorem walk (w : World) (het : tld.EtIs w) (a0 : Int) (_w0 : (Lit.int .i64 a0).wf = true) (a1 : Option Addr) (n1 c1 : Nat) (z1 : List Gr.Ln) (w1 : RdP w w.heap.size a1 n1 c1 z1) :
    Calls Tryd.prog 5 #[.int .i64 a0, .slice a1 n1 c1] w fun e w' => e = .returned (.bool true) ∧ Below w.heap.size w w' := by
  by_cases hc : Gr.code a0 z1 = 0
  · obtain ⟨m, rfl⟩ : ∃ m : Nat, a0 = (m : Int) := ⟨a0.toNat, by have := (Gr.code_zero.1 hc).1; omega⟩
    cases hb : Tl.canB m z1 with
    | false => exact none_ w het m a1 n1 c1 z1 w1 hc hb
    | true => exact good w het m a1 n1 c1 z1 w1 hc hb
  · exact bad w het a0 a1 n1 c1 z1 w1 hc

end Go.Proofs.YtibphofiaodnmaaDoor.trailOnce
