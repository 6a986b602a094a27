/-
  The walk of the law TreeSame: for every number of points and two lists of lines it returns true.
-/
import Derived.Test.YtoofpmajiphldaaTreeF
import Derived.Test.YtoofpmajiphldaaRefTr
import Derived.Test.YtoofpmajiphldaaRefBeh
import Derived.Test.YtoofpmajiphldaaGraphE
import Derived.Test.YtoofpmajiphldaaBesQ
namespace Go.Proofs.Ytoofpmajiphldaa.treeSame
open Go.RowKit

set_option linter.unusedSimpArgs false
set_option linter.unusedVariables false

/-! ### the search for an order -/
def ups (o : List Nat) : List Int := o.map fun i : Nat => (i : Int)
theorem ups_snoc (o : List Nat) (k : Nat) : ups (o ++ [k]) = ups o ++ [(k : Int)] := by simp [ups]
theorem ups_len (o : List Nat) : (ups o).length = o.length := by simp [ups]
theorem ups_has (o : List Nat) (k : Nat) : (ups o).contains (k : Int) = o.contains k := by
  rw [Bool.eq_iff_iff]
  simp only [List.contains_iff_mem, ups, List.mem_map]
  constructor
  · rintro ⟨i, hi, e⟩
    obtain rfl : i = k := by omega
    exact hi
  · intro h
    exact ⟨k, h, rfl⟩
theorem ups_at (o : List Nat) {j : Nat} (hj : j < o.length) : (ups o).getD j 0 = ((o.getD j 0 : Nat) : Int) := by simp [ups, List.getD, hj]
section
variable {A A' : Nat → Nat → Bool} {m : Nat}
/-- may k come next, as far as the first j say? -/
def okTo (A A' : Nat → Nat → Bool) (o : List Nat) (k j : Nat) : Bool := !o.contains k && (List.range j).all fun j => A o.length j == A' k (o.getD j 0)
theorem okTo_zero {o : List Nat} {k : Nat} : okTo A A' o k 0 = !o.contains k := by simp [okTo]
theorem okTo_succ {o : List Nat} {k j : Nat} (h : okTo A A' o k j = true) : okTo A A' o k (j + 1) = (A o.length j == A' k (o.getD j 0)) := by
  unfold okTo at *
  rw [List.range_succ, List.all_append, ← Bool.and_assoc, h]
  simp
theorem okTo_false {o : List Nat} {k : Nat} : ∀ {j i : Nat}, j ≤ i → okTo A A' o k j = false → okTo A A' o k i = false
  | j, 0, h, e => by obtain rfl : j = 0 := by omega
                     exact e
  | j, i + 1, h, e => by
    by_cases hj : j = i + 1
    · rw [← hj]; exact e
    · have := okTo_false (i := i) (by omega) e
      unfold okTo at *
      rw [List.range_succ, List.all_append, ← Bool.and_assoc, this, Bool.false_and]
theorem okTo_all {o : List Nat} {k : Nat} : okTo A A' o k o.length = Nm.okAt A A' o k := rfl
/-- has one of the first k served? -/
def anyTo (A A' : Nat → Nat → Bool) (m f : Nat) (o : List Nat) (k : Nat) : Bool := (List.range k).any fun k => Nm.okAt A A' o k && Nm.fits A A' m f (o ++ [k])
theorem anyTo_all {f : Nat} {o : List Nat} : anyTo A A' m f o m = Nm.fits A A' m (f + 1) o := rfl
theorem anyTo_no {f : Nat} {o : List Nat} {k : Nat} (h : anyTo A A' m f o k = false) (h2 : (Nm.okAt A A' o k && Nm.fits A A' m f (o ++ [k])) = false) : anyTo A A' m f o (k + 1) = false := by
  unfold anyTo at *
  rw [List.range_succ, List.any_append, h]
  simpa using h2
theorem any_yes {f : Nat} {o : List Nat} {k : Nat} (hk : k < m) (h1 : Nm.okAt A A' o k = true) (h2 : Nm.fits A A' m f (o ++ [k]) = true) : Nm.fits A A' m (f + 1) o = true := by
  unfold Nm.fits
  rw [List.any_eq_true]
  exact ⟨k, List.mem_range.2 hk, by rw [h1, h2]; rfl⟩
end

set_option maxRecDepth 100000 in
set_option maxHeartbeats 4000000 in
theorem fits_step (m : Nat) (hm8 : m ≤ 8) (a1 : Option Addr) (n1 c1 : Nat) (z1 : List Gr.Ln) (a2 : Option Addr) (n2 c2 : Nat) (z2 : List Gr.Ln) (f : Nat)
    (ih : ∀ (o : List Nat) (A3 : Option Addr) (n3 c3 : Nat) (w : World), o.length + f = m → RdP w w.heap.size a1 n1 c1 z1 → RdP w w.heap.size a2 n2 c2 z2 → Rd w w.heap.size A3 n3 c3 (ups o) →
      Calls Try.prog 15 #[.int .i64 (m : Int), .slice a1 n1 c1, .slice a2 n2 c2, .slice A3 n3 c3] w fun e w' => e = .returned (.bool (Nm.fits (Tr.ad z1) (Tr.ad z2) m f o)) ∧ Below w.heap.size w w')
    (o : List Nat) (A3 : Option Addr) (n3 c3 : Nat) (w : World) (ho : o.length + (f + 1) = m) (w1 : RdP w w.heap.size a1 n1 c1 z1) (w2 : RdP w w.heap.size a2 n2 c2 z2) (w3 : Rd w w.heap.size A3 n3 c3 (ups o)) :
    Calls Try.prog 15 #[.int .i64 (m : Int), .slice a1 n1 c1, .slice a2 n2 c2, .slice A3 n3 c3] w fun e w' => e = .returned (.bool (Nm.fits (Tr.ad z1) (Tr.ad z2) m (f + 1) o)) ∧ Below w.heap.size w w' := by
  have hn3 : n3 = o.length := by rw [← ups_len, w3.len]
  have hn3m : n3 < m := by omega
  have hd0 : ((n3 : Int) == (m : Int)) = false := by simp; omega
  have HN3 := Lib.hid hn3
  have HIH := Lib.hid ih
  have HO := Lib.hid ho
  have hbig := w3.big
  clear hn3 ih ho
  have hA0 : Hid (anyTo (Tr.ad z1) (Tr.ad z2) m f o 0 = false) := by show _ = _; rfl
  have hB0 : Below w.heap.size w w := Below.refl _ _
  go_enter Try.func15, Try.ntmps15
  go_wp2
  go_loopw [10, 11, 12] (fun kv _ _ wr => ∃ k : Nat, k ≤ m ∧ kv = .int .i64 (k : Int) ∧ Hid (anyTo (Tr.ad z1) (Tr.ad z2) m f o k = false) ∧ Below w.heap.size w wr) (fun kv _ _ _ => m - (intOf kv).toNat)
  case atStart => exact ⟨0, Nat.zero_le _, rfl, hA0, hB0⟩
  case round =>
    clear hA0 hB0
    obtain ⟨k, hk, rfl, HA, hbw⟩ := hrel
    have r1 := w1.past hbw
    have r2 := w2.past hbw
    have r3 := w3.past hbw
    by_cases hlt : k < m
    · obtain ⟨t0, ht0⟩ : ∃ t0, t0 = o.contains k := ⟨_, rfl⟩
      have HH := Lib.hid (Has_any A3 n3 c3 (ups o) (k : Int) t0 wr r3 (by rw [ups_has, ht0]))
      have HK0 : Hid (okTo (Tr.ad z1) (Tr.ad z2) o k 0 = !t0) := by show _ = _; rw [okTo_zero, ht0]
      clear ht0
      go_wp2_with fail
      refine HH.out.mono ?_
      rintro e x1 ⟨rfl, rfl⟩
      obtain ⟨y0, hy0⟩ : ∃ y0, y0 = wr := ⟨_, rfl⟩
      go_wp2
      go_loopw [11, 12] (fun ov jv wi => ∃ (j : Nat) (t : Bool), j ≤ n3 ∧ jv = .int .i64 (j : Int) ∧ ov = .bool t ∧ Hid (okTo (Tr.ad z1) (Tr.ad z2) o k j = t) ∧ Below w.heap.size w wi) (fun _ jv _ => n3 - (intOf jv).toNat)
      case atStart => exact ⟨0, _, Nat.zero_le _, rfl, rfl, HK0, hbw⟩
      case round =>
        clear HK0 hbw r1 r2 r3 HH hy0
        obtain ⟨j, t, hj, rfl, rfl, HT, hbw⟩ := hrel
        have r1 := w1.past hbw
        have r2 := w2.past hbw
        have r3 := w3.past hbw
        -- what follows when the tests are over
        by_cases hjn : j < n3
        · cases t with
          | true =>
            obtain ⟨b3, o3, rfl, hb3, hc3⟩ := r3.at_ (by omega)
            have g1 := hc3 j hjn
            have hjo : j < o.length := by rw [← HN3.out]; exact hjn
            rw [ups_at o hjo] at g1
            obtain ⟨x, hx⟩ : ∃ x, x = o.getD j 0 := ⟨_, rfl⟩
            rw [← hx] at g1
            obtain ⟨t1, ht1⟩ : ∃ t1, t1 = Tr.ad z1 n3 j := ⟨_, rfl⟩
            obtain ⟨t2, ht2⟩ : ∃ t2, t2 = Tr.ad z2 k x := ⟨_, rfl⟩
            obtain ⟨t3, ht3⟩ : ∃ t3, (t1 == t2) = t3 := ⟨_, rfl⟩
            have H1 : Hid (Gr.adj z1 (n3 : Int) (j : Int) = t1) := ht1.symm
            have H2 : Hid (Gr.adj z2 (k : Int) (x : Int) = t2) := ht2.symm
            have HN : Hid (okTo (Tr.ad z1) (Tr.ad z2) o k (j + 1) = t3) := by
              show _ = _
              rw [okTo_succ HT.out, ← HN3.out, ← hx, ← ht1, ← ht2, ht3]
            have j1 : (0 : Int) ≤ (j : Int) := by omega
            have j2 : (j : Int) < (n3 : Int) := by omega
            clear hc3 hjo hx ht1 ht2 HT
            go_wp2
            go_quiet (first
              | (go_at_call 11; with_reducible exact RefL.bes_q a1 n1 c1 z1 (n3 : Int) (j : Int) t1 _ _ r1 H1.out)
              | (go_at_call 11; with_reducible exact RefL.bes_q a2 n2 c2 z2 (k : Int) (x : Int) t2 _ _ r2 H2.out))
            go_wp2
            go_roundw
            case rel => exact ⟨j + 1, t3, by omega, by go_num, rfl, HN, hbw.trans (Below.drewN' _ _ _)⟩
            case measure => simp [intOf]; omega
          | false =>
            have HF : Hid (anyTo (Tr.ad z1) (Tr.ad z2) m f o (k + 1) = false) := by
              show _ = _
              refine anyTo_no HA.out ?_
              rw [← okTo_all, okTo_false (by rw [← HN3.out]; omega) HT.out, Bool.false_and]
            clear HT
            go_wp2
            go_roundw
            case rel => exact ⟨k + 1, by omega, by go_num, HF, hbw⟩
            case measure => simp [intOf]; omega
        · obtain rfl : j = n3 := by omega
          cases t with
          | true =>
            have hok : Nm.okAt (Tr.ad z1) (Tr.ad z2) o k = true := by rw [← okTo_all, ← HN3.out]; exact HT.out
            have HOK := Lib.hid hok
            clear hok HT
            have HBE := Lib.hid (RefW.Behind_any A3 j c3 (ups o) (k : Int) wr r3 (by omega))
            go_wp2_with fail
            refine HBE.out.mono ?_
            rintro e x5 ⟨v5, rfl, hown5, hb5⟩
            rw [← ups_snoc] at hown5
            obtain ⟨A5, c5, rfl, hr5⟩ := hown5.rd
            obtain ⟨N5, hN5⟩ : ∃ N5, N5 = (ups (o ++ [k])).length := ⟨_, rfl⟩
            rw [← hN5] at hr5 ⊢
            have hb05 := hbw.trans (hb5.mono hbw.size)
            have HC := Lib.hid (HIH.out (o ++ [k]) A5 N5 c5 x5 (by rw [List.length_append, List.length_singleton]; have := HO.out; omega) (r1.past hb5) (r2.past hb5) hr5)
            clear hown5 hr5 hN5 hb5 r1 r2 r3 hbw HBE
            go_wp2_with fail
            refine HC.out.mono ?_
            rintro e x6 ⟨rfl, hb6⟩
            have hb06 := hb05.trans (hb6.mono hb05.size)
            obtain ⟨t6, ht6⟩ : ∃ t6, Nm.fits (Tr.ad z1) (Tr.ad z2) m f (o ++ [k]) = t6 := ⟨_, rfl⟩
            rw [ht6]
            cases t6 with
            | true =>
              have HY : Hid (Nm.fits (Tr.ad z1) (Tr.ad z2) m (f + 1) o = true) := any_yes hlt HOK.out ht6
              clear ht6
              go_wp2
              go_ret
              exact ⟨by rw [HY.out]; rfl, hb06⟩
            | false =>
              have HF : Hid (anyTo (Tr.ad z1) (Tr.ad z2) m f o (k + 1) = false) := by
                show _ = _
                refine anyTo_no HA.out ?_
                rw [ht6, Bool.and_false]
              clear ht6
              go_wp2
              go_roundw
              case rel => exact ⟨k + 1, by omega, by go_num, HF, hb06⟩
              case measure => simp [intOf]; omega
          | false =>
            have HF : Hid (anyTo (Tr.ad z1) (Tr.ad z2) m f o (k + 1) = false) := by
              show _ = _
              refine anyTo_no HA.out ?_
              rw [← okTo_all, okTo_false (by rw [← HN3.out]; omega) HT.out, Bool.false_and]
            clear HT
            go_wp2
            go_roundw
            case rel => exact ⟨k + 1, by omega, by go_num, HF, hbw⟩
            case measure => simp [intOf]; omega
    · obtain rfl : k = m := by omega
      have HY : Hid (Nm.fits (Tr.ad z1) (Tr.ad z2) k (f + 1) o = false) := HA.out
      go_wp2
      go_ret
      exact ⟨by rw [HY.out]; rfl, hbw⟩

theorem fits_any (m : Nat) (hm8 : m ≤ 8) (a1 : Option Addr) (n1 c1 : Nat) (z1 : List Gr.Ln) (a2 : Option Addr) (n2 c2 : Nat) (z2 : List Gr.Ln) :
    ∀ (f : Nat) (o : List Nat) (A3 : Option Addr) (n3 c3 : Nat) (w : World), o.length + f = m → RdP w w.heap.size a1 n1 c1 z1 → RdP w w.heap.size a2 n2 c2 z2 → Rd w w.heap.size A3 n3 c3 (ups o) →
      Calls Try.prog 15 #[.int .i64 (m : Int), .slice a1 n1 c1, .slice a2 n2 c2, .slice A3 n3 c3] w fun e w' => e = .returned (.bool (Nm.fits (Tr.ad z1) (Tr.ad z2) m f o)) ∧ Below w.heap.size w w'
  | 0, o, A3, n3, c3, w, ho, w1, w2, w3 => by
    have hn3 : n3 = m := by rw [← w3.len, ups_len]; omega
    have hd0 : ((n3 : Int) == (m : Int)) = true := by simp; omega
    clear hn3 ho w1 w2 w3
    go_enter Try.func15, Try.ntmps15
    go_wp2
    go_ret
    exact ⟨rfl, Below.refl _ _⟩
  | f + 1, o, A3, n3, c3, w, ho, w1, w2, w3 => fits_step m hm8 a1 n1 c1 z1 a2 n2 c2 z2 f (fits_any m hm8 a1 n1 c1 z1 a2 n2 c2 z2 f) o A3 n3 c3 w ho w1 w2 w3

theorem name_some (a0 : Int) (a1 : Option Addr) (n1 c1 : Nat) (z1 : List Gr.Ln) (w : World) (hr : RdP w w.heap.size a1 n1 c1 z1) :
    Calls Try.prog 12 #[.int .i64 a0, .slice a1 n1 c1] w fun e w' => ∃ s x, e = .returned (.tuple #[s, x]) ∧ Below w.heap.size w w' := by
  rcases Tr.tcode_cases a0 z1 with ⟨m, rfl, h, _, _⟩ | h
  · exact (Name_ok m a1 n1 c1 z1 w hr h).mono fun e w' h => ⟨_, _, h.1, h.2⟩
  · exact (Name_bad a0 a1 n1 c1 z1 w hr h).mono fun e w' h => ⟨_, _, h.1, h.2⟩

set_option maxHeartbeats 1000000 in
theorem bad1 (w : World) (a0 : Int) (a1 : Option Addr) (n1 c1 : Nat) (z1 : List Gr.Ln) (w1 : RdP w w.heap.size a1 n1 c1 z1) (a2 : Option Addr) (n2 c2 : Nat) (z2 : List Gr.Ln) (w2 : RdP w w.heap.size a2 n2 c2 z2) (hc : Tr.tcode a0 z1 ≠ 0) :
    Calls Try.prog 5 #[.int .i64 a0, .slice a1 n1 c1, .slice a2 n2 c2] w fun e w' => e = .returned (.bool true) ∧ Below w.heap.size w w' := by
  have H := Lib.hid hc
  clear hc
  go_enter Try.func5, Try.ntmps5
  go_wp2_with fail
  refine (treeFact_any _).mono ?_
  rintro e x1 ⟨rfl, hb1⟩
  go_wp2_with fail
  refine (Name_bad a0 a1 n1 c1 z1 _ (w1.past hb1) H.out).mono ?_
  rintro e x2 ⟨rfl, hb2⟩
  have hb02 := hb1.trans (hb2.mono hb1.size)
  have hr2 := w2.past hb02
  clear hb1 hb2
  go_wp2_with fail
  refine (name_some a0 a2 n2 c2 z2 _ hr2).mono ?_
  rintro e x3 ⟨s, x, rfl, hb3⟩
  go_wp2
  go_ret
  exact ⟨rfl, hb02.trans (hb3.mono hb02.size)⟩

set_option maxHeartbeats 1000000 in
theorem bad2 (w : World) (m : Nat) (a1 : Option Addr) (n1 c1 : Nat) (z1 : List Gr.Ln) (w1 : RdP w w.heap.size a1 n1 c1 z1) (a2 : Option Addr) (n2 c2 : Nat) (z2 : List Gr.Ln) (w2 : RdP w w.heap.size a2 n2 c2 z2) (hc1 : Tr.tcode (m : Int) z1 = 0) (hc2 : Tr.tcode (m : Int) z2 ≠ 0) :
    Calls Try.prog 5 #[.int .i64 (m : Int), .slice a1 n1 c1, .slice a2 n2 c2] w fun e w' => e = .returned (.bool true) ∧ Below w.heap.size w w' := by
  have H1 := Lib.hid hc1
  have H2 := Lib.hid hc2
  clear hc1 hc2
  go_enter Try.func5, Try.ntmps5
  go_wp2_with fail
  refine (treeFact_any _).mono ?_
  rintro e x1 ⟨rfl, hb1⟩
  go_wp2_with fail
  refine (Name_ok m a1 n1 c1 z1 _ (w1.past hb1) H1.out).mono ?_
  rintro e x2 ⟨rfl, hb2⟩
  have hb02 := hb1.trans (hb2.mono hb1.size)
  have hr2 := w2.past hb02
  clear hb1 hb2
  go_wp2_with fail
  refine (Name_bad (m : Int) a2 n2 c2 z2 _ hr2 H2.out).mono ?_
  rintro e x3 ⟨rfl, hb3⟩
  go_wp2
  go_ret
  exact ⟨rfl, hb02.trans (hb3.mono hb02.size)⟩

set_option maxRecDepth 100000 in
set_option maxHeartbeats 1000000 in
theorem good (w : World) (m : Nat) (a1 : Option Addr) (n1 c1 : Nat) (z1 : List Gr.Ln) (w1 : RdP w w.heap.size a1 n1 c1 z1) (a2 : Option Addr) (n2 c2 : Nat) (z2 : List Gr.Ln) (w2 : RdP w w.heap.size a2 n2 c2 z2) (hc1 : Tr.tcode (m : Int) z1 = 0) (hc2 : Tr.tcode (m : Int) z2 = 0) :
    Calls Try.prog 5 #[.int .i64 (m : Int), .slice a1 n1 c1, .slice a2 n2 c2] w fun e w' => e = .returned (.bool true) ∧ Below w.heap.size w w' := by
  obtain ⟨hg, hT⟩ := Tr.tcode_zero.1 hc1
  obtain ⟨hg2, hT2⟩ := Tr.tcode_zero.1 hc2
  have hm8 : m ≤ 8 := by have := (Gr.code_zero.1 hg).2.1; omega
  have hm1 : 1 ≤ m := by have := (Gr.code_zero.1 hg).1; omega
  have hirr : ∀ z : List Gr.Ln, Tr.Tree m z → ∀ a, a < m → Tr.ad z a a = false := fun z ht a ha => Nm.irr ht.met ha
  obtain ⟨t, ht⟩ : ∃ t, Nm.fits (Tr.ad z1) (Tr.ad z2) m m [] = t := ⟨_, rfl⟩
  obtain ⟨B1, hB1⟩ : ∃ B, B = Nm.bs (Nm.wn (Tr.ad z1) m (Tr.far m z1)) := ⟨_, rfl⟩
  obtain ⟨B2, hB2⟩ : ∃ B, B = Nm.bs (Nm.wn (Tr.ad z2) m (Tr.far m z2)) := ⟨_, rfl⟩
  have hd : (B1.toList == B2.toList) = t := by
    rw [← ht, Bool.eq_iff_iff, beq_iff_eq, Nm.fits_alike (Tr.ad_comm z1) (Tr.ad_comm z2) (hirr z1 hT) (hirr z2 hT2), ← Nm.wn_same hT.met hT2.met hm1, hB1, hB2, Nm.bs_toList, Nm.bs_toList]
    exact ⟨fun e => Nm.u8_inj (Nm.wn_sm hT.met hm1) (Nm.wn_sm hT2.met hm1) e, fun e => by rw [e]⟩
  have H1 := Lib.hid hc1
  have H2 := Lib.hid hc2
  have HB1 := Lib.hid hB1
  have HB2 := Lib.hid hB2
  have HT := Lib.hid ht
  clear hc1 hc2 hg hT hg2 hT2 hirr hB1 hB2 ht
  go_enter Try.func5, Try.ntmps5
  go_wp2_with fail
  refine (treeFact_any _).mono ?_
  rintro e x1 ⟨rfl, hb1⟩
  go_wp2_with fail
  refine (Name_ok m a1 n1 c1 z1 _ (w1.past hb1) H1.out).mono ?_
  rintro e x2 ⟨rfl, hb2⟩
  rw [← HB1.out]
  have hb02 := hb1.trans (hb2.mono hb1.size)
  have hr2 := w2.past hb02
  clear hb1 hb2
  go_wp2_with fail
  refine (Name_ok m a2 n2 c2 z2 _ hr2 H2.out).mono ?_
  rintro e x3 ⟨rfl, hb3⟩
  rw [← HB2.out]
  have hb03 := hb02.trans (hb3.mono hb02.size)
  clear hb02 hb3 hr2
  go_wp2_with fail
  refine (RefTr.Tree_any (m : Int) a1 n1 c1 z1 _ (w1.past hb03)).mono ?_
  rintro e x4 ⟨rfl, hb4⟩
  rw [H1.out]
  have hb04 := hb03.trans (hb4.mono hb03.size)
  clear hb03 hb4
  go_wp2_with fail
  refine (RefTr.Tree_any (m : Int) a2 n2 c2 z2 _ (w2.past hb04)).mono ?_
  rintro e x5 ⟨rfl, hb5⟩
  rw [H2.out]
  have hb05 := hb04.trans (hb5.mono hb04.size)
  clear hb04 hb5
  go_wp2_with fail
  refine (fits_any m hm8 a1 n1 c1 z1 a2 n2 c2 z2 m [] none 0 0 _ (by simp) (w1.past hb05) (w2.past hb05) (Rd.nil _ _)).mono ?_
  rintro e x6 ⟨rfl, hb6⟩
  rw [HT.out]
  go_wp2
  go_ret
  exact ⟨by simp, hb05.trans (hb6.mono hb05.size)⟩

theorem walk (w : World) (a0 : Int) (w0 : (Lit.int .i64 a0).wf = true) (a1 : Option Addr) (n1 c1 : Nat) (z1 : List Gr.Ln) (w1 : RdP w w.heap.size a1 n1 c1 z1) (a2 : Option Addr) (n2 c2 : Nat) (z2 : List Gr.Ln) (w2 : RdP w w.heap.size a2 n2 c2 z2) :
    Calls Try.prog 5 #[.int .i64 a0, .slice a1 n1 c1, .slice a2 n2 c2] w fun e w' => e = .returned (.bool true) ∧ Below w.heap.size w w' := by
  rcases Tr.tcode_cases a0 z1 with ⟨m, rfl, h, _, _⟩ | h
  · by_cases h2 : Tr.tcode (m : Int) z2 = 0
    · exact good w m a1 n1 c1 z1 w1 a2 n2 c2 z2 w2 h h2
    · exact bad2 w m a1 n1 c1 z1 w1 a2 n2 c2 z2 w2 h h2
  · exact bad1 w a0 a1 n1 c1 z1 w1 a2 n2 c2 z2 w2 h

end Go.Proofs.Ytoofpmajiphldaa.treeSame
