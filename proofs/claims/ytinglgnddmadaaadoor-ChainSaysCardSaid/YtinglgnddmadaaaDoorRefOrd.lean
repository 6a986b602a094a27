/-
  The contracts of the reference's Order (each time the least that may come next, looked for from the greatest down) and of its Deep (by how deep those are that lines come from).
-/
import Derived.Test.YtinglgnddmadaaaDoorTopoP
import Derived.Test.YtinglgnddmadaaaDoorGraphE
namespace Go.Proofs.YtinglgnddmadaaaDoor.RefO
open Go.RowKit
set_option linter.unusedSimpArgs false
set_option linter.unusedVariables false

/-- how long a slice is -/
def slLen : Value → Nat
  | .slice _ n _ => n
  | _ => 0

set_option maxRecDepth 100000 in
set_option maxHeartbeats 4000000 in
theorem Order_any (m : Nat) (A : Option Addr) (k c : Nat) (ls : List Gr.Ln) (w : World) (hr : RdP w w.heap.size A k c ls) (hm8 : m ≤ 8) :
    Calls Tryd.prog 5 #[.int .i64 (m : Int), .slice A k c] w fun e w' => Below w.heap.size w w' ∧ ∃ o, To.Step m ls o ∧ To.Stuck m ls o ∧
      ((o.length < m ∧ e = .returned (.tuple #[.slice none 0 0, .bool false])) ∨ (o.length = m ∧ ∃ v, e = .returned (.tuple #[v, .bool true]) ∧ Own w' w.heap.size 3 v o)) := by
  have HX := Lib.hid hr.len
  have hbig := hr.big
  go_enter Tryd.func5, Tryd.ntmps5
  go_wp2
  go_loopw [6, 7, 8, 9, 10] (fun ov _ _ _ _ wr => ∃ o, Hid (To.Step m ls o) ∧ Own wr w.heap.size 3 ov o ∧ Below w.heap.size w wr) (fun ov _ _ _ _ _ => m - slLen ov)
  case atStart => exact ⟨[], To.Step.nil _ _, Own.nil _ _ _, Below.refl _ _⟩
  case round =>
    obtain ⟨o, HST, hown, hb⟩ := hrel
    obtain ⟨A6, c6, rfl, hr6⟩ := hown.rd
    have hom := HST.out.le
    obtain ⟨q, hq⟩ : ∃ q, q = o.length := ⟨_, rfl⟩
    rw [← hq] at hown hr6 hom ⊢
    have HQ := Lib.hid hq
    clear hq
    by_cases hlt : q < m
    · obtain ⟨W, hW⟩ : ∃ W, W = wr := ⟨_, rfl⟩
      subst hW
      go_wp2
      go_loopw [7, 8, 9, 10] (fun bv iv _ _ wr => ∃ (j : Nat) (x b : Int), j ≤ m ∧ x ≤ (j : Int) - 1 ∧ (j : Int) - 1 ≤ x ∧ iv = .int .i64 x ∧ bv = .int .i64 b ∧ Hid (To.Low m ls o j b) ∧ W = wr) (fun _ iv _ _ _ => (intOf iv + 1).toNat)
      case atStart => exact ⟨m, (m : Int) - 1, -1, Nat.le_refl _, by omega, by omega, by go_num, rfl, To.Low.start _ _ _, rfl⟩
      case round =>
        obtain ⟨j, x, b, hjm, hx1, hx2, rfl, rfl, HL, rfl⟩ := hrel
        by_cases hx : 0 ≤ x
        · obtain ⟨i, hi⟩ : ∃ i : Nat, x = (i : Int) := ⟨x.toNat, by omega⟩
          have HI : Hid (i < m ∧ j = i + 1 ∧ x = (i : Int)) := ⟨by omega, by omega, hi⟩
          clear hi
          obtain ⟨t, ht⟩ : ∃ t, o.contains x = t := ⟨_, rfl⟩
          have HT := Lib.hid ht
          clear ht
          have HF0 : Hid (To.freeTo ls o x 0 = !t) := by show _ = _; rw [To.freeTo_zero, HT.out]
          go_wp2_with fail
          refine (Has_any A6 q c6 o x t _ hr6 HT.out).mono ?_
          rintro e w1 ⟨rfl, rfl⟩
          go_wp2
          go_loopw [9, 10] (fun fv kv wr => ∃ p : Nat, p ≤ k ∧ kv = .int .i64 (p : Int) ∧ (∃ f, fv = .bool f ∧ Hid (To.freeTo ls o x p = f)) ∧ W = wr) (fun _ kv _ => k - (intOf kv).toNat)
          case atStart => exact ⟨0, Nat.zero_le _, rfl, ⟨_, rfl, HF0⟩, rfl⟩
          case round =>
            obtain ⟨p, hpk, rfl, ⟨f, rfl, HF⟩, rfl⟩ := hrel
            by_cases hpl : p < k
            · obtain ⟨b1, o1, rfl, hbb, hcc⟩ := (hr.below hb).at_ (by omega)
              obtain ⟨g1, g2⟩ := hcc p hpl
              clear hcc
              obtain ⟨⟨y, z⟩, hyz⟩ : ∃ y, y = ls.getD p (0, 0) := ⟨_, rfl⟩
              rw [← hyz] at g1 g2
              simp only at g1 g2
              have HN : Hid (To.freeTo ls o x (p + 1) = (f && (decide (z ≠ x) || o.contains y))) := by show _ = _; rw [To.freeTo_step (by rw [HX.out]; exact hpl) _ hyz, HF.out]
              clear hyz
              have p1 : (0 : Int) ≤ (p : Int) := by omega
              have p2 : (p : Int) < (k : Int) := by omega
              cases f with
              | false =>
                have HN2 : Hid (To.freeTo ls o x (p + 1) = false) := by show _ = _; rw [HN.out]; rfl
                go_wp2
                go_roundw
                case rel => exact ⟨p + 1, by omega, by go_num, ⟨_, rfl, HN2⟩, trivial⟩
                case measure => simp [intOf]; omega
              | true =>
                by_cases hzx : z = x
                · have d1 : (z != x) = false := by simpa using hzx
                  obtain ⟨s, hs⟩ : ∃ s, o.contains y = s := ⟨_, rfl⟩
                  have HN2 : Hid (To.freeTo ls o x (p + 1) = s) := by show _ = _; rw [HN.out, hs]; simp [hzx]
                  have HS := Lib.hid hs
                  clear hs hzx HN
                  go_wp2_with fail
                  refine (Has_any A6 q c6 o y s _ hr6 HS.out).mono ?_
                  rintro e w2 ⟨rfl, rfl⟩
                  go_wp2
                  go_roundw
                  case rel => exact ⟨p + 1, by omega, by go_num, ⟨_, rfl, HN2⟩, trivial⟩
                  case measure => simp [intOf]; omega
                · have d1 : (z != x) = true := by simpa using hzx
                  have HN2 : Hid (To.freeTo ls o x (p + 1) = true) := by show _ = _; rw [HN.out]; simp [hzx]
                  clear hzx HN
                  go_wp2
                  go_roundw
                  case rel => exact ⟨p + 1, by omega, by go_num, ⟨_, rfl, HN2⟩, trivial⟩
                  case measure => simp [intOf]; omega
            · obtain rfl : p = k := by omega
              have HF2 : Hid (To.freeAt ls o x = f) := by
                show _ = _
                rw [← HF.out, ← To.freeTo_all ls o x, HX.out]
              cases f with
              | false =>
                have HN : Hid (To.Low m ls o (j - 1) b) := by
                  obtain ⟨h1, h2, h3⟩ := HI.out
                  have h4 := HF2.out
                  have h5 := HL.out
                  rw [h2] at h5 ⊢
                  rw [h3] at h4
                  exact h5.no h4
                clear HF2 HF HL
                go_wp2
                go_roundw
                case rel => exact ⟨j - 1, x - 1, b, by omega, by omega, by omega, by go_num, rfl, HN, trivial⟩
                case measure => simp [intOf]; omega
              | true =>
                have HN : Hid (To.Low m ls o (j - 1) x) := by
                  obtain ⟨h1, h2, h3⟩ := HI.out
                  have h4 := HF2.out
                  rw [h2, h3]
                  rw [h3] at h4
                  exact To.Low.yes (b := b) h1 h4
                clear HF2 HF HL
                go_wp2
                go_roundw
                case rel => exact ⟨j - 1, x - 1, x, by omega, by omega, by omega, by go_num, rfl, HN, trivial⟩
                case measure => simp [intOf]; omega
        · obtain rfl : j = 0 := by omega
          rcases HL.out.end_ with ⟨rfl, hs⟩ | ⟨h1, h2, hmin⟩
          · have HS := Lib.hid hs
            clear hs HL
            go_wp2
            go_ret2
            exact ⟨hb, o, HST.out, HS.out, .inl ⟨by rw [← HQ.out]; exact hlt, rfl⟩⟩
          · have HS2 : Hid (To.Step m ls (o ++ [b])) := HST.out.snoc hmin
            have d1 : decide (b < 0) = false := by simpa using h1
            clear hmin HL
            have hown2 := hown.below ((Below.refl W.heap.size W).alloc (Nat.le_refl _) (.cells #[.int .i64 b] 3))
            have hrd2 := Rd.one W b 3
            have hb2 := hb.alloc hb.size (.cells #[.int .i64 b] 3)
            have hql : o.length + 1 ≤ 17592186044416 := by rw [← HQ.out]; omega
            have hws := hb.size
            go_wp2_with (at_builtin; refine wpList_app _ rfl (.tmp 54) (.tmp 56) 24 rfl w.heap.size 3 Tryd.underlying24 intInfo _ o rfl hown2 (some ⟨W.heap.size, 0, none⟩) 1 1 [b] rfl hrd2 hql (by simp; omega) ?_; intro v3 w3 hown3 hg3 hat3)
            go_roundw
            case rel => exact ⟨o ++ [b], HS2, hown3, hb2.grown hg3 (by simp; omega) (fun k hk => hown2.at_base k hk)⟩
            case measure =>
              obtain ⟨A3, c3, rfl, _⟩ := hown3.rd
              simp only [slLen, List.length_append, List.length_singleton, ← HQ.out]
              omega
    · obtain rfl : q = m := by omega
      have hfin : Hid (To.Stuck q ls o) := HST.out.full HQ.out.symm
      go_wp2
      go_ret2
      exact ⟨hb, o, HST.out, hfin.out, .inr ⟨HQ.out.symm, _, rfl, hown⟩⟩

theorem MOrder_bad (m : Nat) (A : Option Addr) (k c : Nat) (ls : List Gr.Ln) (o : List Int) (w : World) (hr : RdP w w.heap.size A k c ls) (hm8 : m ≤ 8) (hstep : To.Step m ls o) (hstuck : To.Stuck m ls o) (hlt : o.length < m) :
    Calls Tryd.prog 5 #[.int .i64 (m : Int), .slice A k c] w fun e w' => e = .returned (.tuple #[.slice none 0 0, .bool false]) ∧ Below w.heap.size w w' := by
  refine (Order_any m A k c ls w hr hm8).mono ?_
  rintro e w1 ⟨hb, o', h1, h2, (⟨_, rfl⟩ | ⟨h3, _⟩)⟩
  · exact ⟨rfl, hb⟩
  · have := h1.free h3 hstep hstuck
    omega
theorem MOrder_good (m : Nat) (A : Option Addr) (k c : Nat) (ls : List Gr.Ln) (o : List Int) (w : World) (hr : RdP w w.heap.size A k c ls) (hm8 : m ≤ 8) (hstep : To.Step m ls o) (hl : o.length = m) :
    Calls Tryd.prog 5 #[.int .i64 (m : Int), .slice A k c] w fun e w' => ∃ A1 c1, e = .returned (.tuple #[.slice A1 m c1, .bool true]) ∧ Rd w' w'.heap.size A1 m c1 o ∧ Below w.heap.size w w' := by
  refine (Order_any m A k c ls w hr hm8).mono ?_
  rintro e w1 ⟨hb, o', h1, h2, (⟨h3, rfl⟩ | ⟨h3, v, rfl, hown⟩)⟩
  · have := hstep.free hl h1 h2
    omega
  · obtain rfl := hstep.only h1 hl h3
    obtain ⟨A1, c1, rfl, hrd⟩ := hown.rd
    rw [hl] at hrd ⊢
    exact ⟨A1, c1, rfl, hrd, hb⟩

set_option maxRecDepth 100000 in
set_option maxHeartbeats 2000000 in
theorem Deep_any (m k c B : Nat) (A : Option Addr) (ls : List Gr.Ln) (hg : ∀ p ∈ ls, Gr.Good (m : Int) p) : ∀ (f i : Nat) (w : World), f ≤ 1000 → i < m → (∀ k a, a < m → Wa.wk m (To.frow m ls) k a i = true → k < f) → RdP w B A k c ls →
    Calls Tryd.prog 6 #[.slice A k c, .int .i64 (i : Int)] w fun e w' => e = .returned (.int .i64 (To.dpF ls f (i : Int) : Int)) ∧ w = w'
  | 0, i, w, _, hi, hf, _ => absurd (hf 0 i hi (Wa.wk_zero.2 rfl)) (Nat.not_lt_zero _)
  | f + 1, i, w, h1000, hi, hf, hr => by
    have HX := Lib.hid hr.len
    have hbig := hr.big
    have HG := Lib.hid hg
    have HF := Lib.hid hf
    have HD : Hid (To.mostF (To.dpF ls f) (i : Int) (ls.drop 0) 0 = To.dpF ls (f + 1) (i : Int)) := rfl
    obtain ⟨T, hT⟩ : ∃ T, T = To.dpF ls (f + 1) (i : Int) := ⟨_, rfl⟩
    rw [← hT] at HD ⊢
    clear hf hg hT
    have HIH := Lib.hid (Deep_any m k c B A ls HG.out f)
    go_enter Tryd.func6, Tryd.ntmps6
    go_wp2
    go_loopw [5, 6, 7] (fun bv pv _ wr => ∃ p b : Nat, p ≤ k ∧ pv = .int .i64 (p : Int) ∧ bv = .int .i64 (b : Int) ∧ Hid (To.mostF (To.dpF ls f) (i : Int) (ls.drop p) b = T) ∧ w = wr) (fun _ pv _ _ => k - (intOf pv).toNat)
    case atStart => exact ⟨0, 0, Nat.zero_le _, rfl, rfl, HD, rfl⟩
    case round =>
      obtain ⟨p, b, hpk, rfl, rfl, H, rfl⟩ := hrel
      by_cases hpl : p < k
      · obtain ⟨b1, o1, rfl, hbb, hcc⟩ := hr.at_ (by omega)
        obtain ⟨g1, g2⟩ := hcc p hpl
        clear hcc
        have hkl : p < ls.length := by rw [HX.out]; exact hpl
        have hmem : ls.getD p (0, 0) ∈ ls := by simp [List.getD, hkl]
        obtain ⟨⟨y, z⟩, hyz⟩ : ∃ y, y = ls.getD p (0, 0) := ⟨_, rfl⟩
        rw [← hyz] at g1 g2 hmem
        simp only at g1 g2
        have HN : Hid (To.mostF (To.dpF ls f) (i : Int) (ls.drop (p + 1)) (if z = (i : Int) ∧ b < 1 + To.dpF ls f y then 1 + To.dpF ls f y else b) = T) := by show _ = _; rw [← H.out, To.mostF_step _ _ hkl _ hyz]
        have p1 : (0 : Int) ≤ (p : Int) := by omega
        have p2 : (p : Int) < (k : Int) := by omega
        clear hyz hkl H
        by_cases hz : z = (i : Int)
        · have hh : Gr.has ls y (i : Int) = true := Gr.has_iff.2 (by rw [← hz]; exact hmem)
          obtain ⟨a, j, rfl, hj, ha, _, _⟩ := To.ends HG.out hh
          have hfa : ∀ k x, x < m → Wa.wk m (To.frow m ls) k x a = true → k < f := fun k x hx hw => by
            have := HF.out (k + 1) x hx (To.wk_line HG.out hh hw)
            omega
          have hDa := To.dpF_spec HG.out f a ha hfa
          obtain ⟨x, hx, hwx⟩ := hDa.1
          have hDf := hfa _ x hx hwx
          have HC := Lib.hid (HIH.out a w (by omega) ha hfa hr)
          clear hDa hwx hx hfa hh hj hmem
          generalize To.dpF ls f (a : Int) = D at HC HN hDf
          obtain ⟨d1, hd1⟩ : ∃ d1 : Int, d1 = 1 + (D : Int) := ⟨_, rfl⟩
          have hwr : IntKind.i64.wrap (1 + (D : Int)) = d1 := by rw [IntKind.wrap_i64] <;> omega
          have d2 : (z == (i : Int)) = true := by simpa using hz
          by_cases hbd : b < 1 + D
          · have HN2 : Hid (To.mostF (To.dpF ls f) (i : Int) (ls.drop (p + 1)) (1 + D) = T) := by have := HN.out; rw [if_pos ⟨hz, hbd⟩] at this; exact this
            have d3 : decide ((b : Int) < d1) = true := by simp; omega
            have e1 : Hid (d1 = ((1 + D : Nat) : Int)) := by show _ = _; omega
            clear hz HN hbd hd1
            go_wp2_with fail
            refine HC.out.mono ?_
            rintro e w1 ⟨rfl, rfl⟩
            go_wp2
            go_roundw
            case rel => exact ⟨p + 1, 1 + D, by omega, by go_num, by rw [e1.out], HN2, trivial⟩
            case measure => simp [intOf]; omega
          · have HN2 : Hid (To.mostF (To.dpF ls f) (i : Int) (ls.drop (p + 1)) b = T) := by have := HN.out; rw [if_neg (fun h => hbd h.2)] at this; exact this
            have d3 : decide ((b : Int) < d1) = false := by simp; omega
            clear hz HN hbd hd1
            go_wp2_with fail
            refine HC.out.mono ?_
            rintro e w1 ⟨rfl, rfl⟩
            go_wp2
            go_roundw
            case rel => exact ⟨p + 1, b, by omega, by go_num, rfl, HN2, trivial⟩
            case measure => simp [intOf]; omega
        · have HN2 : Hid (To.mostF (To.dpF ls f) (i : Int) (ls.drop (p + 1)) b = T) := by have := HN.out; rw [if_neg (fun h => hz h.1)] at this; exact this
          have d2 : (z == (i : Int)) = false := by simpa using hz
          clear hz HN hmem
          go_wp2
          go_roundw
          case rel => exact ⟨p + 1, b, by omega, by go_num, rfl, HN2, trivial⟩
          case measure => simp [intOf]; omega
      · have hfin : Hid (b = T) := by
          show _ = _
          rw [← H.out, List.drop_eq_nil_of_le (by rw [HX.out]; omega)]
          rfl
        go_wp2
        go_ret
        exact ⟨by rw [hfin.out]; rfl, rfl⟩

end Go.Proofs.YtinglgnddmadaaaDoor.RefO
