/-
  The walk of the law StrongSays: for every number of points and lines it returns true, where the library's variable errors.errorType holds what its initialiser lays.
-/
import Derived.Test.YtcapinapfobcbaaDoorStrongE
import Derived.Test.YtcapinapfobcbaaDoorErrS
import Derived.Test.YtcapinapfobcbaaDoorRefL
import Derived.Test.YtcapinapfobcbaaDoorRefPar
import Derived.Test.YtcapinapfobcbaaDoorLstTo
import Derived.Test.YtcapinapfobcbaaDoorPlace
import Derived.Test.YtcapinapfobcbaaDoorGraphE
import Derived.BigQuiet
namespace Go.Proofs.YtcapinapfobcbaaDoor.strongSays
open Go.RowKit
set_option linter.unusedSimpArgs false
set_option linter.unusedVariables false

theorem Ints_none (w : World) : Calls Tryd.prog 9 #[.slice none 0 0, .slice none 0 0] w fun e w' => e = .returned (.bool true) ∧ Below w.heap.size w w' :=
  Ints_t none none 0 0 0 0 [] [] true w (Rd.nil _ _) (Rd.nil _ _) (by decide)
theorem Lines_none (w : World) : Calls Tryd.prog 11 #[.slice none 0 0, .slice none 0 0] w fun e w' => e = .returned (.bool true) ∧ Below w.heap.size w w' :=
  Lines_any none none 0 0 0 0 [] [] true w (RdP.nil _ _) (RdP.nil _ _) (by decide)

/-- the least ones stand where their numbers say -/
theorem leasts_at {m : Nat} {ls : List Gr.Ln} {v : Nat} (hl : Sg.isl m ls v = true) : ∀ k, v < k → (Sg.leasts m ls k).getD (Sg.below m ls v) 0 = ((v : Nat) : Int)
  | 0, h => by omega
  | k + 1, h => by
    rw [Sg.leasts_succ]
    by_cases e : v = k
    · subst e
      rw [if_pos hl, ← Sg.leasts_len]
      simp [List.getD]
    · have ih := leasts_at hl k (by omega)
      have hb := Sg.below_lt (show v < k by omega) hl
      rw [← Sg.leasts_len k] at hb
      split
      · rw [← ih]
        simp only [List.getD]
        rw [List.getElem?_append_left hb]
      · exact ih
theorem leasts_nodup (m : Nat) (ls : List Gr.Ln) (k : Nat) : (Sg.leasts m ls k).Nodup := by
  unfold Sg.leasts
  exact List.Pairwise.map _ (fun a b (h : a ≠ b) (e : ((a : Nat) : Int) = ((b : Nat) : Int)) => h (by omega)) (List.Pairwise.filter _ (show List.Pairwise (· ≠ ·) (List.range k) from List.nodup_range))
theorem place_is {m : Nat} {ls : List Gr.Ln} {i : Nat} (hi : i < m) : St.plc (Sg.leasts m ls m) ((Sg.pt m ls i : Nat) : Int) = ((Sg.nm m ls i : Nat) : Int) := by
  have hl := Sg.isl_pt (ls := ls) hi
  have hp := (Sg.pt_spec (ls := ls) hi).1
  have ha := leasts_at hl m (by omega)
  rw [← ha]
  exact St.plc_at (leasts_nodup m ls m) (by rw [Sg.leasts_len]; exact Sg.below_lt (by omega) hl)
/-- the numbers of the points below i -/
def numsTo (m : Nat) (ls : List Gr.Ln) (i : Nat) : List Int := (List.range i).map fun j => ((Sg.nm m ls j : Nat) : Int)
theorem numsTo_succ (m : Nat) (ls : List Gr.Ln) (i : Nat) : numsTo m ls (i + 1) = numsTo m ls i ++ [((Sg.nm m ls i : Nat) : Int)] := by simp [numsTo, List.range_succ]
theorem numsTo_len (m : Nat) (ls : List Gr.Ln) (i : Nat) : (numsTo m ls i).length = i := by simp [numsTo]
/-- does one of the first k lines lead from part a to part b? -/
def anyTo (m : Nat) (ls : List Gr.Ln) (a b k : Nat) : Bool := (ls.take k).any fun p => decide (Sg.nm m ls p.1.toNat = a) && decide (Sg.nm m ls p.2.toNat = b)
theorem anyTo_zero (m : Nat) (ls : List Gr.Ln) (a b : Nat) : anyTo m ls a b 0 = false := by simp [anyTo]
theorem anyTo_succ {m : Nat} {ls : List Gr.Ln} {a b k : Nat} (hk : k < ls.length) (p : Gr.Ln) (hp : p = ls.getD k (0, 0)) : anyTo m ls a b (k + 1) = (anyTo m ls a b k || (decide (Sg.nm m ls p.1.toNat = a) && decide (Sg.nm m ls p.2.toNat = b))) := by
  have e : ls[k] = p := by rw [hp]; simp [List.getD, hk]
  unfold anyTo
  rw [List.take_succ_eq_append_getElem hk, List.any_append, e]
  simp
theorem anyTo_next {m : Nat} {ls : List Gr.Ln} {a b k u v y1 y2 : Nat} {s : Bool} (hk : k < ls.length) (hp : (((u : Nat) : Int), ((v : Nat) : Int)) = ls.getD k (0, 0)) (h1 : y1 = Sg.nm m ls u) (h2 : y2 = Sg.nm m ls v) (hA : anyTo m ls a b k = s) : anyTo m ls a b (k + 1) = (s || (decide (y1 = a) && decide (y2 = b))) := by
  rw [anyTo_succ hk _ hp, hA]
  subst h1
  subst h2
  rfl
theorem anyTo_all (m : Nat) (ls : List Gr.Ln) (a b : Nat) : (anyTo m ls a b ls.length && !decide (a = b)) = Sg.fr m ls a b := by
  unfold anyTo Sg.fr
  rw [List.take_length, Bool.and_comm]

set_option maxRecDepth 100000 in
set_option maxHeartbeats 2000000 in
/-- something is wrong with the lines -/
theorem bad (w : World) (het : tld.EtIs w) (a0 : Int) (a1 : Option Addr) (n1 c1 : Nat) (z1 : List Gr.Ln) (w1 : RdP w w.heap.size a1 n1 c1 z1) (hc : Gr.code a0 z1 ≠ 0) :
    Calls Tryd.prog 3 #[.int .i64 a0, .slice a1 n1 c1] w fun e w' => e = .returned (.bool true) ∧ Below w.heap.size w w' := by
  have HN := Lib.hid hc
  obtain ⟨k, hk⟩ : ∃ k, k = Gr.code a0 z1 := ⟨_, rfl⟩
  have d1 : (k == 0) = false := by simpa [hk] using hc
  have HK := Lib.hid hk
  clear hc hk
  go_enter Tryd.func3, Tryd.ntmps3
  go_wp2_with fail
  refine (RefL.Lines_any a0 a1 n1 c1 z1 _ w1).mono ?_
  rintro e x1 ⟨rfl, b1⟩
  rw [← HK.out]
  go_wp2_with fail
  refine (Parts_code a0 a1 n1 c1 z1 _ (w1.past b1) HN.out).mono ?_
  rintro e x2 ⟨rfl, b2⟩
  have b02 := b1.trans (b2.mono b1.size)
  rw [← HK.out]
  go_wp2_with fail
  refine (Err_same k _ (het.below b02)).mono ?_
  rintro e x3 ⟨rfl, b3⟩
  have b03 := b02.trans (b3.mono b02.size)
  go_wp2_with fail
  refine (Ints_none _).mono ?_
  rintro e x4 ⟨rfl, b4⟩
  have b04 := b03.trans (b4.mono b03.size)
  go_wp2_with fail
  refine (Fold_code a0 a1 n1 c1 z1 _ (w1.past b04) HN.out).mono ?_
  rintro e x5 ⟨rfl, b5⟩
  have b05 := b04.trans (b5.mono b04.size)
  rw [← HK.out]
  go_wp2_with fail
  refine (Err_same k _ (het.below b05)).mono ?_
  rintro e x6 ⟨rfl, b6⟩
  have b06 := b05.trans (b6.mono b05.size)
  go_wp2_with fail
  refine (Ints_none _).mono ?_
  rintro e x7 ⟨rfl, b7⟩
  have b07 := b06.trans (b7.mono b06.size)
  go_wp2_with fail
  refine (Lines_none _).mono ?_
  rintro e x8 ⟨rfl, b8⟩
  go_wp2
  go_ret
  exact ⟨rfl, b07.trans (b8.mono b07.size)⟩

theorem part_of {W : World} {B b o m c : Nat} {ls : List Gr.Ln} (h : Rd W B (some ⟨b, o, none⟩) m c (Sg.parts m ls)) {a : Nat} (ha : a < m) : W.cell? ⟨b, o + a, none⟩ = some (.int .i64 ((Sg.pt m ls a : Nat) : Int)) := by
  obtain ⟨b', o', e, _, hc⟩ := h.at_ (show 0 < m by omega)
  cases e
  have := hc a ha
  rwa [Sg.parts_at ha] at this
theorem num_of {W : World} {B b o m c : Nat} {ls : List Gr.Ln} (h : Rd W B (some ⟨b, o, none⟩) m c (Sg.nums m ls)) {a : Nat} (ha : a < m) : W.cell? ⟨b, o + a, none⟩ = some (.int .i64 ((Sg.nm m ls a : Nat) : Int)) := by
  obtain ⟨b', o', e, _, hc⟩ := h.at_ (show 0 < m by omega)
  cases e
  have := hc a ha
  rwa [Sg.nums_at ha] at this

set_option maxRecDepth 100000 in
set_option maxHeartbeats 8000000 in
theorem good (w : World) (het : tld.EtIs w) (m : Nat) (a1 : Option Addr) (n1 c1 : Nat) (z1 : List Gr.Ln) (w1 : RdP w w.heap.size a1 n1 c1 z1) (h0 : Gr.code (m : Int) z1 = 0) :
    Calls Tryd.prog 3 #[.int .i64 (m : Int), .slice a1 n1 c1] w fun e w' => e = .returned (.bool true) ∧ Below w.heap.size w w' := by
  have hm8 : m ≤ 8 := by have := (Gr.code_zero.1 h0).2.1; omega
  have hm1 : 1 ≤ m := by have := (Gr.code_zero.1 h0).1; omega
  have HG := Lib.hid (Gr.code_zero.1 h0).2.2.2
  have H0 := Lib.hid h0
  have HX := Lib.hid w1.len
  have hbig := w1.big
  have hMm := Sg.many_le m z1
  obtain ⟨M, hM⟩ : ∃ M, M = Sg.many m z1 := ⟨_, rfl⟩
  rw [← hM] at hMm
  have HM := Lib.hid hM
  clear h0 hM
  go_enter Tryd.func3, Tryd.ntmps3
  go_wp2_with fail
  refine (RefL.Lines_any (m : Int) a1 n1 c1 z1 _ w1).mono ?_
  rintro e x0 ⟨rfl, b0⟩
  rw [H0.out]
  go_wp2_with fail
  refine (RefPar.Parts_any m a1 n1 c1 z1 _ (w1.past b0) hm1 hm8).mono ?_
  rintro e x1 ⟨A2, c2, rfl, r2, b1'⟩
  have b1 := b0.trans (b1'.mono b0.size)
  obtain ⟨bP, oP, rfl, _, _⟩ := r2.at_ (by omega)
  obtain ⟨B, hB⟩ : ∃ B, B = x1.heap.size := ⟨_, rfl⟩
  have HB := Lib.hid hB
  have b1s := b1.size
  rw [← hB] at r2 b1s
  have hO0 : Own x1 B 3 (.slice none 0 0) (Sg.leasts m z1 0) := Own.nil _ _ _
  have hb0 : Below B x1 x1 := Below.refl _ _
  clear hB b1' b0
  go_wp2
  go_loopw [9, 10] (fun v iv wr => ∃ i : Nat, i ≤ m ∧ iv = .int .i64 (i : Int) ∧ Own wr B 3 v (Sg.leasts m z1 i) ∧ Below B x1 wr) (fun _ iv _ => m - (intOf iv).toNat)
  case atStart => exact ⟨0, Nat.zero_le _, rfl, hO0, hb0⟩
  case round =>
    clear hO0 hb0
    obtain ⟨i, hi, rfl, hown, hbel⟩ := hrel
    have hsz : B ≤ wr.heap.size := by have := hbel.size; rw [← HB.out] at this; exact this
    by_cases hlt : i < m
    · have i1 : (0 : Int) ≤ (i : Int) := by omega
      have i2 : (i : Int) < (m : Int) := by omega
      have g1 := part_of (r2.below hbel) hlt
      have hsc := Sg.leasts_succ (n := m) (ls := z1) i
      have hll : (Sg.leasts m z1 i).length ≤ i := by rw [Sg.leasts_len]; exact Sg.below_le i
      obtain ⟨q, hq⟩ : ∃ q, q = Sg.pt m z1 i := ⟨_, rfl⟩
      rw [← hq] at g1
      by_cases he : q = i
      · have hn : Hid (Sg.leasts m z1 (i + 1) = Sg.leasts m z1 i ++ [(i : Int)]) := by show _ = _; rw [hsc, if_pos (Sg.isl_of (by rw [← hq]; exact he))]
        subst he
        have hown2 := hown.below ((Below.refl wr.heap.size wr).alloc (Nat.le_refl _) (.cells #[.int .i64 (q : Int)] 3))
        have hrd2 := Rd.one wr (q : Int) 3
        have hql : (Sg.leasts m z1 q).length + 1 ≤ 17592186044416 := by omega
        have hb2 := hbel.alloc hsz (.cells #[.int .i64 (q : Int)] 3)
        clear hsc hq hown
        go_wp2_with (at_builtin; refine wpList_app _ rfl (.tmp 39) (.tmp 41) 24 rfl B 3 Tryd.underlying24 intInfo _ _ rfl hown2 (some ⟨wr.heap.size, 0, none⟩) 1 1 [(q : Int)] rfl hrd2 hql (by simp; omega) ?_; intro v3 w3 hown3 hg3 hat3)
        rw [← hn.out] at hown3
        go_roundw
        case rel => exact ⟨q + 1, by omega, by go_num, hown3, hb2.grown hg3 (by simp; omega) (fun k hk => hown2.at_base k hk)⟩
        case measure => simp [intOf]; omega
      · have hn : Hid (Sg.leasts m z1 (i + 1) = Sg.leasts m z1 i) := by
          show _ = _
          rw [hsc, Sg.isl_no (by rw [← hq]; exact he)]
          simp
        have hd : ((q : Int) == (i : Int)) = false := by simp; omega
        clear hsc hq he
        go_wp2
        go_roundw
        case rel => exact ⟨i + 1, by omega, by go_num, by rw [hn.out]; exact hown, hbel⟩
        case measure => simp [intOf]; omega
    · obtain rfl : i = m := by omega
      have hlen : (Sg.leasts i z1 i).length = M := by rw [Sg.leasts_len]; exact HM.out.symm
      obtain ⟨A3, c3, rfl, r3⟩ := hown.rd
      rw [hlen] at r3 ⊢
      have r2 := (r2.below hbel).more hsz
      have b2 := b1.trans (hbel.mono b1s)
      obtain ⟨x2, hx2⟩ : ∃ x2, x2 = wr := ⟨_, rfl⟩
      obtain ⟨B2, hB2⟩ : ∃ B2, B2 = x2.heap.size := ⟨_, rfl⟩
      have HB2 := Lib.hid hB2
      have hO0 : Own wr B2 3 (.slice none 0 0) (numsTo i z1 0) := Own.nil _ _ _
      have hb0 : Below B2 x2 wr := by rw [hx2]; exact Below.refl _ _
      rw [← hx2] at r2 r3 b2
      have b2s := b2.size
      rw [← hB2] at r2 r3 b2s
      have hbig3 := r3.big
      clear hown hlen hbel hx2 hB2 hsz b1 b1s
      go_wp2
      go_loopw [7, 11] (fun v jv wr => ∃ j : Nat, j ≤ i ∧ jv = .int .i64 (j : Int) ∧ Own wr B2 3 v (numsTo i z1 j) ∧ Below B2 x2 wr) (fun _ jv _ => i - (intOf jv).toNat)
      case atStart => exact ⟨0, Nat.zero_le _, rfl, hO0, hb0⟩
      case round =>
        clear hO0 hb0
        obtain ⟨j, hj, rfl, hown, hbel⟩ := hrel
        have hsz : B2 ≤ wr.heap.size := by have := hbel.size; rw [← HB2.out] at this; exact this
        by_cases hlj : j < i
        · have j1 : (0 : Int) ≤ (j : Int) := by omega
          have j2 : (j : Int) < (i : Int) := by omega
          have g1 := part_of (r2.below hbel) hlj
          have r3w := r3.below hbel
          have hpl := place_is (ls := z1) hlj
          obtain ⟨q, hq⟩ : ∃ q, q = Sg.pt i z1 j := ⟨_, rfl⟩
          obtain ⟨y, hy⟩ : ∃ y, y = Sg.nm i z1 j := ⟨_, rfl⟩
          have hn : Hid (numsTo i z1 (j + 1) = numsTo i z1 j ++ [(y : Int)]) := by show _ = _; rw [numsTo_succ, hy]
          rw [← hq] at g1
          rw [← hq, ← hy] at hpl
          have HPL := Lib.hid hpl
          clear hq hy hpl
          go_wp2_with fail
          refine (Place_t A3 M c3 _ (q : Int) (y : Int) _ r3w HPL.out).mono ?_
          rintro e w5 ⟨rfl, rfl⟩
          have hown2 := hown.below ((Below.refl wr.heap.size wr).alloc (Nat.le_refl _) (.cells #[.int .i64 (y : Int)] 3))
          have hrd2 := Rd.one wr (y : Int) 3
          have hql : (numsTo i z1 j).length + 1 ≤ 17592186044416 := by rw [numsTo_len]; omega
          have hb2 := hbel.alloc hsz (.cells #[.int .i64 (y : Int)] 3)
          clear hown r3w
          go_wp2_with (at_builtin; refine wpList_app _ rfl (.tmp 48) (.tmp 55) 24 rfl B2 3 Tryd.underlying24 intInfo _ _ rfl hown2 (some ⟨wr.heap.size, 0, none⟩) 1 1 [(y : Int)] rfl hrd2 hql (by simp; omega) ?_; intro v3 w3 hown3 hg3 hat3)
          rw [← hn.out] at hown3
          go_roundw
          case rel => exact ⟨j + 1, by omega, by go_num, hown3, hb2.grown hg3 (by simp; omega) (fun k hk => hown2.at_base k hk)⟩
          case measure => simp [intOf]; omega
        · obtain rfl : j = i := by omega
          obtain ⟨A4, c4, rfl, r4⟩ := hown.rd
          rw [numsTo_len] at r4 ⊢
          have r4 : Rd wr wr.heap.size A4 j c4 (Sg.nums j z1) := r4
          obtain ⟨bN, oN, rfl, _, _⟩ := r4.at_ (by omega)
          have r2 := (r2.below hbel).more hsz
          have b3 := b2.trans (hbel.mono b2s)
          obtain ⟨x3, hx3⟩ : ∃ x3, x3 = wr := ⟨_, rfl⟩
          obtain ⟨B3, hB3⟩ : ∃ B3, B3 = x3.heap.size := ⟨_, rfl⟩
          have HB3 := Lib.hid hB3
          have hO0 : OwnP wr B3 28 (.slice none 0 0) (RefC.lstTo M (Sg.fr j z1) 0 0) := by rw [RefC.lstTo_zero]; exact OwnP.nil _ _ _
          have hb0 : Below B3 x3 wr := by rw [hx3]; exact Below.refl _ _
          have hz3 : RdP x3 B3 a1 n1 c1 z1 := by rw [hx3, hB3, hx3]; exact w1.past b3
          rw [← hx3] at r2 r4 b3
          have b3s := b3.size
          rw [← hB3] at r2 r4 b3s
          have HLN := Lib.hid (fun a b (ha : a < M) (hb : b ≤ M) => RefC.lstTo_len (r := Sg.fr j z1) (show M ≤ 8 by omega) ha hb)
          clear hown hbel hx3 hB3 hsz b2 b2s r3
          go_wp2
          go_loopw [8, 12, 13, 14, 15] (fun v av _ _ _ wr => ∃ a : Nat, a ≤ M ∧ av = .int .i64 (a : Int) ∧ OwnP wr B3 28 v (RefC.lstTo M (Sg.fr j z1) a 0) ∧ Below B3 x3 wr) (fun _ av _ _ _ _ => M - (intOf av).toNat)
          case atStart => exact ⟨0, Nat.zero_le _, rfl, hO0, hb0⟩
          case round =>
            clear hO0 hb0
            obtain ⟨a, ha, rfl, hown, hbel⟩ := hrel
            by_cases hla : a < M
            · go_wp2
              go_loopw [8, 13, 14, 15] (fun v bv _ _ wr => ∃ b : Nat, b ≤ M ∧ bv = .int .i64 (b : Int) ∧ OwnP wr B3 28 v (RefC.lstTo M (Sg.fr j z1) a b) ∧ Below B3 x3 wr) (fun _ bv _ _ _ => M - (intOf bv).toNat)
              case atStart => exact ⟨0, Nat.zero_le _, rfl, hown, hbel⟩
              case round =>
                clear hown hbel
                obtain ⟨b, hb, rfl, hown, hbel⟩ := hrel
                by_cases hlb : b < M
                · have hsz : B3 ≤ wr.heap.size := by have := hbel.size; rw [← HB3.out] at this; exact this
                  have HO := Lib.hid hown
                  have r4w := r4.below hbel
                  have hzw := hz3.below hbel
                  have HA0 : Hid (anyTo j z1 a b 0 = false) := anyTo_zero _ _ _ _
                  have HLE := Lib.hid (HLN.out a b hla hb)
                  clear hown
                  go_wp2
                  go_loopw [14, 15] (fun sv kv wk => ∃ (k : Nat) (s : Bool), k ≤ n1 ∧ kv = .int .i64 (k : Int) ∧ sv = .bool s ∧ Hid (anyTo j z1 a b k = s) ∧ wr = wk) (fun _ kv _ => n1 - (intOf kv).toNat)
                  case atStart => exact ⟨0, false, Nat.zero_le _, rfl, rfl, HA0, rfl⟩
                  case round =>
                    clear HA0
                    obtain ⟨k, s, hk, rfl, rfl, HA, rfl⟩ := hrel
                    by_cases hlk : k < n1
                    · have hkl : k < z1.length := by rw [HX.out]; exact hlk
                      obtain ⟨b1', o1', rfl, _, hcc⟩ := hzw.at_ (by omega)
                      obtain ⟨g1, g2⟩ := hcc k hlk
                      have hgd := HG.out (z1.getD k (0, 0)) (by simp [List.getD, hkl])
                      obtain ⟨p, hp⟩ : ∃ p, p = z1.getD k (0, 0) := ⟨_, rfl⟩
                      rw [← hp] at g1 g2 hgd
                      unfold Gr.Good at hgd
                      clear hcc
                      obtain ⟨p1, p2⟩ := p
                      simp only at g1 g2 hgd
                      obtain ⟨u, rfl⟩ : ∃ u : Nat, p1 = (u : Int) := ⟨p1.toNat, by omega⟩
                      obtain ⟨v, rfl⟩ : ∃ v : Nat, p2 = (v : Int) := ⟨p2.toNat, by omega⟩
                      obtain ⟨y1, hy1⟩ : ∃ y, y = Sg.nm j z1 u := ⟨_, rfl⟩
                      obtain ⟨y2, hy2⟩ : ∃ y, y = Sg.nm j z1 v := ⟨_, rfl⟩
                      have hsc := anyTo_next (a := a) (b := b) hkl hp hy1 hy2 HA.out
                      have HY1 := Lib.hid hy1
                      have HY2 := Lib.hid hy2
                      clear hp hkl hy1 hy2
                      have hum : u < j := by omega
                      have hvm : v < j := by omega
                      have k1 : (0 : Int) ≤ (k : Int) := by omega
                      have k2 : (k : Int) < (n1 : Int) := by omega
                      cases s with
                      | true =>
                        have HN : Hid (anyTo j z1 a b (k + 1) = true) := by show _ = _; rw [hsc]; rfl
                        clear hsc g1 g2 hgd
                        go_wp2
                        go_roundw
                        case rel => exact ⟨k + 1, true, by omega, by go_num, rfl, HN, trivial⟩
                        case measure => simp [intOf]; omega
                      | false =>
                        have u1 : (0 : Int) ≤ (u : Int) := by omega
                        have u2 : (u : Int) < (j : Int) := by omega
                        have v1 : (0 : Int) ≤ (v : Int) := by omega
                        have v2 : (v : Int) < (j : Int) := by omega
                        have g3 := num_of r4w hum
                        have g4 := num_of r4w hvm
                        rw [← HY1.out] at g3
                        rw [← HY2.out] at g4
                        clear hgd
                        by_cases h1 : y1 = a
                        · by_cases h2 : y2 = b
                          · have HN : Hid (anyTo j z1 a b (k + 1) = true) := by show _ = _; rw [hsc]; simp [h1, h2]
                            subst h1
                            subst h2
                            clear hsc
                            go_wp2
                            go_roundw
                            case rel => exact ⟨k + 1, true, by omega, by go_num, rfl, HN, trivial⟩
                            case measure => simp [intOf]; omega
                          · have HN : Hid (anyTo j z1 a b (k + 1) = false) := by show _ = _; rw [hsc]; simp [h2]
                            have d2 : ((y2 : Int) == (b : Int)) = false := by simp; omega
                            subst h1
                            clear hsc h2
                            go_wp2
                            go_roundw
                            case rel => exact ⟨k + 1, false, by omega, by go_num, rfl, HN, trivial⟩
                            case measure => simp [intOf]; omega
                        · have HN : Hid (anyTo j z1 a b (k + 1) = false) := by show _ = _; rw [hsc]; simp [h1]
                          have d2 : ((y1 : Int) == (a : Int)) = false := by simp; omega
                          clear hsc h1
                          go_wp2
                          go_roundw
                          case rel => exact ⟨k + 1, false, by omega, by go_num, rfl, HN, trivial⟩
                          case measure => simp [intOf]; omega
                    · obtain rfl : k = n1 := by omega
                      have hfr := anyTo_all j z1 a b
                      rw [HX.out, HA.out] at hfr
                      clear hzw r4w
                      cases s with
                      | false =>
                        have HN : Hid (RefC.lstTo M (Sg.fr j z1) a (b + 1) = RefC.lstTo M (Sg.fr j z1) a b) := RefC.lstTo_miss (by rw [← hfr]; rfl)
                        clear hfr
                        go_wp2
                        go_roundw
                        case rel => exact ⟨b + 1, by omega, by go_num, by rw [HN.out]; exact HO.out, hbel⟩
                        case measure => simp [intOf]; omega
                      | true =>
                        by_cases he : a = b
                        · have HN : Hid (RefC.lstTo M (Sg.fr j z1) a (b + 1) = RefC.lstTo M (Sg.fr j z1) a b) := RefC.lstTo_miss (by rw [← hfr]; simp [he])
                          have hd : ((a : Int) != (b : Int)) = false := by simp [he]
                          clear hfr he
                          go_wp2
                          go_roundw
                          case rel => exact ⟨b + 1, by omega, by go_num, by rw [HN.out]; exact HO.out, hbel⟩
                          case measure => simp [intOf]; omega
                        · have HN : Hid (RefC.lstTo M (Sg.fr j z1) a (b + 1) = RefC.lstTo M (Sg.fr j z1) a b ++ [((a : Int), (b : Int))]) := RefC.lstTo_hit (by rw [← hfr]; simp [he])
                          have hd : ((a : Int) != (b : Int)) = true := by simp; omega
                          have hown2 := HO.out.below ((Below.refl wr.heap.size wr).alloc (Nat.le_refl _) (.cells #[.int .i64 (a : Int), .int .i64 (b : Int)] 28))
                          have hql : (RefC.lstTo M (Sg.fr j z1) a b).length + 1 ≤ 8796093022208 := by have := HLE.out; omega
                          have hb2 := hbel.alloc hsz (.cells #[.int .i64 (a : Int), .int .i64 (b : Int)] 28)
                          clear hfr he
                          go_wp2_with (at_builtin; refine wpList_appP _ rfl (.tmp 106) (.tmp 110) 22 rfl B3 28 Tryd.underlying22 lineInfo _ _ rfl hown2 (some ⟨wr.heap.size, 0, none⟩) 1 1 [((a : Int), (b : Int))] rfl (RdP.one wr ((a : Int), (b : Int)) _) hql (by simp; omega) ?_; intro v3 w3 hown3 hg3 hat3)
                          rw [← HN.out] at hown3
                          go_roundw
                          case rel => exact ⟨b + 1, by omega, by go_num, hown3, below_appP hb2 hown2 hg3 (by simp; omega)⟩
                          case measure => simp [intOf]; omega
                · obtain rfl : b = M := by omega
                  rw [RefC.lstTo_row] at hown
                  go_wp2
                  go_roundw
                  case rel => exact ⟨a + 1, by omega, by go_num, hown, hbel⟩
                  case measure => simp [intOf]; omega
            · obtain rfl : a = M := by omega
              have hsz : B3 ≤ wr.heap.size := by have := hbel.size; rw [← HB3.out] at this; exact this
              rw [RefC.lstTo_end] at hown
              obtain ⟨N, hN⟩ : ∃ N, N = (Cl.lst a (Sg.fr j z1)).length := ⟨_, rfl⟩
              have hrd := hown.rd
              rw [← hN] at hrd
              obtain ⟨A5, c5, rfl, r5⟩ := hrd
              have r5 : RdP wr wr.heap.size A5 N c5 (Sg.folded j z1) := by rw [show Sg.folded j z1 = Cl.lst a (Sg.fr j z1) by unfold Sg.folded; rw [← HM.out]]; exact r5
              have r2 := (r2.below hbel).more hsz
              have r4 := (r4.below hbel).more hsz
              have b4 := b3.trans (hbel.mono b3s)
              clear hown hN hbel hsz b3 b3s hz3
              go_wp2_with fail
              refine (Parts_yes j a1 n1 c1 z1 _ (w1.past b4) H0.out).mono ?_
              rintro e y1 ⟨A6, c6, rfl, r6, d1⟩
              have r2 := r2.past d1
              have r4 := r4.past d1
              have r5 := r5.past d1
              have b5 := b4.trans (d1.mono b4.size)
              clear d1 b4
              go_wp2_with fail
              refine (Err_none _).mono ?_
              rintro e y2 ⟨rfl, rfl⟩
              go_wp2_with fail
              refine (Ints_t _ _ j j _ _ _ _ true _ r6 r2 (by simp)).mono ?_
              rintro e y2 ⟨rfl, d2⟩
              have r4 := r4.past d2
              have r5 := r5.past d2
              have b6 := b5.trans (d2.mono b5.size)
              clear d2 b5 r2 r6
              go_wp2_with fail
              refine (Fold_yes j a1 n1 c1 z1 _ (w1.past b6) H0.out).mono ?_
              rintro e y3 ⟨A7, c7, A8, L8, c8, rfl, r7, r8, d3⟩
              have r4 := r4.past d3
              have r5 := r5.past d3
              have b7 := b6.trans (d3.mono b6.size)
              clear d3 b6
              go_wp2_with fail
              refine (Err_none _).mono ?_
              rintro e y4 ⟨rfl, rfl⟩
              go_wp2_with fail
              refine (Ints_t _ _ j j _ _ _ _ true _ r7 r4 (by simp)).mono ?_
              rintro e y4 ⟨rfl, d4⟩
              have r5 := r5.past d4
              have r8 := r8.past d4
              have b8 := b7.trans (d4.mono b7.size)
              clear d4 b7 r4 r7
              go_wp2_with fail
              refine (Lines_any A8 A5 L8 N c8 c5 _ _ true _ r8 r5 (by simp)).mono ?_
              rintro e y5 ⟨rfl, d5⟩
              go_wp2
              go_ret
              exact ⟨rfl, b8.trans (d5.mono b8.size)⟩

theorem walk (w : World) (het : tld.EtIs w) (a0 : Int) (w0 : (Lit.int .i64 a0).wf = true) (a1 : Option Addr) (n1 c1 : Nat) (z1 : List Gr.Ln) (w1 : RdP w w.heap.size a1 n1 c1 z1) :
    Calls Tryd.prog 3 #[.int .i64 a0, .slice a1 n1 c1] w fun e w' => e = .returned (.bool true) ∧ Below w.heap.size w w' := by
  by_cases h : Gr.code a0 z1 = 0
  · obtain ⟨m, rfl⟩ : ∃ m : Nat, a0 = (m : Int) := ⟨a0.toNat, by have := (Gr.code_zero.1 h).1; omega⟩
    exact good w het m a1 n1 c1 z1 w1 h
  · exact bad w het a0 a1 n1 c1 z1 w1 h

end Go.Proofs.YtcapinapfobcbaaDoor.strongSays
