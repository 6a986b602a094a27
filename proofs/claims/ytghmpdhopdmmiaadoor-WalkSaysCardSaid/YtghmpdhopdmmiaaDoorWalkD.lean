/-
  The contract of Ring of package walk: the number of points of a shortest ring, or 0, or what is wrong.
-/
import Derived.Test.YtghmpdhopdmmiaaDoorWalkC
import Derived.Test.YtghmpdhopdmmiaaDoorWalkB
namespace Go.Proofs.YtghmpdhopdmmiaaDoor
open Go.RowKit

set_option linter.unusedSimpArgs false

/-- what Ring hands back -/
def RingPost (n : Int) (ls : List Gr.Ln) (w : World) (e : Ending) (w' : World) : Prop :=
  Below w.heap.size w w' ∧ ((Gr.code n ls ≠ 0 ∧ e = .returned (.tuple #[.int .i64 0, errv (Gr.code n ls)])) ∨
    (Gr.code n ls = 0 ∧ e = .returned (.tuple #[.int .i64 (Wa.girth n.toNat (Wa.nrow n.toNat ls)), .nilIface])))

theorem Ring_err (n : Int) (A : Option Addr) (k c : Nat) (ls : List Gr.Ln) (w : World) (hr : RdP w w.heap.size A k c ls) (h : Gr.code n ls ≠ 0) :
    Calls Tryd.prog 10 #[.int .i64 n, .slice A k c] w (RingPost n ls w) := by
  have H := Lib.hid h
  clear h
  go_enter Tryd.func10, Tryd.ntmps10
  go_wp2_with fail
  refine (Beside_any n A k c ls _ hr).mono ?_
  rintro e w1 ⟨hb, (⟨_, rfl⟩ | ⟨h0, _⟩)⟩
  · go_wp2
    go_ret2
    exact ⟨hb, .inl ⟨H.out, rfl⟩⟩
  · exact absurd h0 H.out

set_option maxRecDepth 100000 in
set_option maxHeartbeats 4000000 in
theorem Ring_ok (m : Nat) (A : Option Addr) (k c : Nat) (ls : List Gr.Ln) (w : World) (hr : RdP w w.heap.size A k c ls) (h : Gr.code (m : Int) ls = 0) :
    Calls Tryd.prog 10 #[.int .i64 (m : Int), .slice A k c] w (RingPost (m : Int) ls w) := by
  have hm8 : m ≤ 8 := by have := (Gr.code_zero.1 h).2.1; omega
  have H := Lib.hid h
  clear h
  go_enter Tryd.func10, Tryd.ntmps10
  go_wp2_with (go_at_call 16; refine (Beside_good m A k c ls _ hr H.out).mono ?_; rintro e w1 ⟨A1, c1, rfl, hrr, hb⟩)
  go_loopw [8, 23] (fun bv av wr => ∃ a : Nat, a ≤ m ∧ av = .int .i64 (a : Int) ∧ bv = .int .i64 (Wa.ringTo m (Wa.nrow m ls) a) ∧ RdR wr wr.heap.size A1 m c1 (Gr.rows m ls) ∧ Below w.heap.size w wr) (fun _ av _ => m - (intOf av).toNat)
  case atStart => exact ⟨0, Nat.zero_le _, rfl, rfl, hrr, hb⟩
  case round =>
    clear hrr hb
    obtain ⟨a, ham, rfl, rfl, hrr, hb⟩ := hrel
    by_cases hlt : a < m
    · have ha1 : (0 : Int) ≤ (a : Int) := by omega
      have ha2 : (a : Int) < (m : Int) := by omega
      obtain ⟨b0, o0, rfl, hb0, hcells⟩ := hrr.at_ (by omega)
      obtain ⟨A', c', g1, hrd⟩ := hcells a hlt
      rw [Wa.rows_nrow ls hlt, upL_len] at g1 hrd
      clear hcells
      obtain ⟨nr, hnr⟩ : ∃ nr, nr = (Wa.nrow m ls a).length := ⟨_, rfl⟩
      rw [← hnr] at g1 hrd
      have hnr8 : nr ≤ 8 := by have := Wa.nrow_len m ls a; omega
      have HNR := Lib.hid hnr
      clear hnr
      obtain ⟨p, hp⟩ : ∃ p, p = Wa.ringTo m (Wa.nrow m ls) a := ⟨_, rfl⟩
      rw [← hp]
      have HP := Lib.hid hp
      clear hp
      go_wp2
      go_loopw [8, 31] (fun bv jv wr => ∃ j : Nat, j ≤ nr ∧ jv = .int .i64 (j : Int) ∧ bv = .int .i64 (Wa.ringRow m (Wa.nrow m ls) a p ((Wa.nrow m ls a).take j)) ∧ RdR wr wr.heap.size (some ⟨b0, o0, none⟩) m c1 (Gr.rows m ls) ∧ Rd wr wr.heap.size A' nr c' (upL (Wa.nrow m ls a)) ∧ Below w.heap.size w wr) (fun _ jv _ => nr - (intOf jv).toNat)
      case atStart => exact ⟨0, Nat.zero_le _, rfl, rfl, hrr, hrd, hb⟩
      case round =>
        clear hrr hrd hb g1
        obtain ⟨j, hjn, rfl, rfl, hrr, hrd, hb⟩ := hrel
        by_cases hlj : j < nr
        · have hj1 : (0 : Int) ≤ (j : Int) := by omega
          have hj2 : (j : Int) < (nr : Int) := by omega
          have hjl : j < (Wa.nrow m ls a).length := by rw [← HNR.out]; exact hlj
          obtain ⟨b1, o1, rfl, hb1, hc1⟩ := hrd.at_ (by omega)
          have g2 := hc1 j hlj
          rw [upL_at] at g2
          clear hc1
          have hmem : (Wa.nrow m ls a).getD j 0 ∈ Wa.nrow m ls a := by simp [List.getD, hjl]
          have HT := Lib.hid (Wa.ringRow_take (m := m) (R := Wa.nrow m ls) (a := a) (best := p) hjl)
          generalize (Wa.nrow m ls a).getD j 0 = b at g2 hmem HT
          have HRT := Lib.hid (ringThrough_any m a b hm8 hlt (Wa.nrow m ls) (Wa.nrow_ok m ls) hmem (by rw [← HNR.out]; exact hnr8) (some ⟨b0, o0, none⟩) c1 (Gr.rows m ls) (fun k hk => Wa.rows_nrow ls hk) wr hrr)
          generalize Wa.rt m (Wa.nrow m ls) a b = x at HT HRT
          generalize Wa.ringRow m (Wa.nrow m ls) a p ((Wa.nrow m ls a).take j) = q at HT ⊢
          clear hmem hjl
          by_cases hx : 0 < x
          · by_cases hq : q = 0
            · have hq1 : (q == 0) = true := by simp [hq]
              have HB : Hid (Wa.better x q = x) := by show _ = _; unfold Wa.better; rw [if_pos ⟨hx, .inl hq⟩]
              clear hq
              go_wp2_with (go_at_call 20; refine HRT.out.mono ?_; rintro e w2 ⟨rfl, hb2⟩)
              go_roundw
              case rel => exact ⟨j + 1, by omega, by go_num, by rw [HT.out, HB.out], hrr.past hb2, hrd.past hb2, hb.trans (hb2.mono hb.size)⟩
              case measure => simp [intOf]; omega
            · have hq1 : (q == 0) = false := by simpa using hq
              by_cases hl : x < q
              · have HB : Hid (Wa.better x q = x) := by show _ = _; unfold Wa.better; rw [if_pos ⟨hx, .inr hl⟩]
                clear hq
                go_wp2_with (go_at_call 20; refine HRT.out.mono ?_; rintro e w2 ⟨rfl, hb2⟩)
                go_roundw
                case rel => exact ⟨j + 1, by omega, by go_num, by rw [HT.out, HB.out], hrr.past hb2, hrd.past hb2, hb.trans (hb2.mono hb.size)⟩
                case measure => simp [intOf]; omega
              · have HB : Hid (Wa.better x q = q) := by show _ = _; unfold Wa.better; rw [if_neg (fun h => h.2.elim hq hl)]
                have hdl : decide (x < q) = false := by simpa using hl
                clear hq hl
                go_wp2_with (go_at_call 20; refine HRT.out.mono ?_; rintro e w2 ⟨rfl, hb2⟩)
                go_roundw
                case rel => exact ⟨j + 1, by omega, by go_num, by rw [HT.out, HB.out], hrr.past hb2, hrd.past hb2, hb.trans (hb2.mono hb.size)⟩
                case measure => simp [intOf]; omega
          · have HB : Hid (Wa.better x q = q) := by show _ = _; unfold Wa.better; rw [if_neg (fun h => hx h.1)]
            have hdx : decide (0 < x) = false := by simpa using hx
            clear hx
            go_wp2_with (go_at_call 20; refine HRT.out.mono ?_; rintro e w2 ⟨rfl, hb2⟩)
            go_roundw
            case rel => exact ⟨j + 1, by omega, by go_num, by rw [HT.out, HB.out], hrr.past hb2, hrd.past hb2, hb.trans (hb2.mono hb.size)⟩
            case measure => simp [intOf]; omega
        · obtain rfl : j = nr := by omega
          have hq : Hid (Wa.ringRow m (Wa.nrow m ls) a p ((Wa.nrow m ls a).take j) = Wa.ringTo m (Wa.nrow m ls) (a + 1)) := by
            show _ = _
            rw [HNR.out, List.take_length, HP.out]
            rfl
          generalize Wa.ringRow m (Wa.nrow m ls) a p ((Wa.nrow m ls a).take j) = q at hq ⊢
          go_wp2
          go_roundw
          case rel => exact ⟨a + 1, by omega, by go_num, by rw [hq.out], hrr, hb⟩
          case measure => simp [intOf]; omega
    · obtain rfl : a = m := by omega
      go_wp2
      go_ret2
      refine ⟨hb, .inr ⟨H.out, ?_⟩⟩
      rw [Int.toNat_natCast]
      rfl

theorem Ring_any (n : Int) (A : Option Addr) (k c : Nat) (ls : List Gr.Ln) (w : World) (hr : RdP w w.heap.size A k c ls) :
    Calls Tryd.prog 10 #[.int .i64 n, .slice A k c] w (RingPost n ls w) := by
  by_cases h : Gr.code n ls = 0
  · obtain ⟨m, rfl⟩ : ∃ m : Nat, n = (m : Int) := ⟨n.toNat, by have := (Gr.code_zero.1 h).1; omega⟩
    exact Ring_ok m A k c ls w hr h
  · exact Ring_err n A k c ls w hr h

/-- From where nothing is wrong -/
theorem From_good (m a : Nat) (A : Option Addr) (k c : Nat) (ls : List Gr.Ln) (w : World) (hr : RdP w w.heap.size A k c ls) (h : Gr.code (m : Int) ls = 0) (ha : a < m) :
    Calls Tryd.prog 12 #[.int .i64 (m : Int), .slice A k c, .int .i64 (a : Int)] w fun e w' => ∃ g, e = .returned (.tuple #[.slice (some ⟨g, 0, none⟩) m m, .nilIface]) ∧ Own w' w.heap.size 3 (.slice (some ⟨g, 0, none⟩) m m) (Wa.dists m (Wa.nrow m ls) a) ∧ Below w.heap.size w w' := by
  refine (From_any (m : Int) A k c ls (a : Int) w hr).mono ?_
  rintro e w1 ⟨hb, (⟨h0, _⟩ | ⟨_, g, rfl, ho⟩)⟩
  · exact absurd (Wa.fcode_zero.2 ⟨h, by omega, by omega⟩) h0
  · simp only [Int.toNat_natCast] at ho ⊢
    exact ⟨g, rfl, ho, hb⟩
/-- From where something is wrong -/
theorem From_bad (n : Int) (A : Option Addr) (k c : Nat) (ls : List Gr.Ln) (a : Int) (w : World) (hr : RdP w w.heap.size A k c ls) (h : Wa.fcode n ls a ≠ 0) :
    Calls Tryd.prog 12 #[.int .i64 n, .slice A k c, .int .i64 a] w fun e w' => e = .returned (.tuple #[.slice none 0 0, errv (Wa.fcode n ls a)]) ∧ Below w.heap.size w w' := by
  refine (From_any n A k c ls a w hr).mono ?_
  rintro e w1 ⟨hb, (⟨_, rfl⟩ | ⟨h0, _⟩)⟩
  · exact ⟨rfl, hb⟩
  · exact absurd h0 h
theorem Parts_good (m : Nat) (A : Option Addr) (k c : Nat) (ls : List Gr.Ln) (w : World) (hr : RdP w w.heap.size A k c ls) (h : Gr.code (m : Int) ls = 0) :
    Calls Tryd.prog 7 #[.int .i64 (m : Int), .slice A k c] w fun e w' => ∃ g, e = .returned (.tuple #[.slice (some ⟨g, 0, none⟩) m m, .nilIface]) ∧ Own w' w.heap.size 3 (.slice (some ⟨g, 0, none⟩) m m) (Wa.labs m (Wa.nrow m ls) m) ∧ Below w.heap.size w w' := by
  refine (Parts_any (m : Int) A k c ls w hr).mono ?_
  rintro e w1 ⟨hb, (⟨h0, _⟩ | ⟨_, g, rfl, ho⟩)⟩
  · exact absurd h h0
  · simp only [Int.toNat_natCast] at ho ⊢
    exact ⟨g, rfl, ho, hb⟩
theorem Parts_bad (n : Int) (A : Option Addr) (k c : Nat) (ls : List Gr.Ln) (w : World) (hr : RdP w w.heap.size A k c ls) (h : Gr.code n ls ≠ 0) :
    Calls Tryd.prog 7 #[.int .i64 n, .slice A k c] w fun e w' => e = .returned (.tuple #[.slice none 0 0, errv (Gr.code n ls)]) ∧ Below w.heap.size w w' := by
  refine (Parts_any n A k c ls w hr).mono ?_
  rintro e w1 ⟨hb, (⟨_, rfl⟩ | ⟨h0, _⟩)⟩
  · exact ⟨rfl, hb⟩
  · exact absurd h0 h
theorem Ring_good (m : Nat) (A : Option Addr) (k c : Nat) (ls : List Gr.Ln) (w : World) (hr : RdP w w.heap.size A k c ls) (h : Gr.code (m : Int) ls = 0) :
    Calls Tryd.prog 10 #[.int .i64 (m : Int), .slice A k c] w fun e w' => e = .returned (.tuple #[.int .i64 (Wa.girth m (Wa.nrow m ls)), .nilIface]) ∧ Below w.heap.size w w' := by
  refine (Ring_any (m : Int) A k c ls w hr).mono ?_
  rintro e w1 ⟨hb, (⟨h0, _⟩ | ⟨_, rfl⟩)⟩
  · exact absurd h h0
  · rw [Int.toNat_natCast]
    exact ⟨rfl, hb⟩
theorem Ring_bad (n : Int) (A : Option Addr) (k c : Nat) (ls : List Gr.Ln) (w : World) (hr : RdP w w.heap.size A k c ls) (h : Gr.code n ls ≠ 0) :
    Calls Tryd.prog 10 #[.int .i64 n, .slice A k c] w fun e w' => e = .returned (.tuple #[.int .i64 0, errv (Gr.code n ls)]) ∧ Below w.heap.size w w' := by
  refine (Ring_any n A k c ls w hr).mono ?_
  rintro e w1 ⟨hb, (⟨_, rfl⟩ | ⟨h0, _⟩)⟩
  · exact ⟨rfl, hb⟩
  · exact absurd h0 h

end Go.Proofs.YtghmpdhopdmmiaaDoor
