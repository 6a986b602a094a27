/-
  Contracts of package trail: reachesAll, stepper and the function that it hands back: one step of a way.
-/
import Derived.Test.YtibphofiaodnmaaDoorTrailB
namespace Go.Proofs.YtibphofiaodnmaaDoor
open Go.RowKit

set_option linter.unusedSimpArgs false
set_option linter.unusedVariables false

/-- From where nothing is wrong -/
theorem From_fine (m a : Nat) (A : Option Addr) (k c : Nat) (ls : List Gr.Ln) (w : World) (hr : RdP w w.heap.size A k c ls) (h : Gr.code (m : Int) ls = 0) (ha : a < m) :
    Calls Tryd.prog 47 #[.int .i64 (m : Int), .slice A k c, .int .i64 (a : Int)] w fun e w' => ∃ g, e = .returned (.tuple #[.slice (some ⟨g, 0, none⟩) m m, .nilIface]) ∧ Own w' w.heap.size 3 (.slice (some ⟨g, 0, none⟩) m m) (Wa.dists m (Wa.nrow m ls) a) ∧ Below w.heap.size w w' := by
  refine (From_any (m : Int) A k c ls (a : Int) w hr).mono ?_
  rintro e w1 ⟨hb, (⟨h0, _⟩ | ⟨_, g, rfl, ho⟩)⟩
  · exact absurd (Wa.fcode_zero.2 ⟨h, by omega, by omega⟩) h0
  · simp only [Int.toNat_natCast] at ho ⊢
    exact ⟨g, rfl, ho, hb⟩

theorem lined_any {m : Nat} {ls : List Gr.Ln} (h : Gr.code (m : Int) ls = 0) (x : Nat) : Tl.linedB m ls x = !(ls.any fun p => decide ((Wa.dists m (Wa.nrow m ls) x).getD p.1.toNat 0 < 0)) := by
  unfold Tl.linedB
  rw [List.not_any_eq_all_not]
  rw [Bool.eq_iff_iff, List.all_eq_true, List.all_eq_true]
  refine forall_congr' fun p => forall_congr' fun hp => ?_
  obtain ⟨h1, h2, h3, h4, h5⟩ := (Gr.code_zero.1 h).2.2.2 p hp
  rw [Wa.dists_at _ _ (show p.1.toNat < m by omega)]
  simp

set_option maxRecDepth 100000 in
set_option maxHeartbeats 1000000 in
/-- can all lines be reached from x? -/
theorem reaches_any (m x : Nat) (A : Option Addr) (n c : Nat) (ls : List Gr.Ln) (w : World) (hr : RdP w w.heap.size A n c ls) (h : Gr.code (m : Int) ls = 0) (hx : x < m) :
    Calls Tryd.prog 34 #[.int .i64 (m : Int), .slice A n c, .int .i64 (x : Int)] w fun e w' => ∃ t, e = .returned (.bool t) ∧ Hid (t = Tl.linedB m ls x) ∧ Below w.heap.size w w' := by
  have H := Lib.hid h
  have HG := Lib.hid (Gr.code_zero.1 h).2.2.2
  clear h
  go_enter Tryd.func34, Tryd.ntmps34
  go_wp2_with fail
  refine (From_fine m x A n c ls _ hr H.out hx).mono ?_
  rintro e w1 ⟨g, rfl, ho, hb1⟩
  obtain ⟨s, hs⟩ : ∃ s, s = w1.heap.size := ⟨_, rfl⟩
  obtain ⟨W, hW⟩ : ∃ W, W = w1.alloc (.cells #[.slice (some ⟨g, 0, none⟩) m m] 24) := ⟨_, rfl⟩
  have hbW : Below w1.heap.size w1 W := by rw [hW]; exact (Below.refl _ _).alloc (Nat.le_refl _) _
  have hx0 : Boxed W s 24 (.slice (some ⟨g, 0, none⟩) m m) := by rw [hW, hs]; exact Boxed.new w1 _ _
  have hoW := ho.below hbW
  have hb2 : Below w.heap.size w W := hb1.trans (hbW.mono hb1.size)
  have HC := Lib.hid (ContainsFn_any 49 #[.pointer (some ⟨s, 0, none⟩)] (fun p => decide ((Wa.dists m (Wa.nrow m ls) x).getD p.1.toNat 0 < 0)) A n c ls W (hr.past hb2) (enters_of Tryd.func49 (by kernel_rfl) rfl)
    (fun V p hp hV => by
      obtain ⟨h1, h2, h3, h4, h5⟩ := HG.out p hp
      have hb := (hV.cell (p := ⟨s, 0, none⟩) hx0.lt).trans hx0.cell
      have hc := (hV.cell (p := ⟨g, p.1.toNat, none⟩) (hoW.lt g rfl)).trans (hoW.cell p.1.toNat (by omega))
      have := reach1_any s g m (Wa.dists m (Wa.nrow m ls) x) p.1.toNat p.2.toNat V hb hc (by omega)
      rw [Int.toNat_of_nonneg h1, Int.toNat_of_nonneg h3] at this
      exact this))
  have HL := Lib.hid (lined_any H.out x)
  have HS := Lib.hid hs
  have HW := Lib.hid hW
  have hs2 := hb2.size
  clear hs hW hr hx0 ho hoW hb1 hbW
  go_wp2_with fail
  rw [← HW.out, ← HS.out]
  refine HC.out.mono ?_
  rintro e w2 ⟨hb3, t, rfl, ht⟩
  have hbf : Below w.heap.size w w2 := hb2.trans (hb3.mono hs2)
  have HT : Hid ((!t) = Tl.linedB m ls x) := by show _ = _; rw [HL.out, ← ht.out]
  clear ht HL HC
  cases t
  all_goals
    go_wp2
    go_ret
    exact ⟨_, rfl, HT, hbf⟩

/-- what stepper hands back: the function, with its two boxes -/
theorem stepper_any (m : Nat) (A : Option Addr) (n c : Nat) (w : World) :
    Calls Tryd.prog 25 #[.int .i64 (m : Int), .slice A n c] w fun e w' => ∃ bn bl : Nat, e = .returned (.func (.func 32) #[] #[.pointer (some ⟨bn, 0, none⟩), .pointer (some ⟨bl, 0, none⟩)]) ∧ Boxed w' bn 3 (.int .i64 (m : Int)) ∧ Boxed w' bl 22 (.slice A n c) ∧ w.heap.size ≤ bn ∧ w.heap.size ≤ bl ∧ bn ≠ bl ∧ Below w.heap.size w w' := by
  have hx0 := (Boxed.new w 3 (.int .i64 (m : Int))).alloc (.cells #[.slice A n c] 22)
  have hx1 := Boxed.new (w.alloc (.cells #[.int .i64 (m : Int)] 3)) 22 (.slice A n c)
  rw [World.size_alloc] at hx1
  have hb : Below w.heap.size w ((w.alloc (.cells #[.int .i64 (m : Int)] 3)).alloc (.cells #[.slice A n c] 22)) := ((Below.refl _ _).alloc (Nat.le_refl _) _).alloc (by simp) _
  go_enter Tryd.func25, Tryd.ntmps25
  go_wp2
  go_ret
  exact ⟨_, _, rfl, hx0, hx1, Nat.le_refl _, by omega, by omega, hb⟩

/-- what a step hands back -/
def StPost (m v bl : Nat) (ls : List Gr.Ln) (w : World) (e : Ending) (w' : World) : Prop :=
  w.grownBy w' (some bl) ∧ ((e = .returned (.tuple #[.int .i64 0, .bool false]) ∧ ∀ x, x < m → Tl.No (Tl.nm ls) v x) ∨
    ∃ (u i : Nat) (r : Value), u < m ∧ e = .returned (.tuple #[.int .i64 (u : Int), .bool true]) ∧ i < ls.length ∧ (Tl.nm ls).Perm (Tl.sg v u :: Tl.nm (ls.eraseIdx i)) ∧ Tl.Lined (Tl.nm (ls.eraseIdx i)) u ∧ (∀ x, x < u → Tl.No (Tl.nm ls) v x) ∧
      Boxed w' bl 22 r ∧ OwnP w' w.heap.size 37 r (ls.eraseIdx i))

set_option maxRecDepth 100000 in
set_option maxHeartbeats 1000000 in
theorem step_any (m v bn bl : Nat) (A : Option Addr) (n c : Nat) (ls : List Gr.Ln) (w : World) (hbn : Boxed w bn 3 (.int .i64 (m : Int))) (hbl : Boxed w bl 22 (.slice A n c)) (hr : RdP w w.heap.size A n c ls) (h : Gr.code (m : Int) ls = 0) :
    Calls Tryd.prog 32 #[.int .i64 (v : Int), .pointer (some ⟨bn, 0, none⟩), .pointer (some ⟨bl, 0, none⟩)] w (StPost m v bl ls w) := by
  unfold StPost
  have hm8 : m ≤ 8 := by have := (Gr.code_zero.1 h).2.1; omega
  have hn24 : n ≤ 24 := by have := (Gr.code_zero.1 h).2.2.1; have := hr.len; omega
  have H := Lib.hid h
  have c0 := hbn.cell
  have HBN := Lib.hid hbn
  have HBL := Lib.hid hbl
  clear h hbn hbl
  go_enter Tryd.func32, Tryd.ntmps32
  go_wp2
  go_loopw [10] (fun iv wr => ∃ k : Nat, k ≤ m ∧ iv = .int .i64 (k : Int) ∧ Below w.heap.size w wr ∧ Hid (∀ x, x < k → Tl.No (Tl.nm ls) v x)) (fun iv _ => m - (intOf iv).toNat)
  case atStart => exact ⟨0, Nat.zero_le _, rfl, Below.refl _ _, fun i h => by omega⟩
  case round =>
    obtain ⟨k, hk, rfl, hbel, HNo⟩ := hrel
    by_cases hlt : k < m
    · have k1 : (0 : Int) ≤ (k : Int) := by omega
      have k2 : (k : Int) < (m : Int) := by omega
      have d0 := (hbel.cell (p := ⟨bn, 0, none⟩) HBN.out.lt).trans HBN.out.cell
      have d1 := (hbel.cell (p := ⟨bl, 0, none⟩) HBL.out.lt).trans HBL.out.cell
      have hrw := hr.past hbel
      have hnext : Hid (Tl.No (Tl.nm ls) v k → ∀ x, x < k + 1 → Tl.No (Tl.nm ls) v x) := fun h x hx => by
        rcases Nat.lt_or_ge x k with h1 | h1
        · exact HNo.out x h1
        · have : x = k := by omega
          rw [this]; exact h
      go_wp2_with fail
      refine (without_any A n c ls (v : Int) (k : Int) wr hrw (by omega)).mono ?_
      rintro e w1 ⟨hb1, (⟨rfl, hno⟩ | ⟨r, i, rfl, hil, hj, ho⟩)⟩
      · have HN1 := Lib.hid (hnext.out (Tl.No.none H.out hno))
        have hbel1 := hbel.trans (hb1.mono hbel.size)
        clear hno hnext
        go_wp2
        go_roundw
        case rel => exact ⟨k + 1, by omega, by go_num, hbel1, HN1⟩
        case measure => simp [intOf]; omega
      · have hbel1 := hbel.trans (hb1.mono hbel.size)
        have d2 := (hbel1.cell (p := ⟨bn, 0, none⟩) HBN.out.lt).trans HBN.out.cell
        obtain ⟨A1, e1, rfl, hr1⟩ := ho.rd
        have HO := Lib.hid ho
        have HIL := Lib.hid hil
        have HJ := Lib.hid hj
        obtain ⟨n1, hn1⟩ : ∃ n1, n1 = (ls.eraseIdx i).length := ⟨_, rfl⟩
        rw [← hn1] at hr1 HO ⊢
        clear hn1 ho hil hj d0 d1 hrw
        go_wp2_with fail
        refine (reaches_any m k A1 n1 e1 (ls.eraseIdx i) w1 hr1 (Tl.code_erase H.out i) hlt).mono ?_
        rintro e w2 ⟨t, rfl, ht, hb2⟩
        have hbel2 := hbel1.trans (hb2.mono hbel1.size)
        cases t with
        | false =>
          have HN1 := Lib.hid (hnext.out (Tl.No.far H.out HIL.out hlt HJ.out ht.out.symm))
          clear ht hnext
          go_wp2
          go_roundw
          case rel => exact ⟨k + 1, by omega, by go_num, hbel2, HN1⟩
          case measure => simp [intOf]; omega
        | true =>
          have hbx : Boxed w2 bl 22 (.slice A n c) := (hbel2.block bl HBL.out.lt).trans HBL.out
          have d3 := hbx.cell
          have d4 := hbx.frozen
          have ho2 := HO.out.below hb2
          have hfar := ho2.at_base
          have hLined := Lib.hid ((Tl.linedB_iff (Tl.code_erase H.out i) hlt).1 ht.out.symm)
          have hsz := hbel.size
          have hbll := HBL.out.lt
          have hset := hbx.set (.slice A1 n1 e1)
          have hgr : w.grownBy (w2.setCell ⟨bl, 0, none⟩ (.slice A1 n1 e1)) (some bl) := (grown_of_below hbel2 _).trans (grownBy_setCell' w2 bl _)
          have ho3 : OwnP (w2.setCell ⟨bl, 0, none⟩ (.slice A1 n1 e1)) w.heap.size 37 (.slice A1 n1 e1) (ls.eraseIdx i) := by
            refine (OwnP.grown ho2 (grownBy_setCell' w2 bl _) (fun k hk e => ?_)).mono hsz
            cases e
            have := hfar bl hk
            omega
          have HF := Lib.hid (And.intro hset (And.intro hgr ho3))
          clear hset hgr ho3 ho2 hfar hbx ht hnext hr1
          go_wp2
          go_ret2
          exact ⟨HF.out.2.1, .inr ⟨k, i, _, hlt, rfl, HIL.out, Tl.jn_perm HIL.out HJ.out, hLined.out, HNo.out, HF.out.1, HF.out.2.2⟩⟩
    · obtain rfl : k = m := by omega
      go_wp2
      go_ret2
      exact ⟨grown_of_below hbel _, .inl ⟨rfl, HNo.out⟩⟩

end Go.Proofs.YtibphofiaodnmaaDoor
