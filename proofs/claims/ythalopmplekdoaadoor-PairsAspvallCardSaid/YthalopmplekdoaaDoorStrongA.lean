/-
  Contracts of slices.Index and slices.Contains at integers, and of component of package strong: the points of a point's part, rising. No statement of the program is proved here; there is no condition.
-/
import Derived.Test.YthalopmplekdoaaDoorStrongP
import Derived.Test.YthalopmplekdoaaDoorBase
import Derived.Test.YthalopmplekdoaaDoorLibR
import Derived.BigQuiet
namespace Go.Proofs.YthalopmplekdoaaDoor
open Go.RowKit Go.Shelf

set_option linter.unusedSimpArgs false
set_option linter.unusedVariables false

theorem IndexI_any (A : Option Addr) (n c : Nat) (xs : List Int) (v : Int) (w : World) (hx : Rd w w.heap.size A n c xs) :
    Calls Tryd.prog 45 #[.slice A n c, .int .i64 v] w fun e w' => (∃ r : Int, e = .returned (.int .i64 r) ∧ Hid (decide (0 ≤ r) = xs.contains v)) ∧ w = w' := by
  have HX := Lib.hid hx.len
  have hbn := hx.big
  obtain ⟨t, ht⟩ : ∃ t, xs.contains v = t := ⟨_, rfl⟩
  rw [ht]
  have HT := Lib.hid ht
  clear ht
  go_enter Tryd.func45, Tryd.ntmps45
  go_wp2
  go_loop [5, 8] (fun _ i => ∃ k : Nat, k ≤ n ∧ i = .int .i64 k ∧ Hid (t = (xs.drop k).contains v)) (fun _ i => n - (intOf i).toNat)
  case atStart => exact ⟨0, Nat.zero_le _, rfl, by show _ = _; rw [← HT.out]; rfl⟩
  case round =>
    obtain ⟨k, hk, rfl, H⟩ := hrel
    by_cases hlt : k < n
    · obtain ⟨b1, o1, rfl, hb1, hc1⟩ := hx.at_ (by omega)
      have g1 := hc1 k hlt
      clear hc1
      obtain ⟨p, hp⟩ : ∃ p, p = xs.getD k 0 := ⟨_, rfl⟩
      rw [← hp] at g1
      have hcons : Hid ((xs.drop k).contains v = (v == p || (xs.drop (k + 1)).contains v)) := by
        show _ = _
        have hkl : k < xs.length := by rw [HX.out]; exact hlt
        rw [List.drop_eq_getElem_cons hkl, List.contains_cons, hp]
        simp [List.getD, hkl]
      clear hp
      by_cases he : v = p
      · subst he
        have hyes : Hid (t = true) := by show _ = _; rw [H.out, hcons.out]; simp
        go_wp2
        go_ret
        exact ⟨⟨_, rfl, by show _ = _; rw [hyes.out]; simp⟩, rfl⟩
      · have hd : (v == p) = false := by simpa using he
        have hnext : Hid (t = (xs.drop (k + 1)).contains v) := by
          show _ = _
          rw [H.out, hcons.out, hd, Bool.false_or]
        clear he
        go_wp2
        go_round
        case rel => exact ⟨k + 1, by omega, by go_num, hnext⟩
        case measure => simp [intOf]; omega
    · have hno : Hid (t = false) := by
        show _ = _
        rw [H.out, List.drop_eq_nil_of_le (by rw [HX.out]; omega)]
        rfl
      go_wp2
      go_ret
      exact ⟨⟨_, rfl, by show _ = _; rw [hno.out]; rfl⟩, rfl⟩

theorem ContainsI_any (A : Option Addr) (n c : Nat) (xs : List Int) (v : Int) (t : Bool) (w : World) (hx : Rd w w.heap.size A n c xs) (ht : xs.contains v = t) :
    Calls Tryd.prog 41 #[.slice A n c, .int .i64 v] w fun e w' => e = .returned (.bool t) ∧ w = w' := by
  have HT := Lib.hid ht
  clear ht
  go_enter Tryd.func41, Tryd.ntmps41
  go_wp2_with fail
  refine (IndexI_any A n c xs v _ hx).mono ?_
  rintro e w1 ⟨⟨r, rfl, hr⟩, rfl⟩
  go_wp2
  go_ret
  refine ⟨?_, rfl⟩
  rw [← HT.out, ← hr.out]
  rfl

set_option maxRecDepth 100000 in
set_option maxHeartbeats 2000000 in
/-- the points of the part of v -/
theorem component_any (m : Nat) (hm8 : m ≤ 8) (ls : List Gr.Ln) (hg : ∀ p ∈ ls, Gr.Good (m : Int) p) (A : Option Addr) (c : Nat) (v : Nat) (hv : v < m) (w : World) (hr : RdR w w.heap.size A m c (Cl.crows m ls)) :
    Calls Tryd.prog 34 #[.slice A m c, .int .i64 (v : Int)] w fun e w' => ∃ u, e = .returned u ∧ Own w' w.heap.size 3 u (Sg.mem m ls v) ∧ Below w.heap.size w w' := by
  have HG := Lib.hid hg
  clear hg
  have hbig := hr.big
  obtain ⟨b, off, rfl, hbb, hcc⟩ := hr.at_ (by omega)
  obtain ⟨A1, c1, x1, r1⟩ := hcc v hv
  rw [Cl.crows_at ls hv] at x1 r1
  have HR := Lib.hid hr
  clear hcc hr
  obtain ⟨l1, hl1⟩ : ∃ l1, l1 = (Cl.crow m ls v).length := ⟨_, rfl⟩
  rw [← hl1] at x1 r1
  clear hl1
  have k1 : (0 : Int) ≤ (v : Int) := by omega
  have k2 : (v : Int) < (m : Int) := by omega
  obtain ⟨vi, hvi⟩ : ∃ vi : Int, vi = (v : Int) := ⟨_, rfl⟩
  go_enter Tryd.func34, Tryd.ntmps34
  go_wp2
  go_loopw [5, 6, 9] (fun u _ i wr => ∃ j : Nat, j ≤ m ∧ i = .int .i64 j ∧ Own wr w.heap.size 3 u (Sg.memT m ls v j) ∧ Below w.heap.size w wr) (fun _ _ i _ => m - (intOf i).toNat)
  case atStart => exact ⟨0, Nat.zero_le _, rfl, Own.nil _ _ _, Below.refl _ _⟩
  case round =>
    obtain ⟨j, hj, rfl, hown, hbel⟩ := hrel
    by_cases hlt : j < m
    · have j1 : (0 : Int) ≤ (j : Int) := by omega
      have j2 : (j : Int) < (m : Int) := by omega
      have y1 := (hbel.cell (p := ⟨b, off + v, none⟩) hbb).trans x1
      have s1 : Rd wr wr.heap.size A1 l1 c1 (Cl.crow m ls v) := (r1.below hbel).more hbel.size
      have hml : (Sg.memT m ls v j).length ≤ 8 := by have := Sg.memT_len (n := m) (ls := ls) v j; omega
      have happ : Sg.both m ls v j = true → Hid (Sg.memT m ls v (j + 1) = Sg.memT m ls v j ++ [(j : Int)]) := fun h => Sg.memT_hit h
      have hmis : Sg.both m ls v j = false → Hid (Sg.memT m ls v (j + 1) = Sg.memT m ls v j) := fun h => Sg.memT_miss h
      have hbi := Sg.both_iff HG.out hv hlt
      by_cases he : j = v
      · have hd : ((j : Int) == (v : Int)) = true := by rw [he]; simp
        have hE := happ (hbi.2 (.inl he.symm))
        clear happ hmis hbi he
        go_wp2_with (first
          | (refine wpList_app _ rfl _ _ 46 rfl w.heap.size 3 Tryd.underlying46 intInfo _ _ rfl (hown.below ((Below.refl _ _).alloc (Nat.le_refl _) _)) (some ⟨wr.heap.size, 0, none⟩) 1 1 [(j : Int)] rfl (Rd.one wr _ _) (by omega) (by simp; have := hbel.size; omega) ?_; intro u' w5 hown5 hg5 _))
        go_roundw
        case rel => exact ⟨j + 1, by omega, by go_num, by rw [hE.out]; exact hown5, below_app (hbel.alloc hbel.size _) (hown.below ((Below.refl _ _).alloc (Nat.le_refl _) _)) hg5 (by simp; have := hbel.size; omega)⟩
        case measure => simp [intOf]; omega
      · have hd : ((j : Int) == (v : Int)) = false := by simp; omega
        cases h1 : To.comes m ls v j with
        | false =>
          have hE := hmis (by cases hb : Sg.both m ls v j with | false => rfl | true => rcases hbi.1 hb with e | ⟨e, _⟩; exact absurd e.symm he; rw [h1] at e; cases e)
          have HC := Lib.hid (ContainsI_any A1 l1 c1 _ (j : Int) false wr s1 (by rw [Cl.crow_has hlt]; exact h1))
          clear happ hmis hbi he h1
          go_wp2_with (first | (go_at_call 41; refine HC.out.mono ?_; rintro e w5 ⟨rfl, rfl⟩))
          go_roundw
          case rel => exact ⟨j + 1, by omega, by go_num, by rw [hE.out]; exact hown, hbel⟩
          case measure => simp [intOf]; omega
        | true =>
          have HC := Lib.hid (ContainsI_any A1 l1 c1 _ (j : Int) true wr s1 (by rw [Cl.crow_has hlt]; exact h1))
          obtain ⟨b2, o2, e2, hb2, hc2⟩ := HR.out.at_ (by omega)
          simp only [Option.some.injEq, Addr.mk.injEq, and_true] at e2
          obtain ⟨rfl, rfl⟩ := e2
          obtain ⟨A2, c2, x2, r2⟩ := hc2 j hlt
          rw [Cl.crows_at ls hlt] at x2 r2
          clear hc2
          obtain ⟨l2, hl2⟩ : ∃ l2, l2 = (Cl.crow m ls j).length := ⟨_, rfl⟩
          rw [← hl2] at x2 r2
          clear hl2
          have y2 := (hbel.cell (p := ⟨b, off + j, none⟩) hbb).trans x2
          have s2 : Rd wr wr.heap.size A2 l2 c2 (Cl.crow m ls j) := (r2.below hbel).more hbel.size
          cases h2 : To.comes m ls j v with
          | false =>
            have hE := hmis (by cases hb : Sg.both m ls v j with | false => rfl | true => rcases hbi.1 hb with e | ⟨_, e⟩; exact absurd e.symm he; rw [h2] at e; cases e)
            have HC2 := Lib.hid (ContainsI_any A2 l2 c2 _ (v : Int) false wr s2 (by rw [Cl.crow_has hv]; exact h2))
            clear happ hmis hbi he h1 h2
            go_wp2_with (first
              | (go_at_call 41; refine HC.out.mono ?_; rintro e w5 ⟨rfl, rfl⟩)
              | (go_at_call 41; refine HC2.out.mono ?_; rintro e w5 ⟨rfl, rfl⟩))
            go_roundw
            case rel => exact ⟨j + 1, by omega, by go_num, by rw [hE.out]; exact hown, hbel⟩
            case measure => simp [intOf]; omega
          | true =>
            have hE := happ (hbi.2 (.inr ⟨h1, h2⟩))
            have HC2 := Lib.hid (ContainsI_any A2 l2 c2 _ (v : Int) true wr s2 (by rw [Cl.crow_has hv]; exact h2))
            clear happ hmis hbi he h1 h2
            go_wp2_with (first
              | (go_at_call 41; refine HC.out.mono ?_; rintro e w5 ⟨rfl, rfl⟩)
              | (go_at_call 41; refine HC2.out.mono ?_; rintro e w5 ⟨rfl, rfl⟩)
              | (refine wpList_app _ rfl _ _ 46 rfl w.heap.size 3 Tryd.underlying46 intInfo _ _ rfl (hown.below ((Below.refl _ _).alloc (Nat.le_refl _) _)) (some ⟨wr.heap.size, 0, none⟩) 1 1 [(j : Int)] rfl (Rd.one wr _ _) (by omega) (by simp; have := hbel.size; omega) ?_; intro u' w5 hown5 hg5 _))
            go_roundw
            case rel => exact ⟨j + 1, by omega, by go_num, by rw [hE.out]; exact hown5, below_app (hbel.alloc hbel.size _) (hown.below ((Below.refl _ _).alloc (Nat.le_refl _) _)) hg5 (by simp; have := hbel.size; omega)⟩
            case measure => simp [intOf]; omega
    · obtain rfl : j = m := by omega
      go_wp2
      go_ret
      exact ⟨_, rfl, hown, hbel⟩

end Go.Proofs.YthalopmplekdoaaDoor
