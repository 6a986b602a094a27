/-
  The walk of the law TopOver: for every number of points, lines and start it returns true.
-/
import Derived.Test.YtjcdnkbandagoaaDomD
import Derived.Test.YtjcdnkbandagoaaOverN
import Derived.Test.YtjcdnkbandagoaaPointsR
import Derived.Test.YtjcdnkbandagoaaGraphE
import Derived.BigQuiet
namespace Go.Proofs.Ytjcdnkbandagoaa.topOver
open Go.RowKit
set_option linter.unusedSimpArgs false
set_option linter.unusedVariables false

theorem two1 : Gr.code (2 : Int) [] = 0 := by kernel_rfl
theorem two2 : Do.dls 2 [] 1 = [[], [1]] := by kernel_rfl
theorem Of_two (w : World) : Calls Try.prog 8 #[.int .i64 2, .slice none 0 0, .int .i64 1] w fun e w' => ∃ b o c A' c', e = .returned (.tuple #[.slice (some ⟨b, o, none⟩) 2 c, .nilIface]) ∧ w'.cell? ⟨b, o + 1, none⟩ = some (.slice A' 1 c') ∧ b < w'.heap.size ∧ Rd w' w'.heap.size A' 1 c' [1] ∧ Below w.heap.size w w' := by
  have := Of_yes 2 1 none 0 0 [] w (RdP.nil _ _) two1 (by omega)
  rw [two2] at this
  refine this.mono ?_
  rintro e w' ⟨A1, c1, rfl, hr, hb⟩
  obtain ⟨b, o, rfl, hlt, hc⟩ := hr.at_ (by omega)
  obtain ⟨A', c', h1, h2⟩ := hc 1 (by omega)
  exact ⟨b, o, c1, A', c', rfl, h1, hlt, h2, hb⟩
theorem RdP_bts (ls : List Gr.Ln) : ∀ a b : Int, Gr.has (Do.bts ls ls.length) a b = true → Gr.has (Do.bts ls ls.length) b a = true := fun a b h => Do.bts_sym h
/-- does one of the points below i, other than k, have k ahead of it? -/
def ovTo (m : Nat) (ls : List Gr.Ln) (st k i : Nat) : Bool := (List.range i).any fun j => !decide (j = k) && Do.dom m ls st j k
theorem ovTo_zero (m : Nat) (ls : List Gr.Ln) (st k : Nat) : ovTo m ls st k 0 = false := rfl
theorem ovTo_succ (m : Nat) (ls : List Gr.Ln) (st k i : Nat) : ovTo m ls st k (i + 1) = (ovTo m ls st k i || (!decide (i = k) && Do.dom m ls st i k)) := by
  unfold ovTo
  rw [List.range_succ, List.any_append]
  simp
theorem ovTo_yes {m : Nat} {ls : List Gr.Ln} {st k : Nat} (hsym : ∀ a b : Int, Gr.has ls a b = true → Gr.has ls b a = true) (hst : st < m) (hk : k < m) (hks : k ≠ st) (h : ovTo m ls st k m = true) : (upL (Dp.cpts m (Wa.nrow m ls))).contains (k : Int) = true := by
  unfold ovTo at h
  obtain ⟨i, hi, hc⟩ := List.any_eq_true.1 h
  simp only [Bool.and_eq_true, Bool.not_eq_true', decide_eq_false_iff_not] at hc
  have := Dp.mem_cpts.2 ⟨hk, Do.over_cut hsym hst hk hks (fun e => hc.1 e.symm) hc.2⟩
  have h2 : (k : Int) ∈ upL (Dp.cpts m (Wa.nrow m ls)) := List.mem_map.2 ⟨k, this, rfl⟩
  simpa using h2

set_option maxRecDepth 100000 in
set_option maxHeartbeats 4000000 in
/-- something is wrong with the lines either way, or with the start -/
theorem bad (w : World) (a0 : Int) (a1 : Option Addr) (n1 c1 : Nat) (z1 : List Gr.Ln) (w1 : RdP w w.heap.size a1 n1 c1 z1) (a2 : Int) (JJ : Nat) (hJ : JJ ≤ n1) (hJ2 : JJ ≤ 12) (hJ3 : JJ = n1 ∨ JJ = 12) (hc : Do.fcode a0 (Do.bts z1 JJ) a2 ≠ 0) :
    Calls Try.prog 6 #[.int .i64 a0, .slice a1 n1 c1, .int .i64 a2] w fun e w' => e = .returned (.bool true) ∧ Below w.heap.size w w' := by
  have HN := Lib.hid hc
  have HX := Lib.hid w1.len
  have hbig1 := w1.big
  have hO0 : OwnP w w.heap.size 38 (.slice none 0 0) (Do.bts z1 0) := by rw [Do.bts_zero]; exact OwnP.nil _ _ _
  have hb0 : Below w.heap.size w w := Below.refl _ _
  clear hc
  go_enter Try.func6, Try.ntmps6
  go_wp2
  go_loopw [7, 8] (fun lv jv wr => ∃ j : Nat, j ≤ n1 ∧ j ≤ 12 ∧ jv = .int .i64 (j : Int) ∧ OwnP wr w.heap.size 38 lv (Do.bts z1 j) ∧ Below w.heap.size w wr) (fun _ jv _ => n1 - (intOf jv).toNat)
  case atStart => exact ⟨0, Nat.zero_le _, Nat.zero_le _, rfl, hO0, hb0⟩
  case round =>
    clear hO0 hb0
    obtain ⟨j, hj, hj12, rfl, hown, hbel⟩ := hrel
    have hsz := hbel.size
    by_cases hlt : j < n1
    · by_cases h12 : j < 12
      · have hltI : (j : Int) < (n1 : Int) := by omega
        have h12I : (j : Int) < 12 := by omega
        have j1 : (0 : Int) ≤ (j : Int) := by omega
        have hjl : j < z1.length := by rw [HX.out]; exact hlt
        obtain ⟨b1, o1, rfl, hbb, hcc⟩ := w1.at_ (by omega)
        obtain ⟨x, y⟩ := hcc j hlt
        have g1 := (hbel.cell (p := ⟨b1, o1 + j * 2, none⟩) hbb).trans x
        have g2 := (hbel.cell (p := ⟨b1, o1 + j * 2 + 1, none⟩) hbb).trans y
        have hbs := Do.bts_succ hjl
        have hbl := Do.bts_len z1 j (by omega)
        obtain ⟨⟨p, q⟩, hp⟩ : ∃ p, p = z1.getD j (0, 0) := ⟨_, rfl⟩
        rw [← hp] at x y g1 g2 hbs
        simp only at x y g1 g2 hbs
        have HBS : Hid (Do.bts z1 (j + 1) = (Do.bts z1 j ++ [(p, q)]) ++ [(q, p)]) := by show _ = _; rw [hbs]; simp
        have hown2 := hown.below ((Below.refl wr.heap.size wr).alloc (Nat.le_refl _) (.cells #[.int .i64 p, .int .i64 q] 38))
        have hql : (Do.bts z1 j).length + 1 ≤ 8796093022208 := by omega
        have hb2 := hbel.alloc hsz (.cells #[.int .i64 p, .int .i64 q] 38)
        have HCX : Hid (w.cell? ⟨b1, o1 + j * 2, none⟩ = some (.int .i64 p) ∧ w.cell? ⟨b1, o1 + j * 2 + 1, none⟩ = some (.int .i64 q)) := ⟨x, y⟩
        clear hcc x y hp hbs hown hjl
        go_wp2_with (at_builtin; refine wpList_appP _ rfl (.tmp 27) (.tmp 32) 22 rfl w.heap.size 38 Try.underlying22 lineInfo _ _ rfl hown2 (some ⟨wr.heap.size, 0, none⟩) 1 1 [(p, q)] rfl (RdP.one wr (p, q) _) hql (by simp; omega) ?_; intro v4 w4 hown4 hg4 hat4)
        have hb4 := below_appP hb2 hown2 hg4 (by simp; omega)
        have hsz4 := hb4.size
        clear hown2 hb2 hg4 hat4 g1 g2
        have g1 := (hb4.cell (p := ⟨b1, o1 + j * 2, none⟩) hbb).trans HCX.out.1
        have g2 := (hb4.cell (p := ⟨b1, o1 + j * 2 + 1, none⟩) hbb).trans HCX.out.2
        have hlen : (Do.bts z1 j ++ [(p, q)]).length + 1 ≤ 8796093022208 := by rw [List.length_append, hbl]; simp; omega
        have hownd := (show OwnP w4.drew w.heap.size 38 _ (Do.bts z1 j ++ [(p, q)]) from hown4).below ((Below.refl _ w4.drew).alloc (Nat.le_refl _) (.cells #[.int .i64 q, .int .i64 p] 38))
        have hrd4 : RdP (w4.drew.alloc (.cells #[.int .i64 q, .int .i64 p] 38)) (w4.heap.size + 1) (some ⟨w4.heap.size, 0, none⟩) 1 1 [(q, p)] := RdP.one w4.drew _ _
        have hbase : w.heap.size ≤ (w4.drew.alloc (.cells #[.int .i64 q, .int .i64 p] 38)).heap.size := by simp; omega
        have hbb4 : Below w.heap.size w (w4.drew.alloc (.cells #[.int .i64 q, .int .i64 p] 38)) := hb4.drew.alloc hsz4 _
        have e1 := (hbb4.cell (p := ⟨b1, o1 + j * 2, none⟩) hbb).trans HCX.out.1
        have e2 := (hbb4.cell (p := ⟨b1, o1 + j * 2 + 1, none⟩) hbb).trans HCX.out.2
        have hkeep : ∀ w3 : World, Below w.heap.size w w3 → w3.cell? ⟨b1, o1 + j * 2, none⟩ = some (.int .i64 p) ∧ w3.cell? ⟨b1, o1 + j * 2 + 1, none⟩ = some (.int .i64 q) := fun w3 hb => ⟨(hb.cell (p := ⟨b1, o1 + j * 2, none⟩) hbb).trans HCX.out.1, (hb.cell (p := ⟨b1, o1 + j * 2 + 1, none⟩) hbb).trans HCX.out.2⟩
        have HO := Lib.hid hownd
        have HK := Lib.hid hkeep
        clear hownd hkeep hown4
        go_region_held3 (fun w' : World => w'.cell? ⟨b1, o1 + j * 2, none⟩ = some (.int .i64 p) ∧ w'.cell? ⟨b1, o1 + j * 2 + 1, none⟩ = some (.int .i64 q)) (first | exact ⟨g1, g2⟩ | exact ⟨e1, e2⟩ | assumption)
          (first
            | (refine step_appP _ rfl (.tmp 34) (.tmp 46) 22 rfl w.heap.size 38 Try.underlying22 lineInfo _ (Do.bts z1 j ++ [(p, q)]) rfl HO.out (some ⟨w4.heap.size, 0, none⟩) 1 1 [(q, p)] rfl hrd4 hlen hbase ?_; intro v3 w3 hown3 hg3 hat3; have hb3 := below_appP hbb4 HO.out hg3 hbase; have hk3 := HK.out w3 hb3))
        go_wp2
        go_roundw
        case rel => exact ⟨j + 1, by omega, by omega, by go_num, by rw [HBS.out]; exact hown3, hb3⟩
        case measure => simp [intOf]; omega
      · have hltI : (j : Int) < (n1 : Int) := by omega
        have d12 : decide ((j : Int) < 12) = false := by simp; omega
        obtain ⟨Z, hZ⟩ : ∃ Z, Z = Do.bts z1 j := ⟨_, rfl⟩
        have HZ : Hid (Z = Do.bts z1 JJ) := by show _ = _; rw [hZ, show JJ = j by omega]
        rw [← hZ] at hown
        clear hZ
        obtain ⟨A2, c2, rfl, r2⟩ := hown.rd
        obtain ⟨N, hN⟩ : ∃ N, N = Z.length := ⟨_, rfl⟩
        rw [← hN] at r2 ⊢
        clear hN hown
        go_wp2_with fail
        refine (Of_bad a0 A2 N c2 Z a2 _ r2 (by rw [HZ.out]; exact HN.out)).mono ?_
        rintro e x1 ⟨rfl, d1⟩
        have b01 := hbel.trans (d1.mono hsz)
        go_wp2_with fail
        refine (Of_two _).mono ?_
        rintro e x2 ⟨b2, o2, c4, A4, c5, rfl, y2, hb2, s2, d2⟩
        have b02 := b01.trans (d2.mono b01.size)
        obtain ⟨x3, hx3⟩ : ∃ x3, x3 = x2.alloc (.cells #[.int .i64 1] 3) := ⟨_, rfl⟩
        have hbx : Below x2.heap.size x2 x3 := by rw [hx3]; exact (Below.refl _ _).alloc (Nat.le_refl _) _
        have hr3 : Rd x3 x3.heap.size (some ⟨x2.heap.size, 0, none⟩) 1 1 [1] := by rw [hx3]; exact (Rd.new x2 [1] _ 1 rfl (by omega)).more (by simp)
        have HX3 := Lib.hid hx3
        clear hx3
        go_wp2_with fail
        rw [← HX3.out]
        clear HX3
        refine (Ints_t _ _ 1 1 _ 1 _ _ true _ (s2.past hbx) hr3 (by decide)).mono ?_
        rintro e x4 ⟨rfl, d4⟩
        have d24 := hbx.trans (d4.mono hbx.size)
        have b04 := b02.trans (d24.mono b02.size)
        clear hr3 hbx d4 s2 y2
        go_wp2
        go_ret
        exact ⟨rfl, b04⟩
    · have d11 : decide ((j : Int) < (n1 : Int)) = false := by simp; omega
      have d13 : decide (j < n1) = false := by simp; omega
      obtain ⟨Z, hZ⟩ : ∃ Z, Z = Do.bts z1 j := ⟨_, rfl⟩
      have HZ : Hid (Z = Do.bts z1 JJ) := by show _ = _; rw [hZ, show JJ = j by omega]
      rw [← hZ] at hown
      clear hZ
      obtain ⟨A2, c2, rfl, r2⟩ := hown.rd
      obtain ⟨N, hN⟩ : ∃ N, N = Z.length := ⟨_, rfl⟩
      rw [← hN] at r2 ⊢
      clear hN hown
      go_wp2_with fail
      refine (Of_bad a0 A2 N c2 Z a2 _ r2 (by rw [HZ.out]; exact HN.out)).mono ?_
      rintro e x1 ⟨rfl, d1⟩
      have b01 := hbel.trans (d1.mono hsz)
      go_wp2_with fail
      refine (Of_two _).mono ?_
      rintro e x2 ⟨b2, o2, c4, A4, c5, rfl, y2, hb2, s2, d2⟩
      have b02 := b01.trans (d2.mono b01.size)
      obtain ⟨x3, hx3⟩ : ∃ x3, x3 = x2.alloc (.cells #[.int .i64 1] 3) := ⟨_, rfl⟩
      have hbx : Below x2.heap.size x2 x3 := by rw [hx3]; exact (Below.refl _ _).alloc (Nat.le_refl _) _
      have hr3 : Rd x3 x3.heap.size (some ⟨x2.heap.size, 0, none⟩) 1 1 [1] := by rw [hx3]; exact (Rd.new x2 [1] _ 1 rfl (by omega)).more (by simp)
      have HX3 := Lib.hid hx3
      clear hx3
      go_wp2_with fail
      rw [← HX3.out]
      clear HX3
      refine (Ints_t _ _ 1 1 _ 1 _ _ true _ (s2.past hbx) hr3 (by decide)).mono ?_
      rintro e x4 ⟨rfl, d4⟩
      have d24 := hbx.trans (d4.mono hbx.size)
      have b04 := b02.trans (d24.mono b02.size)
      clear hr3 hbx d4 s2 y2
      go_wp2
      go_ret
      exact ⟨rfl, b04⟩

set_option maxRecDepth 100000 in
set_option maxHeartbeats 8000000 in
theorem good (w : World) (m st : Nat) (a1 : Option Addr) (n1 c1 : Nat) (z1 : List Gr.Ln) (w1 : RdP w w.heap.size a1 n1 c1 z1) (JJ : Nat) (hJ : JJ ≤ n1) (hJ2 : JJ ≤ 12) (hJ3 : JJ = n1 ∨ JJ = 12) (hst : st < m) (h0 : Gr.code (m : Int) (Do.bts z1 JJ) = 0) :
    Calls Try.prog 6 #[.int .i64 (m : Int), .slice a1 n1 c1, .int .i64 (st : Int)] w fun e w' => e = .returned (.bool true) ∧ Below w.heap.size w w' := by
  have hm8 : m ≤ 8 := by have := (Gr.code_zero.1 h0).2.1; omega
  have H0 := Lib.hid h0
  have HX := Lib.hid w1.len
  have hbig1 := w1.big
  clear h0
  obtain ⟨q, hq⟩ : ∃ q : Int, q = (m : Int) - 1 := ⟨_, rfl⟩
  have hwr : IntKind.i64.wrap ((m : Int) - 1) = q := by rw [IntKind.wrap_i64] <;> omega
  have HQ : Hid (∀ p : Nat, p < m → (p : Int) ≤ q) := by show ∀ p, _; intro p hp; omega
  clear hq
  have hO0 : OwnP w w.heap.size 38 (.slice none 0 0) (Do.bts z1 0) := by rw [Do.bts_zero]; exact OwnP.nil _ _ _
  have hb0 : Below w.heap.size w w := Below.refl _ _
  go_enter Try.func6, Try.ntmps6
  go_wp2
  go_loopw [7, 8] (fun lv jv wr => ∃ j : Nat, j ≤ n1 ∧ j ≤ 12 ∧ jv = .int .i64 (j : Int) ∧ OwnP wr w.heap.size 38 lv (Do.bts z1 j) ∧ Below w.heap.size w wr) (fun _ jv _ => n1 - (intOf jv).toNat)
  case atStart => exact ⟨0, Nat.zero_le _, Nat.zero_le _, rfl, hO0, hb0⟩
  case round =>
    clear hO0 hb0
    obtain ⟨j, hj, hj12, rfl, hown, hbel⟩ := hrel
    have hsz := hbel.size
    by_cases hlt : j < n1
    · by_cases h12 : j < 12
      · have hltI : (j : Int) < (n1 : Int) := by omega
        have h12I : (j : Int) < 12 := by omega
        have j1 : (0 : Int) ≤ (j : Int) := by omega
        have hjl : j < z1.length := by rw [HX.out]; exact hlt
        obtain ⟨b1, o1, rfl, hbb, hcc⟩ := w1.at_ (by omega)
        obtain ⟨x, y⟩ := hcc j hlt
        have g1 := (hbel.cell (p := ⟨b1, o1 + j * 2, none⟩) hbb).trans x
        have g2 := (hbel.cell (p := ⟨b1, o1 + j * 2 + 1, none⟩) hbb).trans y
        have hbs := Do.bts_succ hjl
        have hbl := Do.bts_len z1 j (by omega)
        obtain ⟨⟨p, q⟩, hp⟩ : ∃ p, p = z1.getD j (0, 0) := ⟨_, rfl⟩
        rw [← hp] at x y g1 g2 hbs
        simp only at x y g1 g2 hbs
        have HBS : Hid (Do.bts z1 (j + 1) = (Do.bts z1 j ++ [(p, q)]) ++ [(q, p)]) := by show _ = _; rw [hbs]; simp
        have hown2 := hown.below ((Below.refl wr.heap.size wr).alloc (Nat.le_refl _) (.cells #[.int .i64 p, .int .i64 q] 38))
        have hql : (Do.bts z1 j).length + 1 ≤ 8796093022208 := by omega
        have hb2 := hbel.alloc hsz (.cells #[.int .i64 p, .int .i64 q] 38)
        have HCX : Hid (w.cell? ⟨b1, o1 + j * 2, none⟩ = some (.int .i64 p) ∧ w.cell? ⟨b1, o1 + j * 2 + 1, none⟩ = some (.int .i64 q)) := ⟨x, y⟩
        clear hcc x y hp hbs hown hjl
        go_wp2_with (at_builtin; refine wpList_appP _ rfl (.tmp 27) (.tmp 32) 22 rfl w.heap.size 38 Try.underlying22 lineInfo _ _ rfl hown2 (some ⟨wr.heap.size, 0, none⟩) 1 1 [(p, q)] rfl (RdP.one wr (p, q) _) hql (by simp; omega) ?_; intro v4 w4 hown4 hg4 hat4)
        have hb4 := below_appP hb2 hown2 hg4 (by simp; omega)
        have hsz4 := hb4.size
        clear hown2 hb2 hg4 hat4 g1 g2
        have g1 := (hb4.cell (p := ⟨b1, o1 + j * 2, none⟩) hbb).trans HCX.out.1
        have g2 := (hb4.cell (p := ⟨b1, o1 + j * 2 + 1, none⟩) hbb).trans HCX.out.2
        have hlen : (Do.bts z1 j ++ [(p, q)]).length + 1 ≤ 8796093022208 := by rw [List.length_append, hbl]; simp; omega
        have hownd := (show OwnP w4.drew w.heap.size 38 _ (Do.bts z1 j ++ [(p, q)]) from hown4).below ((Below.refl _ w4.drew).alloc (Nat.le_refl _) (.cells #[.int .i64 q, .int .i64 p] 38))
        have hrd4 : RdP (w4.drew.alloc (.cells #[.int .i64 q, .int .i64 p] 38)) (w4.heap.size + 1) (some ⟨w4.heap.size, 0, none⟩) 1 1 [(q, p)] := RdP.one w4.drew _ _
        have hbase : w.heap.size ≤ (w4.drew.alloc (.cells #[.int .i64 q, .int .i64 p] 38)).heap.size := by simp; omega
        have hbb4 : Below w.heap.size w (w4.drew.alloc (.cells #[.int .i64 q, .int .i64 p] 38)) := hb4.drew.alloc hsz4 _
        have e1 := (hbb4.cell (p := ⟨b1, o1 + j * 2, none⟩) hbb).trans HCX.out.1
        have e2 := (hbb4.cell (p := ⟨b1, o1 + j * 2 + 1, none⟩) hbb).trans HCX.out.2
        have hkeep : ∀ w3 : World, Below w.heap.size w w3 → w3.cell? ⟨b1, o1 + j * 2, none⟩ = some (.int .i64 p) ∧ w3.cell? ⟨b1, o1 + j * 2 + 1, none⟩ = some (.int .i64 q) := fun w3 hb => ⟨(hb.cell (p := ⟨b1, o1 + j * 2, none⟩) hbb).trans HCX.out.1, (hb.cell (p := ⟨b1, o1 + j * 2 + 1, none⟩) hbb).trans HCX.out.2⟩
        have HO := Lib.hid hownd
        have HK := Lib.hid hkeep
        clear hownd hkeep hown4
        go_region_held3 (fun w' : World => w'.cell? ⟨b1, o1 + j * 2, none⟩ = some (.int .i64 p) ∧ w'.cell? ⟨b1, o1 + j * 2 + 1, none⟩ = some (.int .i64 q)) (first | exact ⟨g1, g2⟩ | exact ⟨e1, e2⟩ | assumption)
          (first
            | (refine step_appP _ rfl (.tmp 34) (.tmp 46) 22 rfl w.heap.size 38 Try.underlying22 lineInfo _ (Do.bts z1 j ++ [(p, q)]) rfl HO.out (some ⟨w4.heap.size, 0, none⟩) 1 1 [(q, p)] rfl hrd4 hlen hbase ?_; intro v3 w3 hown3 hg3 hat3; have hb3 := below_appP hbb4 HO.out hg3 hbase; have hk3 := HK.out w3 hb3))
        go_wp2
        go_roundw
        case rel => exact ⟨j + 1, by omega, by omega, by go_num, by rw [HBS.out]; exact hown3, hb3⟩
        case measure => simp [intOf]; omega
      · have hltI : (j : Int) < (n1 : Int) := by omega
        have d12 : decide ((j : Int) < 12) = false := by simp; omega
        obtain ⟨Z, hZ⟩ : ∃ Z, Z = Do.bts z1 j := ⟨_, rfl⟩
        have HZ : Hid (Z = Do.bts z1 JJ) := by show _ = _; rw [hZ, show JJ = j by omega]
        rw [← hZ] at hown
        clear hZ
        obtain ⟨A2, c2, rfl, r2⟩ := hown.rd
        obtain ⟨N, hN⟩ : ∃ N, N = Z.length := ⟨_, rfl⟩
        rw [← hN] at r2 ⊢
        clear hN hown
        go_wp2_with fail
        refine (Of_yes m st A2 N c2 Z _ r2 (by rw [HZ.out]; exact H0.out) hst).mono ?_
        rintro e x1 ⟨A3, cA, rfl, r3, d1⟩
        have b01 := hbel.trans (d1.mono hsz)
        have hbig := r3.big
        have r2 := r2.past d1
        go_wp2_with fail
        refine (Of_two _).mono ?_
        rintro e x2 ⟨b2, o2, c4, A4, c5, rfl, y2, hb2, s2, d2⟩
        have r3 := r3.past d2
        have r2 := r2.past d2
        have b02 := b01.trans (d2.mono b01.size)
        obtain ⟨x3, hx3⟩ : ∃ x3, x3 = x2.alloc (.cells #[.int .i64 1] 3) := ⟨_, rfl⟩
        have hbx : Below x2.heap.size x2 x3 := by rw [hx3]; exact (Below.refl _ _).alloc (Nat.le_refl _) _
        have hr3 : Rd x3 x3.heap.size (some ⟨x2.heap.size, 0, none⟩) 1 1 [1] := by rw [hx3]; exact (Rd.new x2 [1] _ 1 rfl (by omega)).more (by simp)
        have HX3 := Lib.hid hx3
        clear hx3
        go_wp2_with fail
        rw [← HX3.out]
        clear HX3
        refine (Ints_t _ _ 1 1 _ 1 _ _ true _ (s2.past hbx) hr3 (by decide)).mono ?_
        rintro e x4 ⟨rfl, d4⟩
        have d24 := hbx.trans (d4.mono hbx.size)
        have b04 := b02.trans (d24.mono b02.size)
        clear hr3 hbx d4 s2 y2
        have r3 := r3.past d24
        have r2 := r2.past d24
        go_wp2_with fail
        refine (Points_rd m A2 N c2 Z _ r2 (by rw [HZ.out]; exact H0.out)).mono ?_
        rintro e x5 ⟨d5, A6, P, c6, rfl, HP, r6⟩
        have r3 := r3.past d5
        have b05 := b04.trans (d5.mono b04.size)
        rw [HZ.out] at r3 r6
        obtain ⟨bA, oA, rfl, hbA, hcc⟩ := r3.at_ (by omega)
        have HC : Hid (∀ j, j < m → ∃ A' c', x5.cell? ⟨bA, oA + j, none⟩ = some (.slice A' (Do.dl m (Do.bts z1 JJ) st j).length c') ∧ Rd x5 x5.heap.size A' (Do.dl m (Do.bts z1 JJ) st j).length c' (Do.dl m (Do.bts z1 JJ) st j)) := by
          show ∀ j, _
          intro j hj
          have := hcc j hj
          rw [Do.dls_at hj] at this
          exact this
        have hB0 : Below x5.heap.size x5 x5 := Below.refl _ _
        have HFIN := Lib.hid b05
        have H6 := Lib.hid r6
        clear r2 r3 r6 hcc b01 b02 b04 b05 d1 d2 d24 d5 hbel
        go_wp2_with fail
        refine (topIn_yes (st : Int) 0 q _ (by omega) (HQ.out st hst)).mono ?_
        rintro e x6 ⟨rfl, rfl⟩
        go_wp2
        go_loopw [14, 15, 16] (fun kv _ _ wr => ∃ k : Nat, k ≤ m ∧ kv = .int .i64 (k : Int) ∧ Below x5.heap.size x5 wr) (fun kv _ _ _ => m - (intOf kv).toNat)
        case atStart => exact ⟨0, Nat.zero_le _, rfl, hB0⟩
        case round =>
          clear hB0
          obtain ⟨k, hk, rfl, hbel⟩ := hrel
          by_cases hlk : k < m
          · have k1 : (0 : Int) ≤ (k : Int) := by omega
            have k2 : (k : Int) < (m : Int) := by omega
            have HV0 : Hid (ovTo m (Do.bts z1 JJ) st k 0 = false) := ovTo_zero _ _ _ _
            go_wp2
            go_loopw [15, 16] (fun ov iv wr => ∃ (i : Nat) (o : Bool), i ≤ m ∧ iv = .int .i64 (i : Int) ∧ ov = .bool o ∧ Hid (ovTo m (Do.bts z1 JJ) st k i = o) ∧ Below x5.heap.size x5 wr) (fun _ iv _ => m - (intOf iv).toNat)
            case atStart => exact ⟨0, false, Nat.zero_le _, rfl, rfl, HV0, hbel⟩
            case round =>
              clear HV0 hbel
              obtain ⟨i, o, hi, rfl, rfl, HV, hbel⟩ := hrel
              by_cases hli : i < m
              · have hsc := ovTo_succ m (Do.bts z1 JJ) st k i
                rw [HV.out] at hsc
                cases o with
                | true =>
                  have HN : Hid (ovTo m (Do.bts z1 JJ) st k (i + 1) = true) := by show _ = _; rw [hsc]; rfl
                  clear hsc
                  go_wp2
                  go_roundw
                  case rel => exact ⟨i + 1, true, by omega, by go_num, rfl, HN, hbel⟩
                  case measure => simp [intOf]; omega
                | false =>
                  by_cases he : i = k
                  · have HN : Hid (ovTo m (Do.bts z1 JJ) st k (i + 1) = false) := by show _ = _; rw [hsc]; simp [he]
                    have d1 : ((i : Int) != (k : Int)) = false := by simp [he]
                    clear hsc he
                    go_wp2
                    go_roundw
                    case rel => exact ⟨i + 1, false, by omega, by go_num, rfl, HN, hbel⟩
                    case measure => simp [intOf]; omega
                  · have d1 : ((i : Int) != (k : Int)) = true := by simp; omega
                    obtain ⟨A7, c7, y7, r7⟩ := HC.out i hli
                    obtain ⟨L, hL⟩ : ∃ L, L = (Do.dl m (Do.bts z1 JJ) st i).length := ⟨_, rfl⟩
                    rw [← hL] at y7 r7
                    have z7 := (hbel.cell (p := ⟨bA, oA + i, none⟩) hbA).trans y7
                    have s7 : Rd wr wr.heap.size A7 L c7 (Do.dl m (Do.bts z1 JJ) st i) := (r7.below hbel).more hbel.size
                    have i1 : (0 : Int) ≤ (i : Int) := by omega
                    have i2 : (i : Int) < (m : Int) := by omega
                    obtain ⟨t, ht⟩ : ∃ t, Do.dom m (Do.bts z1 JJ) st i k = t := ⟨_, rfl⟩
                    have HT : Hid ((Do.dl m (Do.bts z1 JJ) st i).contains (k : Int) = t) := by show _ = _; rw [Do.dl_has hst, ht]
                    have HN : Hid (ovTo m (Do.bts z1 JJ) st k (i + 1) = t) := by show _ = _; rw [hsc, ht]; simp [he]
                    clear hsc he hL y7 r7 ht
                    go_wp2_with fail
                    refine (Has_any A7 L c7 (Do.dl m (Do.bts z1 JJ) st i) (k : Int) t _ s7 HT.out).mono ?_
                    rintro e x7 ⟨rfl, rfl⟩
                    go_wp2
                    go_roundw
                    case rel => exact ⟨i + 1, t, by omega, by go_num, rfl, HN, hbel⟩
                    case measure => simp [intOf]; omega
              · obtain rfl : i = m := by omega
                by_cases hks : k = st
                · have d1 : ((k : Int) != (st : Int)) = false := by simp [hks]
                  clear hks
                  go_wp2
                  go_roundw
                  case rel => exact ⟨k + 1, by omega, by go_num, hbel⟩
                  case measure => simp [intOf]; omega
                · have d1 : ((k : Int) != (st : Int)) = true := by simp; omega
                  cases o with
                  | false =>
                    clear hks
                    go_wp2
                    go_roundw
                    case rel => exact ⟨k + 1, by omega, by go_num, hbel⟩
                    case measure => simp [intOf]; omega
                  | true =>
                    have HT : Hid ((upL (Dp.cpts i (Wa.nrow i (Do.bts z1 JJ)))).contains (k : Int) = true) := ovTo_yes (fun a b h => Do.bts_sym h) hst hlk hks HV.out
                    have s6 := (H6.out.below hbel).more hbel.size
                    clear hks
                    go_wp2_with fail
                    refine (Has_any A6 P c6 _ (k : Int) true _ s6 HT.out).mono ?_
                    rintro e x7 ⟨rfl, rfl⟩
                    go_wp2
                    go_roundw
                    case rel => exact ⟨k + 1, by omega, by go_num, hbel⟩
                    case measure => simp [intOf]; omega
          · obtain rfl : k = m := by omega
            go_wp2
            go_ret
            exact ⟨rfl, HFIN.out.trans (hbel.mono HFIN.out.size)⟩
    · have d11 : decide ((j : Int) < (n1 : Int)) = false := by simp; omega
      have d13 : decide (j < n1) = false := by simp; omega
      obtain ⟨Z, hZ⟩ : ∃ Z, Z = Do.bts z1 j := ⟨_, rfl⟩
      have HZ : Hid (Z = Do.bts z1 JJ) := by show _ = _; rw [hZ, show JJ = j by omega]
      rw [← hZ] at hown
      clear hZ
      obtain ⟨A2, c2, rfl, r2⟩ := hown.rd
      obtain ⟨N, hN⟩ : ∃ N, N = Z.length := ⟨_, rfl⟩
      rw [← hN] at r2 ⊢
      clear hN hown
      go_wp2_with fail
      refine (Of_yes m st A2 N c2 Z _ r2 (by rw [HZ.out]; exact H0.out) hst).mono ?_
      rintro e x1 ⟨A3, cA, rfl, r3, d1⟩
      have b01 := hbel.trans (d1.mono hsz)
      have hbig := r3.big
      have r2 := r2.past d1
      go_wp2_with fail
      refine (Of_two _).mono ?_
      rintro e x2 ⟨b2, o2, c4, A4, c5, rfl, y2, hb2, s2, d2⟩
      have r3 := r3.past d2
      have r2 := r2.past d2
      have b02 := b01.trans (d2.mono b01.size)
      obtain ⟨x3, hx3⟩ : ∃ x3, x3 = x2.alloc (.cells #[.int .i64 1] 3) := ⟨_, rfl⟩
      have hbx : Below x2.heap.size x2 x3 := by rw [hx3]; exact (Below.refl _ _).alloc (Nat.le_refl _) _
      have hr3 : Rd x3 x3.heap.size (some ⟨x2.heap.size, 0, none⟩) 1 1 [1] := by rw [hx3]; exact (Rd.new x2 [1] _ 1 rfl (by omega)).more (by simp)
      have HX3 := Lib.hid hx3
      clear hx3
      go_wp2_with fail
      rw [← HX3.out]
      clear HX3
      refine (Ints_t _ _ 1 1 _ 1 _ _ true _ (s2.past hbx) hr3 (by decide)).mono ?_
      rintro e x4 ⟨rfl, d4⟩
      have d24 := hbx.trans (d4.mono hbx.size)
      have b04 := b02.trans (d24.mono b02.size)
      clear hr3 hbx d4 s2 y2
      have r3 := r3.past d24
      have r2 := r2.past d24
      go_wp2_with fail
      refine (Points_rd m A2 N c2 Z _ r2 (by rw [HZ.out]; exact H0.out)).mono ?_
      rintro e x5 ⟨d5, A6, P, c6, rfl, HP, r6⟩
      have r3 := r3.past d5
      have b05 := b04.trans (d5.mono b04.size)
      rw [HZ.out] at r3 r6
      obtain ⟨bA, oA, rfl, hbA, hcc⟩ := r3.at_ (by omega)
      have HC : Hid (∀ j, j < m → ∃ A' c', x5.cell? ⟨bA, oA + j, none⟩ = some (.slice A' (Do.dl m (Do.bts z1 JJ) st j).length c') ∧ Rd x5 x5.heap.size A' (Do.dl m (Do.bts z1 JJ) st j).length c' (Do.dl m (Do.bts z1 JJ) st j)) := by
        show ∀ j, _
        intro j hj
        have := hcc j hj
        rw [Do.dls_at hj] at this
        exact this
      have hB0 : Below x5.heap.size x5 x5 := Below.refl _ _
      have HFIN := Lib.hid b05
      have H6 := Lib.hid r6
      clear r2 r3 r6 hcc b01 b02 b04 b05 d1 d2 d24 d5 hbel
      go_wp2_with fail
      refine (topIn_yes (st : Int) 0 q _ (by omega) (HQ.out st hst)).mono ?_
      rintro e x6 ⟨rfl, rfl⟩
      go_wp2
      go_loopw [14, 15, 16] (fun kv _ _ wr => ∃ k : Nat, k ≤ m ∧ kv = .int .i64 (k : Int) ∧ Below x5.heap.size x5 wr) (fun kv _ _ _ => m - (intOf kv).toNat)
      case atStart => exact ⟨0, Nat.zero_le _, rfl, hB0⟩
      case round =>
        clear hB0
        obtain ⟨k, hk, rfl, hbel⟩ := hrel
        by_cases hlk : k < m
        · have k1 : (0 : Int) ≤ (k : Int) := by omega
          have k2 : (k : Int) < (m : Int) := by omega
          have HV0 : Hid (ovTo m (Do.bts z1 JJ) st k 0 = false) := ovTo_zero _ _ _ _
          go_wp2
          go_loopw [15, 16] (fun ov iv wr => ∃ (i : Nat) (o : Bool), i ≤ m ∧ iv = .int .i64 (i : Int) ∧ ov = .bool o ∧ Hid (ovTo m (Do.bts z1 JJ) st k i = o) ∧ Below x5.heap.size x5 wr) (fun _ iv _ => m - (intOf iv).toNat)
          case atStart => exact ⟨0, false, Nat.zero_le _, rfl, rfl, HV0, hbel⟩
          case round =>
            clear HV0 hbel
            obtain ⟨i, o, hi, rfl, rfl, HV, hbel⟩ := hrel
            by_cases hli : i < m
            · have hsc := ovTo_succ m (Do.bts z1 JJ) st k i
              rw [HV.out] at hsc
              cases o with
              | true =>
                have HN : Hid (ovTo m (Do.bts z1 JJ) st k (i + 1) = true) := by show _ = _; rw [hsc]; rfl
                clear hsc
                go_wp2
                go_roundw
                case rel => exact ⟨i + 1, true, by omega, by go_num, rfl, HN, hbel⟩
                case measure => simp [intOf]; omega
              | false =>
                by_cases he : i = k
                · have HN : Hid (ovTo m (Do.bts z1 JJ) st k (i + 1) = false) := by show _ = _; rw [hsc]; simp [he]
                  have d1 : ((i : Int) != (k : Int)) = false := by simp [he]
                  clear hsc he
                  go_wp2
                  go_roundw
                  case rel => exact ⟨i + 1, false, by omega, by go_num, rfl, HN, hbel⟩
                  case measure => simp [intOf]; omega
                · have d1 : ((i : Int) != (k : Int)) = true := by simp; omega
                  obtain ⟨A7, c7, y7, r7⟩ := HC.out i hli
                  obtain ⟨L, hL⟩ : ∃ L, L = (Do.dl m (Do.bts z1 JJ) st i).length := ⟨_, rfl⟩
                  rw [← hL] at y7 r7
                  have z7 := (hbel.cell (p := ⟨bA, oA + i, none⟩) hbA).trans y7
                  have s7 : Rd wr wr.heap.size A7 L c7 (Do.dl m (Do.bts z1 JJ) st i) := (r7.below hbel).more hbel.size
                  have i1 : (0 : Int) ≤ (i : Int) := by omega
                  have i2 : (i : Int) < (m : Int) := by omega
                  obtain ⟨t, ht⟩ : ∃ t, Do.dom m (Do.bts z1 JJ) st i k = t := ⟨_, rfl⟩
                  have HT : Hid ((Do.dl m (Do.bts z1 JJ) st i).contains (k : Int) = t) := by show _ = _; rw [Do.dl_has hst, ht]
                  have HN : Hid (ovTo m (Do.bts z1 JJ) st k (i + 1) = t) := by show _ = _; rw [hsc, ht]; simp [he]
                  clear hsc he hL y7 r7 ht
                  go_wp2_with fail
                  refine (Has_any A7 L c7 (Do.dl m (Do.bts z1 JJ) st i) (k : Int) t _ s7 HT.out).mono ?_
                  rintro e x7 ⟨rfl, rfl⟩
                  go_wp2
                  go_roundw
                  case rel => exact ⟨i + 1, t, by omega, by go_num, rfl, HN, hbel⟩
                  case measure => simp [intOf]; omega
            · obtain rfl : i = m := by omega
              by_cases hks : k = st
              · have d1 : ((k : Int) != (st : Int)) = false := by simp [hks]
                clear hks
                go_wp2
                go_roundw
                case rel => exact ⟨k + 1, by omega, by go_num, hbel⟩
                case measure => simp [intOf]; omega
              · have d1 : ((k : Int) != (st : Int)) = true := by simp; omega
                cases o with
                | false =>
                  clear hks
                  go_wp2
                  go_roundw
                  case rel => exact ⟨k + 1, by omega, by go_num, hbel⟩
                  case measure => simp [intOf]; omega
                | true =>
                  have HT : Hid ((upL (Dp.cpts i (Wa.nrow i (Do.bts z1 JJ)))).contains (k : Int) = true) := ovTo_yes (fun a b h => Do.bts_sym h) hst hlk hks HV.out
                  have s6 := (H6.out.below hbel).more hbel.size
                  clear hks
                  go_wp2_with fail
                  refine (Has_any A6 P c6 _ (k : Int) true _ s6 HT.out).mono ?_
                  rintro e x7 ⟨rfl, rfl⟩
                  go_wp2
                  go_roundw
                  case rel => exact ⟨k + 1, by omega, by go_num, hbel⟩
                  case measure => simp [intOf]; omega
        · obtain rfl : k = m := by omega
          go_wp2
          go_ret
          exact ⟨rfl, HFIN.out.trans (hbel.mono HFIN.out.size)⟩

theorem walk (w : World) (a0 : Int) (w0 : (Lit.int .i64 a0).wf = true) (a1 : Option Addr) (n1 c1 : Nat) (z1 : List Gr.Ln) (w1 : RdP w w.heap.size a1 n1 c1 z1) (a2 : Int) (w2 : (Lit.int .i64 a2).wf = true) :
    Calls Try.prog 6 #[.int .i64 a0, .slice a1 n1 c1, .int .i64 a2] w fun e w' => e = .returned (.bool true) ∧ Below w.heap.size w w' := by
  obtain ⟨JJ, h1, h2, h3⟩ : ∃ JJ, JJ ≤ n1 ∧ JJ ≤ 12 ∧ (JJ = n1 ∨ JJ = 12) := ⟨min n1 12, by omega, by omega, by omega⟩
  by_cases h : Do.fcode a0 (Do.bts z1 JJ) a2 = 0
  · obtain ⟨g1, g2, g3⟩ := Do.fcode_zero.1 h
    obtain ⟨m, rfl⟩ : ∃ m : Nat, a0 = (m : Int) := ⟨a0.toNat, by omega⟩
    obtain ⟨st, rfl⟩ : ∃ st : Nat, a2 = (st : Int) := ⟨a2.toNat, by omega⟩
    exact good w m st a1 n1 c1 z1 w1 JJ h1 h2 h3 (by omega) g1
  · exact bad w a0 a1 n1 c1 z1 w1 a2 JJ h1 h2 h3 h

end Go.Proofs.Ytjcdnkbandagoaa.topOver
