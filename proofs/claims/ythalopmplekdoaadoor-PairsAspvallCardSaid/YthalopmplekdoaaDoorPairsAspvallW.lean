/-
  The walk of the law PairsAspvall: for every names and ors it returns true, where the library's variable errors.errorType holds what its initialiser lays.
-/
import Derived.Test.YthalopmplekdoaaDoorPairsF
import Derived.Test.YthalopmplekdoaaDoorPairsG
import Derived.Test.YthalopmplekdoaaDoorRefPa
import Derived.Test.YthalopmplekdoaaDoorStrongC
import Derived.BigQuiet
namespace Go.Proofs.YthalopmplekdoaaDoor.pairsAspvall
open Go.RowKit
set_option linter.unusedSimpArgs false
set_option linter.unusedVariables false

theorem lns_step {cs : List Or2} {j : Nat} (hj : j < cs.length) {c : Or2} (hc : c = cs.getD j or0) : Pa.lns (cs.take (j + 1)) = Pa.lns (cs.take j) ++ Pa.two c := by
  unfold Pa.lns
  rw [List.take_succ_eq_append_getElem hj, List.flatMap_append, hc]
  simp [List.getD, hj]
theorem lns_len (cs : List Or2) : (Pa.lns cs).length ≤ 2 * cs.length := by
  induction cs with
  | nil => simp [Pa.lns]
  | cons c cs ih =>
    have e : Pa.lns (c :: cs) = Pa.two c ++ Pa.lns cs := by simp [Pa.lns]
    have h2 : (Pa.two c).length ≤ 2 := by
      unfold Pa.two
      rw [List.length_append]
      split <;> split <;> simp
    rw [e, List.length_append, List.length_cons]
    omega
theorem two_none {c : Or2} (h : Pa.neg (Pa.pnt c.1) = Pa.pnt c.2) : Pa.two c = [] := by
  have h2 : Pa.neg (Pa.pnt c.2) = Pa.pnt c.1 := by rw [← h, Pa.neg_neg]
  unfold Pa.two
  rw [if_neg (fun e => e h), if_neg (fun e => e h2)]
  rfl
theorem two_both {c : Or2} (h : Pa.neg (Pa.pnt c.1) ≠ Pa.pnt c.2) : Pa.two c = [(((Pa.neg (Pa.pnt c.1) : Nat) : Int), ((Pa.pnt c.2 : Nat) : Int)), (((Pa.neg (Pa.pnt c.2) : Nat) : Int), ((Pa.pnt c.1 : Nat) : Int))] := by
  have h2 : Pa.neg (Pa.pnt c.2) ≠ Pa.pnt c.1 := fun e => h (by rw [← e, Pa.neg_neg])
  unfold Pa.two
  rw [if_pos h, if_pos h2]
  rfl
theorem pnt_f {a : Int} (h : 0 ≤ a) : ((Pa.pnt (a, false) : Nat) : Int) = 2 * a ∧ ((Pa.neg (Pa.pnt (a, false)) : Nat) : Int) = 2 * a + 1 := by
  have e : Pa.pnt (a, false) = 2 * a.toNat := by simp [Pa.pnt]
  rw [e]
  unfold Pa.neg
  rw [if_pos (by omega)]
  omega
theorem pnt_t {a : Int} (h : 0 ≤ a) : ((Pa.pnt (a, true) : Nat) : Int) = 2 * a + 1 ∧ ((Pa.neg (Pa.pnt (a, true)) : Nat) : Int) = 2 * a := by
  have e : Pa.pnt (a, true) = 2 * a.toNat + 1 := by simp [Pa.pnt]
  rw [e]
  unfold Pa.neg
  rw [if_neg (by omega)]
  omega
/-- do the first names stand against themselves? -/
def agTo (n : Nat) (ls : List Gr.Ln) (k : Nat) : Bool := (List.range k).any fun i => Sg.both n ls (2 * i) (2 * i + 1)
theorem agTo_zero (n : Nat) (ls : List Gr.Ln) : agTo n ls 0 = false := by simp [agTo]
theorem agTo_succ (n : Nat) (ls : List Gr.Ln) (k : Nat) : agTo n ls (k + 1) = (agTo n ls k || Sg.both n ls (2 * k) (2 * k + 1)) := by simp [agTo, List.range_succ]
theorem parts_same {n : Nat} {ls : List Gr.Ln} {a b : Nat} (ha : a < n) (hb : b < n) : ((Sg.parts n ls).getD a 0 == (Sg.parts n ls).getD b 0) = Sg.both n ls a b := by
  rw [Sg.parts_at ha, Sg.parts_at hb]
  have h := Sg.pt_eq (ls := ls) ha hb
  rw [Bool.eq_iff_iff, ← h, beq_iff_eq]
  omega

set_option maxRecDepth 100000 in
set_option maxHeartbeats 1000000 in
/-- something is wrong with the ors -/
theorem bad (w : World) (het : tld.EtIs w) (a0 : Int) (a1 : Option Addr) (n1 c1 : Nat) (z1 : List Or2) (w1 : RdO w w.heap.size a1 n1 c1 z1) (hc : Pa.code a0 z1 ≠ 0) :
    Calls Tryd.prog 5 #[.int .i64 a0, .slice a1 n1 c1] w fun e w' => e = .returned (.bool true) ∧ Below w.heap.size w w' := by
  obtain ⟨k, hk⟩ : ∃ k, Pa.code a0 z1 = k := ⟨_, rfl⟩
  have HK := Lib.hid hk
  have HN : Hid (Pa.code a0 z1 ≠ 0) := hc
  have d1 : (k == 0) = false := by rw [← hk]; simpa using hc
  have d2 : (k != 0) = true := by rw [← hk]; simpa using hc
  clear hk hc
  go_enter Tryd.func5, Tryd.ntmps5
  go_wp2_with fail
  refine (pairsFact_any _ het).mono ?_
  rintro e x1 ⟨rfl, b1⟩
  have r1 := w1.past b1
  go_wp2_with fail
  refine (Solve_err a0 a1 n1 c1 z1 _ r1 HN.out).mono ?_
  rw [HK.out]
  rintro e x2 ⟨rfl, b2⟩
  have r2 := r1.past b2
  have b02 := b1.trans (b2.mono b1.size)
  clear r1 b1 b2 w1
  go_wp2_with fail
  refine (RefPa.Ors_any a0 a1 n1 c1 z1 _ r2).mono ?_
  rw [HK.out]
  rintro e x3 ⟨rfl, rfl⟩
  go_wp2
  go_ret
  exact ⟨rfl, b02⟩

set_option maxRecDepth 100000 in
set_option maxHeartbeats 1000000 in
/-- many ors -/
theorem long (w : World) (het : tld.EtIs w) (N : Nat) (a1 : Option Addr) (n1 c1 : Nat) (z1 : List Or2) (w1 : RdO w w.heap.size a1 n1 c1 z1) (h0 : Pa.code (N : Int) z1 = 0) (h12 : 12 < n1) (m : List Bool) (hm : Pa.Least z1 N m) :
    Calls Tryd.prog 5 #[.int .i64 (N : Int), .slice a1 n1 c1] w fun e w' => e = .returned (.bool true) ∧ Below w.heap.size w w' := by
  have H0 := Lib.hid h0
  have HM := Lib.hid hm
  have hbig := w1.big
  clear h0 hm
  go_enter Tryd.func5, Tryd.ntmps5
  go_wp2_with fail
  refine (pairsFact_any _ het).mono ?_
  rintro e x1 ⟨rfl, b1⟩
  have r1 := w1.past b1
  go_wp2_with fail
  refine (Solve_rd N a1 n1 c1 z1 m _ r1 H0.out HM.out).mono ?_
  rintro e x2 ⟨⟨g, rfl, _⟩, b2⟩
  have r2 := r1.past b2
  have b02 := b1.trans (b2.mono b1.size)
  clear r1 b1 b2 w1
  go_wp2_with fail
  refine (RefPa.Ors_any (N : Int) a1 n1 c1 z1 _ r2).mono ?_
  rw [H0.out]
  rintro e x3 ⟨rfl, rfl⟩
  go_wp2
  go_ret
  exact ⟨rfl, b02⟩

set_option maxRecDepth 100000 in
set_option maxHeartbeats 1000000 in
/-- many ors, and nothing is right -/
theorem longno (w : World) (het : tld.EtIs w) (N : Nat) (a1 : Option Addr) (n1 c1 : Nat) (z1 : List Or2) (w1 : RdO w w.heap.size a1 n1 c1 z1) (h0 : Pa.code (N : Int) z1 = 0) (h12 : 12 < n1) (hm : Pa.ans (Pa.right z1) N [] = none) :
    Calls Tryd.prog 5 #[.int .i64 (N : Int), .slice a1 n1 c1] w fun e w' => e = .returned (.bool true) ∧ Below w.heap.size w w' := by
  have H0 := Lib.hid h0
  have HM := Lib.hid hm
  have hbig := w1.big
  clear h0 hm
  go_enter Tryd.func5, Tryd.ntmps5
  go_wp2_with fail
  refine (pairsFact_any _ het).mono ?_
  rintro e x1 ⟨rfl, b1⟩
  have r1 := w1.past b1
  go_wp2_with fail
  refine (Solve_no N a1 n1 c1 z1 _ r1 H0.out HM.out).mono ?_
  rintro e x2 ⟨rfl, b2⟩
  have r2 := r1.past b2
  have b02 := b1.trans (b2.mono b1.size)
  clear r1 b1 b2 w1
  go_wp2_with fail
  refine (RefPa.Ors_any (N : Int) a1 n1 c1 z1 _ r2).mono ?_
  rw [H0.out]
  rintro e x3 ⟨rfl, rfl⟩
  go_wp2
  go_ret
  exact ⟨rfl, b02⟩

set_option maxRecDepth 100000 in
set_option maxHeartbeats 4000000 in
/-- there is an answer -/
theorem good (w : World) (het : tld.EtIs w) (N : Nat) (a1 : Option Addr) (n1 c1 : Nat) (z1 : List Or2) (w1 : RdO w w.heap.size a1 n1 c1 z1) (h0 : Pa.code (N : Int) z1 = 0) (h12 : n1 ≤ 12) (m : List Bool) (hm : Pa.Least z1 N m) :
    Calls Tryd.prog 5 #[.int .i64 (N : Int), .slice a1 n1 c1] w fun e w' => e = .returned (.bool true) ∧ Below w.heap.size w w' := by
  have H0 := Lib.hid h0
  have HM := Lib.hid hm
  have hN1 := (Pa.code_good h0).1
  have hN4 := (Pa.code_good h0).2.1
  have HG := Lib.hid (Pa.code_good h0).2.2.2
  have HX := Lib.hid w1.len
  have W1 := Lib.hid w1
  clear h0 hm
  go_enter Tryd.func5, Tryd.ntmps5
  go_wp2_with fail
  refine (pairsFact_any _ het).mono ?_
  rintro e x1 ⟨rfl, b1⟩
  have r1 := w1.past b1
  go_wp2_with fail
  refine (Solve_rd N a1 n1 c1 z1 m _ r1 H0.out HM.out).mono ?_
  rintro e x2 ⟨⟨g, rfl, _⟩, b2⟩
  have r2 := r1.past b2
  have b02 := b1.trans (b2.mono b1.size)
  clear r1 b1 b2 w1
  go_wp2_with fail
  refine (RefPa.Ors_any (N : Int) a1 n1 c1 z1 _ r2).mono ?_
  rw [H0.out]
  rintro e x3 ⟨rfl, rfl⟩
  have hs2 := b02.size
  have hl0 : Hid (Pa.lns (z1.take 0) = []) := by show _ = _; simp [Pa.lns]
  go_wp2
  go_loopw [8, 9, 10, 11, 12, 13] (fun v i _ _ _ _ wr => ∃ j : Nat, j ≤ n1 ∧ i = .int .i64 j ∧ OwnP wr w.heap.size 45 v (Pa.lns (z1.take j)) ∧ Below w.heap.size w wr) (fun _ i _ _ _ _ _ => n1 - (intOf i).toNat)
  case atStart => exact ⟨0, Nat.zero_le _, rfl, by rw [hl0.out]; exact OwnP.nil _ _ _, b02⟩
  case round =>
    obtain ⟨j, hj, rfl, hown, hbel⟩ := hrel
    have hsz := hbel.size
    by_cases hlt : j < n1
    · have rj : RdO wr wr.heap.size a1 n1 c1 z1 := W1.out.past hbel
      obtain ⟨d1, o1, rfl, hbb, hcc⟩ := rj.at_ (by omega)
      obtain ⟨g0, g1, g2, g3⟩ := hcc j hlt
      have hjl : j < z1.length := by rw [HX.out]; exact hlt
      have hmem : z1.getD j or0 ∈ z1 := by simp [List.getD, hjl]
      have hgood := HG.out _ hmem
      have HLN : Hid ((Pa.lns (z1.take j)).length ≤ 24) := by
        show _ ≤ _
        have := lns_len (z1.take j)
        rw [List.length_take, HX.out] at this
        omega
      obtain ⟨⟨⟨a, s⟩, ⟨b, t⟩⟩, hp⟩ : ∃ p, p = z1.getD j or0 := ⟨_, rfl⟩
      rw [← hp] at g0 g1 g2 g3 hgood
      unfold Pa.Good at hgood
      simp only at g0 g1 g2 g3 hgood
      obtain ⟨ha0, haN, hb0, hbN⟩ := hgood
      have k1 : (0 : Int) ≤ (j : Int) := by omega
      have k2 : (j : Int) < (n1 : Int) := by omega
      clear hcc hmem hbb rj
      cases s with
      | false =>
        cases t with
        | false =>
          obtain ⟨ea, ena⟩ := pnt_f ha0
          obtain ⟨eb, enb⟩ := pnt_f hb0
          obtain ⟨pa, hpa⟩ : ∃ pa : Int, pa = ((Pa.pnt (a, false) : Nat) : Int) := ⟨_, rfl⟩
          obtain ⟨na, hna⟩ : ∃ na : Int, na = ((Pa.neg (Pa.pnt (a, false)) : Nat) : Int) := ⟨_, rfl⟩
          obtain ⟨pb, hpb⟩ : ∃ pb : Int, pb = ((Pa.pnt (b, false) : Nat) : Int) := ⟨_, rfl⟩
          obtain ⟨nb, hnb⟩ : ∃ nb : Int, nb = ((Pa.neg (Pa.pnt (b, false)) : Nat) : Int) := ⟨_, rfl⟩
          obtain ⟨a2, ha2⟩ : ∃ a2 : Int, a2 = 2 * a := ⟨_, rfl⟩
          obtain ⟨b2', hb2'⟩ : ∃ b2' : Int, b2' = 2 * b := ⟨_, rfl⟩
          have wa2 : IntKind.i64.wrap (2 * a) = a2 := by rw [IntKind.wrap_i64]; omega
          have wb2 : IntKind.i64.wrap (2 * b) = b2' := by rw [IntKind.wrap_i64]; omega
          have wa3 : IntKind.i64.wrap (a2 + 1) = na := by rw [IntKind.wrap_i64]; omega
          have wb3 : IntKind.i64.wrap (b2' + 1) = nb := by rw [IntKind.wrap_i64]; omega
          have wa4 : IntKind.i64.wrap na = na := by rw [IntKind.wrap_i64]; omega
          have wa5 : IntKind.i64.wrap a2 = pa := by rw [IntKind.wrap_i64]; omega
          have wb4 : IntKind.i64.wrap nb = nb := by rw [IntKind.wrap_i64]; omega
          have wb5 : IntKind.i64.wrap b2' = pb := by rw [IntKind.wrap_i64]; omega
          by_cases heq : Pa.neg (Pa.pnt (a, false)) = Pa.pnt (b, false)
          · have hn : Hid (Pa.lns (z1.take (j + 1)) = Pa.lns (z1.take j)) := by show _ = _; rw [lns_step hjl hp, two_none heq, List.append_nil]
            have t1 : (na == pb) = true := by simp; omega
            have t2 : (nb == pa) = true := by simp; omega
            clear ea ena eb enb hpa hna hpb hnb ha2 hb2' heq hp hjl ha0 hb0 haN hbN
            go_wp2
            go_roundw
            case rel => exact ⟨j + 1, by omega, by go_num, by rw [hn.out]; exact hown, hbel⟩
            case measure => simp [intOf]; omega
          · have hn : Hid (Pa.lns (z1.take j) ++ [(na, pb)] ++ [(nb, pa)] = Pa.lns (z1.take (j + 1))) := by
              show _ = _
              rw [lns_step hjl hp, two_both heq, hna, hpb, hnb, hpa]
              simp
            have t1 : (na == pb) = false := by simp; omega
            have t2 : (nb == pa) = false := by simp; omega
            clear ea ena eb enb hpa hna hpb hnb ha2 hb2' heq hp hjl ha0 hb0 haN hbN
            have hown2 := hown.below ((Below.refl _ wr).alloc (Nat.le_refl _) (.cells #[.int .i64 na, .int .i64 pb] 45))
            have hbel2 := hbel.alloc hsz (.cells #[.int .i64 na, .int .i64 pb] 45)
            go_wp2_with (first
              | (at_builtin; refine wpList_appP _ rfl (.tmp 87) (.tmp 96) _ rfl w.heap.size 45 Tryd.underlying39 lineInfo _ _ rfl hown2 _ 1 1 [(na, pb)] rfl (RdP.one wr _ _) (by have := HLN.out; omega) (by simp; omega) ?_; intro v3 y3 hown3 hg3 hat3; have hb3 := below_appP hbel2 hown2 hg3 (by simp; omega); have hs3 := hb3.size; have hown4 := hown3.below ((Below.refl _ y3).alloc (Nat.le_refl _) (.cells #[.int .i64 nb, .int .i64 pa] 45)); have hb4 := hb3.alloc hs3 (.cells #[.int .i64 nb, .int .i64 pa] 45))
              | (at_builtin; refine wpList_appP _ rfl (.tmp 106) (.tmp 115) _ rfl w.heap.size 45 Tryd.underlying39 lineInfo _ _ rfl hown4 _ 1 1 [(nb, pa)] rfl (RdP.one y3 _ _) (by have := HLN.out; rw [List.length_append]; simp; omega) (by simp; omega) ?_; intro v5 y5 hown5 hg5 hat5; rw [hn.out] at hown5; have hb5 := below_appP hb4 hown4 hg5 (by simp; omega)))
            go_roundw
            case rel => exact ⟨j + 1, by omega, by go_num, hown5, hb5⟩
            case measure => simp [intOf]; omega
        | true =>
          obtain ⟨ea, ena⟩ := pnt_f ha0
          obtain ⟨eb, enb⟩ := pnt_t hb0
          obtain ⟨pa, hpa⟩ : ∃ pa : Int, pa = ((Pa.pnt (a, false) : Nat) : Int) := ⟨_, rfl⟩
          obtain ⟨na, hna⟩ : ∃ na : Int, na = ((Pa.neg (Pa.pnt (a, false)) : Nat) : Int) := ⟨_, rfl⟩
          obtain ⟨pb, hpb⟩ : ∃ pb : Int, pb = ((Pa.pnt (b, true) : Nat) : Int) := ⟨_, rfl⟩
          obtain ⟨nb, hnb⟩ : ∃ nb : Int, nb = ((Pa.neg (Pa.pnt (b, true)) : Nat) : Int) := ⟨_, rfl⟩
          obtain ⟨a2, ha2⟩ : ∃ a2 : Int, a2 = 2 * a := ⟨_, rfl⟩
          obtain ⟨b2', hb2'⟩ : ∃ b2' : Int, b2' = 2 * b := ⟨_, rfl⟩
          have wa2 : IntKind.i64.wrap (2 * a) = a2 := by rw [IntKind.wrap_i64]; omega
          have wb2 : IntKind.i64.wrap (2 * b) = b2' := by rw [IntKind.wrap_i64]; omega
          have wa3 : IntKind.i64.wrap (a2 + 1) = na := by rw [IntKind.wrap_i64]; omega
          have wb3 : IntKind.i64.wrap (b2' + 1) = pb := by rw [IntKind.wrap_i64]; omega
          have wa4 : IntKind.i64.wrap na = na := by rw [IntKind.wrap_i64]; omega
          have wa5 : IntKind.i64.wrap a2 = pa := by rw [IntKind.wrap_i64]; omega
          have wb4 : IntKind.i64.wrap (pb - 1) = nb := by rw [IntKind.wrap_i64]; omega
          by_cases heq : Pa.neg (Pa.pnt (a, false)) = Pa.pnt (b, true)
          · have hn : Hid (Pa.lns (z1.take (j + 1)) = Pa.lns (z1.take j)) := by show _ = _; rw [lns_step hjl hp, two_none heq, List.append_nil]
            have t1 : (na == pb) = true := by simp; omega
            have t2 : (nb == pa) = true := by simp; omega
            clear ea ena eb enb hpa hna hpb hnb ha2 hb2' heq hp hjl ha0 hb0 haN hbN
            go_wp2
            go_roundw
            case rel => exact ⟨j + 1, by omega, by go_num, by rw [hn.out]; exact hown, hbel⟩
            case measure => simp [intOf]; omega
          · have hn : Hid (Pa.lns (z1.take j) ++ [(na, pb)] ++ [(nb, pa)] = Pa.lns (z1.take (j + 1))) := by
              show _ = _
              rw [lns_step hjl hp, two_both heq, hna, hpb, hnb, hpa]
              simp
            have t1 : (na == pb) = false := by simp; omega
            have t2 : (nb == pa) = false := by simp; omega
            clear ea ena eb enb hpa hna hpb hnb ha2 hb2' heq hp hjl ha0 hb0 haN hbN
            have hown2 := hown.below ((Below.refl _ wr).alloc (Nat.le_refl _) (.cells #[.int .i64 na, .int .i64 pb] 45))
            have hbel2 := hbel.alloc hsz (.cells #[.int .i64 na, .int .i64 pb] 45)
            go_wp2_with (first
              | (at_builtin; refine wpList_appP _ rfl (.tmp 87) (.tmp 96) _ rfl w.heap.size 45 Tryd.underlying39 lineInfo _ _ rfl hown2 _ 1 1 [(na, pb)] rfl (RdP.one wr _ _) (by have := HLN.out; omega) (by simp; omega) ?_; intro v3 y3 hown3 hg3 hat3; have hb3 := below_appP hbel2 hown2 hg3 (by simp; omega); have hs3 := hb3.size; have hown4 := hown3.below ((Below.refl _ y3).alloc (Nat.le_refl _) (.cells #[.int .i64 nb, .int .i64 pa] 45)); have hb4 := hb3.alloc hs3 (.cells #[.int .i64 nb, .int .i64 pa] 45))
              | (at_builtin; refine wpList_appP _ rfl (.tmp 106) (.tmp 115) _ rfl w.heap.size 45 Tryd.underlying39 lineInfo _ _ rfl hown4 _ 1 1 [(nb, pa)] rfl (RdP.one y3 _ _) (by have := HLN.out; rw [List.length_append]; simp; omega) (by simp; omega) ?_; intro v5 y5 hown5 hg5 hat5; rw [hn.out] at hown5; have hb5 := below_appP hb4 hown4 hg5 (by simp; omega)))
            go_roundw
            case rel => exact ⟨j + 1, by omega, by go_num, hown5, hb5⟩
            case measure => simp [intOf]; omega
      | true =>
        cases t with
        | false =>
          obtain ⟨ea, ena⟩ := pnt_t ha0
          obtain ⟨eb, enb⟩ := pnt_f hb0
          obtain ⟨pa, hpa⟩ : ∃ pa : Int, pa = ((Pa.pnt (a, true) : Nat) : Int) := ⟨_, rfl⟩
          obtain ⟨na, hna⟩ : ∃ na : Int, na = ((Pa.neg (Pa.pnt (a, true)) : Nat) : Int) := ⟨_, rfl⟩
          obtain ⟨pb, hpb⟩ : ∃ pb : Int, pb = ((Pa.pnt (b, false) : Nat) : Int) := ⟨_, rfl⟩
          obtain ⟨nb, hnb⟩ : ∃ nb : Int, nb = ((Pa.neg (Pa.pnt (b, false)) : Nat) : Int) := ⟨_, rfl⟩
          obtain ⟨a2, ha2⟩ : ∃ a2 : Int, a2 = 2 * a := ⟨_, rfl⟩
          obtain ⟨b2', hb2'⟩ : ∃ b2' : Int, b2' = 2 * b := ⟨_, rfl⟩
          have wa2 : IntKind.i64.wrap (2 * a) = a2 := by rw [IntKind.wrap_i64]; omega
          have wb2 : IntKind.i64.wrap (2 * b) = b2' := by rw [IntKind.wrap_i64]; omega
          have wa3 : IntKind.i64.wrap (a2 + 1) = pa := by rw [IntKind.wrap_i64]; omega
          have wb3 : IntKind.i64.wrap (b2' + 1) = nb := by rw [IntKind.wrap_i64]; omega
          have wa4 : IntKind.i64.wrap (pa - 1) = na := by rw [IntKind.wrap_i64]; omega
          have wb4 : IntKind.i64.wrap nb = nb := by rw [IntKind.wrap_i64]; omega
          have wb5 : IntKind.i64.wrap b2' = pb := by rw [IntKind.wrap_i64]; omega
          by_cases heq : Pa.neg (Pa.pnt (a, true)) = Pa.pnt (b, false)
          · have hn : Hid (Pa.lns (z1.take (j + 1)) = Pa.lns (z1.take j)) := by show _ = _; rw [lns_step hjl hp, two_none heq, List.append_nil]
            have t1 : (na == pb) = true := by simp; omega
            have t2 : (nb == pa) = true := by simp; omega
            clear ea ena eb enb hpa hna hpb hnb ha2 hb2' heq hp hjl ha0 hb0 haN hbN
            go_wp2
            go_roundw
            case rel => exact ⟨j + 1, by omega, by go_num, by rw [hn.out]; exact hown, hbel⟩
            case measure => simp [intOf]; omega
          · have hn : Hid (Pa.lns (z1.take j) ++ [(na, pb)] ++ [(nb, pa)] = Pa.lns (z1.take (j + 1))) := by
              show _ = _
              rw [lns_step hjl hp, two_both heq, hna, hpb, hnb, hpa]
              simp
            have t1 : (na == pb) = false := by simp; omega
            have t2 : (nb == pa) = false := by simp; omega
            clear ea ena eb enb hpa hna hpb hnb ha2 hb2' heq hp hjl ha0 hb0 haN hbN
            have hown2 := hown.below ((Below.refl _ wr).alloc (Nat.le_refl _) (.cells #[.int .i64 na, .int .i64 pb] 45))
            have hbel2 := hbel.alloc hsz (.cells #[.int .i64 na, .int .i64 pb] 45)
            go_wp2_with (first
              | (at_builtin; refine wpList_appP _ rfl (.tmp 87) (.tmp 96) _ rfl w.heap.size 45 Tryd.underlying39 lineInfo _ _ rfl hown2 _ 1 1 [(na, pb)] rfl (RdP.one wr _ _) (by have := HLN.out; omega) (by simp; omega) ?_; intro v3 y3 hown3 hg3 hat3; have hb3 := below_appP hbel2 hown2 hg3 (by simp; omega); have hs3 := hb3.size; have hown4 := hown3.below ((Below.refl _ y3).alloc (Nat.le_refl _) (.cells #[.int .i64 nb, .int .i64 pa] 45)); have hb4 := hb3.alloc hs3 (.cells #[.int .i64 nb, .int .i64 pa] 45))
              | (at_builtin; refine wpList_appP _ rfl (.tmp 106) (.tmp 115) _ rfl w.heap.size 45 Tryd.underlying39 lineInfo _ _ rfl hown4 _ 1 1 [(nb, pa)] rfl (RdP.one y3 _ _) (by have := HLN.out; rw [List.length_append]; simp; omega) (by simp; omega) ?_; intro v5 y5 hown5 hg5 hat5; rw [hn.out] at hown5; have hb5 := below_appP hb4 hown4 hg5 (by simp; omega)))
            go_roundw
            case rel => exact ⟨j + 1, by omega, by go_num, hown5, hb5⟩
            case measure => simp [intOf]; omega
        | true =>
          obtain ⟨ea, ena⟩ := pnt_t ha0
          obtain ⟨eb, enb⟩ := pnt_t hb0
          obtain ⟨pa, hpa⟩ : ∃ pa : Int, pa = ((Pa.pnt (a, true) : Nat) : Int) := ⟨_, rfl⟩
          obtain ⟨na, hna⟩ : ∃ na : Int, na = ((Pa.neg (Pa.pnt (a, true)) : Nat) : Int) := ⟨_, rfl⟩
          obtain ⟨pb, hpb⟩ : ∃ pb : Int, pb = ((Pa.pnt (b, true) : Nat) : Int) := ⟨_, rfl⟩
          obtain ⟨nb, hnb⟩ : ∃ nb : Int, nb = ((Pa.neg (Pa.pnt (b, true)) : Nat) : Int) := ⟨_, rfl⟩
          obtain ⟨a2, ha2⟩ : ∃ a2 : Int, a2 = 2 * a := ⟨_, rfl⟩
          obtain ⟨b2', hb2'⟩ : ∃ b2' : Int, b2' = 2 * b := ⟨_, rfl⟩
          have wa2 : IntKind.i64.wrap (2 * a) = a2 := by rw [IntKind.wrap_i64]; omega
          have wb2 : IntKind.i64.wrap (2 * b) = b2' := by rw [IntKind.wrap_i64]; omega
          have wa3 : IntKind.i64.wrap (a2 + 1) = pa := by rw [IntKind.wrap_i64]; omega
          have wb3 : IntKind.i64.wrap (b2' + 1) = pb := by rw [IntKind.wrap_i64]; omega
          have wa4 : IntKind.i64.wrap (pa - 1) = na := by rw [IntKind.wrap_i64]; omega
          have wb4 : IntKind.i64.wrap (pb - 1) = nb := by rw [IntKind.wrap_i64]; omega
          by_cases heq : Pa.neg (Pa.pnt (a, true)) = Pa.pnt (b, true)
          · have hn : Hid (Pa.lns (z1.take (j + 1)) = Pa.lns (z1.take j)) := by show _ = _; rw [lns_step hjl hp, two_none heq, List.append_nil]
            have t1 : (na == pb) = true := by simp; omega
            have t2 : (nb == pa) = true := by simp; omega
            clear ea ena eb enb hpa hna hpb hnb ha2 hb2' heq hp hjl ha0 hb0 haN hbN
            go_wp2
            go_roundw
            case rel => exact ⟨j + 1, by omega, by go_num, by rw [hn.out]; exact hown, hbel⟩
            case measure => simp [intOf]; omega
          · have hn : Hid (Pa.lns (z1.take j) ++ [(na, pb)] ++ [(nb, pa)] = Pa.lns (z1.take (j + 1))) := by
              show _ = _
              rw [lns_step hjl hp, two_both heq, hna, hpb, hnb, hpa]
              simp
            have t1 : (na == pb) = false := by simp; omega
            have t2 : (nb == pa) = false := by simp; omega
            clear ea ena eb enb hpa hna hpb hnb ha2 hb2' heq hp hjl ha0 hb0 haN hbN
            have hown2 := hown.below ((Below.refl _ wr).alloc (Nat.le_refl _) (.cells #[.int .i64 na, .int .i64 pb] 45))
            have hbel2 := hbel.alloc hsz (.cells #[.int .i64 na, .int .i64 pb] 45)
            go_wp2_with (first
              | (at_builtin; refine wpList_appP _ rfl (.tmp 87) (.tmp 96) _ rfl w.heap.size 45 Tryd.underlying39 lineInfo _ _ rfl hown2 _ 1 1 [(na, pb)] rfl (RdP.one wr _ _) (by have := HLN.out; omega) (by simp; omega) ?_; intro v3 y3 hown3 hg3 hat3; have hb3 := below_appP hbel2 hown2 hg3 (by simp; omega); have hs3 := hb3.size; have hown4 := hown3.below ((Below.refl _ y3).alloc (Nat.le_refl _) (.cells #[.int .i64 nb, .int .i64 pa] 45)); have hb4 := hb3.alloc hs3 (.cells #[.int .i64 nb, .int .i64 pa] 45))
              | (at_builtin; refine wpList_appP _ rfl (.tmp 106) (.tmp 115) _ rfl w.heap.size 45 Tryd.underlying39 lineInfo _ _ rfl hown4 _ 1 1 [(nb, pa)] rfl (RdP.one y3 _ _) (by have := HLN.out; rw [List.length_append]; simp; omega) (by simp; omega) ?_; intro v5 y5 hown5 hg5 hat5; rw [hn.out] at hown5; have hb5 := below_appP hb4 hown4 hg5 (by simp; omega)))
            go_roundw
            case rel => exact ⟨j + 1, by omega, by go_num, hown5, hb5⟩
            case measure => simp [intOf]; omega
    · obtain rfl : j = n1 := by omega
      have hfin : Hid (Pa.lns (z1.take j) = Pa.lns z1) := by show _ = _; rw [List.take_of_length_le (by rw [HX.out]; omega)]
      rw [hfin.out] at hown
      obtain ⟨A3, c3, rfl, hr3⟩ := hown.rd
      obtain ⟨ls, hls⟩ : ∃ ls, ls = Pa.lns z1 := ⟨_, rfl⟩
      obtain ⟨q, hq⟩ : ∃ q, q = (Pa.lns z1).length := ⟨_, rfl⟩
      obtain ⟨m2, hm2⟩ : ∃ m2 : Nat, m2 = 2 * N := ⟨_, rfl⟩
      have hw2 : IntKind.i64.wrap (2 * (N : Int)) = (m2 : Int) := by rw [IntKind.wrap_i64]; omega
      have HC : Hid (Gr.code (m2 : Int) ls = 0) := by
        refine Gr.code_zero.2 ⟨by omega, by omega, ?_, ?_⟩
        · rw [hls]; have := lns_len z1; rw [HX.out] at this; omega
        · rw [hls, hm2]; exact Pa.lns_good HG.out
      rw [← hq] at hr3 ⊢
      rw [← hls] at hr3
      have hmm : ((m2 : Int) == (m2 : Int)) = true := by simp
      have HLS := Lib.hid hls
      have HM2 := Lib.hid hm2
      have HQ := Lib.hid hq
      have hm8 : m2 ≤ 8 := by omega
      clear hls hq hm2 hown hfin hj hlt
      go_wp2_with fail
      refine (Parts_yes m2 A3 q c3 ls _ hr3 HC.out).mono ?_
      rintro e x4 ⟨A4, c4, rfl, hrd, b4⟩
      have b04 := hbel.trans (b4.mono hsz)
      have hag0 : Hid (agTo m2 ls 0 = false) := agTo_zero m2 ls
      clear hbel b4 hr3
      go_wp2
      go_loopw [16, 17] (fun sv iv wr => ∃ (i : Nat) (s : Bool), i ≤ N ∧ iv = .int .i64 (i : Int) ∧ sv = .bool s ∧ Below x4.heap.size x4 wr ∧ Hid (agTo m2 ls i = s)) (fun _ iv _ => N - (intOf iv).toNat)
      case atStart => exact ⟨0, false, Nat.zero_le _, rfl, rfl, Below.refl _ _, hag0⟩
      case round =>
        clear hag0
        obtain ⟨i, s, hi, rfl, rfl, hb, H⟩ := hrel
        by_cases hlt : i < N
        · obtain ⟨u, hu⟩ : ∃ u, u = 2 * i := ⟨_, rfl⟩
          obtain ⟨u1, hu1⟩ : ∃ u1, u1 = 2 * i + 1 := ⟨_, rfl⟩
          have hwu : IntKind.i64.wrap (2 * (i : Int)) = (u : Int) := by rw [IntKind.wrap_i64]; omega
          have hwu1 : IntKind.i64.wrap ((u : Int) + 1) = (u1 : Int) := by rw [IntKind.wrap_i64]; omega
          have hum : u < m2 := by rw [HM2.out]; omega
          have hum1 : u1 < m2 := by rw [HM2.out]; omega
          have y1 : (0 : Int) ≤ (u : Int) := by omega
          have y2 : (u : Int) < (m2 : Int) := by omega
          have y3 : (0 : Int) ≤ (u1 : Int) := by omega
          have y4 : (u1 : Int) < (m2 : Int) := by omega
          obtain ⟨t, ht⟩ : ∃ t, Sg.both m2 ls u u1 = t := ⟨_, rfl⟩
          have HN : Hid (agTo m2 ls (i + 1) = (s || t)) := by show _ = _; rw [agTo_succ, H.out, ← hu1, ← hu, ht]
          have hps := parts_same (ls := ls) hum hum1
          rw [ht] at hps
          cases s with
          | true =>
            clear hu hu1 ht hps
            go_wp2
            go_quiet (fail)
            go_wp2
            go_roundw
            case rel => exact ⟨i + 1, true, by omega, by go_num, rfl, hb.trans (Below.drewN' _ _ _), HN⟩
            case measure => simp [intOf]; omega
          | false =>
            obtain ⟨d4, o4, rfl, hbb, hcc⟩ := (hrd.past hb).at_ (by omega)
            have g1 := hcc u hum
            have g2 := hcc u1 hum1
            obtain ⟨p1, hp1⟩ : ∃ p1, p1 = (Sg.parts m2 ls).getD u 0 := ⟨_, rfl⟩
            obtain ⟨p2, hp2⟩ : ∃ p2, p2 = (Sg.parts m2 ls).getD u1 0 := ⟨_, rfl⟩
            rw [← hp1] at g1 hps
            rw [← hp2] at g2 hps
            clear hu hu1 ht hp1 hp2 hcc hbb
            go_wp2
            go_quiet (fail)
            go_wp2
            go_roundw
            case rel => exact ⟨i + 1, t, by omega, by go_num, rfl, hb.trans (Below.drewN' _ _ _), HN⟩
            case measure => simp [intOf]; omega
        · obtain rfl : i = N := by omega
          have hb5 := b04.trans (hb.mono b04.size)
          have hfin : s = false := by
            rw [← H.out]
            have := Pa.aspvall (N := i) HG.out
            rw [HM.out.ans] at this
            rw [HLS.out, HM2.out]
            exact this
          subst hfin
          go_wp2
          go_ret
          exact ⟨rfl, hb5⟩

set_option maxRecDepth 100000 in
set_option maxHeartbeats 4000000 in
/-- nothing is right -/
theorem none_ (w : World) (het : tld.EtIs w) (N : Nat) (a1 : Option Addr) (n1 c1 : Nat) (z1 : List Or2) (w1 : RdO w w.heap.size a1 n1 c1 z1) (h0 : Pa.code (N : Int) z1 = 0) (h12 : n1 ≤ 12) (hm : Pa.ans (Pa.right z1) N [] = none) :
    Calls Tryd.prog 5 #[.int .i64 (N : Int), .slice a1 n1 c1] w fun e w' => e = .returned (.bool true) ∧ Below w.heap.size w w' := by
  have H0 := Lib.hid h0
  have HM := Lib.hid hm
  have hN1 := (Pa.code_good h0).1
  have hN4 := (Pa.code_good h0).2.1
  have HG := Lib.hid (Pa.code_good h0).2.2.2
  have HX := Lib.hid w1.len
  have W1 := Lib.hid w1
  clear h0 hm
  go_enter Tryd.func5, Tryd.ntmps5
  go_wp2_with fail
  refine (pairsFact_any _ het).mono ?_
  rintro e x1 ⟨rfl, b1⟩
  have r1 := w1.past b1
  go_wp2_with fail
  refine (Solve_no N a1 n1 c1 z1 _ r1 H0.out HM.out).mono ?_
  rintro e x2 ⟨rfl, b2⟩
  have r2 := r1.past b2
  have b02 := b1.trans (b2.mono b1.size)
  clear r1 b1 b2 w1
  go_wp2_with fail
  refine (RefPa.Ors_any (N : Int) a1 n1 c1 z1 _ r2).mono ?_
  rw [H0.out]
  rintro e x3 ⟨rfl, rfl⟩
  have hs2 := b02.size
  have hl0 : Hid (Pa.lns (z1.take 0) = []) := by show _ = _; simp [Pa.lns]
  go_wp2
  go_loopw [8, 9, 10, 11, 12, 13] (fun v i _ _ _ _ wr => ∃ j : Nat, j ≤ n1 ∧ i = .int .i64 j ∧ OwnP wr w.heap.size 45 v (Pa.lns (z1.take j)) ∧ Below w.heap.size w wr) (fun _ i _ _ _ _ _ => n1 - (intOf i).toNat)
  case atStart => exact ⟨0, Nat.zero_le _, rfl, by rw [hl0.out]; exact OwnP.nil _ _ _, b02⟩
  case round =>
    obtain ⟨j, hj, rfl, hown, hbel⟩ := hrel
    have hsz := hbel.size
    by_cases hlt : j < n1
    · have rj : RdO wr wr.heap.size a1 n1 c1 z1 := W1.out.past hbel
      obtain ⟨d1, o1, rfl, hbb, hcc⟩ := rj.at_ (by omega)
      obtain ⟨g0, g1, g2, g3⟩ := hcc j hlt
      have hjl : j < z1.length := by rw [HX.out]; exact hlt
      have hmem : z1.getD j or0 ∈ z1 := by simp [List.getD, hjl]
      have hgood := HG.out _ hmem
      have HLN : Hid ((Pa.lns (z1.take j)).length ≤ 24) := by
        show _ ≤ _
        have := lns_len (z1.take j)
        rw [List.length_take, HX.out] at this
        omega
      obtain ⟨⟨⟨a, s⟩, ⟨b, t⟩⟩, hp⟩ : ∃ p, p = z1.getD j or0 := ⟨_, rfl⟩
      rw [← hp] at g0 g1 g2 g3 hgood
      unfold Pa.Good at hgood
      simp only at g0 g1 g2 g3 hgood
      obtain ⟨ha0, haN, hb0, hbN⟩ := hgood
      have k1 : (0 : Int) ≤ (j : Int) := by omega
      have k2 : (j : Int) < (n1 : Int) := by omega
      clear hcc hmem hbb rj
      cases s with
      | false =>
        cases t with
        | false =>
          obtain ⟨ea, ena⟩ := pnt_f ha0
          obtain ⟨eb, enb⟩ := pnt_f hb0
          obtain ⟨pa, hpa⟩ : ∃ pa : Int, pa = ((Pa.pnt (a, false) : Nat) : Int) := ⟨_, rfl⟩
          obtain ⟨na, hna⟩ : ∃ na : Int, na = ((Pa.neg (Pa.pnt (a, false)) : Nat) : Int) := ⟨_, rfl⟩
          obtain ⟨pb, hpb⟩ : ∃ pb : Int, pb = ((Pa.pnt (b, false) : Nat) : Int) := ⟨_, rfl⟩
          obtain ⟨nb, hnb⟩ : ∃ nb : Int, nb = ((Pa.neg (Pa.pnt (b, false)) : Nat) : Int) := ⟨_, rfl⟩
          obtain ⟨a2, ha2⟩ : ∃ a2 : Int, a2 = 2 * a := ⟨_, rfl⟩
          obtain ⟨b2', hb2'⟩ : ∃ b2' : Int, b2' = 2 * b := ⟨_, rfl⟩
          have wa2 : IntKind.i64.wrap (2 * a) = a2 := by rw [IntKind.wrap_i64]; omega
          have wb2 : IntKind.i64.wrap (2 * b) = b2' := by rw [IntKind.wrap_i64]; omega
          have wa3 : IntKind.i64.wrap (a2 + 1) = na := by rw [IntKind.wrap_i64]; omega
          have wb3 : IntKind.i64.wrap (b2' + 1) = nb := by rw [IntKind.wrap_i64]; omega
          have wa4 : IntKind.i64.wrap na = na := by rw [IntKind.wrap_i64]; omega
          have wa5 : IntKind.i64.wrap a2 = pa := by rw [IntKind.wrap_i64]; omega
          have wb4 : IntKind.i64.wrap nb = nb := by rw [IntKind.wrap_i64]; omega
          have wb5 : IntKind.i64.wrap b2' = pb := by rw [IntKind.wrap_i64]; omega
          by_cases heq : Pa.neg (Pa.pnt (a, false)) = Pa.pnt (b, false)
          · have hn : Hid (Pa.lns (z1.take (j + 1)) = Pa.lns (z1.take j)) := by show _ = _; rw [lns_step hjl hp, two_none heq, List.append_nil]
            have t1 : (na == pb) = true := by simp; omega
            have t2 : (nb == pa) = true := by simp; omega
            clear ea ena eb enb hpa hna hpb hnb ha2 hb2' heq hp hjl ha0 hb0 haN hbN
            go_wp2
            go_roundw
            case rel => exact ⟨j + 1, by omega, by go_num, by rw [hn.out]; exact hown, hbel⟩
            case measure => simp [intOf]; omega
          · have hn : Hid (Pa.lns (z1.take j) ++ [(na, pb)] ++ [(nb, pa)] = Pa.lns (z1.take (j + 1))) := by
              show _ = _
              rw [lns_step hjl hp, two_both heq, hna, hpb, hnb, hpa]
              simp
            have t1 : (na == pb) = false := by simp; omega
            have t2 : (nb == pa) = false := by simp; omega
            clear ea ena eb enb hpa hna hpb hnb ha2 hb2' heq hp hjl ha0 hb0 haN hbN
            have hown2 := hown.below ((Below.refl _ wr).alloc (Nat.le_refl _) (.cells #[.int .i64 na, .int .i64 pb] 45))
            have hbel2 := hbel.alloc hsz (.cells #[.int .i64 na, .int .i64 pb] 45)
            go_wp2_with (first
              | (at_builtin; refine wpList_appP _ rfl (.tmp 87) (.tmp 96) _ rfl w.heap.size 45 Tryd.underlying39 lineInfo _ _ rfl hown2 _ 1 1 [(na, pb)] rfl (RdP.one wr _ _) (by have := HLN.out; omega) (by simp; omega) ?_; intro v3 y3 hown3 hg3 hat3; have hb3 := below_appP hbel2 hown2 hg3 (by simp; omega); have hs3 := hb3.size; have hown4 := hown3.below ((Below.refl _ y3).alloc (Nat.le_refl _) (.cells #[.int .i64 nb, .int .i64 pa] 45)); have hb4 := hb3.alloc hs3 (.cells #[.int .i64 nb, .int .i64 pa] 45))
              | (at_builtin; refine wpList_appP _ rfl (.tmp 106) (.tmp 115) _ rfl w.heap.size 45 Tryd.underlying39 lineInfo _ _ rfl hown4 _ 1 1 [(nb, pa)] rfl (RdP.one y3 _ _) (by have := HLN.out; rw [List.length_append]; simp; omega) (by simp; omega) ?_; intro v5 y5 hown5 hg5 hat5; rw [hn.out] at hown5; have hb5 := below_appP hb4 hown4 hg5 (by simp; omega)))
            go_roundw
            case rel => exact ⟨j + 1, by omega, by go_num, hown5, hb5⟩
            case measure => simp [intOf]; omega
        | true =>
          obtain ⟨ea, ena⟩ := pnt_f ha0
          obtain ⟨eb, enb⟩ := pnt_t hb0
          obtain ⟨pa, hpa⟩ : ∃ pa : Int, pa = ((Pa.pnt (a, false) : Nat) : Int) := ⟨_, rfl⟩
          obtain ⟨na, hna⟩ : ∃ na : Int, na = ((Pa.neg (Pa.pnt (a, false)) : Nat) : Int) := ⟨_, rfl⟩
          obtain ⟨pb, hpb⟩ : ∃ pb : Int, pb = ((Pa.pnt (b, true) : Nat) : Int) := ⟨_, rfl⟩
          obtain ⟨nb, hnb⟩ : ∃ nb : Int, nb = ((Pa.neg (Pa.pnt (b, true)) : Nat) : Int) := ⟨_, rfl⟩
          obtain ⟨a2, ha2⟩ : ∃ a2 : Int, a2 = 2 * a := ⟨_, rfl⟩
          obtain ⟨b2', hb2'⟩ : ∃ b2' : Int, b2' = 2 * b := ⟨_, rfl⟩
          have wa2 : IntKind.i64.wrap (2 * a) = a2 := by rw [IntKind.wrap_i64]; omega
          have wb2 : IntKind.i64.wrap (2 * b) = b2' := by rw [IntKind.wrap_i64]; omega
          have wa3 : IntKind.i64.wrap (a2 + 1) = na := by rw [IntKind.wrap_i64]; omega
          have wb3 : IntKind.i64.wrap (b2' + 1) = pb := by rw [IntKind.wrap_i64]; omega
          have wa4 : IntKind.i64.wrap na = na := by rw [IntKind.wrap_i64]; omega
          have wa5 : IntKind.i64.wrap a2 = pa := by rw [IntKind.wrap_i64]; omega
          have wb4 : IntKind.i64.wrap (pb - 1) = nb := by rw [IntKind.wrap_i64]; omega
          by_cases heq : Pa.neg (Pa.pnt (a, false)) = Pa.pnt (b, true)
          · have hn : Hid (Pa.lns (z1.take (j + 1)) = Pa.lns (z1.take j)) := by show _ = _; rw [lns_step hjl hp, two_none heq, List.append_nil]
            have t1 : (na == pb) = true := by simp; omega
            have t2 : (nb == pa) = true := by simp; omega
            clear ea ena eb enb hpa hna hpb hnb ha2 hb2' heq hp hjl ha0 hb0 haN hbN
            go_wp2
            go_roundw
            case rel => exact ⟨j + 1, by omega, by go_num, by rw [hn.out]; exact hown, hbel⟩
            case measure => simp [intOf]; omega
          · have hn : Hid (Pa.lns (z1.take j) ++ [(na, pb)] ++ [(nb, pa)] = Pa.lns (z1.take (j + 1))) := by
              show _ = _
              rw [lns_step hjl hp, two_both heq, hna, hpb, hnb, hpa]
              simp
            have t1 : (na == pb) = false := by simp; omega
            have t2 : (nb == pa) = false := by simp; omega
            clear ea ena eb enb hpa hna hpb hnb ha2 hb2' heq hp hjl ha0 hb0 haN hbN
            have hown2 := hown.below ((Below.refl _ wr).alloc (Nat.le_refl _) (.cells #[.int .i64 na, .int .i64 pb] 45))
            have hbel2 := hbel.alloc hsz (.cells #[.int .i64 na, .int .i64 pb] 45)
            go_wp2_with (first
              | (at_builtin; refine wpList_appP _ rfl (.tmp 87) (.tmp 96) _ rfl w.heap.size 45 Tryd.underlying39 lineInfo _ _ rfl hown2 _ 1 1 [(na, pb)] rfl (RdP.one wr _ _) (by have := HLN.out; omega) (by simp; omega) ?_; intro v3 y3 hown3 hg3 hat3; have hb3 := below_appP hbel2 hown2 hg3 (by simp; omega); have hs3 := hb3.size; have hown4 := hown3.below ((Below.refl _ y3).alloc (Nat.le_refl _) (.cells #[.int .i64 nb, .int .i64 pa] 45)); have hb4 := hb3.alloc hs3 (.cells #[.int .i64 nb, .int .i64 pa] 45))
              | (at_builtin; refine wpList_appP _ rfl (.tmp 106) (.tmp 115) _ rfl w.heap.size 45 Tryd.underlying39 lineInfo _ _ rfl hown4 _ 1 1 [(nb, pa)] rfl (RdP.one y3 _ _) (by have := HLN.out; rw [List.length_append]; simp; omega) (by simp; omega) ?_; intro v5 y5 hown5 hg5 hat5; rw [hn.out] at hown5; have hb5 := below_appP hb4 hown4 hg5 (by simp; omega)))
            go_roundw
            case rel => exact ⟨j + 1, by omega, by go_num, hown5, hb5⟩
            case measure => simp [intOf]; omega
      | true =>
        cases t with
        | false =>
          obtain ⟨ea, ena⟩ := pnt_t ha0
          obtain ⟨eb, enb⟩ := pnt_f hb0
          obtain ⟨pa, hpa⟩ : ∃ pa : Int, pa = ((Pa.pnt (a, true) : Nat) : Int) := ⟨_, rfl⟩
          obtain ⟨na, hna⟩ : ∃ na : Int, na = ((Pa.neg (Pa.pnt (a, true)) : Nat) : Int) := ⟨_, rfl⟩
          obtain ⟨pb, hpb⟩ : ∃ pb : Int, pb = ((Pa.pnt (b, false) : Nat) : Int) := ⟨_, rfl⟩
          obtain ⟨nb, hnb⟩ : ∃ nb : Int, nb = ((Pa.neg (Pa.pnt (b, false)) : Nat) : Int) := ⟨_, rfl⟩
          obtain ⟨a2, ha2⟩ : ∃ a2 : Int, a2 = 2 * a := ⟨_, rfl⟩
          obtain ⟨b2', hb2'⟩ : ∃ b2' : Int, b2' = 2 * b := ⟨_, rfl⟩
          have wa2 : IntKind.i64.wrap (2 * a) = a2 := by rw [IntKind.wrap_i64]; omega
          have wb2 : IntKind.i64.wrap (2 * b) = b2' := by rw [IntKind.wrap_i64]; omega
          have wa3 : IntKind.i64.wrap (a2 + 1) = pa := by rw [IntKind.wrap_i64]; omega
          have wb3 : IntKind.i64.wrap (b2' + 1) = nb := by rw [IntKind.wrap_i64]; omega
          have wa4 : IntKind.i64.wrap (pa - 1) = na := by rw [IntKind.wrap_i64]; omega
          have wb4 : IntKind.i64.wrap nb = nb := by rw [IntKind.wrap_i64]; omega
          have wb5 : IntKind.i64.wrap b2' = pb := by rw [IntKind.wrap_i64]; omega
          by_cases heq : Pa.neg (Pa.pnt (a, true)) = Pa.pnt (b, false)
          · have hn : Hid (Pa.lns (z1.take (j + 1)) = Pa.lns (z1.take j)) := by show _ = _; rw [lns_step hjl hp, two_none heq, List.append_nil]
            have t1 : (na == pb) = true := by simp; omega
            have t2 : (nb == pa) = true := by simp; omega
            clear ea ena eb enb hpa hna hpb hnb ha2 hb2' heq hp hjl ha0 hb0 haN hbN
            go_wp2
            go_roundw
            case rel => exact ⟨j + 1, by omega, by go_num, by rw [hn.out]; exact hown, hbel⟩
            case measure => simp [intOf]; omega
          · have hn : Hid (Pa.lns (z1.take j) ++ [(na, pb)] ++ [(nb, pa)] = Pa.lns (z1.take (j + 1))) := by
              show _ = _
              rw [lns_step hjl hp, two_both heq, hna, hpb, hnb, hpa]
              simp
            have t1 : (na == pb) = false := by simp; omega
            have t2 : (nb == pa) = false := by simp; omega
            clear ea ena eb enb hpa hna hpb hnb ha2 hb2' heq hp hjl ha0 hb0 haN hbN
            have hown2 := hown.below ((Below.refl _ wr).alloc (Nat.le_refl _) (.cells #[.int .i64 na, .int .i64 pb] 45))
            have hbel2 := hbel.alloc hsz (.cells #[.int .i64 na, .int .i64 pb] 45)
            go_wp2_with (first
              | (at_builtin; refine wpList_appP _ rfl (.tmp 87) (.tmp 96) _ rfl w.heap.size 45 Tryd.underlying39 lineInfo _ _ rfl hown2 _ 1 1 [(na, pb)] rfl (RdP.one wr _ _) (by have := HLN.out; omega) (by simp; omega) ?_; intro v3 y3 hown3 hg3 hat3; have hb3 := below_appP hbel2 hown2 hg3 (by simp; omega); have hs3 := hb3.size; have hown4 := hown3.below ((Below.refl _ y3).alloc (Nat.le_refl _) (.cells #[.int .i64 nb, .int .i64 pa] 45)); have hb4 := hb3.alloc hs3 (.cells #[.int .i64 nb, .int .i64 pa] 45))
              | (at_builtin; refine wpList_appP _ rfl (.tmp 106) (.tmp 115) _ rfl w.heap.size 45 Tryd.underlying39 lineInfo _ _ rfl hown4 _ 1 1 [(nb, pa)] rfl (RdP.one y3 _ _) (by have := HLN.out; rw [List.length_append]; simp; omega) (by simp; omega) ?_; intro v5 y5 hown5 hg5 hat5; rw [hn.out] at hown5; have hb5 := below_appP hb4 hown4 hg5 (by simp; omega)))
            go_roundw
            case rel => exact ⟨j + 1, by omega, by go_num, hown5, hb5⟩
            case measure => simp [intOf]; omega
        | true =>
          obtain ⟨ea, ena⟩ := pnt_t ha0
          obtain ⟨eb, enb⟩ := pnt_t hb0
          obtain ⟨pa, hpa⟩ : ∃ pa : Int, pa = ((Pa.pnt (a, true) : Nat) : Int) := ⟨_, rfl⟩
          obtain ⟨na, hna⟩ : ∃ na : Int, na = ((Pa.neg (Pa.pnt (a, true)) : Nat) : Int) := ⟨_, rfl⟩
          obtain ⟨pb, hpb⟩ : ∃ pb : Int, pb = ((Pa.pnt (b, true) : Nat) : Int) := ⟨_, rfl⟩
          obtain ⟨nb, hnb⟩ : ∃ nb : Int, nb = ((Pa.neg (Pa.pnt (b, true)) : Nat) : Int) := ⟨_, rfl⟩
          obtain ⟨a2, ha2⟩ : ∃ a2 : Int, a2 = 2 * a := ⟨_, rfl⟩
          obtain ⟨b2', hb2'⟩ : ∃ b2' : Int, b2' = 2 * b := ⟨_, rfl⟩
          have wa2 : IntKind.i64.wrap (2 * a) = a2 := by rw [IntKind.wrap_i64]; omega
          have wb2 : IntKind.i64.wrap (2 * b) = b2' := by rw [IntKind.wrap_i64]; omega
          have wa3 : IntKind.i64.wrap (a2 + 1) = pa := by rw [IntKind.wrap_i64]; omega
          have wb3 : IntKind.i64.wrap (b2' + 1) = pb := by rw [IntKind.wrap_i64]; omega
          have wa4 : IntKind.i64.wrap (pa - 1) = na := by rw [IntKind.wrap_i64]; omega
          have wb4 : IntKind.i64.wrap (pb - 1) = nb := by rw [IntKind.wrap_i64]; omega
          by_cases heq : Pa.neg (Pa.pnt (a, true)) = Pa.pnt (b, true)
          · have hn : Hid (Pa.lns (z1.take (j + 1)) = Pa.lns (z1.take j)) := by show _ = _; rw [lns_step hjl hp, two_none heq, List.append_nil]
            have t1 : (na == pb) = true := by simp; omega
            have t2 : (nb == pa) = true := by simp; omega
            clear ea ena eb enb hpa hna hpb hnb ha2 hb2' heq hp hjl ha0 hb0 haN hbN
            go_wp2
            go_roundw
            case rel => exact ⟨j + 1, by omega, by go_num, by rw [hn.out]; exact hown, hbel⟩
            case measure => simp [intOf]; omega
          · have hn : Hid (Pa.lns (z1.take j) ++ [(na, pb)] ++ [(nb, pa)] = Pa.lns (z1.take (j + 1))) := by
              show _ = _
              rw [lns_step hjl hp, two_both heq, hna, hpb, hnb, hpa]
              simp
            have t1 : (na == pb) = false := by simp; omega
            have t2 : (nb == pa) = false := by simp; omega
            clear ea ena eb enb hpa hna hpb hnb ha2 hb2' heq hp hjl ha0 hb0 haN hbN
            have hown2 := hown.below ((Below.refl _ wr).alloc (Nat.le_refl _) (.cells #[.int .i64 na, .int .i64 pb] 45))
            have hbel2 := hbel.alloc hsz (.cells #[.int .i64 na, .int .i64 pb] 45)
            go_wp2_with (first
              | (at_builtin; refine wpList_appP _ rfl (.tmp 87) (.tmp 96) _ rfl w.heap.size 45 Tryd.underlying39 lineInfo _ _ rfl hown2 _ 1 1 [(na, pb)] rfl (RdP.one wr _ _) (by have := HLN.out; omega) (by simp; omega) ?_; intro v3 y3 hown3 hg3 hat3; have hb3 := below_appP hbel2 hown2 hg3 (by simp; omega); have hs3 := hb3.size; have hown4 := hown3.below ((Below.refl _ y3).alloc (Nat.le_refl _) (.cells #[.int .i64 nb, .int .i64 pa] 45)); have hb4 := hb3.alloc hs3 (.cells #[.int .i64 nb, .int .i64 pa] 45))
              | (at_builtin; refine wpList_appP _ rfl (.tmp 106) (.tmp 115) _ rfl w.heap.size 45 Tryd.underlying39 lineInfo _ _ rfl hown4 _ 1 1 [(nb, pa)] rfl (RdP.one y3 _ _) (by have := HLN.out; rw [List.length_append]; simp; omega) (by simp; omega) ?_; intro v5 y5 hown5 hg5 hat5; rw [hn.out] at hown5; have hb5 := below_appP hb4 hown4 hg5 (by simp; omega)))
            go_roundw
            case rel => exact ⟨j + 1, by omega, by go_num, hown5, hb5⟩
            case measure => simp [intOf]; omega
    · obtain rfl : j = n1 := by omega
      have hfin : Hid (Pa.lns (z1.take j) = Pa.lns z1) := by show _ = _; rw [List.take_of_length_le (by rw [HX.out]; omega)]
      rw [hfin.out] at hown
      obtain ⟨A3, c3, rfl, hr3⟩ := hown.rd
      obtain ⟨ls, hls⟩ : ∃ ls, ls = Pa.lns z1 := ⟨_, rfl⟩
      obtain ⟨q, hq⟩ : ∃ q, q = (Pa.lns z1).length := ⟨_, rfl⟩
      obtain ⟨m2, hm2⟩ : ∃ m2 : Nat, m2 = 2 * N := ⟨_, rfl⟩
      have hw2 : IntKind.i64.wrap (2 * (N : Int)) = (m2 : Int) := by rw [IntKind.wrap_i64]; omega
      have HC : Hid (Gr.code (m2 : Int) ls = 0) := by
        refine Gr.code_zero.2 ⟨by omega, by omega, ?_, ?_⟩
        · rw [hls]; have := lns_len z1; rw [HX.out] at this; omega
        · rw [hls, hm2]; exact Pa.lns_good HG.out
      rw [← hq] at hr3 ⊢
      rw [← hls] at hr3
      have hmm : ((m2 : Int) == (m2 : Int)) = true := by simp
      have HLS := Lib.hid hls
      have HM2 := Lib.hid hm2
      have HQ := Lib.hid hq
      have hm8 : m2 ≤ 8 := by omega
      clear hls hq hm2 hown hfin hj hlt
      go_wp2_with fail
      refine (Parts_yes m2 A3 q c3 ls _ hr3 HC.out).mono ?_
      rintro e x4 ⟨A4, c4, rfl, hrd, b4⟩
      have b04 := hbel.trans (b4.mono hsz)
      have hag0 : Hid (agTo m2 ls 0 = false) := agTo_zero m2 ls
      clear hbel b4 hr3
      go_wp2
      go_loopw [16, 17] (fun sv iv wr => ∃ (i : Nat) (s : Bool), i ≤ N ∧ iv = .int .i64 (i : Int) ∧ sv = .bool s ∧ Below x4.heap.size x4 wr ∧ Hid (agTo m2 ls i = s)) (fun _ iv _ => N - (intOf iv).toNat)
      case atStart => exact ⟨0, false, Nat.zero_le _, rfl, rfl, Below.refl _ _, hag0⟩
      case round =>
        clear hag0
        obtain ⟨i, s, hi, rfl, rfl, hb, H⟩ := hrel
        by_cases hlt : i < N
        · obtain ⟨u, hu⟩ : ∃ u, u = 2 * i := ⟨_, rfl⟩
          obtain ⟨u1, hu1⟩ : ∃ u1, u1 = 2 * i + 1 := ⟨_, rfl⟩
          have hwu : IntKind.i64.wrap (2 * (i : Int)) = (u : Int) := by rw [IntKind.wrap_i64]; omega
          have hwu1 : IntKind.i64.wrap ((u : Int) + 1) = (u1 : Int) := by rw [IntKind.wrap_i64]; omega
          have hum : u < m2 := by rw [HM2.out]; omega
          have hum1 : u1 < m2 := by rw [HM2.out]; omega
          have y1 : (0 : Int) ≤ (u : Int) := by omega
          have y2 : (u : Int) < (m2 : Int) := by omega
          have y3 : (0 : Int) ≤ (u1 : Int) := by omega
          have y4 : (u1 : Int) < (m2 : Int) := by omega
          obtain ⟨t, ht⟩ : ∃ t, Sg.both m2 ls u u1 = t := ⟨_, rfl⟩
          have HN : Hid (agTo m2 ls (i + 1) = (s || t)) := by show _ = _; rw [agTo_succ, H.out, ← hu1, ← hu, ht]
          have hps := parts_same (ls := ls) hum hum1
          rw [ht] at hps
          cases s with
          | true =>
            clear hu hu1 ht hps
            go_wp2
            go_quiet (fail)
            go_wp2
            go_roundw
            case rel => exact ⟨i + 1, true, by omega, by go_num, rfl, hb.trans (Below.drewN' _ _ _), HN⟩
            case measure => simp [intOf]; omega
          | false =>
            obtain ⟨d4, o4, rfl, hbb, hcc⟩ := (hrd.past hb).at_ (by omega)
            have g1 := hcc u hum
            have g2 := hcc u1 hum1
            obtain ⟨p1, hp1⟩ : ∃ p1, p1 = (Sg.parts m2 ls).getD u 0 := ⟨_, rfl⟩
            obtain ⟨p2, hp2⟩ : ∃ p2, p2 = (Sg.parts m2 ls).getD u1 0 := ⟨_, rfl⟩
            rw [← hp1] at g1 hps
            rw [← hp2] at g2 hps
            clear hu hu1 ht hp1 hp2 hcc hbb
            go_wp2
            go_quiet (fail)
            go_wp2
            go_roundw
            case rel => exact ⟨i + 1, t, by omega, by go_num, rfl, hb.trans (Below.drewN' _ _ _), HN⟩
            case measure => simp [intOf]; omega
        · obtain rfl : i = N := by omega
          have hb5 := b04.trans (hb.mono b04.size)
          have hfin : s = true := by
            rw [← H.out]
            have := Pa.aspvall (N := i) HG.out
            rw [HM.out] at this
            rw [HLS.out, HM2.out]
            exact this
          subst hfin
          have HET : Hid (tld.EtIs wr) := het.below hb5
          go_wp2_with fail
          refine (Err_same 5 _ HET.out).mono ?_
          rintro e x6 ⟨rfl, b6⟩
          go_wp2
          go_ret
          exact ⟨rfl, hb5.trans (b6.mono hb5.size)⟩

theorem walk (w : World) (het : tld.EtIs w) (a0 : Int) (w0 : (Lit.int .i64 a0).wf = true) (a1 : Option Addr) (n1 c1 : Nat) (z1 : List Or2) (w1 : RdO w w.heap.size a1 n1 c1 z1) :
    Calls Tryd.prog 5 #[.int .i64 a0, .slice a1 n1 c1] w fun e w' => e = .returned (.bool true) ∧ Below w.heap.size w w' := by
  by_cases h : Pa.code a0 z1 = 0
  · obtain ⟨N, rfl⟩ : ∃ N : Nat, a0 = (N : Int) := ⟨a0.toNat, by have := (Pa.code_zero.1 h).1; omega⟩
    rcases Pa.outcome z1 N with ⟨m, _, hm⟩ | ⟨hm, _⟩
    · by_cases h12 : n1 ≤ 12
      · exact good w het N a1 n1 c1 z1 w1 h h12 m hm
      · exact long w het N a1 n1 c1 z1 w1 h (by omega) m hm
    · by_cases h12 : n1 ≤ 12
      · exact none_ w het N a1 n1 c1 z1 w1 h h12 hm
      · exact longno w het N a1 n1 c1 z1 w1 h (by omega) hm
  · exact bad w het a0 a1 n1 c1 z1 w1 h

end Go.Proofs.YthalopmplekdoaaDoor.pairsAspvall
