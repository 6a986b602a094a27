/-
  Contracts of package stable: Is.
-/
import Derived.Test.YthdibdghnfkoeaaDoorStableE
namespace Go.Proofs.YthdibdghnfkoeaaDoor
open Go.RowKit Go.Shelf

attribute [local go_sem] Oper.semAt_some
set_option linter.unusedSimpArgs false
set_option linter.unusedVariables false

theorem Is_err (A B C : Option Addr) (k m q c d f : Nat) (left right : List (List Int)) (has : List Int) (w : World) (hl : RdR w w.heap.size A k c left) (hr : RdR w w.heap.size B m d right) (hh : Rd w w.heap.size C q f has) (h : St.code left right ≠ 0) :
    Calls Tryd.prog 12 #[.slice A k c, .slice B m d, .slice C q f] w fun e w' => e = .returned (.tuple #[.bool false, errv (St.code left right)]) ∧ Below w.heap.size w w' := by
  have H := Lib.hid h
  clear h
  go_enter Tryd.func12, Tryd.ntmps12
  go_wp2_with fail
  refine (SCheck_any A B k m c d left right _ hl hr).mono ?_
  rintro e w1 ⟨rfl, hb⟩
  rw [errOf_pos H.out]
  go_wp2
  go_ret2
  exact ⟨rfl, hb⟩
theorem Is_bad (n : Nat) (A B C : Option Addr) (q c d f : Nat) (left right : List (List Int)) (has : List Int) (w : World) (hl : RdR w w.heap.size A n c left) (hr : RdR w w.heap.size B n d right) (hh : Rd w w.heap.size C q f has) (h : St.code left right = 0) (h2 : St.rcode n has ≠ 0) :
    Calls Tryd.prog 12 #[.slice A n c, .slice B n d, .slice C q f] w fun e w' => e = .returned (.tuple #[.bool false, errv (St.rcode n has)]) ∧ Below w.heap.size w w' := by
  have H := Lib.hid h
  have H2 := Lib.hid h2
  have hcz := St.code_zero.1 h
  rw [hl.len] at hcz
  have h6 := hcz.1
  clear h h2 hcz
  go_enter Tryd.func12, Tryd.ntmps12
  go_wp2_with fail
  refine (SCheck_any A B n n c d left right _ hl hr).mono ?_
  rintro e w1 ⟨rfl, hb⟩
  rw [errOf_zero H.out]
  go_wp2_with fail
  refine (eachOnce_any n h6 C q f has _ (hh.past hb)).mono ?_
  rintro e w2 ⟨rfl, hb2⟩
  rw [errOf_pos H2.out]
  go_wp2
  go_ret2
  exact ⟨rfl, hb.trans (hb2.mono hb.size)⟩

namespace St
/-- whom those on the right have, seen from the first k on the left -/
def BkI (n k : Nat) (p : List Nat) (es : List Int) : Prop := es.length = 6 ∧ ∀ a, a < k → es.getD (p.getD a 0) 0 = (a : Int)
theorem BkI.step {n k : Nat} {p : List Nat} {es : List Int} (h6 : n ≤ 6) (hp : Pr n p) (h : BkI n k p es) (hk : k < n) : BkI n (k + 1) p (es.set (p.getD k 0) (k : Int)) := by
  have hlt := hp.at_lt hk
  refine ⟨by rw [List.length_set]; exact h.1, fun a ha => ?_⟩
  rw [set_getI _ _ _ _ (by rw [h.1]; omega)]
  by_cases e : a = k
  · subst e; rw [if_pos rfl]
  · have hne : p.getD a 0 ≠ p.getD k 0 := fun e2 => e (hp.at_inj (by omega) hk e2)
    rw [if_neg hne]
    exact h.2 a (by omega)
theorem blk_val {n : Nat} {left right : List (List Int)} (hL : Rks n left) (hR : Rks n right) {p : List Nat} (hp : Pr n p) {i k : Nat} (hi : i < n) (hk : k < n) :
    blk left right (up p) i (p.getD k 0) = (decide (pl left i (p.getD k 0) < pl left i (p.getD i 0)) && decide (pl right (p.getD k 0) i < pl right (p.getD k 0) k)) := by
  have hrow := hp.row
  unfold blk
  have hkl : k < (up p).length := by rw [hrow.len]; exact hk
  rw [← up_at p k, plc_at hrow.nodup hkl, up_at, up_at, hL.pl hi (hp.at_lt hk), hL.pl hi (hp.at_lt hi), hR.pl (hp.at_lt hk) hi, hR.pl (hp.at_lt hk) hk]
  congr 1
  · exact decide_eq_decide.2 (by omega)
  · exact decide_eq_decide.2 (by omega)
theorem stb_false {n : Nat} {left right : List (List Int)} {has : List Int} {i j : Nat} (hi : i < n) (hj : j < n) (h : blk left right has i j = true) : stb n left right has = false := by
  refine Bool.eq_false_iff.2 fun e => ?_
  unfold stb at e
  simp only [List.all_eq_true, List.mem_range, Bool.not_eq_true'] at e
  rw [e i hi j hj] at h
  cases h
theorem stb_true {n : Nat} {left right : List (List Int)} {has : List Int} (h : ∀ i, i < n → ∀ j, j < n → blk left right has i j = false) : stb n left right has = true := by
  unfold stb
  simp only [List.all_eq_true, List.mem_range, Bool.not_eq_true']
  exact h
end St

/-- in the midst of Is: the places on both sides, whom those on the right have -/
structure IsI (w : World) (X Y Z : Nat) (ls rs es : List Int) (wr : World) : Prop where
  ord : w.heap.size ≤ X ∧ X < Y ∧ Y < Z
  l : ArI wr X 49 ls
  r : ArI wr Y 49 rs
  e : ArI wr Z 46 es
  bel : Below w.heap.size w wr
section
variable {w wr : World} {X Y Z : Nat} {ls rs es : List Int}
theorem IsI.drewN (h : IsI w X Y Z ls rs es wr) (k : Nat) : IsI w X Y Z ls rs es (wr.drewN k) := ⟨h.ord, h.l, h.r, h.e, h.bel.trans (Below.drewN' _ _ _)⟩
theorem IsI.setE (h : IsI w X Y Z ls rs es wr) (i : Nat) (x : Int) : IsI w X Y Z ls rs (es.set i x) (wr.setCell ⟨Z, i, none⟩ (.int .i64 x)) := by
  obtain ⟨o1, o2, o3⟩ := h.ord
  exact ⟨h.ord, h.l.other _ (by simp; omega), h.r.other _ (by simp; omega), h.e.store i x, h.bel.setCell (by simp; omega) _⟩
end
theorem tab_new (w : World) : ArI (w.alloc (.cells ((List.replicate 36 (0 : Int)).map (Value.int .i64)).toArray 49)) w.heap.size 49 (List.replicate 36 0) := ArI.new w _ _

theorem tab_new2 (w : World) : ArI ((w.alloc (.cells ((List.replicate 36 (0 : Int)).map (Value.int .i64)).toArray 49)).alloc (.cells ((List.replicate 36 (0 : Int)).map (Value.int .i64)).toArray 49)) (w.heap.size + 1) 49 (List.replicate 36 0) := by
  have := tab_new (w.alloc (.cells ((List.replicate 36 (0 : Int)).map (Value.int .i64)).toArray 49))
  rw [World.size_alloc] at this
  exact this

set_option maxRecDepth 100000 in
set_option maxHeartbeats 2000000 in
theorem Is_ok (n : Nat) (A B C : Option Addr) (c d f : Nat) (left right : List (List Int)) (p : List Nat) (w : World) (hl : RdR w w.heap.size A n c left) (hr : RdR w w.heap.size B n d right) (hh : Rd w w.heap.size C n f (St.up p)) (h : St.code left right = 0) (h2 : St.rcode n (St.up p) = 0) (hp : St.Pr n p) :
    Calls Tryd.prog 12 #[.slice A n c, .slice B n d, .slice C n f] w fun e w' => e = .returned (.tuple #[.bool (St.stb n left right (St.up p)), .nilIface]) ∧ Below w.heap.size w w' := by
  have H := Lib.hid h
  have H2 := Lib.hid h2
  have HP := Lib.hid hp
  have hcz := St.code_zero.1 h
  rw [hl.len] at hcz
  have h6 := hcz.1
  have HK := Lib.hid hcz.2.1
  have HK2 := Lib.hid hcz.2.2
  clear h hcz h2 hp
  go_enter Tryd.func12, Tryd.ntmps12
  go_wp2_with fail
  refine (SCheck_any A B n n c d left right _ hl hr).mono ?_
  rintro e w1 ⟨rfl, hb1⟩
  rw [errOf_zero H.out]
  have hl1 := hl.past hb1
  have hr1 := hr.past hb1
  go_wp2_with fail
  refine (eachOnce_any n h6 C n f _ _ (hh.past hb1)).mono ?_
  rintro e w2 ⟨rfl, hb2⟩
  rw [errOf_zero H2.out]
  have hl2 := hl1.past hb2
  have hr2 := hr1.past hb2
  go_wp2_with fail
  refine (placesOf_any n h6 A c left _ hl2 HK.out).mono ?_
  rintro e w3 ⟨ls, rfl, hls, hb3⟩
  have hr3 := hr2.past hb3
  have HL := Lib.hid hls
  clear hls
  go_wp2_with fail
  refine (placesOf_any n h6 B d right _ hr3 HK2.out).mono ?_
  rintro e w4 ⟨rs, rfl, hrs, hb4⟩
  have HR := Lib.hid hrs
  clear hrs
  have hb14 := ((hb1.trans (hb2.mono hb1.size)).trans (hb3.mono (Nat.le_trans hb1.size hb2.size))).trans (hb4.mono (Nat.le_trans (Nat.le_trans hb1.size hb2.size) hb3.size))
  clear hb1 hb2 hb3 hb4 hl1 hr1 hl2 hr2 hr3
  have hs4 := hb14.size
  have hil : (Tryd.prog.info? 49).map (·.size) = some ls.length := by rw [HL.out.1]; exact tabInfo
  have hir : (Tryd.prog.info? 49).map (·.size) = some rs.length := by rw [HR.out.1]; exact tabInfo
  have hll : (List.replicate 36 (0 : Int)).length = ls.length := by rw [HL.out.1]; simp
  have hlr : (List.replicate 36 (0 : Int)).length = rs.length := by rw [HR.out.1]; simp
  have hA := (tab_new w4).alloc (.cells ((List.replicate 36 (0 : Int)).map (Value.int .i64)).toArray 49)
  have hB := tab_new2 w4
  rw [zeros36] at hA hB
  have hb44 := (hb14.alloc hs4 (.cells ((List.replicate 36 (0 : Int)).map (Value.int .i64)).toArray 49)).alloc (by simp; omega) (.cells ((List.replicate 36 (0 : Int)).map (Value.int .i64)).toArray 49)
  rw [zeros36] at hb44
  go_wp2_with (first
    | (refine wpList_storeA rfl 49 (.tmp 10) (.tmp 32) rfl _ rfl ls rfl _ _ hA hil hll ?_; intro w5 u1 u2 u3 u4; have t2 := hB.same (u2 (w4.heap.size + 1) (by omega)); have hb5 := hb44.trans (u3 _ hs4); rw [World.size_alloc, World.size_alloc] at u4; clear u2 u3 hA hB hb44)
    | (refine wpList_storeA rfl 49 (.tmp 11) (.tmp 34) rfl _ rfl rs rfl _ _ t2 hir hlr ?_; intro w6 v1 v2 v3 v4; have t1 := u1.same (v2 w4.heap.size (by omega)); have hb6 := hb5.trans (v3 _ (by omega)); rw [u4] at v4; clear v2 v3 hb5 t2 u1 u4))
  have HI0 : IsI w w4.heap.size (w4.heap.size + 1) (w4.heap.size + 1 + 1) ls rs (List.replicate 6 0) (w6.alloc (.cells #[.int .i64 0, .int .i64 0, .int .i64 0, .int .i64 0, .int .i64 0, .int .i64 0] 46)) := by
    refine ⟨⟨hs4, by omega, by omega⟩, t1.alloc _, v1.alloc _, ?_, hb6.alloc (by rw [v4]; omega) _⟩
    have := six_new w6
    rw [v4] at this
    exact this
  revert HI0
  clear t1 v1 hb6 v4 hil hir hll hlr hs4 hb14
  generalize (w6.alloc (.cells #[.int .i64 0, .int .i64 0, .int .i64 0, .int .i64 0, .int .i64 0, .int .i64 0] 46)) = W0
  generalize w4.heap.size + 1 + 1 = Z
  generalize w4.heap.size + 1 = Y
  generalize w4.heap.size = X
  intro HI0
  go_loopw [13, 14, 37] (fun _ _ i wr => ∃ k : Nat, k ≤ n ∧ i = .int .i64 k ∧ ∃ es, IsI w X Y Z ls rs es wr ∧ Hid (St.BkI n k p es)) (fun _ _ i _ => n - (intOf i).toNat)
  case atStart => exact ⟨0, Nat.zero_le _, rfl, _, HI0, by simp, fun a ha => by omega⟩
  case round =>
    clear HI0
    obtain ⟨k, hk, rfl, es, HI, HB⟩ := hrel
    by_cases hlt : k < n
    · obtain ⟨bC, oC, rfl, hbC, hcC⟩ := hh.at_ (by omega)
      have hpk := HP.out.at_lt hlt
      have g1 : wr.cell? ⟨bC, oC + k, none⟩ = some (.int .i64 ((p.getD k 0 : Nat) : Int)) := by rw [← St.up_at]; exact (HI.bel.cell (by exact hbC)).trans (hcC k hlt)
      have g2 := HI.e.cell (i := p.getD k 0) (by rw [HB.out.1]; omega)
      have hf := HI.e.frozen (p.getD k 0)
      have HI2 := HI.setE (p.getD k 0) (k : Int)
      have HB2 : Hid (St.BkI n (k + 1) p (es.set (p.getD k 0) (k : Int))) := HB.out.step h6 HP.out hlt
      clear hcC HI HB
      revert g1 g2 hf HI2 HB2 hpk
      generalize p.getD k 0 = x
      intro hpk g1 g2 hf HI2 HB2
      go_wp2
      go_roundw
      case rel => exact ⟨k + 1, by omega, by push_cast; rfl, _, HI2, HB2⟩
      case measure => simp [intOf]; omega
    · obtain rfl : k = n := by omega
      clear hlt hk
      go_wp2
      go_loopw [6, 7, 15, 16, 17, 48] (fun _ _ _ _ _ i wr => ∃ m : Nat, m ≤ k ∧ i = .int .i64 m ∧ IsI w X Y Z ls rs es wr ∧ Hid (∀ a, a < m → ∀ j, j < k → St.blk left right (St.up p) a j = false)) (fun _ _ _ _ _ i _ => k - (intOf i).toNat)
      case atStart => exact ⟨0, Nat.zero_le _, rfl, HI, fun a ha => by omega⟩
      case round =>
        clear HI
        obtain ⟨m, hm, rfl, HI, HM⟩ := hrel
        by_cases hlt : m < k
        · obtain ⟨bC, oC, rfl, hbC, hcC⟩ := hh.at_ (by omega)
          have hpm := HP.out.at_lt hlt
          have g1 : wr.cell? ⟨bC, oC + m, none⟩ = some (.int .i64 ((p.getD m 0 : Nat) : Int)) := by rw [← St.up_at]; exact (HI.bel.cell (by exact hbC)).trans (hcC m hlt)
          clear hcC
          obtain ⟨x, hx⟩ : ∃ x, x = p.getD m 0 := ⟨_, rfl⟩
          rw [← hx] at g1 hpm
          have HX := Lib.hid hx
          clear hx
          go_wp2
          go_loopw [6, 7, 17, 55] (fun _ _ _ i wr => ∃ j : Nat, j ≤ k ∧ i = .int .i64 j ∧ IsI w X Y Z ls rs es wr ∧ Hid (∀ b, b < j → St.blk left right (St.up p) m b = false)) (fun _ _ _ i _ => k - (intOf i).toNat)
          case atStart => exact ⟨0, Nat.zero_le _, rfl, HI, fun b hb => by omega⟩
          case round =>
            clear HI g1
            obtain ⟨j, hj, rfl, HI, HJ⟩ := hrel
            by_cases hlt2 : j < k
            · obtain ⟨a, hak, hpa⟩ := HP.out.by hlt2
              have hval := St.blk_val HK.out HK2.out HP.out hlt hak
              rw [hpa, ← HX.out] at hval
              have g1 := HI.l.cell (i := m * 6 + j) (by rw [HL.out.1]; omega)
              have g2 := HI.l.cell (i := m * 6 + x) (by rw [HL.out.1]; omega)
              have g3 := HI.r.cell (i := j * 6 + m) (by rw [HR.out.1]; omega)
              have g4 := HI.r.cell (i := j * 6 + a) (by rw [HR.out.1]; omega)
              have g5 := HI.e.cell (i := j) (by rw [HB.out.1]; omega)
              rw [HL.out.2 m hlt j hlt2] at g1
              rw [HL.out.2 m hlt x hpm] at g2
              rw [HR.out.2 j hlt2 m hlt] at g3
              rw [HR.out.2 j hlt2 a hak] at g4
              rw [← hpa, HB.out.2 a hak, hpa] at g5
              obtain ⟨q1, hq1⟩ : ∃ q : Int, q = (St.pl left m j : Int) := ⟨_, rfl⟩
              obtain ⟨q2, hq2⟩ : ∃ q : Int, q = (St.pl left m x : Int) := ⟨_, rfl⟩
              obtain ⟨q3, hq3⟩ : ∃ q : Int, q = (St.pl right j m : Int) := ⟨_, rfl⟩
              obtain ⟨q4, hq4⟩ : ∃ q : Int, q = (St.pl right j a : Int) := ⟨_, rfl⟩
              rw [← hq1] at g1
              rw [← hq2] at g2
              rw [← hq3] at g3
              rw [← hq4] at g4
              have hv2 : Hid (St.blk left right (St.up p) m j = (decide (q1 < q2) && decide (q3 < q4))) := by
                show _ = _
                rw [hval]
                congr 1
                · exact decide_eq_decide.2 (by omega)
                · exact decide_eq_decide.2 (by omega)
              clear hq1 hq2 hq3 hq4 hval hpa
              by_cases c1 : q1 < q2
              · by_cases c2 : q3 < q4
                · have hfin : Hid (St.stb k left right (St.up p) = false) := St.stb_false hlt hlt2 (by rw [hv2.out]; simp [c1, c2])
                  clear hv2
                  go_wp2
                  go_quiet (fail)
                  go_wp2
                  go_ret2
                  exact ⟨by rw [hfin.out]; rfl, (HI.drewN _).bel⟩
                · have hnext : Hid (∀ b, b < j + 1 → St.blk left right (St.up p) m b = false) := by
                    intro b hb
                    rcases Nat.lt_or_ge b j with h | h
                    · exact HJ.out b h
                    · obtain rfl : b = j := by omega
                      rw [hv2.out]; simp [c2]
                  clear hv2
                  go_wp2
                  go_quiet (fail)
                  go_wp2
                  go_roundw
                  case rel => exact ⟨j + 1, by omega, by push_cast; rfl, HI.drewN _, hnext⟩
                  case measure => simp [intOf]; omega
              · have hnext : Hid (∀ b, b < j + 1 → St.blk left right (St.up p) m b = false) := by
                  intro b hb
                  rcases Nat.lt_or_ge b j with h | h
                  · exact HJ.out b h
                  · obtain rfl : b = j := by omega
                    rw [hv2.out]; simp [c1]
                have hd : decide (q1 < q2) = false := by simpa using c1
                clear hv2 c1
                go_wp2
                go_quiet (fail)
                go_wp2
                go_roundw
                case rel => exact ⟨j + 1, by omega, by push_cast; rfl, HI.drewN _, hnext⟩
                case measure => simp [intOf]; omega
            · obtain rfl : j = k := by omega
              have hnext : Hid (∀ a, a < m + 1 → ∀ b, b < j → St.blk left right (St.up p) a b = false) := by
                intro a ha
                rcases Nat.lt_or_ge a m with h | h
                · exact HM.out a h
                · obtain rfl : a = m := by omega
                  exact HJ.out
              clear HM HJ
              go_wp2
              go_roundw
              case rel => exact ⟨m + 1, by omega, by push_cast; rfl, HI, hnext⟩
              case measure => simp [intOf]; omega
        · obtain rfl : m = k := by omega
          have hfin : Hid (St.stb m left right (St.up p) = true) := St.stb_true HM.out
          clear HM
          go_wp2
          go_ret2
          exact ⟨by rw [hfin.out]; rfl, HI.bel⟩

end Go.Proofs.YthdibdghnfkoeaaDoor
