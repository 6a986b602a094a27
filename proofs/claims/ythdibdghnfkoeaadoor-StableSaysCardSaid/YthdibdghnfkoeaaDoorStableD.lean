/-
  Contracts of package stable: accepted.
-/
import Derived.Test.YthdibdghnfkoeaaDoorStableC
import Derived.Test.YthdibdghnfkoeaaDoorStableP
namespace Go.Proofs.YthdibdghnfkoeaaDoor
open Go.RowKit Go.Shelf

attribute [local go_sem] Oper.semAt_some
set_option linter.unusedSimpArgs false
set_option linter.unusedVariables false

/-- in the midst of accepted: the places, the result, the partners, how often each has asked -/
structure AcI (w : World) (b0 b1 b2 b3 : Nat) (ts ps qs : List Int) (wr : World) : Prop where
  ord : w.heap.size ≤ b0 ∧ b0 < b1 ∧ b1 < b2 ∧ b2 < b3
  t : ArI wr b0 49 ts
  r : ArI wr b1 46 (List.replicate 6 0)
  p : ArI wr b2 46 ps
  q : ArI wr b3 46 qs
  bel : Below w.heap.size w wr
section
variable {w wr : World} {b0 b1 b2 b3 : Nat} {ts ps qs : List Int}
theorem AcI.drewN (h : AcI w b0 b1 b2 b3 ts ps qs wr) (k : Nat) : AcI w b0 b1 b2 b3 ts ps qs (wr.drewN k) := ⟨h.ord, h.t, h.r, h.p, h.q, h.bel.trans (Below.drewN' _ _ _)⟩
theorem AcI.setP (h : AcI w b0 b1 b2 b3 ts ps qs wr) (i : Nat) (x : Int) : AcI w b0 b1 b2 b3 ts (ps.set i x) qs (wr.setCell ⟨b2, i, none⟩ (.int .i64 x)) := by
  obtain ⟨o1, o2, o3, o4⟩ := h.ord
  exact ⟨h.ord, h.t.other _ (by simp; omega), h.r.other _ (by simp; omega), h.p.store i x, h.q.other _ (by simp; omega), h.bel.setCell (by simp; omega) _⟩
theorem AcI.setQ (h : AcI w b0 b1 b2 b3 ts ps qs wr) (i : Nat) (x : Int) : AcI w b0 b1 b2 b3 ts ps (qs.set i x) (wr.setCell ⟨b3, i, none⟩ (.int .i64 x)) := by
  obtain ⟨o1, o2, o3, o4⟩ := h.ord
  exact ⟨h.ord, h.t.other _ (by simp; omega), h.r.other _ (by simp; omega), h.p.other _ (by simp; omega), h.q.store i x, h.bel.setCell (by simp; omega) _⟩
end
theorem AcI.new (w : World) (ts : List Int) : AcI w w.heap.size (w.heap.size + 1) (w.heap.size + 1 + 1) (w.heap.size + 1 + 1 + 1) ts (List.replicate 6 0) (List.replicate 6 0) ((((w.alloc (.cells (ts.map (Value.int .i64)).toArray 49)).alloc (.cells #[.int .i64 0, .int .i64 0, .int .i64 0, .int .i64 0, .int .i64 0, .int .i64 0] 46)).alloc (.cells #[.int .i64 0, .int .i64 0, .int .i64 0, .int .i64 0, .int .i64 0, .int .i64 0] 46)).alloc (.cells #[.int .i64 0, .int .i64 0, .int .i64 0, .int .i64 0, .int .i64 0, .int .i64 0] 46)) := by
  refine ⟨by omega, (((ArI.new w _ ts).alloc _).alloc _).alloc _, ?_, ?_, ?_, ((((Below.refl _ _).alloc (Nat.le_refl _) _).alloc (by simp) _).alloc (by simp; omega) _).alloc (by simp; omega) _⟩
  · have := ArI.new (w.alloc (.cells (ts.map (Value.int .i64)).toArray 49)) 46 (List.replicate 6 0)
    rw [World.size_alloc] at this
    exact (this.alloc _).alloc _
  · have := ArI.new ((w.alloc (.cells (ts.map (Value.int .i64)).toArray 49)).alloc (.cells #[.int .i64 0, .int .i64 0, .int .i64 0, .int .i64 0, .int .i64 0, .int .i64 0] 46)) 46 (List.replicate 6 0)
    rw [World.size_alloc, World.size_alloc] at this
    exact this.alloc _
  · have := ArI.new (((w.alloc (.cells (ts.map (Value.int .i64)).toArray 49)).alloc (.cells #[.int .i64 0, .int .i64 0, .int .i64 0, .int .i64 0, .int .i64 0, .int .i64 0] 46)).alloc (.cells #[.int .i64 0, .int .i64 0, .int .i64 0, .int .i64 0, .int .i64 0, .int .i64 0] 46)) 46 (List.replicate 6 0)
    rw [World.size_alloc, World.size_alloc, World.size_alloc] at this
    exact this

set_option maxRecDepth 100000 in
set_option maxHeartbeats 2000000 in
theorem accepted_any (n : Nat) (h6 : n ≤ 6) (A : Option Addr) (c : Nat) (left right : List (List Int)) (ts : List Int) (w : World) (hr : RdR w w.heap.size A n c left) (hk : St.Rks n left) (hk2 : St.Rks n right) (ht : St.Tab n right ts) :
    Calls Tryd.prog 20 #[.slice A n c, .agg (ts.map (Value.int .i64)).toArray] w fun e w' => ∃ (es : List Int) (g : List Nat), e = .returned (.agg (es.map (Value.int .i64)).toArray) ∧ es.length = 6 ∧ St.Opt n (St.pl left) (St.pl right) g ∧ (∀ i, i < n → es.getD (g.getD i 0) 0 = (i : Int)) ∧ Below w.heap.size w w' := by
  have HX := Lib.hid hr.len
  have HK := Lib.hid hk
  have HK2 := Lib.hid hk2
  have HT := Lib.hid ht
  clear hk hk2 ht
  have hbig := hr.big
  go_enter Tryd.func20, Tryd.ntmps20
  go_wp2
  have H00 := AcI.new w ts
  revert H00
  generalize ((((w.alloc (.cells (ts.map (Value.int .i64)).toArray 49)).alloc (.cells #[.int .i64 0, .int .i64 0, .int .i64 0, .int .i64 0, .int .i64 0, .int .i64 0] 46)).alloc (.cells #[.int .i64 0, .int .i64 0, .int .i64 0, .int .i64 0, .int .i64 0, .int .i64 0] 46)).alloc (.cells #[.int .i64 0, .int .i64 0, .int .i64 0, .int .i64 0, .int .i64 0, .int .i64 0] 46)) = W0
  generalize w.heap.size + 1 + 1 + 1 = b3
  generalize w.heap.size + 1 + 1 = b2
  generalize w.heap.size + 1 = b1
  intro H00
  go_loopw [7, 12] (fun _ i wr => ∃ j : Nat, j ≤ 6 ∧ i = .int .i64 j ∧ ∃ ps, AcI w w.heap.size b1 b2 b3 ts ps (List.replicate 6 0) wr ∧ ps.length = 6 ∧ ∀ x, x < j → ps.getD x 0 = -1) (fun _ i _ => 6 - (intOf i).toNat)
  case atStart => exact ⟨0, Nat.zero_le _, rfl, _, H00, by simp, fun x hx => by omega⟩
  case round =>
    clear H00
    obtain ⟨j, hj, rfl, ps, H, hl, hall⟩ := hrel
    by_cases hlt : j < 6
    · have g1 := H.p.cell (i := j) (by omega)
      have hf := H.p.frozen j
      have HN := H.setP j (-1)
      have hall2 : Hid (∀ x, x < j + 1 → (ps.set j (-1)).getD x 0 = -1) := by
        intro x hx
        rw [St.set_getI _ _ _ _ (by omega)]
        split
        · rfl
        · exact hall x (by omega)
      have HL := Lib.hid hl
      clear hl hall H
      go_wp2
      go_roundw
      case rel => exact ⟨j + 1, by omega, by push_cast; rfl, _, HN, by rw [List.length_set]; exact HL.out, hall2.out⟩
      case measure => simp [intOf]; omega
    · have HG : Hid (∃ f, St.Gs n (St.pl left) (St.pl right) 0 none f ps (List.replicate 6 0)) := St.Gs.start hl (by simp) h6 (fun x hx => hall x (by omega)) (fun x hx => by rw [List.getD, List.getElem?_replicate, if_pos hx]; rfl)
      have h6j : 6 ≤ j := by omega
      clear hl hall hlt hj
      go_wp2
      go_loopw [8, 9, 10, 11, 20] (fun _ _ _ _ i wr => ∃ m : Nat, m ≤ n ∧ i = .int .i64 m ∧ ∃ ps qs, AcI w w.heap.size b1 b2 b3 ts ps qs wr ∧ Hid (∃ f, St.Gs n (St.pl left) (St.pl right) m none f ps qs)) (fun _ _ _ _ i _ => n - (intOf i).toNat)
      case atStart => exact ⟨0, Nat.zero_le _, rfl, _, _, H, HG⟩
      case round =>
        clear H HG
        clear ps
        obtain ⟨m, hm, rfl, ps, qs, H, HG⟩ := hrel
        by_cases hlt : m < n
        · obtain ⟨f0, HG0⟩ := HG.out
          have HG1 := Lib.hid HG0.begin
          clear HG HG0
          go_wp2
          go_loopg [9, 10, 11] f0 (fun f s _ _ wr => ∃ so : Option Nat, s = .int .i64 (St.encO so) ∧ ∃ ps qs, AcI w w.heap.size b1 b2 b3 ts ps qs wr ∧ Hid (St.Gs n (St.pl left) (St.pl right) (m + 1) so f ps qs))
          case atStart => exact ⟨some m, rfl, _, _, H, HG1⟩
          case round =>
            clear H HG1 ps qs
            obtain ⟨so, rfl, ps, qs, H, HG⟩ := hrel
            cases so with
            | none =>
              have e : St.encO none = -1 := rfl
              rw [e]
              clear e
              go_wp2
              go_roundw
              case rel => exact ⟨m + 1, by omega, by push_cast; rfl, _, _, H, ⟨_, HG.out⟩⟩
              case measure => simp [intOf]; omega
            | some a =>
              have e : St.encO (some a) = (a : Int) := rfl
              rw [e]
              clear e
              obtain ⟨ha, p, j1, hp, hj1, hq, hrow, hway⟩ := HG.out.step HK.out HK2.out.ord (by omega) h6
              have HPL := Lib.hid HG.out.1
              have HQL := Lib.hid HG.out.2.1
              have HTT := HT.out
              obtain ⟨bL, oL, rfl, hbL, hcL⟩ := hr.at_ (by omega)
              obtain ⟨A', c', y1, y2⟩ := hcL a ha
              have hrl := (HK.out.row ha).len
              rw [hrl] at y1 y2
              have g1 : wr.cell? ⟨bL, oL + a, none⟩ = some (.slice A' n c') := (H.bel.cell (by exact hbL)).trans y1
              obtain ⟨bR, oR, rfl, hbR, hcR⟩ := y2.at_ (by omega)
              have g2 : wr.cell? ⟨bR, oR + p, none⟩ = some (.int .i64 (j1 : Int)) := by rw [← hrow]; exact (H.bel.cell (by exact hbR)).trans (hcR p hp)
              have g3 : wr.cell? ⟨b3, a, none⟩ = some (.int .i64 (p : Int)) := by rw [← hq]; exact H.q.cell (by rw [HQL.out]; omega)
              have H1 := fun q => (H.drewN q).setQ a ((p : Int) + 1)
              have hf3 := H.q.frozen a
              have hf2 : ∀ q, ((wr.drewN q).setCell ⟨b3, a, none⟩ (.int .i64 ((p : Int) + 1))).frozen? ⟨b2, j1, none⟩ = false := fun q => (H1 q).p.frozen j1
              have g5 : ∀ q, ((wr.drewN q).setCell ⟨b3, a, none⟩ (.int .i64 ((p : Int) + 1))).cell? ⟨w.heap.size, j1 * 6 + a, none⟩ = some (.int .i64 (St.pl right j1 a : Int)) := fun q => by
                rw [← HTT.2 j1 hj1 a ha]
                exact (H1 q).t.cell (by rw [HTT.1]; omega)
              clear hcL y1 y2 hcR hrl hrow hq HG HQL
              rcases hway with ⟨hnone, f', hf', HG'⟩ | ⟨k, hkn, hpk, hlt', f', hf', HG'⟩ | ⟨k, hkn, hpk, hlt', f', hf', HG'⟩
              · have g4 : ∀ q, ((wr.drewN q).setCell ⟨b3, a, none⟩ (.int .i64 ((p : Int) + 1))).cell? ⟨b2, j1, none⟩ = some (.int .i64 (-1)) := fun q => by rw [← hnone]; exact (H1 q).p.cell (by rw [HPL.out]; omega)
                clear hnone HTT g5
                have HG2 := Lib.hid HG'
                clear HG' HPL
                go_wp2
                go_quiet (fail)
                go_wp2
                go_quiet (fail)
                go_wp2
                go_roundg f'
                case rel => exact ⟨none, rfl, _, _, ((H1 _).drewN _).setP j1 (a : Int), HG2⟩
                case measure => exact hf'
              · have g4 : ∀ q, ((wr.drewN q).setCell ⟨b3, a, none⟩ (.int .i64 ((p : Int) + 1))).cell? ⟨b2, j1, none⟩ = some (.int .i64 (k : Int)) := fun q => by rw [← hpk]; exact (H1 q).p.cell (by rw [HPL.out]; omega)
                have g6 : ∀ q, ((wr.drewN q).setCell ⟨b3, a, none⟩ (.int .i64 ((p : Int) + 1))).cell? ⟨w.heap.size, j1 * 6 + k, none⟩ = some (.int .i64 (St.pl right j1 k : Int)) := fun q => by
                  rw [← HTT.2 j1 hj1 k hkn]
                  exact (H1 q).t.cell (by rw [HTT.1]; omega)
                have hd : ((k : Int) == -1) = false := by rw [beq_eq_false_iff_ne]; omega
                obtain ⟨ra, hra⟩ : ∃ ra : Int, ra = (St.pl right j1 a : Int) := ⟨_, rfl⟩
                obtain ⟨rk, hrk⟩ : ∃ rk : Int, rk = (St.pl right j1 k : Int) := ⟨_, rfl⟩
                have hd2 : ra < rk := by omega
                rw [← hra] at g5
                rw [← hrk] at g6
                clear hra hrk
                clear hpk HTT hlt'
                have HG2 := Lib.hid HG'
                clear HG' HPL
                go_wp2
                go_quiet (fail)
                go_wp2
                go_quiet (fail)
                go_wp2
                go_roundg f'
                case rel => exact ⟨some k, rfl, _, _, ((H1 _).drewN _).setP j1 (a : Int), HG2⟩
                case measure => exact hf'
              · have g4 : ∀ q, ((wr.drewN q).setCell ⟨b3, a, none⟩ (.int .i64 ((p : Int) + 1))).cell? ⟨b2, j1, none⟩ = some (.int .i64 (k : Int)) := fun q => by rw [← hpk]; exact (H1 q).p.cell (by rw [HPL.out]; omega)
                have g6 : ∀ q, ((wr.drewN q).setCell ⟨b3, a, none⟩ (.int .i64 ((p : Int) + 1))).cell? ⟨w.heap.size, j1 * 6 + k, none⟩ = some (.int .i64 (St.pl right j1 k : Int)) := fun q => by
                  rw [← HTT.2 j1 hj1 k hkn]
                  exact (H1 q).t.cell (by rw [HTT.1]; omega)
                have hd : ((k : Int) == -1) = false := by rw [beq_eq_false_iff_ne]; omega
                obtain ⟨ra, hra⟩ : ∃ ra : Int, ra = (St.pl right j1 a : Int) := ⟨_, rfl⟩
                obtain ⟨rk, hrk⟩ : ∃ rk : Int, rk = (St.pl right j1 k : Int) := ⟨_, rfl⟩
                have hd2 : ¬ ra < rk := by omega
                rw [← hra] at g5
                rw [← hrk] at g6
                clear hra hrk
                clear hpk HTT hlt'
                have HG2 := Lib.hid HG'
                clear HG' HPL
                go_wp2
                go_quiet (fail)
                go_wp2
                go_quiet (fail)
                go_wp2
                go_roundg f'
                case rel => exact ⟨some a, rfl, _, _, (H1 _).drewN _, HG2⟩
                case measure => exact hf'
        · obtain rfl : m = n := by omega
          have HD : Hid (∃ g, St.Opt m (St.pl left) (St.pl right) g ∧ ∀ i, i < m → ps.getD (g.getD i 0) 0 = (i : Int)) := by obtain ⟨f, h⟩ := HG.out; exact h.done HK.out.ord
          have HL : Hid (ps.length = 6) := by obtain ⟨f, h⟩ := HG.out; exact h.1
          clear HG hlt
          have hps : (Tryd.prog.info? 46).map (·.size) = some ps.length := by rw [HL.out]; exact sixInfo
          have hl6 : (List.replicate 6 (0 : Int)).length = ps.length := by rw [HL.out]; simp
          have t1 := H.r
          have t2 := H.p
          go_wp2_with (first
            | refine wpList_loadA rfl 46 (.tmp 5) rfl _ rfl _ _ t2 _ _ Tryd.underlying46 hps ?_
            | (refine wpList_storeA rfl 46 (.tmp 4) (.tmp 63) rfl _ rfl ps rfl _ _ t1 hps hl6 ?_; intro w2 u1 u2 u3 u4))
          refine bodyPost_ret (results_A rfl _ _ _ _ _ rfl u1 _ _ Tryd.underlying46 hps) rfl ?_
          obtain ⟨g, hg1, hg2⟩ := HD.out
          obtain ⟨o1, o2, o3, o4⟩ := H.ord
          exact ⟨ps, g, rfl, HL.out, hg1, hg2, H.bel.trans (u3 _ (by omega))⟩

end Go.Proofs.YthdibdghnfkoeaaDoor
