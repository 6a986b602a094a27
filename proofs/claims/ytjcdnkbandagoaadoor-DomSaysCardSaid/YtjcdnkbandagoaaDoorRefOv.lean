/-
  The reference's Over: those over whom all ways go from a point to another one.
-/
import Derived.Test.YtjcdnkbandagoaaDoorRefX0
import Derived.Test.YtjcdnkbandagoaaDoorDomP
import Derived.BigQuiet
namespace Go.Proofs.YtjcdnkbandagoaaDoor.RefOv
open Go.RowKit
set_option linter.unusedSimpArgs false
set_option linter.unusedVariables false

theorem start_over {m : Nat} (ls : List Gr.Ln) (av : Int) : Wf.Steps m (To.frow m (Do.sans ls av)) (RefF.start ls false av) := by
  intro i j hi hj
  unfold RefF.start
  have h : RefF.steps ls false av i j = (To.frow m (Do.sans ls av) i).contains j := by
    rw [Bool.eq_iff_iff]
    have h1 : (To.frow m (Do.sans ls av) i).contains j = true ↔ j ∈ To.frow m (Do.sans ls av) i := by simp
    rw [h1, To.mem_frow, Do.has_sans]
    unfold RefF.steps
    simp only [Bool.and_eq_true, Bool.not_eq_true', decide_eq_false_iff_not, Bool.false_and, Bool.or_false]
    constructor
    · rintro ⟨a, b, c⟩; exact ⟨hj, c, a, b⟩
    · rintro ⟨_, c, a, b⟩; exact ⟨a, b, c⟩
  rw [h]
theorem matF_over (m : Nat) (ls : List Gr.Ln) (av : Int) : matF m m (Wf.dk (RefF.start ls false av) m) = matF m m (fun i j => Wa.dist m (To.frow m (Do.sans ls av)) i j) := by
  unfold matF
  refine List.map_congr_left fun i hi => rowF_congr fun j hj => ?_
  exact Wf.far_dist (RefF.start_base ls false av) (To.frow_ok m _) (start_over ls av) (by simpa using hi) hj
theorem Far_over (m : Nat) (A : Option Addr) (n c : Nat) (ls : List Gr.Ln) (av : Int) (w : World) (hr : RdP w w.heap.size A n c ls) (hm1 : 1 ≤ m) (hm8 : m ≤ 8) :
    Calls Tryd.prog 13 #[.int .i64 (m : Int), .slice A n c, .bool false, .int .i64 av] w fun e w' => ∃ gb cb, e = .returned (.slice (some ⟨gb, 0, none⟩) m cb) ∧
      RdR w' w'.heap.size (some ⟨gb, 0, none⟩) m cb (matF m m (fun i j => Wa.dist m (To.frow m (Do.sans ls av)) i j)) ∧ Below w.heap.size w w' := by
  refine (RefF.Far_any m A n c ls false av w hr hm1 hm8).mono ?_
  rintro e w' ⟨gb, cb, rfl, h2, h3⟩
  rw [matF_over] at h2
  exact ⟨gb, cb, rfl, h2, h3⟩

set_option maxRecDepth 100000 in
set_option maxHeartbeats 2000000 in
theorem Over_any (m st v : Nat) (A : Option Addr) (n c : Nat) (ls : List Gr.Ln) (w : World) (hr : RdP w w.heap.size A n c ls) (hm8 : m ≤ 8) (hst : st < m) (hv : v < m) (hg : ∀ p ∈ ls, Gr.Good (m : Int) p) :
    Calls Tryd.prog 6 #[.int .i64 (m : Int), .slice A n c, .int .i64 (st : Int), .int .i64 (v : Int)] w fun e w' => ∃ u, e = .returned u ∧ Own w' w.heap.size 3 u (Do.dl m ls st v) ∧ Below w.heap.size w w' := by
  have hm1 : 1 ≤ m := by omega
  have HS := Lib.hid (Do.sans_none hg)
  clear hg
  have s1 : (0 : Int) ≤ (st : Int) := by omega
  have s2 : (st : Int) < (m : Int) := by omega
  have v1 : (0 : Int) ≤ (v : Int) := by omega
  have v2 : (v : Int) < (m : Int) := by omega
  go_enter Tryd.func6, Tryd.ntmps6
  go_wp2_with fail
  refine (Far_over m A n c ls (-1) _ hr hm1 hm8).mono ?_
  rintro e w1 ⟨gb, cb, rfl, hrr, hb1⟩
  rw [HS.out] at hrr
  obtain ⟨g, o, cc, g1, g2⟩ := RefF.far_cell hrr hst hv
  have HDR : Hid (Sg.reach m ls st v = decide (0 ≤ Wa.dist m (To.frow m ls) st v)) := rfl
  obtain ⟨d, hd⟩ : ∃ d, d = Wa.dist m (To.frow m ls) st v := ⟨_, rfl⟩
  rw [← hd] at g2 HDR
  clear hd hrr
  by_cases h0 : d < 0
  · have HN : Hid (Do.dl m ls st v = []) := by
      show _ = _
      rw [Do.dl_none]
      rw [HDR.out]
      simp; omega
    go_wp2
    go_ret
    rw [HN.out]
    exact ⟨_, rfl, Own.nil _ _ _, hb1⟩
  · have HRE : Hid (Sg.reach m ls st v = true) := by show _ = _; rw [HDR.out]; simp; omega
    have d1 : decide (d < 0) = false := by simp; omega
    have h1 : 0 ≤ d := by omega
    have hO0 : Own w1 w.heap.size 3 (.slice none 0 0) (Do.dlTo m ls st v 0) := Own.nil _ _ _
    clear h0
    go_wp2
    clear g1 g2 d1 h1
    go_loopw [9, 10] (fun ov kv wr => ∃ k : Nat, k ≤ m ∧ kv = .int .i64 (k : Int) ∧ Own wr w.heap.size 3 ov (Do.dlTo m ls st v k) ∧ Below w.heap.size w wr) (fun _ kv _ => m - (intOf kv).toNat)
    case atStart => exact ⟨0, Nat.zero_le _, rfl, hO0, hb1⟩
    case round =>
      clear hO0 hb1
      obtain ⟨k, hk, rfl, hown, hbw⟩ := hrel
      by_cases hlt : k < m
      · have hsz := hbw.size
        have hroom : (Do.dlTo m ls st v k).length + 1 ≤ 17592186044416 := by have := Do.dlTo_len (n := m) (ls := ls) (s := st) v k; omega
        have hyes : Do.dom m ls st v k = true → Hid (Do.dlTo m ls st v (k + 1) = Do.dlTo m ls st v k ++ [(k : Int)]) := fun h => Do.dlTo_yes h
        have hno : Do.dom m ls st v k = false → Hid (Do.dlTo m ls st v (k + 1) = Do.dlTo m ls st v k) := fun h => Do.dlTo_no h
        by_cases e1 : k = st
        · have HY := hyes (by rw [e1]; exact Do.dom_start HRE.out)
          have d1 : ((k : Int) == (st : Int)) = true := by simp [e1]
          clear hyes hno e1
          go_wp2_with (at_builtin; refine wpList_app _ rfl (.tmp 48) (.tmp 50) 26 rfl w.heap.size 3 Tryd.underlying26 intInfo u9 _ rfl (hown.below ((Below.refl _ _).alloc (Nat.le_refl _) _)) (some ⟨wr.heap.size, 0, none⟩) 1 1 [(k : Int)] rfl (Rd.one _ _ _) hroom (by simp; omega) ?_; intro v' w4 hown4 hgrow hat)
          have hb4 : Below w.heap.size w w4 := (hbw.alloc hsz _).grown hgrow (by simp; omega) (fun q hq => hown.at_base q hq)
          go_roundw
          case rel => exact ⟨k + 1, by omega, by go_num, by rw [HY.out]; exact hown4, hb4⟩
          case measure => simp [intOf]; omega
        · have d1 : ((k : Int) == (st : Int)) = false := by simp; omega
          by_cases e2 : k = v
          · have HY := hyes (by rw [e2]; exact Do.dom_self HRE.out)
            have d2 : ((k : Int) == (v : Int)) = true := by simp [e2]
            clear hyes hno e1 e2
            go_wp2_with (at_builtin; refine wpList_app _ rfl (.tmp 48) (.tmp 50) 26 rfl w.heap.size 3 Tryd.underlying26 intInfo u9 _ rfl (hown.below ((Below.refl _ _).alloc (Nat.le_refl _) _)) (some ⟨wr.heap.size, 0, none⟩) 1 1 [(k : Int)] rfl (Rd.one _ _ _) hroom (by simp; omega) ?_; intro v' w4 hown4 hgrow hat)
            have hb4 : Below w.heap.size w w4 := (hbw.alloc hsz _).grown hgrow (by simp; omega) (fun q hq => hown.at_base q hq)
            go_roundw
            case rel => exact ⟨k + 1, by omega, by go_num, by rw [HY.out]; exact hown4, hb4⟩
            case measure => simp [intOf]; omega
          · have d2 : ((k : Int) == (v : Int)) = false := by simp; omega
            have HDM : Hid (Do.dom m ls st v k = !decide (0 ≤ Wa.dist m (To.frow m (Do.cut ls k)) st v)) := by
              show _ = _
              rw [Do.dom_cut HRE.out e1 e2]
              rfl
            clear e1 e2
            go_wp2_with fail
            refine (Far_over m A n c ls (k : Int) _ (hr.past hbw) hm1 hm8).mono ?_
            rintro e w3 ⟨gb3, cb3, rfl, hrr3, hb3⟩
            rw [Do.sans_cut] at hrr3
            obtain ⟨g3, o3, cc3, x1, x2⟩ := RefF.far_cell hrr3 hst hv
            have hbw3 := hbw.trans (hb3.mono hsz)
            have hown3 := hown.below hb3
            have hsz3 := hbw3.size
            obtain ⟨d3, hd3⟩ : ∃ d, d = Wa.dist m (To.frow m (Do.cut ls k)) st v := ⟨_, rfl⟩
            rw [← hd3] at x2 HDM
            clear hd3 hrr3 hown hbw
            by_cases h3 : d3 < 0
            · have HY := hyes (by rw [HDM.out]; simp; omega)
              clear hyes hno
              go_wp2_with (at_builtin; refine wpList_app _ rfl (.tmp 48) (.tmp 50) 26 rfl w.heap.size 3 Tryd.underlying26 intInfo u9 _ rfl (hown3.below ((Below.refl _ _).alloc (Nat.le_refl _) _)) (some ⟨w3.heap.size, 0, none⟩) 1 1 [(k : Int)] rfl (Rd.one _ _ _) hroom (by simp; omega) ?_; intro v' w4 hown4 hgrow hat)
              have hb4 : Below w.heap.size w w4 := (hbw3.alloc hsz3 _).grown hgrow (by simp; omega) (fun q hq => hown3.at_base q hq)
              go_roundw
              case rel => exact ⟨k + 1, by omega, by go_num, by rw [HY.out]; exact hown4, hb4⟩
              case measure => simp [intOf]; omega
            · have HY := hno (by rw [HDM.out]; simp; omega)
              have d4 : decide (d3 < 0) = false := by simp; omega
              clear hyes hno h3
              go_wp2
              go_roundw
              case rel => exact ⟨k + 1, by omega, by go_num, by rw [HY.out]; exact hown3, hbw3⟩
              case measure => simp [intOf]; omega
      · obtain rfl : k = m := by omega
        go_wp2
        go_ret
        exact ⟨_, rfl, hown, hbw⟩

end Go.Proofs.YtjcdnkbandagoaaDoor.RefOv
