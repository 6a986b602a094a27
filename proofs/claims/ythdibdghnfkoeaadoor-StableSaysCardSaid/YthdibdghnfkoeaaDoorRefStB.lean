/-
  The contract of the reference's Stables: of all stable pairs, begun with some, the best for each on the left.
-/
import Derived.Test.YthdibdghnfkoeaaDoorRefStA
import Derived.Test.YthdibdghnfkoeaaDoorRefBeh
import Derived.Test.YthdibdghnfkoeaaDoorRefSet
import Derived.BigQuiet
namespace Go.Proofs.YthdibdghnfkoeaaDoor.RefS2
open Go.RowKit Go.Shelf

set_option linter.unusedSimpArgs false
set_option linter.unusedVariables false

theorem up_snoc (l : List Nat) (x : Nat) : St.up (l ++ [x]) = St.up l ++ [(x : Int)] := by simp [St.up]
theorem up_has (l : List Nat) (b : Nat) : (St.up l).contains (b : Int) = l.contains b := by
  rw [Bool.eq_iff_iff, List.contains_iff_mem, List.contains_iff_mem]
  unfold St.up
  rw [List.mem_map]
  constructor
  · rintro ⟨x, hx, e⟩
    obtain rfl : x = b := by omega
    exact hx
  · intro h
    exact ⟨b, h, rfl⟩
theorem up_set (l : List Nat) (i x : Nat) : (St.up l).set i (x : Int) = St.up (l.set i x) := by
  unfold St.up
  rw [List.map_set]
theorem stbsTo_skip {n : Nat} {left : List (List Int)} {f : List Nat → List Nat} {has : List Nat} {k : Nat} (h : has.contains k = true) : St.stbsTo n left f has (k + 1) = St.stbsTo n left f has k := by
  show (if has.contains k = true then _ else _) = _
  rw [if_pos h]
theorem stbsTo_take {n : Nat} {left : List (List Int)} {f : List Nat → List Nat} {has : List Nat} {k : Nat} (h : has.contains k = false) : St.stbsTo n left f has (k + 1) = St.joinB n left (St.stbsTo n left f has k) (f (has ++ [k])) := by
  show (if has.contains k = true then _ else _) = _
  rw [if_neg (by rw [h]; simp)]
/-- none, or all -/
def Full (n : Nat) (l : List Nat) : Prop := l = [] ∨ l.length = n
theorem stbsTo_full {n : Nat} {left : List (List Int)} {f : List Nat → List Nat} {has : List Nat} (hf : ∀ k, k < n → ¬ k ∈ has → Full n (f (has ++ [k]))) : ∀ k, k ≤ n → Full n (St.stbsTo n left f has k)
  | 0, _ => .inl rfl
  | k + 1, hk => by
    have ih := stbsTo_full (left := left) hf k (by omega)
    unfold St.stbsTo
    split
    · exact ih
    · rename_i hm
      have hk' := hf k (by omega) (fun e => hm (by rw [List.contains_iff_mem]; exact e))
      unfold St.joinB
      split
      · exact ih
      · rename_i hne
        refine .inr ?_
        rw [St.best_len]
        split
        · exact hk'.resolve_left hne
        · rename_i h2
          exact ih.resolve_left h2
theorem stbs_full {n : Nat} {left right : List (List Int)} : ∀ (f : Nat) (has : List Nat), has.length + f = n → Full n (St.stbs n left right f has)
  | 0, has, h => by
    unfold St.stbs
    split
    · exact .inr (by omega)
    · exact .inl rfl
  | f + 1, has, h => by
    unfold St.stbs
    exact stbsTo_full (fun k hk _ => stbs_full f (has ++ [k]) (by simp; omega)) n (Nat.le_refl _)

/-- what is read -/
def Sees (w : World) (v : Value) (l : List Nat) : Prop := ∃ A c, v = .slice A l.length c ∧ Rd w w.heap.size A l.length c (St.up l)
theorem Sees.past {w w' : World} {v : Value} {l : List Nat} (h : Sees w v l) (hb : Below w.heap.size w w') : Sees w' v l := by
  obtain ⟨A, c, h1, h2⟩ := h
  exact ⟨A, c, h1, h2.past hb⟩

set_option maxRecDepth 100000 in
set_option maxHeartbeats 4000000 in
theorem Stables_any (n : Nat) (h6 : n ≤ 6) (A B : Option Addr) (c d : Nat) (left right : List (List Int)) : ∀ (f : Nat) (has : List Nat) (C : Option Addr) (m e : Nat) (w : World), m + f = n → RdR w w.heap.size A n c left → RdR w w.heap.size B n d right → Rd w w.heap.size C m e (St.up has) →
    Calls Tryd.prog 7 #[.slice A n c, .slice B n d, .slice C m e] w fun e w' => ∃ v, e = .returned v ∧ Sees w' v (St.stbs n left right f has) ∧ Below w.heap.size w w' := by
  intro f
  induction f with
  | zero =>
    intro has C m e w hmf hl hr hh
    obtain rfl : m = n := by omega
    have hlen : has.length = m := by rw [← St.up_len]; exact hh.len
    have s1 : ((m : Int) == (m : Int)) = true := by simp
    have s2 : (m == m) = true := by simp
    cases hs : St.stb m left right (St.up has) with
    | true =>
      have HS := Lib.hid hs
      have hfin : Hid (St.stbs m left right 0 has = has) := by show _ = _; unfold St.stbs; rw [if_pos hs]
      have HLEN := Lib.hid hlen
      clear hs hlen
      go_enter Tryd.func7, Tryd.ntmps7
      go_wp2_with fail
      refine (Stable_any m A B C c d e left right (St.up has) _ hl hr hh).mono ?_
      rw [HS.out]
      rintro e1 w1 ⟨rfl, b1⟩
      go_wp2
      go_ret
      refine ⟨_, rfl, ?_, b1⟩
      rw [hfin.out]
      exact ⟨C, e, by rw [HLEN.out]; rfl, by rw [HLEN.out]; exact hh.past b1⟩
    | false =>
      have HS := Lib.hid hs
      have hfin : Hid (St.stbs m left right 0 has = []) := by show _ = _; unfold St.stbs; rw [if_neg (by rw [hs]; simp)]
      clear hs hlen
      go_enter Tryd.func7, Tryd.ntmps7
      go_wp2_with fail
      refine (Stable_any m A B C c d e left right (St.up has) _ hl hr hh).mono ?_
      rw [HS.out]
      rintro e1 w1 ⟨rfl, b1⟩
      go_wp2
      go_ret
      refine ⟨_, rfl, ?_, b1⟩
      rw [hfin.out]
      exact ⟨none, 0, rfl, Rd.nil _ _⟩
  | succ f ih =>
    intro has C m e w hmf hl hr hh
    have IH := Lib.hid ih
    clear ih
    have HLEN : Hid (has.length = m) := by show _ = _; rw [← St.up_len]; exact hh.len
    have s1 : ((m : Int) == (n : Int)) = false := by simp; omega
    have s2 : (m == n) = false := by simp; omega
    have hmn : m + (f + 1) = n := hmf
    have hfinal : Hid (St.stbs n left right (f + 1) has = St.stbsTo n left (St.stbs n left right f) has n) := by show _ = _; rw [St.stbs]
    go_enter Tryd.func7, Tryd.ntmps7
    go_wp2
    go_loopw [7, 8, 9, 10] (fun ov jv _ _ wr => ∃ j : Nat, j ≤ n ∧ jv = .int .i64 (j : Int) ∧ Sees wr ov (St.stbsTo n left (St.stbs n left right f) has j) ∧ Below w.heap.size w wr) (fun _ jv _ _ _ => n - (intOf jv).toNat)
    case atStart => exact ⟨0, Nat.zero_le _, rfl, ⟨none, 0, rfl, Rd.nil _ _⟩, Below.refl _ _⟩
    case round =>
      obtain ⟨j, hj, rfl, hsee, hbel⟩ := hrel
      by_cases hlj : j < n
      · have hhk := hh.past hbel
        have hlk := hl.past hbel
        have hrk := hr.past hbel
        cases hm : has.contains j with
        | true =>
          have HM : Hid ((St.up has).contains (j : Int) = true) := by show _ = _; rw [up_has]; exact hm
          have hnext : Hid (St.stbsTo n left (St.stbs n left right f) has (j + 1) = St.stbsTo n left (St.stbs n left right f) has j) := stbsTo_skip hm
          clear hm
          go_wp2_with fail
          refine (Has_any C m e (St.up has) (j : Int) true _ hhk HM.out).mono ?_
          rintro e1 w1 ⟨rfl, rfl⟩
          go_wp2
          go_roundw
          case rel => exact ⟨j + 1, by omega, by go_num, by rw [hnext.out]; exact hsee, hbel⟩
          case measure => simp [intOf]; omega
        | false =>
          have HM : Hid ((St.up has).contains (j : Int) = false) := by show _ = _; rw [up_has]; exact hm
          have hnext : Hid (St.stbsTo n left (St.stbs n left right f) has (j + 1) = St.joinB n left (St.stbsTo n left (St.stbs n left right f) has j) (St.stbs n left right f (has ++ [j]))) := stbsTo_take hm
          clear hm
          have HFL : Hid (Full n (St.stbs n left right f (has ++ [j]))) := stbs_full f _ (by rw [List.length_append, HLEN.out]; simp; omega)
          have HFO : Hid (Full n (St.stbsTo n left (St.stbs n left right f) has j)) := stbsTo_full (fun k hk _ => stbs_full f _ (by rw [List.length_append, HLEN.out]; simp; omega)) j (by omega)
          go_wp2_with fail
          refine (Has_any C m e (St.up has) (j : Int) false _ hhk HM.out).mono ?_
          rintro e1 w1 ⟨rfl, rfl⟩
          go_wp2_with fail
          refine (RefW.Behind_any C m e (St.up has) (j : Int) _ hhk (by omega)).mono ?_
          rintro e1 w1 ⟨v1, rfl, hown1, b1⟩
          obtain ⟨C1, e2, rfl, hr1⟩ := hown1.rd
          have hl1 : (St.up has ++ [(j : Int)]).length = m + 1 := by rw [List.length_append, St.up_len, HLEN.out]; rfl
          rw [hl1] at hr1 ⊢
          rw [← up_snoc] at hr1
          have hb1 := hbel.trans (b1.mono hbel.size)
          have hlk1 := hlk.past b1
          have hrk1 := hrk.past b1
          have hsee1 := hsee.past b1
          clear hown1 hl1 HM hhk hlk hrk hsee b1 hbel
          go_wp2_with fail
          refine (IH.out (has ++ [j]) C1 (m + 1) e2 _ (by omega) hlk1 hrk1 hr1).mono ?_
          rintro e1 w2 ⟨v2, rfl, hseeL, b2⟩
          have hb2 := hb1.trans (b2.mono hb1.size)
          have hlk2 := hlk1.past b2
          have hsee2 := hsee1.past b2
          clear hr1 hlk1 hrk1 hsee1 b2 hb1
          generalize St.stbs n left right f (has ++ [j]) = l at hnext HFL hseeL
          generalize St.stbsTo n left (St.stbs n left right f) has j = out at hnext HFO hsee2
          obtain ⟨AL, cL, rfl, hL⟩ := hseeL
          obtain ⟨AO, cO, rfl, hO⟩ := hsee2
          cases l with
          | nil =>
            have hn2 : Hid (St.stbsTo n left (St.stbs n left right f) has (j + 1) = out) := by show _ = _; rw [hnext.out]; rfl
            go_wp2
            go_roundw
            case rel => exact ⟨j + 1, by omega, by go_num, by rw [hn2.out]; exact ⟨AO, cO, rfl, hO⟩, hb2⟩
            case measure => simp [intOf]; omega
          | cons x xs =>
            obtain ⟨l, hl0⟩ : ∃ l, l = x :: xs := ⟨_, rfl⟩
            have hll : l.length = n := by rw [hl0]; exact HFL.out.resolve_left (by simp)
            have hlne : ¬ l = [] := by rw [hl0]; simp
            rw [← hl0] at hnext hL ⊢
            rw [hll] at hL ⊢
            clear hl0 HFL
            have hn0 : 0 < n := by omega
            have d1 : ((n : Int) == 0) = false := by simp; omega
            have d2 : (n == 0) = false := by simp; omega
            -- the list that the inner loop begins with
            obtain ⟨acc, hacc⟩ : ∃ acc, acc = if out = [] then l else out := ⟨_, rfl⟩
            have hn3 : Hid (St.stbsTo n left (St.stbs n left right f) has (j + 1) = St.best left l acc n) := by show _ = _; rw [hnext.out, St.joinB, if_neg hlne, ← hacc]
            have hal : acc.length = n := by
              rw [hacc]
              split
              · exact hll
              · rename_i h2; exact HFO.out.resolve_left h2
            have HAL := Lib.hid hal
            have HLL := Lib.hid hll
            cases out with
            | nil =>
              have HACC : Hid (acc = l) := by rw [hacc]; rfl
              clear hacc hnext HFO hll hal hlne
              go_wp2
              go_loopw [7, 10] (fun ov iv wr => ∃ i : Nat, i ≤ n ∧ iv = .int .i64 (i : Int) ∧ Sees wr ov (St.best left l acc i) ∧ Below w2.heap.size w2 wr) (fun _ iv _ => n - (intOf iv).toNat)
              case atStart => exact ⟨0, Nat.zero_le _, rfl, ⟨AL, cL, by show _ = Value.slice AL acc.length cL; rw [HAL.out], by show Rd _ _ AL acc.length cL (St.up acc); rw [HAL.out, HACC.out]; exact hL⟩, Below.refl _ _⟩
              case round =>
                obtain ⟨i, hi, rfl, hsee, hbel⟩ := hrel
                have hsz := hbel.size
                by_cases hlt : i < n
                · obtain ⟨A3, c3, rfl, hO3⟩ := hsee
                  rw [St.best_len, HAL.out] at hO3 ⊢
                  obtain ⟨b0, o0, rfl, hb0, hc0⟩ := (hlk2.past hbel).at_ (by omega)
                  obtain ⟨d0, e0, f0, r0⟩ := hc0 i hlt
                  have hLk := hL.past hbel
                  obtain ⟨b1, o1, rfl, hb1, hc1⟩ := hLk.at_ (by omega)
                  have f1 := hc1 i hlt
                  obtain ⟨b3, o3, rfl, hb3, hc3⟩ := hO3.at_ (by omega)
                  have f3 := hc3 i hlt
                  rw [St.up_at] at f1 f3
                  have HB : Hid (St.best left l acc (i + 1) = if St.plc (left.getD i []) ((l.getD i 0 : Nat) : Int) < St.plc (left.getD i []) (((St.best left l acc i).getD i 0 : Nat) : Int) then (St.best left l acc i).set i (l.getD i 0) else St.best left l acc i) := rfl
                  clear hc0 hc1 hc3
                  generalize l.getD i 0 = x at f1 HB
                  generalize (St.best left l acc i).getD i 0 = y at f3 HB
                  generalize hrow0 : left.getD i [] = row0 at f0 r0 HB
                  clear hrow0
                  obtain ⟨l0, hl0⟩ : ∃ l0, l0 = row0.length := ⟨_, rfl⟩
                  rw [← hl0] at f0 r0
                  clear hl0
                  obtain ⟨t1, ht1⟩ : ∃ t, St.plc row0 (x : Int) = t := ⟨_, rfl⟩
                  obtain ⟨t2, ht2⟩ : ∃ t, St.plc row0 (y : Int) = t := ⟨_, rfl⟩
                  rw [ht1, ht2] at HB
                  have H1 := Lib.hid ht1
                  have H2 := Lib.hid ht2
                  clear ht1 ht2
                  have k1 : (0 : Int) ≤ (i : Int) := by omega
                  have k2 : (i : Int) < (n : Int) := by omega
                  by_cases hc : t1 < t2
                  · have dc : decide (t1 < t2) = true := decide_eq_true hc
                    have hnext3 : Hid (St.best left l acc (i + 1) = (St.best left l acc i).set i x) := by show _ = _; rw [HB.out, if_pos hc]
                    clear HB
                    go_wp2
                    go_quiet (first
                    | (go_at_call 18; with_reducible exact Calls.quiet_of_same ((Place_t d0 l0 e0 row0 (x : Int) t1 _ (r0.drewN _) H1.out).mono fun _ _ h => ⟨h.1, h.2.symm⟩))
                    | (go_at_call 18; with_reducible exact Calls.quiet_of_same ((Place_t d0 l0 e0 row0 (y : Int) t2 _ (r0.drewN _) H2.out).mono fun _ _ h => ⟨h.1, h.2.symm⟩)))
                    obtain ⟨y1, hy1⟩ : ∃ y1, y1 = wr.drewN nq := ⟨_, rfl⟩
                    have hbel1 : Below w2.heap.size w2 y1 := by rw [hy1]; exact hbel.trans (Below.drewN' _ _ _)
                    replace f1 : y1.cell? ⟨b1, o1 + i, none⟩ = some (.int .i64 (x : Int)) := by rw [hy1]; exact f1
                    replace hO3 : Rd y1 y1.heap.size (some ⟨b3, o3, none⟩) n c3 (St.up (St.best left l acc i)) := by rw [hy1]; exact hO3.drewN _
                    rw [← hy1]
                    clear hy1 hbel f0 f3 r0 hsz hLk hb0 hb1 hb3
                    go_wp2_with fail
                    refine (RefD.Set_any (some ⟨b3, o3, none⟩) n c3 (St.up (St.best left l acc i)) i (x : Int) _ hO3 hlt (by omega)).mono ?_
                    rintro e1 w5 ⟨g5, cap5, rfl, hown5, b5⟩
                    have hr5 := hown5.rd'
                    rw [up_set] at hr5
                    have hbel5 := hbel1.trans (b5.mono hbel1.size)
                    clear hown5 b5
                    go_wp2
                    go_roundw
                    case rel => exact ⟨i + 1, by omega, by go_num, by rw [hnext3.out]; exact ⟨_, cap5, by rw [List.length_set, St.best_len, HAL.out], by rw [List.length_set, St.best_len, HAL.out]; exact hr5⟩, hbel5⟩
                    case measure => simp [intOf]; omega
                  · have dc : decide (t1 < t2) = false := decide_eq_false hc
                    have hnext3 : Hid (St.best left l acc (i + 1) = St.best left l acc i) := by show _ = _; rw [HB.out, if_neg hc]
                    clear HB
                    go_wp2
                    go_quiet (first
                    | (go_at_call 18; with_reducible exact Calls.quiet_of_same ((Place_t d0 l0 e0 row0 (x : Int) t1 _ (r0.drewN _) H1.out).mono fun _ _ h => ⟨h.1, h.2.symm⟩))
                    | (go_at_call 18; with_reducible exact Calls.quiet_of_same ((Place_t d0 l0 e0 row0 (y : Int) t2 _ (r0.drewN _) H2.out).mono fun _ _ h => ⟨h.1, h.2.symm⟩)))
                    go_wp2
                    go_roundw
                    case rel => exact ⟨i + 1, by omega, by go_num, by rw [hnext3.out]; exact ⟨_, c3, by rw [St.best_len, HAL.out], by rw [St.best_len, HAL.out]; exact hO3.drewN _⟩, hbel.trans (Below.drewN' _ _ _)⟩
                    case measure => simp [intOf]; omega
                · obtain rfl : i = n := by omega
                  go_wp2
                  go_roundw
                  case rel => exact ⟨j + 1, by omega, by go_num, by rw [hn3.out]; exact hsee, hb2.trans (hbel.mono hb2.size)⟩
                  case measure => simp [intOf]; omega
            | cons y ys =>
              have HACC : Hid (acc = y :: ys) := by rw [hacc]; rfl
              have hol : (y :: ys).length = n := by rw [← HACC.out]; exact hal
              rw [← HACC.out] at hO hol ⊢
              rw [hol] at hO ⊢
              clear hacc hnext HFO hll hal hlne hol HACC
              go_wp2
              go_loopw [7, 10] (fun ov iv wr => ∃ i : Nat, i ≤ n ∧ iv = .int .i64 (i : Int) ∧ Sees wr ov (St.best left l acc i) ∧ Below w2.heap.size w2 wr) (fun _ iv _ => n - (intOf iv).toNat)
              case atStart => exact ⟨0, Nat.zero_le _, rfl, ⟨AO, cO, by show _ = Value.slice AO acc.length cO; rw [HAL.out], by show Rd _ _ AO acc.length cO (St.up acc); rw [HAL.out]; exact hO⟩, Below.refl _ _⟩
              case round =>
                obtain ⟨i, hi, rfl, hsee, hbel⟩ := hrel
                have hsz := hbel.size
                by_cases hlt : i < n
                · obtain ⟨A3, c3, rfl, hO3⟩ := hsee
                  rw [St.best_len, HAL.out] at hO3 ⊢
                  obtain ⟨b0, o0, rfl, hb0, hc0⟩ := (hlk2.past hbel).at_ (by omega)
                  obtain ⟨d0, e0, f0, r0⟩ := hc0 i hlt
                  have hLk := hL.past hbel
                  obtain ⟨b1, o1, rfl, hb1, hc1⟩ := hLk.at_ (by omega)
                  have f1 := hc1 i hlt
                  obtain ⟨b3, o3, rfl, hb3, hc3⟩ := hO3.at_ (by omega)
                  have f3 := hc3 i hlt
                  rw [St.up_at] at f1 f3
                  have HB : Hid (St.best left l acc (i + 1) = if St.plc (left.getD i []) ((l.getD i 0 : Nat) : Int) < St.plc (left.getD i []) (((St.best left l acc i).getD i 0 : Nat) : Int) then (St.best left l acc i).set i (l.getD i 0) else St.best left l acc i) := rfl
                  clear hc0 hc1 hc3
                  generalize l.getD i 0 = x at f1 HB
                  generalize (St.best left l acc i).getD i 0 = y at f3 HB
                  generalize hrow0 : left.getD i [] = row0 at f0 r0 HB
                  clear hrow0
                  obtain ⟨l0, hl0⟩ : ∃ l0, l0 = row0.length := ⟨_, rfl⟩
                  rw [← hl0] at f0 r0
                  clear hl0
                  obtain ⟨t1, ht1⟩ : ∃ t, St.plc row0 (x : Int) = t := ⟨_, rfl⟩
                  obtain ⟨t2, ht2⟩ : ∃ t, St.plc row0 (y : Int) = t := ⟨_, rfl⟩
                  rw [ht1, ht2] at HB
                  have H1 := Lib.hid ht1
                  have H2 := Lib.hid ht2
                  clear ht1 ht2
                  have k1 : (0 : Int) ≤ (i : Int) := by omega
                  have k2 : (i : Int) < (n : Int) := by omega
                  by_cases hc : t1 < t2
                  · have dc : decide (t1 < t2) = true := decide_eq_true hc
                    have hnext3 : Hid (St.best left l acc (i + 1) = (St.best left l acc i).set i x) := by show _ = _; rw [HB.out, if_pos hc]
                    clear HB
                    go_wp2
                    go_quiet (first
                    | (go_at_call 18; with_reducible exact Calls.quiet_of_same ((Place_t d0 l0 e0 row0 (x : Int) t1 _ (r0.drewN _) H1.out).mono fun _ _ h => ⟨h.1, h.2.symm⟩))
                    | (go_at_call 18; with_reducible exact Calls.quiet_of_same ((Place_t d0 l0 e0 row0 (y : Int) t2 _ (r0.drewN _) H2.out).mono fun _ _ h => ⟨h.1, h.2.symm⟩)))
                    obtain ⟨y1, hy1⟩ : ∃ y1, y1 = wr.drewN nq := ⟨_, rfl⟩
                    have hbel1 : Below w2.heap.size w2 y1 := by rw [hy1]; exact hbel.trans (Below.drewN' _ _ _)
                    replace f1 : y1.cell? ⟨b1, o1 + i, none⟩ = some (.int .i64 (x : Int)) := by rw [hy1]; exact f1
                    replace hO3 : Rd y1 y1.heap.size (some ⟨b3, o3, none⟩) n c3 (St.up (St.best left l acc i)) := by rw [hy1]; exact hO3.drewN _
                    rw [← hy1]
                    clear hy1 hbel f0 f3 r0 hsz hLk hb0 hb1 hb3
                    go_wp2_with fail
                    refine (RefD.Set_any (some ⟨b3, o3, none⟩) n c3 (St.up (St.best left l acc i)) i (x : Int) _ hO3 hlt (by omega)).mono ?_
                    rintro e1 w5 ⟨g5, cap5, rfl, hown5, b5⟩
                    have hr5 := hown5.rd'
                    rw [up_set] at hr5
                    have hbel5 := hbel1.trans (b5.mono hbel1.size)
                    clear hown5 b5
                    go_wp2
                    go_roundw
                    case rel => exact ⟨i + 1, by omega, by go_num, by rw [hnext3.out]; exact ⟨_, cap5, by rw [List.length_set, St.best_len, HAL.out], by rw [List.length_set, St.best_len, HAL.out]; exact hr5⟩, hbel5⟩
                    case measure => simp [intOf]; omega
                  · have dc : decide (t1 < t2) = false := decide_eq_false hc
                    have hnext3 : Hid (St.best left l acc (i + 1) = St.best left l acc i) := by show _ = _; rw [HB.out, if_neg hc]
                    clear HB
                    go_wp2
                    go_quiet (first
                    | (go_at_call 18; with_reducible exact Calls.quiet_of_same ((Place_t d0 l0 e0 row0 (x : Int) t1 _ (r0.drewN _) H1.out).mono fun _ _ h => ⟨h.1, h.2.symm⟩))
                    | (go_at_call 18; with_reducible exact Calls.quiet_of_same ((Place_t d0 l0 e0 row0 (y : Int) t2 _ (r0.drewN _) H2.out).mono fun _ _ h => ⟨h.1, h.2.symm⟩)))
                    go_wp2
                    go_roundw
                    case rel => exact ⟨i + 1, by omega, by go_num, by rw [hnext3.out]; exact ⟨_, c3, by rw [St.best_len, HAL.out], by rw [St.best_len, HAL.out]; exact hO3.drewN _⟩, hbel.trans (Below.drewN' _ _ _)⟩
                    case measure => simp [intOf]; omega
                · obtain rfl : i = n := by omega
                  go_wp2
                  go_roundw
                  case rel => exact ⟨j + 1, by omega, by go_num, by rw [hn3.out]; exact hsee, hb2.trans (hbel.mono hb2.size)⟩
                  case measure => simp [intOf]; omega
      · obtain rfl : j = n := by omega
        go_wp2
        go_ret
        exact ⟨_, rfl, by rw [hfinal.out]; exact hsee, hbel⟩

end Go.Proofs.YthdibdghnfkoeaaDoor.RefS2
