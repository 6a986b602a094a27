/-
  The walk of the law GapsRuns: for every list it returns true.
-/
import Derived.Test.YtiafekjdefnifaaGapsF
import Derived.Test.YtiafekjdefnifaaGapsR
import Derived.Deep.QuietTactic
import Derived.BigQuiet
namespace Go.Proofs.Ytiafekjdefnifaa.gapsRuns
open Go.RowKit

theorem up_less {b : Int} : ∀ {l : List Int} {a : Int}, b ≤ a → Ga.Up a l → Ga.Up b l := by
  intro l a h hu
  cases l with
  | nil => trivial
  | cons n l => exact ⟨hu.1, hu.2.1, by have := hu.2.2.1; omega, hu.2.2.2⟩
theorem apart_at : ∀ (rs : List (Int × Int)) (b : Int), Ga.Apart b rs → ∀ k, k < rs.length → 1 ≤ (rs.getD k (0, 0)).2 ∧ (0 < k → (rs.getD (k - 1) (0, 0)).1 + (rs.getD (k - 1) (0, 0)).2 < (rs.getD k (0, 0)).1) := by
  intro rs
  induction rs with
  | nil => intro b _ k hk; simp at hk
  | cons p rs ih =>
    intro b h k hk
    obtain ⟨h1, h2, h3⟩ := h
    cases k with
    | zero => exact ⟨by simpa using h2, fun h => by omega⟩
    | succ k =>
      obtain ⟨i1, i2⟩ := ih _ h3 k (by simpa using hk)
      refine ⟨by simpa using i1, fun _ => ?_⟩
      cases k with
      | zero =>
        cases rs with
        | nil => simp at hk
        | cons q rs =>
          have := h3.1
          simpa using this
      | succ k => simpa using i2 (by omega)
/-- what the law asks of each run -/
theorem facts {l : List Int} (h : Ga.code l = 0) (k : Nat) (hk : k < (Ga.runs (-2) l).length) :
    1 ≤ ((Ga.runs (-2) l).getD k (0, 0)).2 ∧ ((Ga.runs (-2) l).getD k (0, 0)).2 ≤ (l.length : Int) ∧ 0 ≤ ((Ga.runs (-2) l).getD k (0, 0)).1 ∧ ((Ga.runs (-2) l).getD k (0, 0)).1 < 1000000 ∧
    (0 < k → ((Ga.runs (-2) l).getD (k - 1) (0, 0)).1 + ((Ga.runs (-2) l).getD (k - 1) (0, 0)).2 < ((Ga.runs (-2) l).getD k (0, 0)).1) := by
  have hu := up_less (b := -2) (by omega) (Ga.code_zero h).2
  have hm : (Ga.runs (-2) l).getD k (0, 0) ∈ Ga.runs (-2) l := by simp [List.getD, hk]
  obtain ⟨h1, h2⟩ := apart_at _ _ (Ga.apart_runs l (-2) hu) k hk
  obtain ⟨h3, h4⟩ := Ga.runs_bounds l (-2) hu _ hm
  exact ⟨h1, Ga.count_le l (-2) _ hm, h3, h4, h2⟩
theorem spread_take {rs : List (Int × Int)} {k : Nat} (h : k < rs.length) : Ga.spread (rs.take (k + 1)) = Ga.spread (rs.take k) ++ Ga.span (rs.getD k (0, 0)).1 (rs.getD k (0, 0)).2.toNat := by
  rw [List.take_succ_eq_append_getElem h]
  unfold Ga.spread
  rw [List.flatMap_append]
  simp only [List.getD, List.getElem?_eq_getElem h, Option.getD_some, List.flatMap_cons, List.flatMap_nil, List.append_nil]
theorem spread_le (rs : List (Int × Int)) (k : Nat) : (Ga.spread (rs.take k)).length ≤ (Ga.spread rs).length := by
  have e : Ga.spread rs = Ga.spread (rs.take k) ++ Ga.spread (rs.drop k) := by
    unfold Ga.spread
    rw [← List.flatMap_append, List.take_append_drop]
  rw [e, List.length_append]
  omega

set_option maxRecDepth 100000 in
set_option maxHeartbeats 4000000 in
theorem walk (w : World) (a0 : Option Addr) (n0 c0 : Nat) (z0 : List Int) (w0 : Rd w w.heap.size a0 n0 c0 z0) :
    Calls Try.prog 5 #[.slice a0 n0 c0] w fun e w' => e = .returned (.bool true) ∧ Below w.heap.size w w' := by
  have HX := Lib.hid w0.len
  have hbig0 := w0.big
  go_enter Try.func5, Try.ntmps5
  go_wp2_with fail
  refine (gfact_any _).mono ?_
  rintro e x1 ⟨rfl, hb1⟩
  have r1 := w0.past hb1
  have hs1 := hb1.size
  go_wp2_with fail
  refine (Runs_any _ _ _ z0 _ r1).mono ?_
  rintro e x2 ⟨hb2, ⟨h0, rfl⟩ | ⟨v2, h0, rfl, hown2⟩⟩
  · clear h0
    go_wp2
    go_ret
    exact ⟨rfl, hb1.trans (hb2.mono hs1)⟩
  have hs2 := hb2.size
  have hn30 := (Ga.code_zero h0).1
  have hall := Ga.spread_all (Ga.code_zero h0).2
  have hf := facts h0
  rw [HX.out] at hf hn30
  obtain ⟨rs, hrs⟩ : ∃ rs, rs = Ga.runs (-2) z0 := ⟨_, rfl⟩
  rw [← hrs] at hall hf hown2
  have hspl : ∀ k, (Ga.spread (rs.take k)).length ≤ n0 := by
    intro k
    have := spread_le rs k
    rwa [hall, HX.out] at this
  have HA := Lib.hid hall
  have HF := Lib.hid hf
  have HS := Lib.hid hspl
  clear h0 hrs hall hf hspl
  obtain ⟨A2, c2, rfl, r2⟩ := hown2.rd
  obtain ⟨n2, hn2⟩ : ∃ n, n = rs.length := ⟨_, rfl⟩
  rw [← hn2] at r2 HF ⊢
  have HN := Lib.hid hn2
  have hbig2 := r2.big
  have r12 := r1.past hb2
  have hw2 : Below w.heap.size w x2 := hb1.trans (hb2.mono hs1)
  clear hn2 hown2 hb1 hb2 r1
  go_wp2_with fail
  go_loopw [6, 7] (fun v i wr => ∃ k : Nat, k ≤ n2 ∧ i = .int .i64 k ∧ Own wr x2.heap.size 3 v (Ga.spread (rs.take k)) ∧ Below x2.heap.size x2 wr) (fun _ i _ => n2 - (intOf i).toNat)
  case atStart => exact ⟨0, Nat.zero_le _, rfl, Own.nil _ _ _, Below.refl _ _⟩
  case round =>
    obtain ⟨k, hk, rfl, hown, hbel⟩ := hrel
    have hsz := hbel.size
    by_cases hlt : k < n2
    · obtain ⟨b2, o2, rfl, hb2, hc2⟩ := r2.at_ (by omega)
      have g1 : wr.cell? ⟨b2, o2 + k * 2, none⟩ = _ := (hbel.cell (by exact hb2)).trans (hc2 k hlt).1
      have g2 : wr.cell? ⟨b2, o2 + k * 2 + 1, none⟩ = _ := (hbel.cell (by exact hb2)).trans (hc2 k hlt).2
      obtain ⟨f1, f2, f3, f4, f5⟩ := HF.out k hlt
      have hst := spread_take (rs := rs) (k := k) (by rw [← HN.out]; exact hlt)
      have hsl := HS.out k
      obtain ⟨a, ha⟩ : ∃ a, a = (rs.getD k (0, 0)).1 := ⟨_, rfl⟩
      obtain ⟨m, hm⟩ : ∃ m : Nat, (m : Int) = (rs.getD k (0, 0)).2 := ⟨(rs.getD k (0, 0)).2.toNat, by omega⟩
      rw [← ha] at g1 f3 f4 f5 hst
      rw [← hm] at g2 f1 f2 hst
      rw [Int.toNat_natCast] at hst
      have HST := Lib.hid hst
      clear ha hm hst
      have d1 : decide ((m : Int) < 1) = false := by simp; omega
      have d2 : decide (n0 < m) = false := by simp; omega
      by_cases hk0 : k = 0
      · have hkz : decide (0 < k) = false := by simp; omega
        have hkz' : decide ((0 : Int) < (k : Int)) = false := by simp; omega
        clear hc2 f5 hk0
        go_wp2_with fail
        go_quiet (fail)
        go_wp2_with fail
        go_loopw [6, 8] (fun v j wi => ∃ t : Nat, t ≤ m ∧ j = .int .i64 t ∧ Own wi x2.heap.size 3 v (Ga.spread (rs.take k) ++ Ga.span a t) ∧ Below x2.heap.size x2 wi) (fun _ j _ => m - (intOf j).toNat)
        case atStart => exact ⟨0, Nat.zero_le _, rfl, by simpa [Ga.span] using hown.drewN _, hbel.trans (Below.drewN' _ _ _)⟩
        case round =>
          obtain ⟨t, ht, rfl, hownt, hbelt⟩ := hrel
          have hszt := hbelt.size
          have g1t := ((hbelt.cell (by exact hb2)).trans (hbel.cell (by exact hb2)).symm).trans g1
          have g2t := ((hbelt.cell (by exact hb2)).trans (hbel.cell (by exact hb2)).symm).trans g2
          by_cases htm : t < m
          · have hroom : (Ga.spread (rs.take k) ++ Ga.span a t).length + 1 ≤ 17592186044416 := by rw [List.length_append, show (Ga.span a t).length = t by simp [Ga.span]]; omega
            go_wp2_with (at_builtin; refine wpList_app _ rfl (.tmp 78) (.tmp 86) _ rfl x2.heap.size 3 Try.underlying22 intInfo _ _ rfl (hownt.below ((Below.refl _ _).alloc (Nat.le_refl _) _)) (some ⟨wr.heap.size, 0, none⟩) 1 1 [a + (t : Int)] rfl (Rd.one _ _ _) hroom (by simp; omega) ?_; intro v1 w1 hown1 hg1 hat1)
            have hb1 := below_app (hbelt.alloc hszt _) (hownt.below ((Below.refl _ _).alloc (Nat.le_refl _) _)) hg1 (by simp; omega)
            rw [List.append_assoc, ← Ga.span_succ] at hown1
            go_roundw
            case rel => exact ⟨t + 1, by omega, by go_num, hown1, hb1⟩
            case measure => simp [intOf]; omega
          · obtain rfl : t = m := by omega
            rw [← HST.out] at hownt
            go_wp2
            go_roundw
            case rel => exact ⟨k + 1, by omega, by go_num, hownt, hbelt⟩
            case measure => simp [intOf]; omega
      · have hkp : 0 < k := by omega
        have g3 : wr.cell? ⟨b2, o2 + (k - 1) * 2, none⟩ = _ := (hbel.cell (by exact hb2)).trans (hc2 (k - 1) (by omega)).1
        have g4 : wr.cell? ⟨b2, o2 + (k - 1) * 2 + 1, none⟩ = _ := (hbel.cell (by exact hb2)).trans (hc2 (k - 1) (by omega)).2
        have f6 := f5 hkp
        obtain ⟨e1, e2, e3, e4, _⟩ := HF.out (k - 1) (by omega)
        obtain ⟨a', ha'⟩ : ∃ a, a = (rs.getD (k - 1) (0, 0)).1 := ⟨_, rfl⟩
        obtain ⟨m', hm'⟩ : ∃ m, m = (rs.getD (k - 1) (0, 0)).2 := ⟨_, rfl⟩
        rw [← ha'] at g3 f6 e3 e4
        rw [← hm'] at g4 f6 e1 e2
        have d3 : decide (a ≤ a' + m') = false := by simp; omega
        clear hc2 f5 ha' hm' hk0
        go_wp2_with fail
        go_quiet (fail)
        go_wp2_with fail
        go_loopw [6, 8] (fun v j wi => ∃ t : Nat, t ≤ m ∧ j = .int .i64 t ∧ Own wi x2.heap.size 3 v (Ga.spread (rs.take k) ++ Ga.span a t) ∧ Below x2.heap.size x2 wi) (fun _ j _ => m - (intOf j).toNat)
        case atStart => exact ⟨0, Nat.zero_le _, rfl, by simpa [Ga.span] using hown.drewN _, hbel.trans (Below.drewN' _ _ _)⟩
        case round =>
          obtain ⟨t, ht, rfl, hownt, hbelt⟩ := hrel
          have hszt := hbelt.size
          have g1t := ((hbelt.cell (by exact hb2)).trans (hbel.cell (by exact hb2)).symm).trans g1
          have g2t := ((hbelt.cell (by exact hb2)).trans (hbel.cell (by exact hb2)).symm).trans g2
          by_cases htm : t < m
          · have hroom : (Ga.spread (rs.take k) ++ Ga.span a t).length + 1 ≤ 17592186044416 := by rw [List.length_append, show (Ga.span a t).length = t by simp [Ga.span]]; omega
            go_wp2_with (at_builtin; refine wpList_app _ rfl (.tmp 78) (.tmp 86) _ rfl x2.heap.size 3 Try.underlying22 intInfo _ _ rfl (hownt.below ((Below.refl _ _).alloc (Nat.le_refl _) _)) (some ⟨wr.heap.size, 0, none⟩) 1 1 [a + (t : Int)] rfl (Rd.one _ _ _) hroom (by simp; omega) ?_; intro v1 w1 hown1 hg1 hat1)
            have hb1 := below_app (hbelt.alloc hszt _) (hownt.below ((Below.refl _ _).alloc (Nat.le_refl _) _)) hg1 (by simp; omega)
            rw [List.append_assoc, ← Ga.span_succ] at hown1
            go_roundw
            case rel => exact ⟨t + 1, by omega, by go_num, hown1, hb1⟩
            case measure => simp [intOf]; omega
          · obtain rfl : t = m := by omega
            rw [← HST.out] at hownt
            go_wp2
            go_roundw
            case rel => exact ⟨k + 1, by omega, by go_num, hownt, hbelt⟩
            case measure => simp [intOf]; omega
    · obtain rfl : k = n2 := by omega
      have hfin : Hid (Ga.spread (rs.take k) = z0) := by
        show _ = _
        rw [List.take_of_length_le (by rw [HN.out]; exact Nat.le_refl _), HA.out]
      rw [hfin.out] at hown
      obtain ⟨A3, c3, rfl, r3⟩ := hown.rd
      go_wp2_with fail
      refine (Ints_any _ _ _ _ _ _ z0 z0 _ r3 ((r12.below hbel).more hsz)).mono ?_
      rintro e x4 ⟨rfl, hb4⟩
      have hdec : decide (z0 = z0) = true := by simp
      rw [hdec]
      go_wp2
      go_ret
      exact ⟨rfl, (hw2.trans (hbel.mono hw2.size)).trans (hb4.mono (by have := hw2.size; omega))⟩

end Go.Proofs.Ytiafekjdefnifaa.gapsRuns
