/-
  Contracts of package trail: Ends (where an odd number of lines ends), start (from where a way starts), Find (the way, or what is wrong).
-/
import Derived.Test.YtibphofiaodnmaaDoorTrailC
import Derived.Test.YtibphofiaodnmaaDoorGraphO
import Derived.Deep.RegionHeld3
namespace Go.Proofs.YtibphofiaodnmaaDoor
open Go.RowKit

set_option linter.unusedSimpArgs false
set_option linter.unusedVariables false

theorem take_cntP {ls : List Gr.Ln} {p : Gr.Ln → Bool} {k : Nat} (hk : k < ls.length) : (ls.take (k + 1)).countP p = (ls.take k).countP p + if p (ls.getD k (0, 0)) = true then 1 else 0 := by
  rw [List.take_succ_eq_append_getElem hk, List.countP_append, List.countP_singleton]
  simp [List.getD, hk]

/-! ### Ends -/
/-- where an odd number of the first j lines ends -/
def od (m : Nat) (ls : List Gr.Ln) (j : Nat) : List Bool := (List.range m).map fun v => decide ((ls.take j).countP (Tl.touch ((v : Nat) : Int)) % 2 = 1)
theorem od_len (m : Nat) (ls : List Gr.Ln) (j : Nat) : (od m ls j).length = m := by simp [od]
theorem od_at {m : Nat} (ls : List Gr.Ln) (j : Nat) {v : Nat} (hv : v < m) : (od m ls j).getD v false = decide ((ls.take j).countP (Tl.touch ((v : Nat) : Int)) % 2 = 1) := by simp [od, List.getD, hv]
theorem od_zero (m : Nat) (ls : List Gr.Ln) : od m ls 0 = List.replicate m false := by
  unfold od
  rw [List.eq_replicate_iff]
  refine ⟨by simp, fun x hx => ?_⟩
  obtain ⟨v, _, rfl⟩ := List.mem_map.1 hx
  simp
theorem eq_of_getDB {l l' : List Bool} (hl : l.length = l'.length) (h : ∀ v, v < l.length → l.getD v false = l'.getD v false) : l = l' := by
  refine List.ext_getElem hl fun i h1 h2 => ?_
  have := h i h1
  simpa [List.getD, h1, h2] using this
theorem getD_setB (l : List Bool) (w v : Nat) (x : Bool) (hw : w < l.length) : (l.set w x).getD v false = if v = w then x else l.getD v false := by
  by_cases e : v = w
  · subst e; simp [List.getD, hw]
  · simp [List.getD, List.getElem?_set, e, Ne.symm e]
theorem flip (X : Nat) : (!decide (X % 2 = 1)) = decide ((X + 1) % 2 = 1) := by
  rcases Nat.mod_two_eq_zero_or_one X with h | h <;> simp [h, Nat.add_mod]
theorem od_step {m : Nat} {ls : List Gr.Ln} {j p q : Nat} (hj : j < ls.length) (hpq : ls.getD j (0, 0) = ((p : Int), (q : Int))) (hp : p < m) (hq : q < m) (hne : p ≠ q) :
    ((od m ls j).set p (!(od m ls j).getD p false)).set q (!((od m ls j).set p (!(od m ls j).getD p false)).getD q false) = od m ls (j + 1) := by
  have hl1 := od_len m ls j
  refine eq_of_getDB (by simp [od_len]) fun v hv => ?_
  have hvm : v < m := by simpa [od_len] using hv
  rw [getD_setB _ _ _ _ (by rw [List.length_set, hl1]; exact hq), getD_setB _ _ _ _ (by rw [hl1]; exact hp), getD_setB _ _ _ _ (by rw [hl1]; exact hp), if_neg (Ne.symm hne), od_at ls (j + 1) hvm, take_cntP hj, hpq, od_at ls j hp, od_at ls j hq, od_at ls j hvm]
  have ht : Tl.touch ((v : Nat) : Int) ((p : Int), (q : Int)) = (decide (v = p) || decide (v = q)) := by
    unfold Tl.touch
    by_cases e1 : v = p <;> by_cases e2 : v = q <;> simp [e1, e2] <;> omega
  rw [ht]
  by_cases e1 : v = q
  · subst e1
    rw [if_pos rfl, if_pos (by simp)]
    exact flip _
  · by_cases e2 : v = p
    · subst e2
      rw [if_neg e1, if_pos rfl, if_pos (by simp)]
      exact flip _
    · simp [e1, e2]
theorem od_ends {m : Nat} {ls : List Gr.Ln} {v : Nat} (hv : v < m) : (od m ls ls.length).getD v false = decide (ls.countP (Tl.touch ((v : Nat) : Int)) % 2 = 1) := by
  rw [od_at ls _ hv, List.take_length]

theorem Ends_err (n : Int) (A : Option Addr) (k c : Nat) (ls : List Gr.Ln) (w : World) (hr : RdP w w.heap.size A k c ls) (h : Gr.code n ls ≠ 0) :
    Calls Tryd.prog 9 #[.int .i64 n, .slice A k c] w fun e w' => e = .returned (.tuple #[.slice none 0 0, errv (Gr.code n ls)]) ∧ Below w.heap.size w w' := by
  have H := Lib.hid h
  clear h
  go_enter Tryd.func9, Tryd.ntmps9
  go_wp2_with fail
  refine (GCheck_err n A k c ls _ hr H.out).mono ?_
  rintro e w1 ⟨rfl, hb⟩
  go_wp2
  go_ret2
  exact ⟨rfl, hb⟩

set_option maxRecDepth 100000 in
set_option maxHeartbeats 2000000 in
theorem Ends_good (m : Nat) (A : Option Addr) (n c : Nat) (ls : List Gr.Ln) (w : World) (hr : RdP w w.heap.size A n c ls) (h : Gr.code (m : Int) ls = 0) :
    Calls Tryd.prog 9 #[.int .i64 (m : Int), .slice A n c] w fun e w' => ∃ v, e = .returned (.tuple #[v, .nilIface]) ∧ Own w' w.heap.size 3 v (upL (Tl.ends m ls)) ∧ Below w.heap.size w w' := by
  have hm8 : m ≤ 8 := by have := (Gr.code_zero.1 h).2.1; omega
  have hn24 : n ≤ 24 := by have := (Gr.code_zero.1 h).2.2.1; have := hr.len; omega
  have H := Lib.hid h
  have HX := Lib.hid hr.len
  obtain ⟨i0, hi, hz0, hz1, hz2⟩ := info_parts boolInfo
  have HI := Lib.hid (And.intro hi (And.intro hz0 (And.intro hz1 hz2)))
  clear h hi hz0 hz1 hz2
  go_enter Tryd.func9, Tryd.ntmps9
  go_wp2_with fail
  refine (GCheck_nil (m : Int) A n c ls _ hr H.out).mono ?_
  rintro e w1 ⟨rfl, hb1⟩
  obtain ⟨s, hs⟩ : ∃ s, s = w1.heap.size := ⟨_, rfl⟩
  have hws : w.heap.size ≤ s := by rw [hs]; exact hb1.size
  have HS := Lib.hid hs
  clear hs
  go_wp2_with (at_make; refine wpList_make_full _ rfl (.tmp 18) (.tmp 18) 43 rfl s 4 i0 (.bool false) 1 Tryd.underlying43 HI.out.1 HI.out.2.1 HI.out.2.2.1 .i64 .i64 _ _ m rfl rfl (by omega) (by omega) (by rw [HI.out.2.2.2]; omega) (by simp only [maxLen]; omega) (by rw [HS.out]; exact Nat.le_refl _) ?_; intro w2 hown2 hg2; rw [← HS.out] at hown2; rw [← HS.out]; have hb2 : Below s w1 w2 := (Below.refl _ _).grown hg2 (by rw [HS.out]; exact Nat.le_refl _) (fun _ e => by cases e); have hS2 : SeenAt w2 s m (od m ls 0) := (by rw [od_zero]; exact SeenAt.made hown2); clear hown2)
  have HB2 := Lib.hid hb2
  clear hg2 hb2
  go_wp2
  go_loopw [22] (fun iv wr => ∃ j : Nat, j ≤ n ∧ iv = .int .i64 (j : Int) ∧ SeenAt wr s m (od m ls j) ∧ Below s w1 wr) (fun iv _ => n - (intOf iv).toNat)
  case atStart => exact ⟨0, Nat.zero_le _, rfl, hS2, HB2.out⟩
  case round =>
    clear hS2
    obtain ⟨j, hjn, rfl, hS, hbel⟩ := hrel
    have hslt : s < wr.heap.size := (World.ownsRow.lt hS s rfl).2
    by_cases hlt : j < n
    · have hbw : Below w.heap.size w wr := hb1.trans (hbel.mono hws)
      obtain ⟨b1, o1, rfl, hbb, hcc⟩ := (hr.below hbw).at_ (by omega)
      obtain ⟨g1, g2⟩ := hcc j hlt
      clear hcc
      have hjl : j < ls.length := by rw [HX.out]; exact hlt
      obtain ⟨p, q, hpq, hp, hq, hne⟩ := Tl.line_of H.out hjl
      have hst := od_step hjl hpq hp hq hne
      rw [hpq] at g1 g2
      simp only at g1 g2
      have hS1 := (hS.set p (!(od m ls j).getD p false)).1
      have hS2 := (hS1.set q (!((od m ls j).set p (!(od m ls j).getD p false)).getD q false)).1
      rw [hst] at hS2
      have c1 := hS.cell hp
      have f1 := hS.frozenAt p
      have c2 := hS1.cell hq
      have f2 := hS1.frozenAt q
      clear hst hpq hjl hbw
      generalize (od m ls j).getD p false = x at c1 hS1 hS2 c2 f2
      generalize ((od m ls j).set p (!x)).getD q false = y at c2 hS2
      have k1 : (0 : Int) ≤ (j : Int) := by omega
      have k2 : (j : Int) < (n : Int) := by omega
      have k3 : (0 : Int) ≤ (p : Int) := by omega
      have k4 : (p : Int) < (m : Int) := by omega
      have k5 : (0 : Int) ≤ (q : Int) := by omega
      have k6 : (q : Int) < (m : Int) := by omega
      have HS2 := Lib.hid hS2
      clear hS1 hS2 hS
      go_wp2
      go_region
      go_wp2
      go_region
      go_wp2
      go_roundw
      case rel =>
        refine ⟨j + 1, by omega, by go_num, World.ownsRow.alloc HS2.out _, ?_⟩
        have hz1 := hbel.setCell (p := ⟨s, p, none⟩) (Nat.le_refl s) (.bool (!x))
        have hz2 := hz1.setCell (p := ⟨s, q, none⟩) (Nat.le_refl s) (.bool (!y))
        exact (hz2.alloc (by simp; omega) _).trans (Below.drewN' _ _ 2)
      case measure => simp [intOf]; omega
    · obtain rfl : j = n := by omega
      have hbw : Below w.heap.size w wr := hb1.trans (hbel.mono hws)
      have hodv : Hid (∀ v, v < m → (od m ls j).getD v false = decide (ls.countP (Tl.touch ((v : Nat) : Int)) % 2 = 1)) := fun v hv => by rw [← HX.out]; exact od_ends hv
      have hszw := hbw.size
      go_wp2
      go_loopw [10, 48] (fun ev iv wv => ∃ k : Nat, k ≤ m ∧ iv = .int .i64 (k : Int) ∧ Own wv w.heap.size 3 ev (upL (Tl.endsTo ls k)) ∧ SeenAt wv s m (od m ls j) ∧ Below w.heap.size w wv) (fun _ iv _ => m - (intOf iv).toNat)
      case atStart => exact ⟨0, Nat.zero_le _, rfl, Own.nil _ _ _, hS, hbw⟩
      case round =>
        clear hS hbw hslt hszw hbel
        obtain ⟨k, hkm, rfl, hown, hS, hbel⟩ := hrel
        have hsz := hbel.size
        by_cases hlk : k < m
        · have k1 : (0 : Int) ≤ (k : Int) := by omega
          have k2 : (k : Int) < (m : Int) := by omega
          have c1 := hS.cell hlk
          rw [hodv.out k hlk] at c1
          by_cases ho : ls.countP (Tl.touch ((k : Nat) : Int)) % 2 = 1
          · have hnx : Hid (upL (Tl.endsTo ls (k + 1)) = upL (Tl.endsTo ls k) ++ [(k : Int)]) := by show _ = _; rw [Tl.endsTo_yes ho, upL_snoc]
            rw [decide_eq_true ho] at c1
            have hlen : Hid ((upL (Tl.endsTo ls k)).length ≤ 8) := by show _ ≤ _; rw [upL_len]; have := Tl.endsTo_len ls k; omega
            have hroom := hlen.out
            have hown2 := hown.below ((Below.refl _ _).alloc (Nat.le_refl _) (.cells #[.int .i64 (k : Int)] 3))
            have hS2 : SeenAt _ s m (od m ls j) := World.ownsRow.alloc hS (.cells #[.int .i64 (k : Int)] 3)
            have hbb := hbel.alloc hsz (.cells #[.int .i64 (k : Int)] 3)
            clear ho
            go_wp2_with (at_builtin; refine wpList_app _ rfl (.tmp 55) (.tmp 57) _ rfl w.heap.size 3 Tryd.underlying24 intInfo _ _ rfl hown2 _ 1 1 [(k : Int)] rfl (Rd.one _ _ _) (by omega) (by simp; omega) ?_; intro v3 w3 hown3 hg3 hat3)
            have hb3 := below_app hbb hown2 hg3 (by simp; omega)
            have hS3 : SeenAt w3 s m (od m ls j) := World.ownsRow.kept hS2 hg3 (.inr fun e => own_ne (by decide) hS2 hown2 s rfl e.symm)
            go_wp2
            go_roundw
            case rel => exact ⟨k + 1, by omega, by go_num, by rw [hnx.out]; exact hown3, hS3, hb3⟩
            case measure => simp [intOf]; omega
          · have hnx : Hid (upL (Tl.endsTo ls (k + 1)) = upL (Tl.endsTo ls k)) := by show _ = _; rw [Tl.endsTo_no ho]
            rw [decide_eq_false ho] at c1
            clear ho
            go_wp2
            go_roundw
            case rel => exact ⟨k + 1, by omega, by go_num, by rw [hnx.out]; exact hown, hS, hbel⟩
            case measure => simp [intOf]; omega
        · obtain rfl : k = m := by omega
          go_wp2
          go_ret2
          exact ⟨_, rfl, hown, hbel⟩

/-! ### start -/
theorem leastTo_step (ls : List Gr.Ln) (k : Int) {j : Nat} (hj : j < ls.length) : Tl.leastTo (ls.take (j + 1)) k = min (min (Tl.leastTo (ls.take j) k) (ls.getD j (0, 0)).1) (ls.getD j (0, 0)).2 := by
  unfold Tl.leastTo
  rw [List.take_succ_eq_append_getElem hj, List.foldl_append]
  simp [List.getD, hj]
theorem start_least {m : Nat} {ls : List Gr.Ln} (h : Gr.code (m : Int) ls = 0) (h0 : 0 < ls.length) (he : Tl.ends m ls = []) : Tl.leastTo ls (ls.getD 0 (0, 0)).1 = ((Tl.start m ls : Nat) : Int) := by
  have e : Tl.start m ls = (Tl.leastTo ls (m : Int)).toNat := by unfold Tl.start; rw [he]
  rw [e]
  have hm0 : ls.getD 0 (0, 0) ∈ ls := by simp [List.getD, h0]
  obtain ⟨a1, a2, a3⟩ := Tl.leastTo_le ls (m : Int)
  obtain ⟨b1, b2, b3⟩ := Tl.leastTo_le ls (ls.getD 0 (0, 0)).1
  have hg := (Gr.code_zero.1 h).2.2.2
  obtain ⟨g1, g2, g3, g4, g5⟩ := hg _ hm0
  have hA := a2 _ hm0
  have hmem : ∃ p ∈ ls, Tl.leastTo ls (m : Int) = p.1 ∨ Tl.leastTo ls (m : Int) = p.2 := by
    rcases a3 with a3 | a3
    · omega
    · exact a3
  obtain ⟨p, hp, hpe⟩ := hmem
  have hB := b2 p hp
  obtain ⟨f1, f2, f3, f4, f5⟩ := hg p hp
  have h2 : Tl.leastTo ls (m : Int) ≤ Tl.leastTo ls (ls.getD 0 (0, 0)).1 := by
    rcases b3 with b3 | ⟨q, hq, b3⟩
    · rw [b3]; exact hA.1
    · have := a2 q hq
      rcases b3 with b3 | b3 <;> rw [b3]
      · exact this.1
      · exact this.2
  clear a3 b3
  omega

theorem run_min3 (x p q : Int) (ats : Array TypeId) (ty : TypeId) (W : World) : (Builtin.min_ ats ty #[.int .i64 x, .int .i64 p, .int .i64 q]).run Tryd.prog W = .ok (.int .i64 (min (min x p) q)) W := by
  by_cases h1 : p < x
  · have e1 : min x p = p := by omega
    by_cases h2 : q < p
    · have e2 : min p q = q := by omega
      simp [Builtin.min_, Builtin.min2, h1, h2, e1, e2]
    · have e2 : min p q = p := by omega
      simp [Builtin.min_, Builtin.min2, h1, h2, e1, e2]
  · have e1 : min x p = x := by omega
    by_cases h2 : q < x
    · have e2 : min x q = q := by omega
      simp [Builtin.min_, Builtin.min2, h1, h2, e1, e2]
    · have e2 : min x q = x := by omega
      simp [Builtin.min_, Builtin.min2, h1, h2, e1, e2]

set_option maxRecDepth 100000 in
set_option maxHeartbeats 1000000 in
theorem start_any (m : Nat) (E A : Option Addr) (ne ce n c : Nat) (ls : List Gr.Ln) (w : World) (he : Rd w w.heap.size E ne ce (upL (Tl.ends m ls))) (hr : RdP w w.heap.size A n c ls) (h : Gr.code (m : Int) ls = 0) (h0 : 0 < n) :
    Calls Tryd.prog 24 #[.slice E ne ce, .slice A n c] w fun e w' => e = .returned (.int .i64 ((Tl.start m ls : Nat) : Int)) ∧ Below w.heap.size w w' := by
  have hn24 : n ≤ 24 := by have := (Gr.code_zero.1 h).2.2.1; have := hr.len; omega
  have H := Lib.hid h
  have HX := Lib.hid hr.len
  have HE := Lib.hid he.len
  clear h
  by_cases hne : 0 < ne
  · obtain ⟨b1, o1, rfl, hbb, hcc⟩ := he.at_ hne
    have g1 := hcc 0 hne
    have hst : Hid ((upL (Tl.ends m ls)).getD 0 0 = ((Tl.start m ls : Nat) : Int)) := by
      show _ = _
      have hl := HE.out
      rw [upL_len] at hl
      unfold Tl.start
      match hm : Tl.ends m ls with
      | [] => rw [hm] at hl; simp at hl; omega
      | a :: r => simp [upL]
    rw [hst.out, Nat.add_zero] at g1
    have k1 : (0 : Int) < (ne : Int) := by omega
    clear hcc
    generalize ((Tl.start m ls : Nat) : Int) = x at g1
    go_enter Tryd.func24, Tryd.ntmps24
    go_wp2
    go_ret
    exact ⟨rfl, Below.refl _ _⟩
  · obtain rfl : ne = 0 := by omega
    have hfin : Hid (Tl.leastTo ls (ls.getD 0 (0, 0)).1 = ((Tl.start m ls : Nat) : Int)) := by
      show _ = _
      refine start_least H.out (by rw [HX.out]; exact h0) ?_
      have hl := HE.out
      rw [upL_len] at hl
      exact List.eq_nil_of_length_eq_zero hl
    obtain ⟨b1, o1, rfl, hbb, hcc⟩ := hr.at_ h0
    have g1 := (hcc 0 h0).1
    rw [Nat.zero_mul, Nat.add_zero] at g1
    have k0 : (0 : Int) < (n : Int) := by omega
    obtain ⟨f, hf⟩ : ∃ f, f = (ls.getD 0 (0, 0)).1 := ⟨_, rfl⟩
    rw [← hf] at g1 hfin
    have HF := Lib.hid hf
    clear hcc hf he
    go_enter Tryd.func24, Tryd.ntmps24
    go_wp2
    go_loopw [5, 20] (fun xv iv wr => ∃ (j : Nat) (x : Int), j ≤ n ∧ iv = .int .i64 (j : Int) ∧ xv = .int .i64 x ∧ Hid (x = Tl.leastTo (ls.take j) f) ∧ Below w.heap.size w wr) (fun _ iv _ => n - (intOf iv).toNat)
    case atStart => exact ⟨0, f, Nat.zero_le _, rfl, rfl, rfl, Below.refl _ _⟩
    case round =>
      obtain ⟨j, x, hjn, rfl, rfl, HXJ, hbel⟩ := hrel
      by_cases hlt : j < n
      · obtain ⟨b2, o2, hA, hb2, hcc⟩ := (hr.below hbel).at_ (by omega)
        cases hA
        obtain ⟨q1, q2⟩ := hcc j hlt
        clear hcc
        have hnx := leastTo_step ls f (show j < ls.length by rw [HX.out]; exact hlt)
        obtain ⟨⟨p, q⟩, hp⟩ : ∃ p, p = ls.getD j (0, 0) := ⟨_, rfl⟩
        rw [← hp] at q1 q2 hnx
        rw [← HXJ.out] at hnx
        simp only at q1 q2 hnx
        have HN := Lib.hid hnx.symm
        clear hp hnx
        have k1 : (0 : Int) ≤ (j : Int) := by omega
        have k2 : (j : Int) < (n : Int) := by omega
        have hbel2 := hbel.alloc hbel.size (.cells #[.int .i64 p, .int .i64 q] 37)
        obtain ⟨y, hy⟩ : ∃ y, y = min (min x p) q := ⟨_, rfl⟩
        have hmn : ∀ ats ty W, (Builtin.min_ ats ty #[.int .i64 x, .int .i64 p, .int .i64 q]).run Tryd.prog W = .ok (.int .i64 y) W := fun ats ty W => by rw [hy]; exact run_min3 x p q ats ty W
        have HN2 : Hid (y = Tl.leastTo (ls.take (j + 1)) f) := by show _ = _; rw [hy]; exact HN.out
        clear hy HN
        go_wp2
        go_roundw
        case rel => exact ⟨j + 1, _, by omega, by go_num, rfl, HN2, hbel2⟩
        case measure => simp [intOf]; omega
      · obtain rfl : j = n := by omega
        have hq : Hid (x = ((Tl.start m ls : Nat) : Int)) := by
          show _ = _
          rw [HXJ.out, List.take_of_length_le (by rw [HX.out]; exact Nat.le_refl _)]
          exact hfin.out
        go_wp2
        go_ret
        exact ⟨by rw [hq.out]; rfl, hbel⟩

end Go.Proofs.YtibphofiaodnmaaDoor
