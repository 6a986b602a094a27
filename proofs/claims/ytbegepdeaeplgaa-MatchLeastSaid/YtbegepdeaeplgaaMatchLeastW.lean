/-
  The walk of the law MatchLeast: for every two sides, lines and number it returns true.
-/
import Derived.Test.YtbegepdeaeplgaaMatchF
import Derived.Test.YtbegepdeaeplgaaIn2
import Derived.Test.YtbegepdeaeplgaaRefL
namespace Go.Proofs.Ytbegepdeaeplgaa.matchLeast
open Go.RowKit Go.Shelf
set_option linter.unusedSimpArgs false
set_option linter.unusedVariables false

set_option maxRecDepth 100000 in
set_option maxHeartbeats 1000000 in
/-- something is wrong with the sides, or with the lines -/
theorem bad (w : World) (a0 a1 : Int) (a2 : Option Addr) (n2 c2 : Nat) (z2 : List Gr.Ln) (w2 : RdP w w.heap.size a2 n2 c2 z2) (a3 : Int) (hc : Ma.code a0 a1 z2 ≠ 0) :
    Calls Try.prog 6 #[.int .i64 a0, .int .i64 a1, .slice a2 n2 c2, .int .i64 a3] w fun e w' => e = .returned (.bool true) ∧ Below w.heap.size w w' := by
  have HN := Lib.hid hc
  clear hc
  go_enter Try.func6, Try.ntmps6
  go_wp2_with fail
  refine (matchFact_any _).mono ?_
  rintro e x1 ⟨rfl, hb1⟩
  have hb01 := hb1
  go_wp2_with fail
  refine (Most_err a0 a1 a2 n2 c2 z2 _ (w2.past hb01) HN.out).mono ?_
  rintro e x2 ⟨rfl, hb2⟩
  go_wp2
  go_ret
  exact ⟨rfl, hb01.trans (hb2.mono hb01.size)⟩

theorem contains_up (l : List Nat) (b : Nat) : (upL l).contains (b : Int) = l.contains b := by
  rw [Bool.eq_iff_iff, List.contains_iff_mem, List.contains_iff_mem]
  unfold upL
  rw [List.mem_map]
  constructor
  · rintro ⟨x, hx, e⟩
    obtain rfl : x = b := by omega
    exact hx
  · intro h
    exact ⟨b, h, rfl⟩
theorem cvl_has {z : List Gr.Ln} {l r i : Nat} (hi : i < l) : (upL (Ma.cvl z l r l)).contains (i : Int) = Ma.ess (Ma.gl z) l r i := by
  rw [contains_up, Bool.eq_iff_iff, List.contains_iff_mem]
  unfold Ma.cvl
  rw [List.mem_filter, List.mem_range]
  exact ⟨fun h => h.2, fun h => ⟨hi, h⟩⟩

set_option maxRecDepth 100000 in
set_option maxHeartbeats 1000000 in
/-- no such one on the left -/
theorem none_ (w : World) (l r : Nat) (a2 : Option Addr) (n2 c2 : Nat) (z2 : List Gr.Ln) (w2 : RdP w w.heap.size a2 n2 c2 z2) (a3 : Int) (hc : Ma.code (l : Int) (r : Int) z2 = 0) (hi : a3 < 0 ∨ (l : Int) ≤ a3) :
    Calls Try.prog 6 #[.int .i64 (l : Int), .int .i64 (r : Int), .slice a2 n2 c2, .int .i64 a3] w fun e w' => e = .returned (.bool true) ∧ Below w.heap.size w w' := by
  have HN := Lib.hid hc
  have hl6 : (l : Int) ≤ 6 := by have := (Ma.code_zero.1 hc).2.1; exact this
  clear hc
  have l1 : IntKind.i64.wrap ((l : Int) - 1) = (l : Int) - 1 := by rw [IntKind.wrap_i64]; omega
  go_enter Try.func6, Try.ntmps6
  go_wp2_with fail
  refine (matchFact_any _).mono ?_
  rintro e x1 ⟨rfl, hb1⟩
  go_wp2_with fail
  refine (Most_ok l r a2 n2 c2 z2 _ (w2.past hb1) HN.out).mono ?_
  rintro e x2 ⟨rfl, hb2⟩
  go_wp2_with fail
  refine (in2_no a3 0 ((l : Int) - 1) _ (by omega)).mono ?_
  rintro e y1 ⟨rfl, rfl⟩
  go_wp2
  go_ret
  exact ⟨rfl, hb1.trans (hb2.mono hb1.size)⟩

set_option maxRecDepth 100000 in
set_option maxHeartbeats 2000000 in
/-- one of the left -/
theorem good (w : World) (l r : Nat) (a2 : Option Addr) (n2 c2 : Nat) (z2 : List Gr.Ln) (w2 : RdP w w.heap.size a2 n2 c2 z2) (i : Nat) (hc : Ma.code (l : Int) (r : Int) z2 = 0) (hi : i < l) :
    Calls Try.prog 6 #[.int .i64 (l : Int), .int .i64 (r : Int), .slice a2 n2 c2, .int .i64 (i : Int)] w fun e w' => e = .returned (.bool true) ∧ Below w.heap.size w w' := by
  have HN := Lib.hid hc
  have HW := Lib.hid (Ma.wl_code hc (i : Int))
  have HX := Lib.hid w2.len
  have hz := Ma.code_zero.1 hc
  have hl6 : l ≤ 6 := by omega
  have hn24 : n2 ≤ 24 := by have := hz.2.2.2.2.1; rw [w2.len] at this; exact this
  have hew := Ma.ess_wo (G := Ma.gl z2) (l := l) (r := r) hi
  rw [← Ma.wl_gl] at hew
  have hml := Ma.nu_le_left (Ma.gl z2) l r
  obtain ⟨mx, hmx⟩ : ∃ mx, mx = Ma.nu (Ma.gl z2) l r := ⟨_, rfl⟩
  rw [← hmx] at hew hml
  have HMX := Lib.hid hmx
  have HEW := Lib.hid hew
  clear hc hz hmx hew
  have l1 : IntKind.i64.wrap ((l : Int) - 1) = (l : Int) - 1 := by rw [IntKind.wrap_i64]; omega
  go_enter Try.func6, Try.ntmps6
  go_wp2_with fail
  refine (matchFact_any _).mono ?_
  rintro e x1 ⟨rfl, hb1⟩
  go_wp2_with fail
  refine (Most_ok l r a2 n2 c2 z2 _ (w2.past hb1) HN.out).mono ?_
  rintro e x2 ⟨rfl, hb2⟩
  rw [← HMX.out]
  have hb02 : Below w.heap.size w x2 := hb1.trans (hb2.mono hb1.size)
  clear hb1 hb2
  go_wp2_with fail
  refine (in2_yes (i : Int) 0 ((l : Int) - 1) _ (by omega) (by omega)).mono ?_
  rintro e y1 ⟨rfl, rfl⟩
  go_wp2_with fail
  refine (Cover_ok l r a2 n2 c2 z2 _ (w2.past hb02) HN.out).mono ?_
  rintro e x3 ⟨hb3, v1, v2, rfl, ho1, ho2⟩
  have hb03 : Below w.heap.size w x3 := hb02.trans (hb3.mono hb02.size)
  obtain ⟨A1, c1, rfl, rc1⟩ := ho1.rd
  obtain ⟨n1, hn1⟩ : ∃ n1, n1 = (upL (Ma.cvl z2 l r l)).length := ⟨_, rfl⟩
  rw [← hn1] at rc1 ⊢
  clear ho1 ho2 hn1 hb3 hb02
  go_wp2
  go_loopw [14, 15] (fun sv iv wr => ∃ k : Nat, k ≤ n2 ∧ iv = .int .i64 (k : Int) ∧ OwnP wr x3.heap.size 35 sv (Ma.wl (z2.take k) (i : Int)) ∧ Below x3.heap.size x3 wr) (fun _ iv _ => n2 - (intOf iv).toNat)
  case atStart => exact ⟨0, Nat.zero_le _, rfl, OwnP.nil _ _ _, Below.refl _ _⟩
  case round =>
    obtain ⟨k, hk, rfl, hown, hbel⟩ := hrel
    have hsz := hbel.size
    have hbw : Below w.heap.size w wr := hb03.trans (hbel.mono hb03.size)
    by_cases hlt : k < n2
    · obtain ⟨b1, o1, rfl, hbb, hcc⟩ := (w2.past hbw).at_ (by omega)
      obtain ⟨g1, g2⟩ := hcc k hlt
      clear hcc
      obtain ⟨⟨p, q⟩, hp⟩ : ∃ p, p = z2.getD k (0, 0) := ⟨_, rfl⟩
      rw [← hp] at g1 g2
      simp only at g1 g2
      have HS := Lib.hid (wl_step (a := (i : Int)) (by rw [HX.out]; exact hlt) hp)
      clear hp
      have k1 : (0 : Int) ≤ (k : Int) := by omega
      have k2 : (k : Int) < (n2 : Int) := by omega
      have hlen : (Ma.wl (z2.take k) (i : Int)).length + 1 ≤ 8796093022208 := by
        have := Ma.wl_len (z2.take k) (i : Int)
        rw [List.length_take] at this
        omega
      by_cases hpa : p = (i : Int)
      · have hd : (p != (i : Int)) = false := by simpa using hpa
        have hn : Hid (Ma.wl (z2.take (k + 1)) (i : Int) = Ma.wl (z2.take k) (i : Int)) := by show _ = _; rw [HS.out, if_pos hpa, List.append_nil]
        clear HS hpa
        go_wp2
        go_roundw
        case rel => exact ⟨k + 1, by omega, by go_num, by rw [hn.out]; exact hown, hbel⟩
        case measure => simp [intOf]; omega
      · have hd : (p != (i : Int)) = true := by simpa using hpa
        have hn : Hid (Ma.wl (z2.take (k + 1)) (i : Int) = Ma.wl (z2.take k) (i : Int) ++ [(p, q)]) := by show _ = _; rw [HS.out, if_neg hpa]
        clear HS hpa
        have hownA := hown.below ((Below.refl wr.heap.size wr).alloc (Nat.le_refl _) (.cells #[.int .i64 p, .int .i64 q] 35))
        have hbA := hbel.alloc hsz (.cells #[.int .i64 p, .int .i64 q] 35)
        go_wp2_with (at_builtin; refine wpList_appP _ rfl (.tmp 65) (.tmp 70) 22 rfl x3.heap.size 35 Try.underlying22 lineInfo _ (Ma.wl (z2.take k) (i : Int)) rfl hownA (some ⟨wr.heap.size, 0, none⟩) 1 1 [(p, q)] rfl (RdP.one _ _ _) hlen hbA.size ?_; intro v3 y3 hown3 hg3 hat3; have hb3 := below_appP hbA hownA hg3 hbA.size)
        go_roundw
        case rel => exact ⟨k + 1, by omega, by go_num, by rw [hn.out]; exact hown3, hb3⟩
        case measure => simp [intOf]; omega
    · obtain rfl : k = n2 := by omega
      have hfin : Hid (Ma.wl (z2.take k) (i : Int) = Ma.wl z2 (i : Int)) := by show _ = _; rw [List.take_of_length_le (by rw [HX.out]; exact Nat.le_refl _)]
      rw [hfin.out] at hown
      obtain ⟨A5, c5, rfl, r5⟩ := hown.rd
      obtain ⟨n5, hn5⟩ : ∃ n5, n5 = (Ma.wl z2 (i : Int)).length := ⟨_, rfl⟩
      rw [← hn5] at r5 ⊢
      have rc5 := rc1.past hbel
      clear hown hn5 hfin rc1
      go_wp2_with fail
      refine (Most_ok l r A5 n5 c5 (Ma.wl z2 (i : Int)) _ r5 HW.out).mono ?_
      rintro e x6 ⟨rfl, hb6⟩
      have hfinal : Below w.heap.size w x6 := hbw.trans (hb6.mono hbw.size)
      have rc6 := rc5.past hb6
      have hcv : Hid ((upL (Ma.cvl z2 l r l)).contains (i : Int) = Ma.ess (Ma.gl z2) l r i) := cvl_has hi
      generalize Ma.nu (Ma.gl (Ma.wl z2 (i : Int))) l r = y at HEW
      cases he : Ma.ess (Ma.gl z2) l r i with
      | true =>
        have hy : (y : Int) = (mx : Int) - 1 := by have := HEW.out; rw [he] at this; simp at this; omega
        have HT : Hid ((upL (Ma.cvl z2 l r l)).contains (i : Int) = true) := by show _ = _; rw [hcv.out, he]
        have e1 : ((y : Int) == (mx : Int) - 1) = true := by simpa using hy
        have e2 : IntKind.i64.wrap ((mx : Int) - 1) = (mx : Int) - 1 := by rw [IntKind.wrap_i64]; omega
        clear he hcv HEW hy
        go_wp2_with fail
        refine (Has_any A1 n1 c1 _ (i : Int) true _ rc6 HT.out).mono ?_
        rintro e x7 ⟨rfl, rfl⟩
        go_wp2
        go_ret
        exact ⟨rfl, hfinal⟩
      | false =>
        have hy : y = mx := by have := HEW.out; rw [he] at this; simp at this; omega
        have HT : Hid ((upL (Ma.cvl z2 l r l)).contains (i : Int) = false) := by show _ = _; rw [hcv.out, he]
        subst hy
        clear he hcv HEW
        go_wp2_with fail
        refine (Has_any A1 n1 c1 _ (i : Int) false _ rc6 HT.out).mono ?_
        rintro e x7 ⟨rfl, rfl⟩
        have e1 : ((y : Int) == (y : Int)) = true := by simp
        go_wp2
        go_ret
        exact ⟨by simp, hfinal⟩

theorem walk (w : World) (a0 : Int) (_w0 : (Lit.int .i64 a0).wf = true) (a1 : Int) (_w1 : (Lit.int .i64 a1).wf = true) (a2 : Option Addr) (n2 c2 : Nat) (z2 : List Gr.Ln) (w2 : RdP w w.heap.size a2 n2 c2 z2) (a3 : Int) (_w3 : (Lit.int .i64 a3).wf = true) :
    Calls Try.prog 6 #[.int .i64 a0, .int .i64 a1, .slice a2 n2 c2, .int .i64 a3] w fun e w' => e = .returned (.bool true) ∧ Below w.heap.size w w' := by
  by_cases hc : Ma.code a0 a1 z2 = 0
  · obtain ⟨l, r, rfl, rfl, _, _⟩ := Ma.code_nat hc
    by_cases hi : a3 < 0 ∨ (l : Int) ≤ a3
    · exact none_ w l r a2 n2 c2 z2 w2 a3 hc hi
    · obtain ⟨i, rfl⟩ : ∃ i : Nat, a3 = (i : Int) := ⟨a3.toNat, by omega⟩
      exact good w l r a2 n2 c2 z2 w2 i hc (by omega)
  · exact bad w a0 a1 a2 n2 c2 z2 w2 a3 hc

end Go.Proofs.Ytbegepdeaeplgaa.matchLeast
