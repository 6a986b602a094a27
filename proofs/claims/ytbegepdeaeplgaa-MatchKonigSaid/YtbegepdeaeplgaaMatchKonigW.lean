/-
  The walk of the law MatchKonig: for every two sides and lines it returns true.
-/
import Derived.Test.YtbegepdeaeplgaaMatchF
import Derived.Test.YtbegepdeaeplgaaRefTwo
import Derived.Test.YtbegepdeaeplgaaRefAll
namespace Go.Proofs.Ytbegepdeaeplgaa.matchKonig
open Go.RowKit Go.Shelf
set_option linter.unusedSimpArgs false
set_option linter.unusedVariables false

set_option maxRecDepth 100000 in
set_option maxHeartbeats 1000000 in
/-- something is wrong with the sides, or with the lines -/
theorem bad (w : World) (a0 a1 : Int) (a2 : Option Addr) (n2 c2 : Nat) (z2 : List Gr.Ln) (w2 : RdP w w.heap.size a2 n2 c2 z2)  (hc : Ma.code a0 a1 z2 ≠ 0) :
    Calls Try.prog 3 #[.int .i64 a0, .int .i64 a1, .slice a2 n2 c2] w fun e w' => e = .returned (.bool true) ∧ Below w.heap.size w w' := by
  have HN := Lib.hid hc
  clear hc
  go_enter Try.func3, Try.ntmps3
  go_wp2_with fail
  refine (matchFact_any _).mono ?_
  rintro e x1 ⟨rfl, hb1⟩
  have hb01 := hb1
  go_wp2_with fail
  refine (Most_err a0 a1 a2 n2 c2 z2 _ (w2.past hb01) HN.out).mono ?_
  rintro e x2 ⟨rfl, hb2⟩
  go_wp2
  go_ret
  exact ⟨rfl, hb01.trans (hb2.mono hb01.size)⟩

theorem contains_up (l : List Nat) (b : Nat) : (upL l).contains (b : Int) = l.contains b := by
  rw [Bool.eq_iff_iff, List.contains_iff_mem, List.contains_iff_mem]
  unfold upL
  rw [List.mem_map]
  constructor
  · rintro ⟨x, hx, e⟩
    obtain rfl : x = b := by omega
    exact hx
  · intro h
    exact ⟨b, h, rfl⟩
theorem cvl_has {z : List Gr.Ln} {l r i : Nat} (hi : i < l) : (upL (Ma.cvl z l r l)).contains (i : Int) = Ma.ess (Ma.gl z) l r i := by
  rw [contains_up, Bool.eq_iff_iff, List.contains_iff_mem]
  unfold Ma.cvl
  rw [List.mem_filter, List.mem_range]
  exact ⟨fun h => h.2, fun h => ⟨hi, h⟩⟩
theorem cvr_has {z : List Gr.Ln} {l r i j : Nat} (hi : i < l) (hj : j < r) (he : Ma.ess (Ma.gl z) l r i = false) (hg : Ma.gl z i j = true) : (upL (Ma.cvr z l r r)).contains (j : Int) = true := by
  rw [contains_up, List.contains_iff_mem]
  unfold Ma.cvr
  rw [List.mem_filter, List.mem_range]
  exact ⟨hj, Ma.nbr_iff.2 ⟨i, hi, by rw [he]; rfl, hg⟩⟩
theorem up_nodup (k : Nat) (f : Nat → Bool) : (upL ((List.range k).filter f)).Nodup := by
  unfold upL List.Nodup
  rw [List.pairwise_map]
  have h : ((List.range k).filter f).Nodup := List.nodup_range.sublist List.filter_sublist
  exact h.imp fun hne e => hne (by omega)
theorem up_in (k : Nat) (f : Nat → Bool) : ∀ d ∈ upL ((List.range k).filter f), (0 : Int) ≤ d ∧ d ≤ (k : Int) - 1 := by
  intro d hd
  unfold upL at hd
  obtain ⟨x, hx, rfl⟩ := List.mem_map.1 hd
  have := List.mem_range.1 (List.mem_filter.1 hx).1
  omega
theorem cover_len (z : List Gr.Ln) (l r : Nat) : (upL (Ma.cvl z l r l)).length + (upL (Ma.cvr z l r r)).length = Ma.nu (Ma.gl z) l r := by
  rw [upL_len, upL_len, ← Ma.cover_count]
  unfold Ma.cvl Ma.cvr Ma.cnt
  rw [List.countP_eq_length_filter, List.countP_eq_length_filter]

set_option maxRecDepth 100000 in
set_option maxHeartbeats 2000000 in
/-- nothing is wrong with them -/
theorem good (w : World) (l r : Nat) (a2 : Option Addr) (n2 c2 : Nat) (z2 : List Gr.Ln) (w2 : RdP w w.heap.size a2 n2 c2 z2) (hc : Ma.code (l : Int) (r : Int) z2 = 0) :
    Calls Try.prog 3 #[.int .i64 (l : Int), .int .i64 (r : Int), .slice a2 n2 c2] w fun e w' => e = .returned (.bool true) ∧ Below w.heap.size w w' := by
  have HN := Lib.hid hc
  have HX := Lib.hid w2.len
  have hz := Ma.code_zero.1 hc
  have hl6 : l ≤ 6 := by omega
  have hr6 : r ≤ 6 := by omega
  have hn24 : n2 ≤ 24 := by have := hz.2.2.2.2.1; rw [w2.len] at this; exact this
  have HGd := Lib.hid hz.2.2.2.2.2
  have hml := Ma.nu_le_left (Ma.gl z2) l r
  have hcl := cover_len z2 l r
  obtain ⟨mx, hmx⟩ : ∃ mx, mx = Ma.nu (Ma.gl z2) l r := ⟨_, rfl⟩
  rw [← hmx] at hcl hml
  have HMX := Lib.hid hmx
  clear hc hz hmx
  have l1 : IntKind.i64.wrap ((l : Int) - 1) = (l : Int) - 1 := by rw [IntKind.wrap_i64]; omega
  have l2 : IntKind.i64.wrap ((r : Int) - 1) = (r : Int) - 1 := by rw [IntKind.wrap_i64]; omega
  go_enter Try.func3, Try.ntmps3
  go_wp2_with fail
  refine (matchFact_any _).mono ?_
  rintro e x1 ⟨rfl, hb1⟩
  go_wp2_with fail
  refine (Most_ok l r a2 n2 c2 z2 _ (w2.past hb1) HN.out).mono ?_
  rintro e x2 ⟨rfl, hb2⟩
  rw [← HMX.out]
  have hb02 : Below w.heap.size w x2 := hb1.trans (hb2.mono hb1.size)
  clear hb1 hb2
  go_wp2_with fail
  refine (Cover_ok l r a2 n2 c2 z2 _ (w2.past hb02) HN.out).mono ?_
  rintro e x3 ⟨hb3, v1, v2, rfl, ho1, ho2⟩
  have hb03 : Below w.heap.size w x3 := hb02.trans (hb3.mono hb02.size)
  obtain ⟨A1, c1, rfl, rc1⟩ := ho1.rd
  obtain ⟨A2, c3, rfl, rd1⟩ := ho2.rd
  obtain ⟨n1, hn1⟩ : ∃ n1, n1 = (upL (Ma.cvl z2 l r l)).length := ⟨_, rfl⟩
  obtain ⟨n3, hn3⟩ : ∃ n3, n3 = (upL (Ma.cvr z2 l r r)).length := ⟨_, rfl⟩
  rw [← hn1] at rc1 hcl ⊢
  rw [← hn3] at rd1 hcl ⊢
  clear ho1 ho2 hn1 hn3 hb3 hb02
  have hcI : (n1 : Int) + (n3 : Int) = (mx : Int) := by omega
  have e1 : IntKind.i64.wrap ((n1 : Int) + (n3 : Int)) = (n1 : Int) + (n3 : Int) := by rw [IntKind.wrap_i64]; omega
  have e2 : ((n1 : Int) + (n3 : Int) != (mx : Int)) = false := by simpa using hcI
  clear hcl hcI
  go_wp2_with fail
  refine (Twice_no A1 n1 c1 _ _ rc1 (up_nodup l _)).mono ?_
  rintro e x4 ⟨rfl, hb4⟩
  have rc4 := rc1.past hb4
  have rd4 := rd1.past hb4
  go_wp2_with fail
  refine (Twice_no A2 n3 c3 _ _ rd4 (up_nodup r _)).mono ?_
  rintro e x5 ⟨rfl, hb5⟩
  have rc5 := rc4.past hb5
  have rd5 := rd4.past hb5
  have hb35 : Below x3.heap.size x3 x5 := hb4.trans (hb5.mono hb4.size)
  have hb05 : Below w.heap.size w x5 := hb03.trans (hb35.mono hb03.size)
  clear rc1 rd1 rc4 rd4 hb4 hb5 hb35 hb03 e1 e2
  go_wp2_with fail
  refine (All_in A1 n1 c1 _ 0 ((l : Int) - 1) _ rc5 (up_in l _)).mono ?_
  rintro e y1 ⟨rfl, rfl⟩
  go_wp2_with fail
  refine (All_in A2 n3 c3 _ 0 ((r : Int) - 1) _ rd5 (up_in r _)).mono ?_
  rintro e y2 ⟨rfl, rfl⟩
  have hr5 := w2.past hb05
  go_wp2
  go_loop [12] (fun iv => ∃ k : Nat, k ≤ n2 ∧ iv = .int .i64 (k : Int)) (fun iv => n2 - (intOf iv).toNat)
  case atStart => exact ⟨0, Nat.zero_le _, rfl⟩
  case round =>
    obtain ⟨k, hk, rfl⟩ := hrel
    by_cases hlt : k < n2
    · obtain ⟨b1, o1, rfl, hbb, hcc⟩ := hr5.at_ (by omega)
      obtain ⟨g1, g2⟩ := hcc k hlt
      clear hcc
      have hkl : k < z2.length := by rw [HX.out]; exact hlt
      have hm : z2.getD k (0, 0) ∈ z2 := by simp [List.getD, hkl]
      have hgd := HGd.out _ hm
      unfold Ma.Good at hgd
      obtain ⟨⟨p, q⟩, hp⟩ : ∃ p, p = z2.getD k (0, 0) := ⟨_, rfl⟩
      rw [← hp] at g1 g2 hm hgd
      simp only at g1 g2 hgd
      obtain ⟨i, rfl⟩ : ∃ i : Nat, p = (i : Int) := ⟨p.toNat, by omega⟩
      obtain ⟨j, rfl⟩ : ∃ j : Nat, q = (j : Int) := ⟨q.toNat, by omega⟩
      have hi : i < l := by omega
      have hj : j < r := by omega
      have hgl : Ma.gl z2 i j = true := Gr.has_iff.2 hm
      clear hm hgd hp hkl
      have k1 : (0 : Int) ≤ (k : Int) := by omega
      have k2 : (k : Int) < (n2 : Int) := by omega
      cases he : Ma.ess (Ma.gl z2) l r i with
      | true =>
        have HT : Hid ((upL (Ma.cvl z2 l r l)).contains (i : Int) = true) := by show _ = _; rw [cvl_has hi, he]
        clear he hgl
        go_wp2_with fail
        refine (Has_any A1 n1 c1 _ (i : Int) true _ rc5 HT.out).mono ?_
        rintro e x7 ⟨rfl, rfl⟩
        go_wp2
        go_round
        case rel => exact ⟨k + 1, by omega, by go_num⟩
        case measure => simp [intOf]; omega
      | false =>
        have HT : Hid ((upL (Ma.cvl z2 l r l)).contains (i : Int) = false) := by show _ = _; rw [cvl_has hi, he]
        have HT2 : Hid ((upL (Ma.cvr z2 l r r)).contains (j : Int) = true) := cvr_has hi hj he hgl
        clear he hgl
        go_wp2_with fail
        refine (Has_any A1 n1 c1 _ (i : Int) false _ rc5 HT.out).mono ?_
        rintro e x7 ⟨rfl, rfl⟩
        go_wp2_with fail
        refine (Has_any A2 n3 c3 _ (j : Int) true _ rd5 HT2.out).mono ?_
        rintro e x7 ⟨rfl, rfl⟩
        go_wp2
        go_round
        case rel => exact ⟨k + 1, by omega, by go_num⟩
        case measure => simp [intOf]; omega
    · obtain rfl : k = n2 := by omega
      go_wp2
      go_ret
      exact ⟨rfl, hb05⟩

theorem walk (w : World) (a0 : Int) (_w0 : (Lit.int .i64 a0).wf = true) (a1 : Int) (_w1 : (Lit.int .i64 a1).wf = true) (a2 : Option Addr) (n2 c2 : Nat) (z2 : List Gr.Ln) (w2 : RdP w w.heap.size a2 n2 c2 z2) :
    Calls Try.prog 3 #[.int .i64 a0, .int .i64 a1, .slice a2 n2 c2] w fun e w' => e = .returned (.bool true) ∧ Below w.heap.size w w' := by
  by_cases hc : Ma.code a0 a1 z2 = 0
  · obtain ⟨l, r, rfl, rfl, _, _⟩ := Ma.code_nat hc
    exact good w l r a2 n2 c2 z2 w2 hc
  · exact bad w a0 a1 a2 n2 c2 z2 w2 hc

end Go.Proofs.Ytbegepdeaeplgaa.matchKonig
