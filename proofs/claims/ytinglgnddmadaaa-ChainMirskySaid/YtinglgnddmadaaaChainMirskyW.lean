/-
  The walk of the law ChainMirsky: for every number of points and lines it returns true.
-/
import Derived.Test.YtinglgnddmadaaaChainF
import Derived.Test.YtinglgnddmadaaaRefRis
import Derived.Test.YtinglgnddmadaaaIn2
import Derived.BigQuiet
namespace Go.Proofs.Ytinglgnddmadaaa.chainMirsky
open Go.RowKit
set_option linter.unusedSimpArgs false
set_option linter.unusedVariables false

theorem Rising_rd (A : Option Addr) (m c : Nat) (zs : List Int) (w : World) (hr : Rd w w.heap.size A m c zs) (hl : zs.length = m) (hm : m ≤ 1000) :
    Calls Try.prog 13 #[.slice A m c] w fun e w' => ∃ A1 c1 r, e = .returned (.slice A1 m c1) ∧ Rd w' w'.heap.size A1 m c1 r ∧ Hid (r.Pairwise (· ≤ ·) ∧ r.Perm zs) ∧ Below w.heap.size w w' := by
  refine (RefR.Rising_any A m c zs w hr hm).mono ?_
  rintro e w' ⟨v, r, rfl, hown, h1, h2, hb⟩
  obtain ⟨A1, c1, rfl, hrd⟩ := hown.rd
  have e1 : r.length = m := by rw [h2.length_eq, hl]
  rw [e1] at hrd ⊢
  exact ⟨A1, c1, r, rfl, hrd, ⟨h1, h2⟩, hb⟩
theorem crow_get {n : Nat} {ls : List Gr.Ln} {a k : Nat} (hk : k < (Cl.crow n ls a).length) : ∃ b : Nat, (Cl.crow n ls a).getD k 0 = (b : Int) ∧ b < n ∧ To.comes n ls a b = true := by
  have : (Cl.crow n ls a).getD k 0 ∈ Cl.crow n ls a := by simp [List.getD, hk]
  exact Cl.mem_crow this

/-- what stands still while the rows are looked at -/
structure My (w : World) (b2 o2 c2 b3 o3 c3 m : Nat) (A : Option Addr) (n c : Nat) (ls : List Gr.Ln) (W : World) : Prop where
  dp : Rd W W.heap.size (some ⟨b2, o2, none⟩) m c2 (To.deps m ls)
  rw : RdR W W.heap.size (some ⟨b3, o3, none⟩) m c3 (Cl.crows m ls)
  ln : RdP W W.heap.size A n c ls
  bel : Below w.heap.size w W
theorem My.past {w W W' : World} {b2 o2 c2 b3 o3 c3 m n c : Nat} {A : Option Addr} {ls : List Gr.Ln} (h : My w b2 o2 c2 b3 o3 c3 m A n c ls W) (hb : Below W.heap.size W W') : My w b2 o2 c2 b3 o3 c3 m A n c ls W' :=
  ⟨h.dp.past hb, h.rw.past hb, h.ln.past hb, h.bel.trans (hb.mono h.bel.size)⟩
theorem My.row {w W : World} {b2 o2 c2 b3 o3 c3 m n c : Nat} {A : Option Addr} {ls : List Gr.Ln} (h : My w b2 o2 c2 b3 o3 c3 m A n c ls W) {a : Nat} (ha : a < m) : ∃ A' c', W.cell? ⟨b3, o3 + a, none⟩ = some (.slice A' (Cl.crow m ls a).length c') ∧ Rd W W.heap.size A' (Cl.crow m ls a).length c' (Cl.crow m ls a) := by
  obtain ⟨b', o', e, _, hc⟩ := h.rw.at_ (show 0 < m by omega)
  cases e
  obtain ⟨A', c', h1, h2⟩ := hc a ha
  rw [Cl.crows_at ls ha] at h1 h2
  exact ⟨A', c', h1, h2⟩
theorem My.deep {w W : World} {b2 o2 c2 b3 o3 c3 m n c : Nat} {A : Option Addr} {ls : List Gr.Ln} (h : My w b2 o2 c2 b3 o3 c3 m A n c ls W) {a : Nat} (ha : a < m) : W.cell? ⟨b2, o2 + a, none⟩ = some (.int .i64 (To.dpF ls m (a : Int) : Int)) := by
  obtain ⟨b', o', e, _, hc⟩ := h.dp.at_ (show 0 < m by omega)
  cases e
  have := hc a ha
  rw [To.deps_at ls ha] at this
  exact this

set_option maxRecDepth 100000 in
set_option maxHeartbeats 1000000 in
/-- something is wrong, or there is no order -/
theorem bad (w : World) (a0 : Int) (a1 : Option Addr) (n1 c1 : Nat) (z1 : List Gr.Ln) (w1 : RdP w w.heap.size a1 n1 c1 z1) (k : Int) (hk : Cn.Wrong a0 z1 k) :
    Calls Try.prog 4 #[.int .i64 a0, .slice a1 n1 c1] w fun e w' => e = .returned (.bool true) ∧ Below w.heap.size w w' := by
  go_enter Try.func4, Try.ntmps4
  go_wp2_with fail
  refine (chainFact_any _).mono ?_
  rintro e x1 ⟨rfl, b1⟩
  go_wp2_with fail
  refine (Longest_wrong a0 a1 n1 c1 z1 k _ (w1.past b1) hk).mono ?_
  rintro e x2 ⟨rfl, b2⟩
  go_wp2
  go_ret
  exact ⟨rfl, b1.trans (b2.mono b1.size)⟩

set_option maxRecDepth 100000 in
set_option maxHeartbeats 4000000 in
/-- there is an order -/
theorem good (w : World) (m d u : Nat) (x : Int) (a1 : Option Addr) (n1 c1 : Nat) (z1 : List Gr.Ln) (o : List Int) (w1 : RdP w w.heap.size a1 n1 c1 z1) (h : Cn.Fine m z1 o) (hd : To.Top m z1 d) (hx : x = (d : Int) + 1) (hu : m = u + 1)
    (hend : (6 < m) ∨ (m ≤ 6 ∧ ∃ s t : Int, s + (Ma.nu (To.comes m z1) m m : Nat) = (m : Int) ∧ IntKind.i64.wrap (x * s) = t ∧ (m : Int) ≤ t)) :
    Calls Try.prog 4 #[.int .i64 (m : Int), .slice a1 n1 c1] w fun e w' => e = .returned (.bool true) ∧ Below w.heap.size w w' := by
  have hm8 := h.le8
  have hm1 := h.pos
  have hdm := (h.only hd).1
  have hwx : IntKind.i64.wrap ((d : Int) + 1) = x := by rw [IntKind.wrap_i64]; omega
  have hwu : IntKind.i64.wrap ((m : Int) - 1) = (u : Int) := by rw [IntKind.wrap_i64]; omega
  have u1 : (0 : Int) ≤ (u : Int) := by omega
  have u2 : (u : Int) < (m : Int) := by omega
  have HU := Lib.hid hu
  have HX := Lib.hid hx
  have H := Lib.hid h
  have HD := Lib.hid hd
  have HE := Lib.hid hend
  have HML : Hid (∀ r : List Int, (r.Pairwise (· ≤ ·) ∧ r.Perm (To.deps m z1)) → r.getD u 0 = (d : Int)) := fun r hr => by
    obtain ⟨e, h1, _, h3⟩ := To.top_deps h.good h.step h.len hr.1 hr.2 (by omega)
    rw [show m - 1 = u by omega] at h1
    rw [h1, h3.unique hd]
  clear h hd hx hu hend hdm
  go_enter Try.func4, Try.ntmps4
  go_wp2_with fail
  refine (chainFact_any _).mono ?_
  rintro e x1 ⟨rfl, b1⟩
  have r1 := w1.past b1
  go_wp2_with fail
  refine (Longest_yes m d x a1 n1 c1 z1 o _ r1 H.out HD.out HX.out).mono ?_
  rintro e x2 ⟨rfl, b2'⟩
  have b2 := b1.trans (b2'.mono b1.size)
  have r2 := w1.past b2
  clear r1 b1 b2'
  go_wp2_with fail
  refine (Deep_yes m a1 n1 c1 z1 o _ r2 H.out.code H.out.step H.out.len).mono ?_
  rintro e x3 ⟨A2, c2, rfl, q3, b3'⟩
  have b3 := b2.trans (b3'.mono b2.size)
  have r3 := w1.past b3
  clear r2 b2 b3'
  go_wp2_with fail
  refine (All_yes m a1 n1 c1 z1 _ r3 H.out.code).mono ?_
  rintro e x4 ⟨A3, c3, rfl, p4, b4'⟩
  have b4 := b3.trans (b4'.mono b3.size)
  have q4 := q3.past b4'
  have r4 := w1.past b4
  clear r3 b3 b4' q3
  go_wp2_with fail
  refine (Rising_rd A2 m c2 _ _ q4 (To.deps_len m z1) (by omega)).mono ?_
  rintro e x5 ⟨A4, c4, r, rfl, s5, HR, b5'⟩
  obtain ⟨b2, o2, rfl, _, _⟩ := q4.at_ (by omega)
  obtain ⟨b3, o3, rfl, _, _⟩ := p4.at_ (by omega)
  have HM : My w b2 o2 c2 b3 o3 c3 m a1 n1 c1 z1 x5 := ⟨q4.past b5', p4.past b5', r4.past b5', b4.trans (b5'.mono b4.size)⟩
  obtain ⟨bq, oq, rfl, _, hc4⟩ := s5.at_ (by omega)
  have g4 := hc4 u (by omega)
  rw [HML.out r HR.out] at g4
  clear hc4 s5 HR q4 p4 r4 b4 b5' w1 HML
  go_wp2
  clear g4
  go_loopw [13, 14, 15] (fun iv _ _ wr => ∃ i : Nat, i ≤ m ∧ iv = .int .i64 (i : Int) ∧ My w b2 o2 c2 b3 o3 c3 m a1 n1 c1 z1 wr) (fun iv _ _ _ => m - (intOf iv).toNat)
  case atStart => exact ⟨0, Nat.zero_le _, rfl, HM⟩
  case round =>
    clear HM
    obtain ⟨i, hi, rfl, HM⟩ := hrel
    by_cases hlt : i < m
    · have i1 : (0 : Int) ≤ (i : Int) := by omega
      have i2 : (i : Int) < (m : Int) := by omega
      obtain ⟨N, hN⟩ : ∃ N, N = (Cl.crow m z1 i).length := ⟨_, rfl⟩
      have HN := Lib.hid hN
      have hN8 : N ≤ 8 := by have := Cl.crow_len m z1 i; omega
      clear hN
      go_wp2
      go_loopw [14, 15] (fun kv _ wr => ∃ k : Nat, k ≤ N ∧ kv = .int .i64 (k : Int) ∧ My w b2 o2 c2 b3 o3 c3 m a1 n1 c1 z1 wr) (fun kv _ _ => N - (intOf kv).toNat)
      case atStart => exact ⟨0, Nat.zero_le _, rfl, HM⟩
      case round =>
        clear HM
        obtain ⟨k, hk, rfl, HM⟩ := hrel
        obtain ⟨A', c', g3, hrow⟩ := HM.row hlt
        rw [← HN.out] at g3 hrow
        by_cases hlk : k < N
        · obtain ⟨j, hj1, hjm, hway⟩ := crow_get (n := m) (ls := z1) (a := i) (k := k) (by rw [← HN.out]; exact hlk)
          obtain ⟨b5, o5, rfl, hb5, hc5⟩ := hrow.at_ (by omega)
          have g5 := hc5 k hlk
          rw [hj1] at g5
          have hdeep := Cn.deeper H.out.good H.out.step H.out.len hlt hway
          have gi := HM.deep hlt
          have gj := HM.deep hjm
          obtain ⟨p, hp⟩ : ∃ p : Int, p = (To.dpF z1 m (i : Int) : Int) := ⟨_, rfl⟩
          obtain ⟨q, hq⟩ : ∃ q : Int, q = (To.dpF z1 m (j : Int) : Int) := ⟨_, rfl⟩
          have hpq : p < q := by omega
          rw [← hp] at gi
          rw [← hq] at gj
          have k1 : (0 : Int) ≤ (k : Int) := by omega
          have k2 : (k : Int) < (N : Int) := by omega
          have j1 : (0 : Int) ≤ (j : Int) := by omega
          have j2 : (j : Int) < (m : Int) := by omega
          have j3 : (j : Int) ≤ (u : Int) := by have := HU.out; omega
          clear hc5 hj1 hway hdeep hp hq
          go_wp2
          go_quiet (first | (go_at_call 9; exact Calls.quiet_of_same ((in2_yes _ _ _ _ j1 j3).mono fun _ _ h => ⟨h.1, h.2.symm⟩)))
          go_wp2
          go_roundw
          case rel => exact ⟨k + 1, by omega, by go_num, HM.past (Below.drewN' _ _ _)⟩
          case measure => simp [intOf]; omega
        · clear hrow
          go_wp2
          go_roundw
          case rel => exact ⟨i + 1, by omega, by go_num, HM⟩
          case measure => simp [intOf]; omega
    · rcases HE.out with h6 | ⟨h6, s, t, hs, ht, hmt⟩
      · have k1 : (6 : Int) < (m : Int) := by omega
        go_wp2_with fail
        refine (Widest_full m a1 n1 c1 z1 o _ HM.ln H.out h6).mono ?_
        rintro e x6 ⟨rfl, b6⟩
        go_wp2
        go_ret
        exact ⟨rfl, (HM.past b6).bel⟩
      · have HS := Lib.hid hs
        clear hs
        go_wp2_with fail
        refine (Widest_yes m s a1 n1 c1 z1 o _ HM.ln H.out h6 HS.out).mono ?_
        rintro e x6 ⟨rfl, b6⟩
        go_wp2
        go_ret
        exact ⟨rfl, (HM.past b6).bel⟩

theorem walk (w : World) (a0 : Int) (w0 : (Lit.int .i64 a0).wf = true) (a1 : Option Addr) (n1 c1 : Nat) (z1 : List Gr.Ln) (w1 : RdP w w.heap.size a1 n1 c1 z1) :
    Calls Try.prog 4 #[.int .i64 a0, .slice a1 n1 c1] w fun e w' => e = .returned (.bool true) ∧ Below w.heap.size w w' := by
  rcases Cn.wrong_or_fine a0 z1 with ⟨k, hk⟩ | ⟨m, o, rfl, h⟩
  · exact bad w a0 a1 n1 c1 z1 w1 k hk
  · obtain ⟨d, hdm, hd, _, hle⟩ := h.top
    have hm8 := h.le8
    have hm1 := h.pos
    refine good w m d (m - 1) ((d : Int) + 1) a1 n1 c1 z1 o w1 h hd rfl (by omega) ?_
    rcases Nat.lt_or_ge 6 m with h6 | h6
    · exact .inl h6
    · refine .inr ⟨h6, _, ((d : Int) + 1) * ((m : Int) - (Ma.nu (To.comes m z1) m m : Nat)), (by omega : ((m : Int) - (Ma.nu (To.comes m z1) m m : Nat)) + (Ma.nu (To.comes m z1) m m : Nat) = (m : Int)), ?_, ?_⟩
      all_goals
        have hnu := h.nu_lt
        have hlay := Cn.layers h.str (D := fun i => To.dpF z1 m (i : Int)) (fun a b ha _ hg => Cn.deeper h.good h.step h.len ha hg) (L := d + 1) (fun i hi => by have := hle i hi; omega)
        obtain ⟨s, hs⟩ : ∃ s, s = m - Ma.nu (To.comes m z1) m m := ⟨_, rfl⟩
        have es : ((m : Int) - (Ma.nu (To.comes m z1) m m : Nat)) = (s : Int) := by omega
        have e1 : ((d : Int) + 1) * (s : Int) = (((d + 1) * s : Nat) : Int) := by push_cast; rfl
        have hb : (d + 1) * s ≤ 8 * 8 := Nat.mul_le_mul (by omega) (by omega)
        rw [← hs] at hlay
        rw [es, e1]
      · rw [IntKind.wrap_i64]; omega
      · omega

end Go.Proofs.Ytinglgnddmadaaa.chainMirsky
