/-
  The contract of slices.Compact at a slice of lines that the caller owns: the same lines without repeats of neighbours. No statement of the program is proved here; there is no condition.
-/
import Derived.Test.YtcapinapfobcbaaDoorStrongP
import Derived.Test.YtcapinapfobcbaaDoorGraphA
import Derived.Test.YtcapinapfobcbaaDoorLibP
import Derived.BigQuiet
import Derived.Laws.IdiomCopy
import Derived.Maps.AppendAt
import Derived.RangeFuncBox
namespace Go.Proofs.YtcapinapfobcbaaDoor
open Go.RowKit

set_option linter.unusedSimpArgs false
set_option linter.unusedVariables false

/-! ### cells of an owned slice of lines -/
section
variable {w : World} {base e g n cap : Nat} {ps : List (Int × Int)}
theorem OwnP.cap_le (h : OwnP w base e (.slice (some ⟨g, 0, none⟩) n cap) ps) : n ≤ cap ∧ cap ≤ 9223372036854775807 ∧ g < w.heap.size := by
  obtain ⟨A', c', he, hr⟩ := h.rd
  simp only [Value.slice.injEq] at he
  obtain ⟨rfl, rfl, rfl⟩ := he
  refine ⟨hr.le, hr.cap, ?_⟩
  rcases h.2 with ⟨h2, _⟩ | ⟨g', cap', cur, h2, hb, hg, _⟩
  · cases h2
  · simp only [Value.slice.injEq, Option.some.injEq, Addr.mk.injEq] at h2
    obtain ⟨⟨rfl, _⟩, _⟩ := h2
    exact (Array.getElem?_eq_some_iff.1 hg).1
theorem OwnP.c1 (h : OwnP w base e (.slice (some ⟨g, 0, none⟩) n cap) ps) {k : Nat} (hk : k < n) : w.cell? ⟨g, k * 2, none⟩ = some (.int .i64 (ps.getD k (0, 0)).1) := by
  have hl := h.len
  subst hl
  rw [World.ownsRow.cellAt (w := w) h (k * 2) (by omega), pcells_fst ps k hk]
theorem OwnP.c2 (h : OwnP w base e (.slice (some ⟨g, 0, none⟩) n cap) ps) {k : Nat} (hk : k < n) : w.cell? ⟨g, k * 2 + 1, none⟩ = some (.int .i64 (ps.getD k (0, 0)).2) := by
  have hl := h.len
  subst hl
  rw [World.ownsRow.cellAt (w := w) h (k * 2 + 1) (by omega), pcells_snd ps k hk]
theorem OwnP.fz (h : OwnP w base e (.slice (some ⟨g, 0, none⟩) n cap) ps) (j : Nat) : w.frozen? ⟨g, j, none⟩ = false := by
  have hl := h.len
  subst hl
  exact World.ownsRow.frozenAt (w := w) h j
theorem pcells_put (a b : Int) : ∀ (ps : List (Int × Int)) (k : Nat), ((pcells ps).set (k * 2) (.int .i64 a)).set (k * 2 + 1) (.int .i64 b) = pcells (ps.set k (a, b))
  | [], k => by simp [pcells]
  | p :: ps, 0 => by simp [pcells]
  | p :: ps, k + 1 => by
    have := pcells_put a b ps k
    rw [show (k + 1) * 2 = k * 2 + 1 + 1 by omega]
    simp [pcells, this]
theorem OwnP.put (h : OwnP w base e (.slice (some ⟨g, 0, none⟩) n cap) ps) (k : Nat) (a b : Int) :
    OwnP ((w.setCell ⟨g, k * 2, none⟩ (.int .i64 a)).setCell ⟨g, k * 2 + 1, none⟩ (.int .i64 b)) base e (.slice (some ⟨g, 0, none⟩) n cap) (ps.set k (a, b)) ∧
    w.grownBy ((w.setCell ⟨g, k * 2, none⟩ (.int .i64 a)).setCell ⟨g, k * 2 + 1, none⟩ (.int .i64 b)) (some g) := by
  have hl := h.len
  subst hl
  obtain ⟨s1, s2⟩ := World.ownsRow.stored (w := w) h (k * 2) (.int .i64 a)
  obtain ⟨s3, s4⟩ := World.ownsRow.stored s1 (k * 2 + 1) (.int .i64 b)
  rw [pcells_put] at s3
  refine ⟨?_, s2.trans s4⟩
  unfold OwnP
  rw [List.length_set]
  exact s3
end

theorem grown_setAt (W : World) (g o : Nat) (v : Value) : W.grownBy (W.setCell ⟨g, o, none⟩ v) (some g) :=
  ⟨rfl, rfl, rfl, (KeepsWalks.setCell W ⟨g, o, none⟩ v).size, fun k _ hne => Below.heap_setCell W ⟨g, o, none⟩ v k (fun e => hne (by rw [e]))⟩
theorem grown_setCells (g : Nat) : ∀ (vs : List Value) (o : Nat) (w : World), w.grownBy (w.setCells g o vs) (some g)
  | [], _, w => World.grownBy.refl w _
  | v :: r, o, w => (grown_setAt w g o v).trans (grown_setCells g r (o + 1) _)

/-- 'clear(s)' at a slice of lines -/
theorem run_clearP {P : Program} (w : World) (t e ty : TypeId) (ht : P.underlying t = some (.slice e)) (hv : ∀ w, (zeroValue e).run P w = .ok (.agg #[.int .i64 0, .int .i64 0]) w) (b o n c : Nat) (hn : 0 < n)
    (hc : ∀ j, j < n * 2 → (w.cell? ⟨b, o + j, none⟩).isSome = true) (hf : ∀ j, j < n * 2 → w.frozen? ⟨b, o + j, none⟩ = false) :
    (Builtin.clear_ #[t] ty #[.slice (some ⟨b, o, none⟩) n c]).run P w = .ok (.tuple #[]) (w.setCells b o (List.replicate (n * 2) (.int .i64 0))) := by
  have hzc : (Builtin.zeroCells (Value.agg #[.int .i64 0, .int .i64 0]).cells n).toList = List.replicate (n * 2) (.int .i64 0) := by
    rw [show (Value.agg #[.int .i64 0, .int .i64 0]).cells = #[.int .i64 0, .int .i64 0] from rfl]
    apply List.ext_getElem
    · simp [Builtin.zeroCells]
    · intro i h1 h2
      have hm : i % 2 = 0 ∨ i % 2 = 1 := by omega
      rcases hm with hm | hm <;> simp [Builtin.zeroCells, hm]
  have hst := run_storeCells_cells (P := P) b o (List.replicate (n * 2) (.int .i64 0)) 0 w (by simpa using hc) (by simpa using hf) (by intro v hv'; rw [List.eq_of_mem_replicate hv']; rfl)
  simp only [Nat.add_zero] at hst
  obtain ⟨m, rfl⟩ : ∃ m, n = m + 1 := ⟨n - 1, by omega⟩
  simp [Builtin.clear_, run_underlying ht, hv, hzc, hst]

/-! ### what has been looked at -/
/-- m places have been looked at; what is kept of them, k lines, lies at the front; from place m - 1 on all is as it was -/
structure CpI (os : List Gr.Ln) (m k : Nat) (zs : List Gr.Ln) : Prop where
  len : zs.length = os.length
  cnt : (Sg.cpt os m).length = k
  lt : k < m
  front : zs.take k = Sg.cpt os m
  back : ∀ i, k ≤ i → zs.getD i (0, 0) = os.getD i (0, 0)
theorem cpt_all {os : List Gr.Ln} : ∀ k, k ≤ os.length → (∀ j, 0 < j → j < k → os.getD j (0, 0) ≠ os.getD (j - 1) (0, 0)) → Sg.cpt os k = os.take k
  | 0, _, _ => rfl
  | k + 1, hk, h => by
    have ih := cpt_all k (by omega) (fun j h1 h2 => h j h1 (by omega))
    have hk' : k < os.length := by omega
    rw [List.take_succ_eq_append_getElem hk', ← ih]
    have e : os.getD k (0, 0) = os[k] := by simp [List.getD, hk']
    by_cases h0 : 0 < k
    · rw [Sg.cpt_hit (h k h0 (by omega)), e]
    · obtain rfl : k = 0 := by omega
      rw [Sg.cpt_one, e]
      rfl
theorem CpI.start {os : List Gr.Ln} {k : Nat} (hk : 0 < k) (hl : k < os.length) (hall : Sg.cpt os k = os.take k) (hd : os.getD k (0, 0) = os.getD (k - 1) (0, 0)) : CpI os (k + 1) k os where
  len := rfl
  cnt := by rw [Sg.cpt_miss hk hd, hall]; simp; omega
  lt := Nat.lt_succ_self _
  front := by rw [Sg.cpt_miss hk hd, hall]
  back := fun _ _ => rfl
theorem CpI.skip {os zs : List Gr.Ln} {m k : Nat} (h : CpI os m k zs) (hd : os.getD m (0, 0) = os.getD (m - 1) (0, 0)) : CpI os (m + 1) k zs where
  len := h.len
  cnt := by rw [Sg.cpt_miss (by have := h.lt; omega) hd]; exact h.cnt
  lt := by have := h.lt; omega
  front := by rw [Sg.cpt_miss (by have := h.lt; omega) hd]; exact h.front
  back := h.back
theorem CpI.keep {os zs : List Gr.Ln} {m k : Nat} (h : CpI os m k zs) (hm : m < os.length) (hd : os.getD m (0, 0) ≠ os.getD (m - 1) (0, 0)) : CpI os (m + 1) (k + 1) (zs.set k (os.getD m (0, 0))) where
  len := by rw [List.length_set]; exact h.len
  cnt := by rw [Sg.cpt_hit hd, List.length_append, h.cnt]; rfl
  lt := by have := h.lt; omega
  front := by
    have hk : k < zs.length := by rw [h.len]; have := h.lt; omega
    rw [Sg.cpt_hit hd, ← h.front, List.take_succ_eq_append_getElem (by rw [List.length_set]; exact hk), List.take_set_of_le (Nat.le_refl _)]
    simp
  back := fun i hi => by
    have : ¬ k = i := by omega
    rw [← h.back i (by omega)]
    simp [List.getD, List.getElem?_set, this]

theorem Compact_short (A : Option Addr) (n c : Nat) (os : List Gr.Ln) (w : World) (hr : RdP w w.heap.size A n c os) (h : n < 2) :
    Calls Tryd.prog 29 #[.slice A n c] w fun e w' => e = .returned (.slice A n c) ∧ Sg.cpt os n = os ∧ w = w' := by
  have hl := hr.len
  have hfin : Hid (Sg.cpt os n = os) := by
    show _ = _
    rw [cpt_all n (by omega) (fun j h1 h2 => by omega), ← hl, List.take_length]
  have hbig := hr.big
  clear hl hr
  go_enter Tryd.func29, Tryd.ntmps29
  go_wp2
  go_ret
  exact ⟨rfl, hfin.out, rfl⟩

set_option maxRecDepth 100000 in
set_option maxHeartbeats 4000000 in
theorem Compact_own (base g cap n : Nat) (os : List Gr.Ln) (w : World) (hn : os.length = n) (hown : OwnP w base 28 (.slice (some ⟨g, 0, none⟩) n cap) os) (h2 : 2 ≤ n) (h24 : n ≤ 1048576) :
    Calls Tryd.prog 29 #[.slice (some ⟨g, 0, none⟩) n cap] w fun e w' => ∃ L, e = .returned (.slice (some ⟨g, 0, none⟩) L cap) ∧ RdP w' w'.heap.size (some ⟨g, 0, none⟩) L cap (Sg.cpt os n) ∧ w.grownBy w' (some g) := by
  have HN := Lib.hid hn
  clear hn
  obtain ⟨hcap, hcm, _⟩ := hown.cap_le
  go_enter Tryd.func29, Tryd.ntmps29
  go_wp2
  go_loopw [3] (fun kv wr => ∃ k : Nat, 1 ≤ k ∧ k ≤ n ∧ kv = .int .i64 (k : Int) ∧ OwnP wr base 28 (.slice (some ⟨g, 0, none⟩) n cap) os ∧ w.grownBy wr (some g) ∧ Hid (Sg.cpt os k = os.take k)) (fun kv _ => n - (intOf kv).toNat)
  case atStart => exact ⟨1, Nat.le_refl _, by omega, rfl, hown, World.grownBy.refl w _, by show _ = _; exact cpt_all 1 (by rw [HN.out]; omega) (fun j h1 h2 => by omega)⟩
  case round =>
    clear hown
    obtain ⟨k, hk1, hk, rfl, hown, hgr, HA⟩ := hrel
    by_cases hlt : k < n
    · obtain ⟨p, hp⟩ : ∃ p, p = k - 1 := ⟨_, rfl⟩
      have e1 : IntKind.i64.wrap ((k : Int) - 1) = (p : Int) := by rw [IntKind.wrap_i64]; omega
      have hpn : p < n := by omega
      have p1 : (0 : Int) ≤ (p : Int) := by omega
      have p2 : (p : Int) < (n : Int) := by omega
      have a1 := hown.c1 hlt
      have a2 := hown.c2 hlt
      have b1 := hown.c1 hpn
      have b2 := hown.c2 hpn
      obtain ⟨⟨x1, y1⟩, hx1⟩ : ∃ p, p = os.getD k (0, 0) := ⟨_, rfl⟩
      obtain ⟨⟨x0, y0⟩, hx0⟩ : ∃ q, q = os.getD p (0, 0) := ⟨_, rfl⟩
      rw [← hx1] at a1 a2
      rw [← hx0] at b1 b2
      rw [hp] at hx0
      have HX1 := Lib.hid hx1
      have HX0 := Lib.hid hx0
      have HP := Lib.hid hp
      clear hx1 hx0 hp
      simp only at a1 a2 b1 b2
      by_cases hx : x1 = x0
      · subst hx
        by_cases hy : y1 = y0
        · subst hy
          go_wp2
          go_quiet (fail)
          go_wp2
          have hS0 := Lib.hid (CpI.start (by omega) (by rw [HN.out]; exact hlt) HA.out (by rw [← HX1.out, ← HX0.out]))
          obtain ⟨nk, hnk⟩ : ∃ nk, nk = n - k := ⟨_, rfl⟩
          obtain ⟨ck, hck⟩ : ∃ ck, ck = cap - k := ⟨_, rfl⟩
          have hkn : k + nk = n := by omega
          rw [← hnk, ← hck]
          obtain ⟨W1, hW1⟩ : ∃ W1, W1 = wr.drewN nq := ⟨_, rfl⟩
          have hown1 : OwnP W1 base 28 (.slice (some ⟨g, 0, none⟩) n cap) os := by rw [hW1]; exact hown.drewN nq
          have hgr1 : w.grownBy W1 (some g) := by rw [hW1]; exact hgr.trans (grown_of_below (Below.drewN' _ _ _) _)
          rw [← hW1]
          have HCK := Lib.hid hck
          clear hW1 hown hgr a1 a2 b1 b2 e1 hnk hck p1 p2 HX1 HX0 HA
          go_loopw [3, 5] (fun kv jv W => ∃ (kk j : Nat) (zs : List Gr.Ln), kv = .int .i64 (kk : Int) ∧ jv = .int .i64 (j : Int) ∧ 1 ≤ j ∧ j ≤ nk ∧ OwnP W base 28 (.slice (some ⟨g, 0, none⟩) n cap) zs ∧ w.grownBy W (some g) ∧ Hid (CpI os (k + j) kk zs)) (fun _ jv _ => nk - (intOf jv).toNat)
          case atStart => exact ⟨k, 1, os, rfl, rfl, Nat.le_refl _, by omega, hown1, hgr1, hS0⟩
          case round =>
            clear hown1 hgr1 hS0
            obtain ⟨kk, j, zs, rfl, rfl, hj1, hj, hown, hgr, HI⟩ := hrel
            have hkk := HI.out.lt
            by_cases hjl : j < nk
            · obtain ⟨q, hq⟩ : ∃ q, q = j - 1 := ⟨_, rfl⟩
              have e1 : IntKind.i64.wrap ((j : Int) - 1) = (q : Int) := by rw [IntKind.wrap_i64]; omega
              have hqn : q < nk := by omega
              have q1 : (0 : Int) ≤ (q : Int) := by omega
              have q2 : (q : Int) < (nk : Int) := by omega
              have a1 := hown.c1 (k := k + j) (by omega)
              have a2 := hown.c2 (k := k + j) (by omega)
              have b1 := hown.c1 (k := k + q) (by omega)
              have b2 := hown.c2 (k := k + q) (by omega)
              rw [HI.out.back (k + j) (by omega), Nat.add_mul] at a1 a2
              rw [HI.out.back (k + q) (by omega), Nat.add_mul] at b1 b2
              obtain ⟨⟨x1, y1⟩, hx1⟩ : ∃ p, p = os.getD (k + j) (0, 0) := ⟨_, rfl⟩
              obtain ⟨⟨x0, y0⟩, hx0⟩ : ∃ p, p = os.getD (k + q) (0, 0) := ⟨_, rfl⟩
              rw [← hx1] at a1 a2
              rw [← hx0] at b1 b2
              rw [show k + q = k + j - 1 by omega] at hx0
              have HX1 := Lib.hid hx1
              have HX0 := Lib.hid hx0
              clear hx1 hx0 hq
              simp only at a1 a2 b1 b2
              have hkeep : (x1, y1) ≠ (x0, y0) → Hid (CpI os (k + (j + 1)) (kk + 1) (zs.set kk (x1, y1))) := fun hne => by
                have := HI.out.keep (by rw [HN.out]; omega) (by rw [← HX1.out, ← HX0.out]; exact hne)
                rw [← HX1.out] at this
                exact this
              by_cases hx : x1 = x0
              · subst hx
                by_cases hy : y1 = y0
                · subst hy
                  have HS : Hid (CpI os (k + (j + 1)) kk zs) := HI.out.skip (by rw [← HX1.out, ← HX0.out])
                  clear hkeep
                  go_wp2
                  go_quiet (fail)
                  go_wp2
                  go_roundw
                  case rel => exact ⟨kk, j + 1, zs, rfl, by go_num, by omega, by omega, hown.drewN _, hgr.trans (grown_of_below (Below.drewN' _ _ _) _), HS⟩
                  case measure => simp [intOf]; omega
                · have hd : (y1 == y0) = false := by simpa using hy
                  have HS := hkeep (by simp [hy])
                  clear hkeep hy
                  go_wp2
                  go_quiet (fail)
                  obtain ⟨W2, hW2⟩ : ∃ W2, W2 = wr.drewN nq := ⟨_, rfl⟩
                  have hown2 : OwnP W2 base 28 (.slice (some ⟨g, 0, none⟩) n cap) zs := by rw [hW2]; exact hown.drewN nq
                  have hgr2 : w.grownBy W2 (some g) := by rw [hW2]; exact hgr.trans (grown_of_below (Below.drewN' _ _ _) _)
                  have a1 : W2.cell? ⟨g, k * 2 + j * 2, none⟩ = some (.int .i64 x1) := by rw [hW2]; exact a1
                  have a2 : W2.cell? ⟨g, k * 2 + j * 2 + 1, none⟩ = some (.int .i64 y1) := by rw [hW2]; exact a2
                  rw [← hW2]
                  clear hW2 hown hgr b1 b2
                  have hkn2 : kk < n := by omega
                  have d1 := hown2.c1 hkn2
                  have d2 := hown2.c2 hkn2
                  have f1 := hown2.fz (kk * 2)
                  have f2 := hown2.fz (kk * 2 + 1)
                  obtain ⟨o1, o2⟩ := hown2.put kk x1 y1
                  go_wp2
                  go_roundw
                  case rel => exact ⟨kk + 1, j + 1, _, by go_num, by go_num, by omega, by omega, o1, hgr2.trans o2, HS⟩
                  case measure => simp [intOf]; omega
              · have hd : (x1 == x0) = false := by simpa using hx
                have HS := hkeep (by simp [hx])
                clear hkeep hx
                go_wp2
                go_quiet (fail)
                obtain ⟨W2, hW2⟩ : ∃ W2, W2 = wr.drewN nq := ⟨_, rfl⟩
                have hown2 : OwnP W2 base 28 (.slice (some ⟨g, 0, none⟩) n cap) zs := by rw [hW2]; exact hown.drewN nq
                have hgr2 : w.grownBy W2 (some g) := by rw [hW2]; exact hgr.trans (grown_of_below (Below.drewN' _ _ _) _)
                have a1 : W2.cell? ⟨g, k * 2 + j * 2, none⟩ = some (.int .i64 x1) := by rw [hW2]; exact a1
                have a2 : W2.cell? ⟨g, k * 2 + j * 2 + 1, none⟩ = some (.int .i64 y1) := by rw [hW2]; exact a2
                rw [← hW2]
                clear hW2 hown hgr b1 b2
                have hkn2 : kk < n := by omega
                have d1 := hown2.c1 hkn2
                have d2 := hown2.c2 hkn2
                have f1 := hown2.fz (kk * 2)
                have f2 := hown2.fz (kk * 2 + 1)
                obtain ⟨o1, o2⟩ := hown2.put kk x1 y1
                go_wp2
                go_roundw
                case rel => exact ⟨kk + 1, j + 1, _, by go_num, by go_num, by omega, by omega, o1, hgr2.trans o2, HS⟩
                case measure => simp [intOf]; omega
            · obtain rfl : j = nk := by omega
              have hfin := HI.out
              rw [hkn] at hfin
              have hkn2 : kk < n := by omega
              have hcl : ∀ ty, (Builtin.clear_ #[22] ty #[.slice (some ⟨g, kk * 2, none⟩) (n - kk) (cap - kk)]).run Tryd.prog wr = .ok (.tuple #[]) (wr.setCells g (kk * 2) (List.replicate ((n - kk) * 2) (.int .i64 0))) :=
                fun ty => run_clearP wr _ _ ty Tryd.underlying22 Tryd.zeroValue28 g (kk * 2) _ _ (by omega) (fun i hi => by
                  have h0 : (kk * 2 + i) / 2 < n := by omega
                  rcases Nat.mod_two_eq_zero_or_one (kk * 2 + i) with hm | hm
                  · rw [show kk * 2 + i = (kk * 2 + i) / 2 * 2 by omega, hown.c1 h0]; rfl
                  · rw [show kk * 2 + i = (kk * 2 + i) / 2 * 2 + 1 by omega, hown.c2 h0]; rfl) (fun i hi => hown.fz _)
              go_wp2
              go_ret
              refine ⟨kk, rfl, ?_, hgr.trans (grown_setCells _ _ _ _)⟩
              have hl := hfin.len
              refine ⟨hfin.cnt, by omega, hcm, fun e => (by cases e), fun h0 => ⟨g, 0, rfl, Nat.lt_of_lt_of_le hown.cap_le.2.2 (grown_setCells _ _ _ _).size, fun i hi => ⟨?_, ?_⟩⟩⟩
              · rw [World.cell?_setCells_out g _ _ _ _ (fun _ _ => .inl (by show 0 + i * 2 < _; omega)), Nat.zero_add, hown.c1 (by omega), ← hfin.front]
                simp [List.getD, hi]
              · rw [World.cell?_setCells_out g _ _ _ _ (fun _ _ => .inl (by show 0 + i * 2 + 1 < _; omega)), Nat.zero_add, hown.c2 (by omega), ← hfin.front]
                simp [List.getD, hi]
        · have hd : (y1 == y0) = false := by simpa using hy
          have HNX : Hid (Sg.cpt os (k + 1) = os.take (k + 1)) := by
            show _ = _
            have hk' : k < os.length := by rw [HN.out]; exact hlt
            rw [Sg.cpt_hit (by rw [← HX1.out, ← HX0.out]; simp [hy]), HA.out, List.take_succ_eq_append_getElem hk']
            simp [List.getD, hk']
          clear hy
          go_wp2
          go_quiet (fail)
          go_wp2
          go_roundw
          case rel => exact ⟨k + 1, by omega, by omega, by go_num, hown.drewN _, hgr.trans (grown_of_below (Below.drewN' _ _ _) _), HNX⟩
          case measure => simp [intOf]; omega
      · have hd : (x1 == x0) = false := by simpa using hx
        have HNX : Hid (Sg.cpt os (k + 1) = os.take (k + 1)) := by
          show _ = _
          have hk' : k < os.length := by rw [HN.out]; exact hlt
          rw [Sg.cpt_hit (by rw [← HX1.out, ← HX0.out]; simp [hx]), HA.out, List.take_succ_eq_append_getElem hk']
          simp [List.getD, hk']
        clear hx
        go_wp2
        go_quiet (fail)
        go_wp2
        go_roundw
        case rel => exact ⟨k + 1, by omega, by omega, by go_num, hown.drewN _, hgr.trans (grown_of_below (Below.drewN' _ _ _) _), HNX⟩
        case measure => simp [intOf]; omega
    · obtain rfl : k = n := by omega
      have hr : RdP wr wr.heap.size (some ⟨g, 0, none⟩) k cap os := by
        obtain ⟨A', c', he, hr⟩ := hown.rd
        simp only [Value.slice.injEq] at he
        obtain ⟨rfl, rfl, rfl⟩ := he
        rw [HN.out] at hr
        exact hr
      have hfin : Hid (Sg.cpt os k = os) := by show _ = _; rw [HA.out, ← HN.out, List.take_length]
      clear HA hown
      go_wp2
      go_ret
      exact ⟨k, rfl, by rw [hfin.out]; exact hr, hgr⟩

end Go.Proofs.YtcapinapfobcbaaDoor
