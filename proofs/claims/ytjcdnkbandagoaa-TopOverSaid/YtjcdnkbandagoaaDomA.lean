/-
  The iterator of package dom over those that one comes to without a point: it yields each of them once, for every loop body that keeps what the iterator reads and makes. No statement of the program is proved here; there is no condition.
-/
import Derived.Test.YtjcdnkbandagoaaDomP
import Derived.Test.YtjcdnkbandagoaaIdxI
import Derived.Test.YtjcdnkbandagoaaSeen
import Derived.Test.YtjcdnkbandagoaaIterT
import Derived.Test.YtjcdnkbandagoaaLibP
import Derived.ControlIn
import Derived.BigQuiet
namespace Go.Proofs.Ytjcdnkbandagoaa
open Go.RowKit Go.Shelf

attribute [local go_sem] Oper.semAt_some
set_option linter.unusedSimpArgs false
set_option linter.unusedVariables false

theorem reached_any (A : Option Addr) (n c : Nat) (a av : Int) (w : World) :
    Calls Try.prog 18 #[.slice A n c, .int .i64 a, .int .i64 av] w fun e w' => e = .returned (.func (.func 25) #[] #[.pointer (some ⟨w.heap.size + 1, 0, none⟩), .pointer (some ⟨w.heap.size + 2, 0, none⟩), .pointer (some ⟨w.heap.size, 0, none⟩)]) ∧
      w' = ((w.alloc (.cells #[.slice A n c] 22)).alloc (.cells #[.int .i64 a] 3)).alloc (.cells #[.int .i64 av] 3) := by
  have hmf : ∀ (fn : Fn) (first cap : Array Value) (w : World), (Instr.makeFunc fn first cap).run Try.prog w = .ok (.func fn first cap) w := fun _ _ _ _ => rfl
  go_enter Try.func18, Try.ntmps18
  go_wp2
  go_ret
  exact ⟨rfl, rfl⟩

/-- what the iterator reads -/
def ReG (nB bf ba bl : Nat) (A : Option Addr) (n c : Nat) (ls : List Gr.Ln) (a av : Int) (W : World) : Prop :=
  nB ≤ W.heap.size ∧ RdP W nB A n c ls ∧ W.cell? ⟨bf, 0, none⟩ = some (.int .i64 a) ∧ W.cell? ⟨ba, 0, none⟩ = some (.int .i64 av) ∧ W.cell? ⟨bl, 0, none⟩ = some (.slice A n c)
theorem ReG.below {nB bf ba bl s : Nat} {A : Option Addr} {n c : Nat} {ls : List Gr.Ln} {a av : Int} {W W' : World} (h : ReG nB bf ba bl A n c ls a av W) (h1 : nB ≤ s) (h2 : bf < s) (h3 : ba < s) (h4 : bl < s) (hb : Below s W W') : ReG nB bf ba bl A n c ls a av W' :=
  ⟨Nat.le_trans h.1 hb.size, h.2.1.below (hb.mono h1), (hb.cell (p := ⟨bf, 0, none⟩) h2).trans h.2.2.1, (hb.cell (p := ⟨ba, 0, none⟩) h3).trans h.2.2.2.1, (hb.cell (p := ⟨bl, 0, none⟩) h4).trans h.2.2.2.2⟩
theorem ReG.kept {nB bf ba bl : Nat} {X : Nat → Prop} {A : Option Addr} {n c : Nat} {ls : List Gr.Ln} {a av : Int} {W W' : World} (h : ReG nB bf ba bl A n c ls a av W) (hX : ∀ k, X k → nB ≤ k) (h2 : ¬ X bf) (h3 : ¬ X ba) (h4 : ¬ X bl) (hb : Kept X W W') : ReG nB bf ba bl A n c ls a av W' :=
  ⟨Nat.le_trans h.1 hb.1, h.2.1.kept hb hX h.1, hb.cell h.2.2.1 h2, hb.cell h.2.2.2.1 h3, hb.cell h.2.2.2.2 h4⟩
theorem ReG.drewN {nB bf ba bl : Nat} {A : Option Addr} {n c : Nat} {ls : List Gr.Ln} {a av : Int} {W : World} (h : ReG nB bf ba bl A n c ls a av W) (k : Nat) : ReG nB bf ba bl A n c ls a av (W.drewN k) := h

/-- at the head of the outer loop -/
def ReO (m st s nB bf ba bl : Nat) (A : Option Addr) (n c : Nat) (ls : List Gr.Ln) (av : Int) (J : (Nat → Prop) → List Int → World → Prop) (mv : Value) (i : Nat) (W : World) : Prop :=
  ∃ met : List Int, Do.Met m ls av st met ∧ Do.srch ls av (m - i) i met = Do.out m ls av (st : Int) ∧ i ≤ met.length ∧ Own W s 3 mv met ∧ (∃ T, J T (met.take i) W ∧ ∀ k, mv.ownBlock = some k → ¬ T k) ∧ ReG nB bf ba bl A n c ls (st : Int) av W ∧ s < W.heap.size
/-- within a point's lines -/
def ReN (s nB bf ba bl : Nat) (A : Option Addr) (n c : Nat) (ls : List Gr.Ln) (st a av : Int) (met : List Int) (K : (Nat → Prop) → World → Prop) (mv : Value) (j : Nat) (W : World) : Prop :=
  Own W s 3 mv (Do.grow (ls.take j) av a met) ∧ (∃ T, K T W ∧ ∀ k, mv.ownBlock = some k → ¬ T k) ∧ ReG nB bf ba bl A n c ls st av W ∧ s < W.heap.size

set_option maxRecDepth 100000 in
set_option maxHeartbeats 4000000 in
theorem reached1_in (l nB bf ba bl s : Nat) (A : Option Addr) (n c : Nat) (ls : List Gr.Ln) (m st : Nat) (av : Int) (hm8 : m ≤ 8) (hst : st < m) (hg : ∀ p ∈ ls, Gr.Good (m : Int) p) (X : Nat → Prop)
    (h1 : nB ≤ s) (h2 : bf < s) (h3 : ba < s) (h4 : bl < s) (hX1 : ∀ k, X k → nB ≤ k) (hX2 : ∀ k, X k → k < s) (hXf : ¬ X bf) (hXa : ¬ X ba) (hXl : ¬ X bl)
    (J : (Nat → Prop) → List Int → World → Prop) (Jx : List Int → World → Prop) (hJ : StaysT s J) (hL : LieT s J)
    (hY : ∀ T pre x W1, J T pre W1 → (pre ++ [x]) <+: Do.out m ls av (st : Int) → YieldAt Fence.wide 8 Try.prog l (encI x) W1 fun e W' =>
      (e = .returned (.bool true) ∧ ∃ T', (∀ k, T' k → T k ∨ W1.heap.size ≤ k) ∧ J T' (pre ++ [x]) W' ∧ Kept (fun k => X k ∨ T k) W1 W') ∨ (e = .returned (.bool false) ∧ Jx (pre ++ [x]) W'))
    (W : World) (hs : W.heap.size = s) (hG : ReG nB bf ba bl A n c ls (st : Int) av W) (h0 : J (fun _ => False) [] W) :
    CallsIn Fence.wide 9 Try.prog 25 #[.func (.yield l) #[] #[], .pointer (some ⟨bf, 0, none⟩), .pointer (some ⟨ba, 0, none⟩), .pointer (some ⟨bl, 0, none⟩)] W fun e W' => (∃ v, e = .returned v) ∧
      ((∃ T, J T (Do.out m ls av (st : Int)) W') ∨ ∃ pre, pre <+: Do.out m ls av (st : Int) ∧ Jx pre W') := by
  have hro : Fence.wide.round = none := rfl
  have HGD := Lib.hid hg
  have HX := Lib.hid hG.2.1.len
  have hbig := hG.2.1.big
  have g1 := hG.2.2.1
  have g2 := hG.2.2.2.1
  have HY := Lib.hid hY
  have HJ := Lib.hid hJ
  have HLT := Lib.hid hL
  clear hY hJ hL hg
  by_cases hav : (st : Int) = av
  · subst hav
    have hfin : Hid (Do.out m ls (st : Int) (st : Int) = []) := by show _ = _; unfold Do.out; rw [if_pos rfl]
    refine callsIn_of_wp Try.func25 rfl trivial ?_ hro
    simp only [Try.ntmps25, List.size_toArray, List.length_cons, List.length_nil, Nat.reduceAdd, Nat.reduceSub, Array.replicate_succ, Array.replicate_zero, List.push_toArray, List.append_toArray, List.nil_append, List.cons_append]
    gi_wp2
    refine bodyPost_ret (results_none rfl _ _ _) rfl ?_
    exact ⟨⟨_, rfl⟩, .inl ⟨_, by rw [hfin.out]; exact h0⟩⟩
  · have hd : ((st : Int) == av) = false := by simpa using hav
    have HNE := Lib.hid hav
    refine callsIn_of_wp Try.func25 rfl trivial ?_ hro
    simp only [Try.ntmps25, List.size_toArray, List.length_cons, List.length_nil, Nat.reduceAdd, Nat.reduceSub, Array.replicate_succ, Array.replicate_zero, List.push_toArray, List.append_toArray, List.nil_append, List.cons_append]
    obtain ⟨W0, hW0⟩ : ∃ W0, W0 = W.alloc (.cells #[.int .i64 (st : Int)] 3) := ⟨_, rfl⟩
    have hB0 : Below s W W0 := by rw [hW0]; exact (Below.refl _ _).alloc (by omega) _
    have HI : ReO m st s nB bf ba bl A n c ls av J (.slice (some ⟨s, 0, none⟩) 1 1) 0 W0 := by
      refine ⟨[(st : Int)], Do.Met.start hst HNE.out, ?_, Nat.zero_le _, ?_, ⟨_, HJ.out _ _ _ _ h0 hB0 (fun _ h => h.elim), fun _ _ h => h⟩, hG.below h1 h2 h3 h4 hB0, ?_⟩
      · unfold Do.out
        rw [if_neg HNE.out]
        rfl
      · have := Own.one W s 3 (st : Int) (by omega)
        rw [← hW0, hs] at this
        exact this
      · rw [hW0]; simp; omega
    have HW0 := Lib.hid hW0
    clear hW0 hG h0 hav
    gi_wp2
    rw [← HW0.out]
    clear HW0 hB0 g1 g2
    gi_loopw [5, 6, 8, 29] (fun mv iv _ _ wr => ∃ i : Nat, iv = .int .i64 (i : Int) ∧ ReO m st s nB bf ba bl A n c ls av J mv i wr) (fun _ iv _ _ _ => m - (intOf iv).toNat)
    case atStart => exact ⟨0, rfl, HI⟩
    case round =>
      clear HI
      obtain ⟨i, rfl, met, hmet, hz, hile, hmv, ⟨T, hj, hmT⟩, hG, hsz⟩ := hrel
      have HZ := Lib.hid hz
      have HM := Lib.hid hmet
      have hlm := hmet.len
      clear hz hmet
      obtain ⟨A5, c5, rfl, hr5⟩ := hmv.rd
      obtain ⟨L, hL⟩ : ∃ L, L = met.length := ⟨_, rfl⟩
      rw [← hL] at hmv hr5 hile hlm ⊢
      have HL := Lib.hid hL
      clear hL
      by_cases hlt : i < L
      · have hlt' : i < met.length := by rw [← HL.out]; exact hlt
        obtain ⟨b1, o1, rfl, hb1, hc1⟩ := hr5.at_ (by omega)
        have g4 := hc1 i hlt
        have k1 : (0 : Int) ≤ (i : Int) := by omega
        have k2 : (i : Int) < (L : Int) := by omega
        obtain ⟨a, ha⟩ : ∃ a, a = met.getD i 0 := ⟨_, rfl⟩
        rw [← ha] at g4
        have hpre := Do.srch_next HZ.out hlt'
        have htk : met.take i ++ [a] = met.take (i + 1) := by
          rw [List.take_succ_eq_append_getElem hlt', ha]
          simp [List.getD, hlt']
        rw [← ha, htk] at hpre
        have HAM : Hid (a ∈ met) := by show _ ∈ _; rw [ha]; simp [List.getD, hlt']
        have HA := Lib.hid ha
        have HTK := Lib.hid htk
        obtain ⟨fn, tmps, assign, body, hy, hRd⟩ := HY.out T (met.take i) a wr hj (by rw [htk]; exact hpre)
        simp only [encI] at hy
        rw [htk] at hRd
        have HP := Lib.hid hpre
        have hTL := HLT.out _ _ _ hj
        clear hc1 ha htk hpre hj hr5
        gi_wp2
        refine hRd.mono ?_
        rintro e W3 (⟨rfl, T3, hT3, hJ3, hk3⟩ | ⟨rfl, hJx3⟩)
        · have hG3 := hG.kept (X := fun k => X k ∨ T k) (fun k hk => hk.elim (hX1 k) (fun h => by have := (hTL k h).1; omega)) (fun h => h.elim hXf (fun h => by have := (hTL _ h).1; omega)) (fun h => h.elim hXa (fun h => by have := (hTL _ h).1; omega)) (fun h => h.elim hXl (fun h => by have := (hTL _ h).1; omega)) hk3
          have hmv3 := hmv.same (w' := W3) (fun k hk => hk3.2 k (hmv.lt k hk) (fun hx => hx.elim (fun h => by have := hX2 _ h; have := hmv.at_base k hk; omega) (hmT k hk)))
          have hmT3 : ∀ k, (Value.slice (some ⟨b1, o1, none⟩) L c5).ownBlock = some k → ¬ T3 k := fun k hk h => by
            rcases hT3 k h with h | h
            · exact hmT k hk h
            · have := hmv.lt k hk; omega
          have hs3 : s < W3.heap.size := Nat.lt_of_lt_of_le hsz hk3.1
          have g5 := hG3.2.2.2.2
          have HN : ReN s nB bf ba bl A n c ls (st : Int) a av met (fun T => J T (met.take (i + 1))) (.slice (some ⟨b1, o1, none⟩) L c5) 0 W3 := by
            refine ⟨?_, ⟨T3, hJ3, hmT3⟩, hG3, hs3⟩
            rw [Do.grow_zero]
            exact hmv3
          clear hmv hG hk3 hmv3 hJ3 hG3 g4 hmT hmT3 hT3 hTL
          gi_wp2
          gi_loopw [5, 8, 29] (fun mv _ jv wr => ∃ j : Nat, j ≤ n ∧ jv = .int .i64 (j : Int) ∧ ReN s nB bf ba bl A n c ls (st : Int) a av met (fun T => J T (met.take (i + 1))) mv j wr) (fun _ _ jv _ => n - (intOf jv).toNat)
          case atStart => exact ⟨0, Nat.zero_le _, rfl, HN⟩
          case round =>
            clear HN
            obtain ⟨j, hjn, rfl, hmv, ⟨T4, hj, hmT⟩, hG, hsz⟩ := hrel
            by_cases hlj : j < n
            · have hjl : j < ls.length := by rw [HX.out]; exact hlj
              obtain ⟨b2, o2, rfl, hb2, hc2⟩ := hG.2.1.at_ (by omega)
              obtain ⟨e1, e2⟩ := hc2 j hlj
              clear hc2
              obtain ⟨⟨p, q⟩, hp⟩ : ∃ p, p = ls.getD j (0, 0) := ⟨_, rfl⟩
              rw [← hp] at e1 e2
              simp only at e1 e2
              have HGT := Lib.hid (Do.grow_take (av := av) (a := a) (met := met) hjl)
              rw [← hp] at HGT
              have HMJ := Lib.hid (HM.out.take hst HGD.out HAM.out j)
              have hpi : i < (Do.grow (ls.take j) av a met).length := by
                have := (Do.grow_pre av a (ls.take j) met).length_le
                omega
              have hgi : (Do.grow (ls.take j) av a met).getD i 0 = a := by
                rw [Do.pre_getD (Do.grow_pre av a (ls.take j) met) hlt', ← HA.out]
              clear hp hjl
              obtain ⟨mj, hmj⟩ : ∃ mj, mj = Do.grow (ls.take j) av a met := ⟨_, rfl⟩
              rw [← hmj] at hmv HGT HMJ hpi hgi
              have HMJ2 := Lib.hid hmj
              clear hmj
              have hlm2 := HMJ.out.len
              obtain ⟨A6, c6, rfl, hr6⟩ := hmv.rd
              obtain ⟨M, hM⟩ : ∃ M, M = mj.length := ⟨_, rfl⟩
              rw [← hM] at hmv hr6 hpi hlm2 ⊢
              have HML := Lib.hid hM
              clear hM
              obtain ⟨b3, o3, rfl, hb3, hc3⟩ := hr6.at_ (by omega)
              have i2 : (i : Int) < (M : Int) := by omega
              obtain ⟨W0, hW0⟩ : ∃ W0, W0 = wr.alloc (.cells #[.int .i64 p, .int .i64 q] 38) := ⟨_, rfl⟩
              have hB0 : Below s wr W0 := by rw [hW0]; exact (Below.refl _ _).alloc (by omega) _
              have hBt : Below wr.heap.size wr W0 := by rw [hW0]; exact (Below.refl _ _).alloc (Nat.le_refl _) _
              have hG0 := hG.below h1 h2 h3 h4 hB0
              have hj0 := HJ.out _ _ _ _ hj hB0 (fun k hk => hBt.block k (HLT.out _ _ _ hj k hk).2)
              have hTL := HLT.out _ _ _ hj
              have hs0 : s < W0.heap.size := Nat.lt_of_lt_of_le hsz hB0.size
              have hmv0 := hmv.below hBt
              have hr0 := hr6.past hBt
              have f1 : W0.cell? ⟨wr.heap.size, 0, none⟩ = some (.int .i64 p) := by rw [hW0]; simp
              have f2 : W0.cell? ⟨wr.heap.size, 1, none⟩ = some (.int .i64 q) := by rw [hW0]; simp
              have f3 : W0.cell? ⟨b3, o3 + i, none⟩ = some (.int .i64 a) := by
                have := hc3 i hpi
                rw [hgi] at this
                exact (hBt.cell (p := ⟨b3, o3 + i, none⟩) hb3).trans this
              have f4 := hG0.2.2.2.1
              have HW0 := Lib.hid hW0
              clear hW0 hc3 hgi hr6 hmv hG hj
              gi_wp2
              rw [← HW0.out]
              by_cases c1 : p = a
              · by_cases c2 : q = av
                · have HF : Hid (Do.grow (ls.take (j + 1)) av a met = mj) := by
                    show _ = _
                    rw [HGT.out]; unfold Do.stp; rw [if_neg (fun h => h.2.1 c2)]
                  have d1 : (p == a) = true := by simpa using c1
                  have d2 : (q != av) = false := by simpa using c2
                  clear c1 c2
                  refine wpIn_wide.2 ?_
                  go_quiet (fail)
                  gi_wp2
                  go_roundw
                  case rel => exact ⟨j + 1, by omega, by go_num, by unfold ReN; rw [HF.out]; exact ⟨hmv0.drewN _, ⟨_, HJ.out _ _ _ _ hj0 (Below.drewN' _ _ _) (fun _ _ => rfl), hmT⟩, hG0.drewN _, hs0⟩⟩
                  case measure => simp [intOf]; omega
                · have d1 : (p == a) = true := by simpa using c1
                  have d2 : (q != av) = true := by simpa using c2
                  cases ht : mj.contains q with
                  | true =>
                    have HF : Hid (Do.grow (ls.take (j + 1)) av a met = mj) := by
                      show _ = _
                      rw [HGT.out]; unfold Do.stp; rw [if_neg (fun h => by have := h.2.2; rw [ht] at this; cases this)]
                    have HT := Lib.hid ht
                    clear c1 c2 ht
                    refine wpIn_wide.2 ?_
                    go_quiet (first | (go_at_call 26; exact Calls.quiet_of_same ((ContainsI_any _ _ _ mj q true _ (hr0.drewN _) HT.out).mono fun _ _ h => ⟨h.1, h.2.symm⟩)))
                    gi_wp2
                    go_roundw
                    case rel => exact ⟨j + 1, by omega, by go_num, by unfold ReN; rw [HF.out]; exact ⟨hmv0.drewN _, ⟨_, HJ.out _ _ _ _ hj0 (Below.drewN' _ _ _) (fun _ _ => rfl), hmT⟩, hG0.drewN _, hs0⟩⟩
                    case measure => simp [intOf]; omega
                  | false =>
                    have HF : Hid (Do.grow (ls.take (j + 1)) av a met = mj ++ [q]) := by
                      show _ = _
                      rw [HGT.out]; unfold Do.stp; rw [if_pos ⟨c1, c2, ht⟩]
                    have HT := Lib.hid ht
                    have hroom : mj.length + 1 ≤ 17592186044416 := by rw [← HML.out]; omega
                    clear c1 c2 ht
                    refine wpIn_wide.2 ?_
                    go_quiet (first | (go_at_call 26; exact Calls.quiet_of_same ((ContainsI_any _ _ _ mj q false _ (hr0.drewN _) HT.out).mono fun _ _ h => ⟨h.1, h.2.symm⟩)))
                    obtain ⟨V, hV⟩ : ∃ V, V = W0.drewN nq := ⟨_, rfl⟩
                    rw [← hV]
                    have hmv1 : Own V s 3 (.slice (some ⟨b3, o3, none⟩) M c6) mj := by rw [hV]; exact hmv0
                    have hj1 : J T4 (met.take (i + 1)) V := by rw [hV]; exact HJ.out _ _ _ _ hj0 (Below.drewN' _ _ _) (fun _ _ => rfl)
                    have hTV : ∀ k, T4 k → k < V.heap.size := fun k hk => (HLT.out _ _ _ hj1 k hk).2
                    have hG1 : ReG nB bf ba bl (some ⟨b2, o2, none⟩) n c ls (st : Int) av V := by rw [hV]; exact hG0
                    have hs1 : s < V.heap.size := by rw [hV]; exact hs0
                    have f5 : V.cell? ⟨wr.heap.size, 1, none⟩ = some (.int .i64 q) := by rw [hV]; exact f2
                    clear hV hmv0 hj0 hG0 hs0 f1 f2 f3 f4 hr0 d1 d2
                    gi_wp2_with (gi_at_builtin; refine wpListIn_app _ rfl (.tmp 53) (.tmp 56) 29 rfl s 3 Try.underlying29 intInfo (.slice (some ⟨b3, o3, none⟩) M c6) mj rfl (hmv1.below ((Below.refl _ _).alloc (Nat.le_refl _) _)) (some ⟨V.heap.size, 0, none⟩) 1 1 [q] rfl (Rd.one _ _ _) hroom (by simp; omega) ?_; intro v' w4 hown4 hgrow hat)
                    have hb4 : Below s V w4 := ((Below.refl _ _).alloc (by omega) _).grown hgrow (by simp; omega) (fun k hk => hmv1.at_base k hk)
                    have hs4 : s < w4.heap.size := Nat.lt_of_lt_of_le hs1 hb4.size
                    have hfr : ∀ k, T4 k → w4.heap[k]? = V.heap[k]? := fun k hk => by
                      have hkV := hTV k hk
                      rw [hgrow.block k (by simp; omega) (fun e => hmT k e.symm hk)]
                      exact Below.heap_alloc _ _ _ hkV
                    have hmT4 : ∀ k, v'.ownBlock = some k → ¬ T4 k := fun k hk h => by
                      rcases hat with e | e
                      · exact hmT k (by rw [e] at hk; exact hk) h
                      · rw [e] at hk
                        have hkV := hTV k h
                        simp at hk
                        omega
                    go_roundw
                    case rel =>
                      refine ⟨j + 1, by omega, by go_num, ?_, ⟨_, HJ.out _ _ _ _ hj1 hb4 hfr, hmT4⟩, hG1.below h1 h2 h3 h4 hb4, hs4⟩
                      rw [HF.out]
                      exact hown4
                    case measure => simp [intOf]; omega
              · have HF : Hid (Do.grow (ls.take (j + 1)) av a met = mj) := by
                  show _ = _
                  rw [HGT.out]; unfold Do.stp; rw [if_neg (fun h => c1 h.1)]
                have d1 : (p == a) = false := by simpa using c1
                clear c1
                refine wpIn_wide.2 ?_
                go_quiet (fail)
                gi_wp2
                go_roundw
                case rel => exact ⟨j + 1, by omega, by go_num, by unfold ReN; rw [HF.out]; exact ⟨hmv0.drewN _, ⟨_, HJ.out _ _ _ _ hj0 (Below.drewN' _ _ _) (fun _ _ => rfl), hmT⟩, hG0.drewN _, hs0⟩⟩
                case measure => simp [intOf]; omega
            · obtain rfl : j = n := by omega
              rw [show ls.take j = ls by rw [← HX.out, List.take_length]] at hmv
              have HF : ReO m st s nB bf ba bl A j c ls av J u5 (i + 1) wr := by
                refine ⟨_, HM.out.grow hst (fun p hp => ⟨hp, HGD.out p hp⟩) HAM.out, ?_, ?_, hmv, ⟨_, ?_, hmT⟩, hG, hsz⟩
                · have := HZ.out
                  rw [show m - i = (m - (i + 1)) + 1 by omega, Do.srch_step hlt', ← HA.out] at this
                  exact this
                · have := (Do.grow_pre av a ls met).length_le
                  omega
                · rw [List.prefix_iff_eq_take.1 ((List.take_prefix (i + 1) met).trans (Do.grow_pre av a ls met))] at hj
                  rw [List.length_take, Nat.min_eq_left (by omega)] at hj
                  exact hj
              clear hmv hj hG
              gi_wp2
              go_roundw
              case rel => exact ⟨i + 1, by go_num, HF⟩
              case measure => simp [intOf]; omega
        · gi_wp2
          refine bodyPost_ret (results_none rfl _ _ _) rfl ?_
          exact ⟨⟨_, rfl⟩, .inr ⟨_, HP.out, hJx3⟩⟩
      · obtain rfl : i = L := by omega
        have hfin : J T (Do.out m ls av (st : Int)) wr := by
          have := HZ.out
          rw [Do.srch_done (by rw [← HL.out]; exact Nat.le_refl _)] at this
          rw [HL.out, List.take_length] at hj
          rw [← this]
          exact hj
        clear HZ hj hG hmv hr5
        gi_wp2
        go_end0
        exact ⟨⟨_, rfl⟩, .inl ⟨_, hfin⟩⟩

/-- the same, as the caller's law asks for it -/
theorem reached1_seqT (nB bf ba bl : Nat) (A : Option Addr) (n c : Nat) (ls : List Gr.Ln) (m st : Nat) (av : Int) (hm8 : m ≤ 8) (hst : st < m) (hg : ∀ p ∈ ls, Gr.Good (m : Int) p) (X : Nat → Prop) (w : World)
    (hG : ReG nB bf ba bl A n c ls (st : Int) av w) (hX1 : ∀ k, X k → nB ≤ k) (hX2 : ∀ k, X k → k < w.heap.size) (hXf : ¬ X bf) (hXa : ¬ X ba) (hXl : ¬ X bl) :
    SeqCellsT Fence.wide 9 Try.prog 25 #[.pointer (some ⟨bf, 0, none⟩), .pointer (some ⟨ba, 0, none⟩), .pointer (some ⟨bl, 0, none⟩)] encI X (Do.out m ls av (st : Int)) w := by
  intro l J Jx W hb hsz hJ hL _ hY h0
  have e1 := World.block_lt_of_cell? w _ hG.2.2.1
  have e2 := World.block_lt_of_cell? w _ hG.2.2.2.1
  have e4 := World.block_lt_of_cell? w _ hG.2.2.2.2
  have e3 := hG.1
  simp only at e1 e2 e4
  exact reached1_in l nB bf ba bl W.heap.size A n c ls m st av hm8 hst hg _ (by omega) (by omega) (by omega) (by omega) (fun k hk => hk.elim (hX1 k) (fun h => by omega)) (fun k hk => hk.elim (fun h => by have := hX2 k h; omega) (fun h => h.2))
    (fun hx => hx.elim hXf (fun h => by omega)) (fun hx => hx.elim hXa (fun h => by omega)) (fun hx => hx.elim hXl (fun h => by omega)) J Jx hJ hL hY W rfl (hG.below e3 e1 e2 e4 hb) h0

theorem reached1_seq (nB bf ba bl : Nat) (A : Option Addr) (n c : Nat) (ls : List Gr.Ln) (m st : Nat) (av : Int) (hm8 : m ≤ 8) (hst : st < m) (hg : ∀ p ∈ ls, Gr.Good (m : Int) p) (X : Nat → Prop) (w : World)
    (hG : ReG nB bf ba bl A n c ls (st : Int) av w) (hX1 : ∀ k, X k → nB ≤ k) (hX2 : ∀ k, X k → k < w.heap.size) (hXf : ¬ X bf) (hXa : ¬ X ba) (hXl : ¬ X bl) :
    SeqCells Fence.wide 9 Try.prog 25 #[.pointer (some ⟨bf, 0, none⟩), .pointer (some ⟨ba, 0, none⟩), .pointer (some ⟨bl, 0, none⟩)] encI X (Do.out m ls av (st : Int)) w :=
  (reached1_seqT nB bf ba bl A n c ls m st av hm8 hst hg X w hG hX1 hX2 hXf hXa hXl).plain

end Go.Proofs.Ytjcdnkbandagoaa
