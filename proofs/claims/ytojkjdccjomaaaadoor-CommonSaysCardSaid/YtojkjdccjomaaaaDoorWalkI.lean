/-
  The iterator that walk.outward hands back: it yields the points that can be reached, each with its distance, level by level, for every loop body that keeps what the iterator reads and makes.
-/
import Derived.Test.YtojkjdccjomaaaaDoorSeen
import Derived.Test.YtojkjdccjomaaaaDoorWalkM
import Derived.Test.YtojkjdccjomaaaaDoorLibS
import Derived.Test.YtojkjdccjomaaaaDoorGraphB
namespace Go.Proofs.YtojkjdccjomaaaaDoor
open Go.RowKit Go.Shelf

attribute [local go_sem] Oper.semAt_some
set_option linter.unusedSimpArgs false

/-- a pair, as it is yielded -/
def encP (x : Nat × Nat) : Array Value := #[.int .i64 (x.1 : Int), .int .i64 (x.2 : Int)]

/-- what the iterator reads -/
def OutG (nB bb bf : Nat) (A : Option Addr) (m c : Nat) (rows : List (List Int)) (a : Nat) (W : World) : Prop :=
  nB ≤ W.heap.size ∧ RdR W nB A m c rows ∧ W.cell? ⟨bb, 0, none⟩ = some (.slice A m c) ∧ W.cell? ⟨bf, 0, none⟩ = some (.int .i64 (a : Int))
theorem OutG.below {nB bb bf s : Nat} {A : Option Addr} {m c : Nat} {rows : List (List Int)} {a : Nat} {W W' : World} (h : OutG nB bb bf A m c rows a W) (h1 : nB ≤ s) (h2 : bb < s) (h3 : bf < s) (hb : Below s W W') : OutG nB bb bf A m c rows a W' :=
  ⟨Nat.le_trans h.1 hb.size, h.2.1.below (hb.mono h1), (hb.cell (p := ⟨bb, 0, none⟩) h2).trans h.2.2.1, (hb.cell (p := ⟨bf, 0, none⟩) h3).trans h.2.2.2⟩
theorem OutG.kept {nB bb bf : Nat} {X : Nat → Prop} {A : Option Addr} {m c : Nat} {rows : List (List Int)} {a : Nat} {W W' : World} (h : OutG nB bb bf A m c rows a W) (hX : ∀ k, X k → nB ≤ k) (h2 : ¬ X bb) (h3 : ¬ X bf) (hb : Kept X W W') : OutG nB bb bf A m c rows a W' := by
  refine ⟨Nat.le_trans h.1 hb.1, h.2.1.keep (Nat.le_refl _) (fun p hp => ?_), hb.cell h.2.2.1 h2, hb.cell h.2.2.2 h3⟩
  have := hb.2 p.block (by have := h.1; omega) (fun hx => by have := hX _ hx; omega)
  unfold World.cell?
  rw [this]

/-- at the head of a level: lv is the level -/
def OutI (m : Nat) (R : Nat → List Nat) (a s : Nat) (J : List (Nat × Nat) → World → Prop) (G : World → Prop) (lv : Value) (d : Nat) (W : World) : Prop :=
  ∃ (lev : List Nat) (seen : List Bool) (pre : List (Nat × Nat)), Wa.Lev m R a d seen lev ∧ pre ++ Wa.bfs R (m + 1 - d) d seen lev = Wa.out m R a ∧ Own W s 3 lv (upL lev) ∧ SeenAt W s m seen ∧ J pre W ∧ G W ∧ s < W.heap.size ∧ d ≤ m
/-- within a level: i of its points are done, nv is what comes next -/
def MidI (m : Nat) (R : Nat → List Nat) (a s B : Nat) (J : List (Nat × Nat) → World → Prop) (G : World → Prop) (lv : Value) (d : Nat) (seen : List Bool) (lev : List Nat) (i : Nat) (nv : Value) (W : World) : Prop :=
  ∃ (pre : List (Nat × Nat)), pre ++ ((lev.drop i).map (fun v => (v, d)) ++ Wa.bfs R (m - d) (d + 1) (Wa.visLev R (seen, []) lev).1 (Wa.visLev R (seen, []) lev).2) = Wa.out m R a ∧
    Own W s 3 lv (upL lev) ∧ SeenAt W s m (Wa.visLev R (seen, []) (lev.take i)).1 ∧ Own W B 3 nv (upL (Wa.visLev R (seen, []) (lev.take i)).2) ∧ J pre W ∧ G W ∧ B ≤ W.heap.size
/-- within a point's row: j of its points are done -/
def InnI (m s B : Nat) (K G : World → Prop) (lv : Value) (lev : List Nat) (st : List Bool × List Nat) (row : List Nat) (j : Nat) (nv : Value) (W : World) : Prop :=
  Own W s 3 lv (upL lev) ∧ SeenAt W s m (Wa.visRow st (row.take j)).1 ∧ Own W B 3 nv (upL (Wa.visRow st (row.take j)).2) ∧ K W ∧ G W ∧ B ≤ W.heap.size

set_option maxRecDepth 100000 in
set_option maxHeartbeats 4000000 in
theorem outward1_in (l m a nB bb bf s : Nat) (hm8 : m ≤ 8) (ha : a < m) (R : Nat → List Nat) (hR : Wa.Ok m R) (A : Option Addr) (c : Nat) (rows : List (List Int)) (hrows : ∀ k, k < m → rows.getD k [] = upL (R k)) (X : Nat → Prop)
    (h1 : nB ≤ s) (h2 : bb < s) (h3 : bf < s) (hX1 : ∀ k, X k → nB ≤ k) (hX2 : ∀ k, X k → k < s) (hXb : ¬ X bb) (hXf : ¬ X bf)
    (J Jx : List (Nat × Nat) → World → Prop) (hJ : Stays s J)
    (hY : ∀ pre x W1, J pre W1 → (pre ++ [x]) <+: Wa.out m R a → YieldAt Fence.wide 8 Tryd.prog l (encP x) W1 fun e W' =>
      (e = .returned (.bool true) ∧ J (pre ++ [x]) W' ∧ Kept X W1 W') ∨ (e = .returned (.bool false) ∧ Jx (pre ++ [x]) W'))
    (W : World) (hs : W.heap.size = s) (hG : OutG nB bb bf A m c rows a W) (h0 : J [] W) :
    CallsIn Fence.wide 9 Tryd.prog 38 #[.func (.yield l) #[] #[], .pointer (some ⟨bb, 0, none⟩), .pointer (some ⟨bf, 0, none⟩)] W fun e W' => (∃ v, e = .returned v) ∧
      (J (Wa.out m R a) W' ∨ ∃ pre, pre <+: Wa.out m R a ∧ Jx pre W') := by
  have hro : Fence.wide.round = none := rfl
  obtain ⟨i0, hi, hz0, hz1, hz2⟩ := info_parts boolInfo
  have g1 := hG.2.2.1
  have g2 := hG.2.2.2
  have hml : m ≤ maxLen := by simp only [maxLen]; omega
  have hby : i0.bytes * m ≤ 281474976710656 := by rw [hz2]; omega
  have ha1 : (0 : Int) ≤ (a : Int) := by omega
  have ha2 : (a : Int) < (m : Int) := by omega
  refine callsIn_of_wp Tryd.func38 rfl trivial ?_ hro
  simp only [Tryd.ntmps38, List.size_toArray, List.length_cons, List.length_nil, Nat.reduceAdd, Nat.reduceSub, Array.replicate_succ, Array.replicate_zero, List.push_toArray, List.append_toArray, List.nil_append, List.cons_append]
  gi_wp2_with (gi_at_make; refine wpListIn_mk _ rfl (.tmp 13) (.tmp 13) 66 rfl s 4 i0 (.bool false) 1 Tryd.underlying66 hi hz0 hz1 .i64 .i64 m rfl rfl hby hml (by omega) ?_; intro w2 hrow2 hg2 hsz2; rw [hs] at hrow2 hsz2; rw [hs]; have hc2 := (SeenAt.made hrow2).cell ha; have hf2 := hrow2.frozenAt a; have hb2 : Below s W w2 := (Below.refl _ _).grown hg2 (by omega) (fun _ e => by cases e); have g3 := (hb2.cell (p := ⟨bf, 0, none⟩) h3).trans g2)
  obtain ⟨W0, hW0⟩ : ∃ W0, W0 = (w2.setCell ⟨s, a, none⟩ (.bool true)).alloc (.cells #[.int .i64 (a : Int)] 3) := ⟨_, rfl⟩
  rw [← hW0]
  have hS1 := (SeenAt.made hrow2).set a true
  have hS0 : SeenAt W0 s m ((List.replicate m false).set a true) := by rw [hW0]; exact World.ownsRow.alloc hS1.1 _
  have hL0 : Own W0 s 3 (.slice (some ⟨s + 1, 0, none⟩) 1 1) (upL [a]) := by
    have := Own.one (w2.setCell ⟨s, a, none⟩ (.bool true)) s 3 (a : Int) (by simp; omega)
    rw [← hW0] at this
    simpa [hsz2, upL] using this
  have hB0 : Below s W W0 := by rw [hW0]; exact (hb2.setCell (p := ⟨s, a, none⟩) (by simp) _).alloc (by simp; omega) _
  have hG0 := hG.below h1 h2 h3 hB0
  have hJ0 := hJ _ _ _ h0 hB0
  have hs0 : s < W0.heap.size := by rw [hW0]; simp; omega
  have HI : OutI m R a s J (OutG nB bb bf A m c rows a) (.slice (some ⟨s + 1, 0, none⟩) 1 1) 0 W0 := ⟨_, _, [], Wa.Lev.start ha, rfl, hL0, hS0, hJ0, hG0, hs0, Nat.zero_le _⟩
  clear hW0 hS1 hS0 hL0 hB0 hG0 hJ0 hs0 hb2 g3 hf2 hc2 hsz2 hg2 hrow2 g1 g2 hG h0 hs w2
  gi_loopw [5, 6] (fun lv dv wr => ∃ d : Nat, dv = .int .i64 (d : Int) ∧ OutI m R a s J (OutG nB bb bf A m c rows a) lv d wr) (fun _ dv _ => m + 1 - (intOf dv).toNat)
  case atStart => exact ⟨0, rfl, HI⟩
  case round =>
    obtain ⟨d, rfl, lev, seen, pre, hLev, hzs, hlv, hsn, hj, hg, hsz, hd⟩ := hrel
    clear HI
    have HL := Lib.hid hLev
    have HZ := Lib.hid hzs
    clear hLev hzs
    obtain ⟨A5, c5, rfl, hr5⟩ := hlv.rd
    have hbig := hr5.big
    clear hr5
    obtain ⟨n5, hn5⟩ : ∃ n5, n5 = (upL lev).length := ⟨_, rfl⟩
    rw [← hn5] at hlv hbig ⊢
    have HN := Lib.hid (hn5.trans (upL_len lev))
    clear hn5
    by_cases hne : lev = []
    · have h00 : n5 = 0 := by rw [HN.out, hne]; rfl
      subst h00
      have hfin : J (Wa.out m R a) wr := by
        have := HZ.out
        rw [hne, Wa.bfs_nil, List.append_nil] at this
        rw [← this]; exact hj
      clear hne
      gi_wp2
      go_end0
      exact ⟨⟨_, rfl⟩, .inl hfin⟩
    · have hpos : 0 < n5 := by rw [HN.out]; exact List.length_pos_iff.2 hne
      have hposI : (0 : Int) < (n5 : Int) := by omega
      have hdm := HL.out.small hne
      have HZ2 : Hid (pre ++ ((lev.drop 0).map (fun v => (v, d)) ++ Wa.bfs R (m - d) (d + 1) (Wa.visLev R (seen, []) lev).1 (Wa.visLev R (seen, []) lev).2) = Wa.out m R a) := by
        show _ = _
        have := HZ.out
        rw [show m + 1 - d = (m - d) + 1 by omega, Wa.bfs, if_neg hne] at this
        exact this
      have HLN := Lib.hid (HL.out.next hR ha hne)
      have HLT := Lib.hid (HL.out.lt hR ha)
      have HSm := Lib.hid (HL.out.st hR ha)
      have HSL := Lib.hid HL.out.len
      clear hne HZ HL
      obtain ⟨B, hB⟩ : ∃ B, B = wr.heap.size := ⟨_, rfl⟩
      have HLB : Hid (∀ k, (Value.slice A5 n5 c5).ownBlock = some k → k < B) := by show ∀ k, _; rw [hB]; exact hlv.lt
      have hsB : s < B := by omega
      have HM : MidI m R a s B J (OutG nB bb bf A m c rows a) (.slice A5 n5 c5) d seen lev 0 (.slice none 0 0) wr := ⟨pre, HZ2.out, hlv, hsn, Own.nil _ _ _, hj, hg, by omega⟩
      clear HZ2 hlv hsn hj hg hsz hB
      gi_wp2
      gi_loopw [7, 27] (fun nv iv wr => ∃ i : Nat, i ≤ n5 ∧ iv = .int .i64 (i : Int) ∧ MidI m R a s B J (OutG nB bb bf A m c rows a) (.slice A5 n5 c5) d seen lev i nv wr) (fun _ iv _ => n5 - (intOf iv).toNat)
      case atStart => exact ⟨0, Nat.zero_le _, rfl, HM⟩
      case round =>
        obtain ⟨i, hin, rfl, pre, hzs, hlv, hsn, hnv, hj, hg, hBs⟩ := hrel
        clear HM
        have HZ := Lib.hid hzs
        clear hzs
        by_cases hlt : i < n5
        · have hil : i < lev.length := by rw [← HN.out]; exact hlt
          obtain ⟨b1, o1, rfl, hb1, hc1⟩ := hlv.rd'.at_ (by omega)
          have g4 := hc1 i hlt
          rw [upL_at] at g4
          clear hc1
          have hdrop : lev.drop i = lev.getD i 0 :: lev.drop (i + 1) := by rw [List.drop_eq_getElem_cons hil]; simp [List.getD, hil]
          have hv : lev.getD i 0 < m := HLT.out _ (by simp [List.getD, hil])
          have HT := Lib.hid (Wa.visLev_take (R := R) (st := (seen, [])) hil)
          have HST : Hid (Wa.St m seen (fun v => ∃ u ∈ lev.take i, v ∈ R u) (Wa.visLev R (seen, []) (lev.take i))) := ((Wa.St.start HSL.out).lev hR (fun v hv => HLT.out v (List.mem_of_mem_take hv))).congr fun v => by simp
          generalize lev.getD i 0 = v at g4 hdrop hv HT
          have hzs2 : (pre ++ [(v, d)]) ++ ((lev.drop (i + 1)).map (fun v => (v, d)) ++ Wa.bfs R (m - d) (d + 1) (Wa.visLev R (seen, []) lev).1 (Wa.visLev R (seen, []) lev).2) = Wa.out m R a := by
            rw [← HZ.out, hdrop]
            simp
          have HZ2 := Lib.hid hzs2
          obtain ⟨fn, tmps, assign, body, hy, hRd⟩ := hY pre (v, d) wr hj ⟨_, hzs2⟩
          simp only [encP] at hy
          clear hzs2 hdrop hil
          gi_wp2
          refine hRd.mono ?_
          rintro e W3 (⟨rfl, hJ3, hk3⟩ | ⟨rfl, hJx3⟩)
          · have hg3 := hg.kept hX1 hXb hXf hk3
            have key : ∀ k, s ≤ k → k < wr.heap.size → W3.heap[k]? = wr.heap[k]? := fun k h1 h2 => hk3.2 k h2 (fun hx => by have := hX2 _ hx; omega)
            have hlv3 := hlv.same (w' := W3) (fun k hk => key k (hlv.at_base k hk) (hlv.lt k hk))
            have hnv3 := hnv.same (w' := W3) (fun k hk => key k (by have := hnv.at_base k hk; omega) (hnv.lt k hk))
            have hsn3 : SeenAt W3 s m _ := ownsRow_same hsn (fun k hk => by cases hk; exact key s (Nat.le_refl _) (by omega))
            have hBs3 : B ≤ W3.heap.size := Nat.le_trans hBs hk3.1
            obtain ⟨b2, o2, rfl, hb2, hrow⟩ := hg3.2.1.at_ (by omega)
            obtain ⟨A', c', hx, hrr⟩ := hrow v hv
            rw [hrows v hv] at hx hrr
            obtain ⟨nr, hnr⟩ : ∃ nr, nr = (upL (R v)).length := ⟨_, rfl⟩
            rw [← hnr] at hx hrr
            have HNR := Lib.hid (hnr.trans (upL_len (R v)))
            have hbig2 := hrr.big
            have g5 := hg3.2.2.1
            have hv1 : (0 : Int) ≤ (v : Int) := by omega
            have hv2 : (v : Int) < (m : Int) := by omega
            have HN3 : InnI m s B (J (pre ++ [(v, d)])) (OutG nB bb bf (some ⟨b2, o2, none⟩) m c rows a) (.slice (some ⟨b1, o1, none⟩) n5 c5) lev (Wa.visLev R (seen, []) (lev.take i)) (R v) 0 u7 W3 := ⟨hlv3, hsn3, hnv3, hJ3, hg3, hBs3⟩
            clear hrow hnr key hlv3 hnv3 hsn3 hBs3 hg3 hJ3 hk3 hlv hsn hnv hj hg g4
            gi_wp2
            gi_loopw [7, 41] (fun nv jv wr => ∃ j : Nat, j ≤ nr ∧ jv = .int .i64 (j : Int) ∧ InnI m s B (J (pre ++ [(v, d)])) (OutG nB bb bf (some ⟨b2, o2, none⟩) m c rows a) (.slice (some ⟨b1, o1, none⟩) n5 c5) lev (Wa.visLev R (seen, []) (lev.take i)) (R v) j nv wr ∧ Rd wr nB A' nr c' (upL (R v))) (fun _ jv _ => nr - (intOf jv).toNat)
            case atStart => exact ⟨0, Nat.zero_le _, rfl, HN3, hrr⟩
            case round =>
              obtain ⟨j, hjn, rfl, ⟨hlv, hsn, hnv, hj, hg, hBs⟩, hrr⟩ := hrel
              clear HN3
              by_cases hlj : j < nr
              · have hjl : j < (R v).length := by rw [← HNR.out]; exact hlj
                obtain ⟨b3, o3, rfl, hb3, hc3⟩ := hrr.at_ (by omega)
                have g6 := hc3 j hlj
                rw [upL_at] at g6
                clear hc3
                have hu : (R v).getD j 0 < m := hR v hv _ (by simp [List.getD, hjl])
                have HT2 := Lib.hid (Wa.visRow_take (st := Wa.visLev R (seen, []) (lev.take i)) hjl)
                have HS2 := Lib.hid (HST.out.row (row := (R v).take j) (fun u hu => hR v hv u (List.mem_of_mem_take hu)))
                generalize (R v).getD j 0 = u at g6 hu HT2
                have g7 := hsn.cell hu
                have hu1 : (0 : Int) ≤ (u : Int) := by omega
                have hu2 : (u : Int) < (m : Int) := by omega
                cases ht : (Wa.visRow (Wa.visLev R (seen, []) (lev.take i)) ((R v).take j)).1.getD u false with
                | true =>
                  rw [ht] at g7
                  have HQ : Hid (Wa.visRow (Wa.visLev R (seen, []) (lev.take i)) ((R v).take (j + 1)) = Wa.visRow (Wa.visLev R (seen, []) (lev.take i)) ((R v).take j)) := HT2.out.trans (Wa.vis1_hit ht)
                  have HF : InnI m s B (J (pre ++ [(v, d)])) (OutG nB bb bf (some ⟨b2, o2, none⟩) m c rows a) (.slice (some ⟨b1, o1, none⟩) n5 c5) lev (Wa.visLev R (seen, []) (lev.take i)) (R v) (j + 1) u7 wr := by
                    unfold InnI
                    rw [HQ.out]
                    exact ⟨hlv, hsn, hnv, hj, hg, hBs⟩
                  clear ht HQ HT2 hsn hnv hlv hj hg hjl HS2
                  gi_wp2
                  go_roundw
                  case rel => exact ⟨j + 1, by omega, by go_num, HF, hrr⟩
                  case measure => simp [intOf]; omega
                | false =>
                  rw [ht] at g7
                  have g8 := World.ownsRow.frozenAt hsn u
                  have HQ : Hid (Wa.visRow (Wa.visLev R (seen, []) (lev.take i)) ((R v).take (j + 1)) = ((Wa.visRow (Wa.visLev R (seen, []) (lev.take i)) ((R v).take j)).1.set u true, (Wa.visRow (Wa.visLev R (seen, []) (lev.take i)) ((R v).take j)).2 ++ [u])) := HT2.out.trans (Wa.vis1_miss ht)
                  have hroom : (upL (Wa.visRow (Wa.visLev R (seen, []) (lev.take i)) ((R v).take j)).2).length + 1 ≤ 17592186044416 := by
                    have := HS2.out.small
                    rw [upL_len]
                    omega
                  obtain ⟨wn, hwn⟩ : ∃ wn, wn = wr.setCell ⟨s, u, none⟩ (.bool true) := ⟨_, rfl⟩
                  have hset := hsn.set u true
                  rw [← hwn] at hset
                  have hne1 := own_ne (show (3 : Nat) ≠ 4 by decide) hnv hsn
                  have hne2 := own_ne (show (3 : Nat) ≠ 4 by decide) hlv hsn
                  have hnvn := hnv.grown hset.2 (fun k hk e => hne1 k hk (by rw [← e]; rfl))
                  have hlvn := hlv.grown hset.2 (fun k hk e => hne2 k hk (by rw [← e]; rfl))
                  have hbn : Below s wr wn := by rw [hwn]; exact (Below.refl _ _).setCell (p := ⟨s, u, none⟩) (by simp) _
                  have hszn : wn.heap.size = wr.heap.size := by rw [hwn]; simp
                  clear ht HT2 hsn hnv hlv hjl HS2 hne1 hne2
                  gi_wp2_with (rw [← hwn]; clear hwn; gi_at_builtin; refine wpListIn_app _ rfl (.tmp 53) (.tmp 55) 25 rfl B 3 Tryd.underlying25 intInfo u7 _ rfl (hnvn.below ((Below.refl _ _).alloc (Nat.le_refl _) _)) (some ⟨wr.heap.size, 0, none⟩) 1 1 [(u : Int)] rfl (by rw [← hszn]; exact Rd.one _ _ _) hroom (by simp; omega) ?_; intro v' w4 hown4 hgrow hat)
                  go_roundw
                  case rel =>
                    have hba : Below s wr (wn.alloc (.cells #[.int .i64 (u : Int)] 3)) := hbn.alloc (by omega) _
                    have hb4 : Below s wr w4 := hba.grown hgrow (by simp; omega) (fun k hk => by have := hnvn.at_base k hk; omega)
                    refine ⟨j + 1, by omega, by go_num, ⟨?_, ?_, ?_, hJ _ _ _ hj hb4, hg.below h1 h2 h3 hb4, ?_⟩, hrr.below (hb4.mono h1)⟩
                    · refine (hlvn.below ((Below.refl _ _).alloc (Nat.le_refl _) _)).grown hgrow (fun k hk e => ?_)
                      have := hnvn.at_base k e
                      have := HLB.out k hk
                      omega
                    · rw [HQ.out]
                      exact World.ownsRow.kept (World.ownsRow.alloc hset.1 _) hgrow (.inr (fun e => by have := hnvn.at_base s (by rw [← e]; rfl); omega))
                    · rw [HQ.out, upL_snoc]
                      exact hown4
                    · have := hgrow.size
                      simp at this
                      omega
                  case measure => simp [intOf]; omega
              · obtain rfl : j = nr := by omega
                have HF : MidI m R a s B J (OutG nB bb bf (some ⟨b2, o2, none⟩) m c rows a) (.slice (some ⟨b1, o1, none⟩) n5 c5) d seen lev (i + 1) u7 wr := by
                  rw [HNR.out, List.take_length] at hsn hnv
                  refine ⟨_, HZ2.out, hlv, ?_, ?_, hj, hg, hBs⟩
                  · rw [HT.out]; exact hsn
                  · rw [HT.out]; exact hnv
                clear hlv hsn hnv hj hg
                gi_wp2
                go_roundw
                case rel => exact ⟨i + 1, by omega, by go_num, HF⟩
                case measure => simp [intOf]; omega
          · gi_wp2
            refine bodyPost_ret (results_none rfl _ _ _) rfl ?_
            exact ⟨⟨_, rfl⟩, .inr ⟨_, ⟨_, HZ2.out⟩, hJx3⟩⟩
        · obtain rfl : i = n5 := by omega
          have HF : OutI m R a s J (OutG nB bb bf A m c rows a) u7 (d + 1) wr := by
            have e := HZ.out
            rw [HN.out, List.drop_length, List.map_nil, List.nil_append] at e
            rw [HN.out, List.take_length] at hsn hnv
            exact ⟨_, _, pre, HLN.out, by rw [show m + 1 - (d + 1) = m - d by omega]; exact e, hnv.mono (by omega), hsn, hj, hg, by omega, by omega⟩
          clear hlv hsn hnv hj hg HZ
          gi_wp2
          go_roundw
          case rel => exact ⟨d + 1, by go_num, HF⟩
          case measure => simp [intOf]; omega

/-- the same, as the caller's law asks for it -/
theorem outward1_seq (m a nB bb bf : Nat) (hm8 : m ≤ 8) (ha : a < m) (R : Nat → List Nat) (hR : Wa.Ok m R) (A : Option Addr) (c : Nat) (rows : List (List Int)) (hrows : ∀ k, k < m → rows.getD k [] = upL (R k)) (X : Nat → Prop) (w : World)
    (hG : OutG nB bb bf A m c rows a w) (hX1 : ∀ k, X k → nB ≤ k) (hX2 : ∀ k, X k → k < w.heap.size) (hXb : ¬ X bb) (hXf : ¬ X bf) :
    SeqCells Fence.wide 9 Tryd.prog 38 #[.pointer (some ⟨bb, 0, none⟩), .pointer (some ⟨bf, 0, none⟩)] encP X (Wa.out m R a) w := by
  intro l J Jx W hb hsz hJ _ hY h0
  have e1 := World.block_lt_of_cell? w _ hG.2.2.1
  have e2 := World.block_lt_of_cell? w _ hG.2.2.2
  have e3 := hG.1
  simp only at e1 e2
  exact outward1_in l m a nB bb bf W.heap.size hm8 ha R hR A c rows hrows _ (by omega) (by omega) (by omega) (fun k hk => hk.elim (hX1 k) (fun h => by omega)) (fun k hk => hk.elim (fun h => by have := hX2 k h; omega) (fun h => h.2))
    (fun hx => hx.elim hXb (fun h => by omega)) (fun hx => hx.elim hXf (fun h => by omega)) J Jx hJ hY W rfl (hG.below e3 e1 e2 hb) h0

theorem outward_any (A : Option Addr) (n c : Nat) (a : Int) (w : World) :
    Calls Tryd.prog 29 #[.slice A n c, .int .i64 a] w fun e w' => e = .returned (.func (.func 38) #[] #[.pointer (some ⟨w.heap.size, 0, none⟩), .pointer (some ⟨w.heap.size + 1, 0, none⟩)]) ∧
      w' = (w.alloc (.cells #[.slice A n c] 38)).alloc (.cells #[.int .i64 a] 3) := by
  have hmf : ∀ (fn : Fn) (first cap : Array Value) (w : World), (Instr.makeFunc fn first cap).run Tryd.prog w = .ok (.func fn first cap) w := fun _ _ _ _ => rfl
  go_enter Tryd.func29, Tryd.ntmps29
  go_wp2
  go_ret
  exact ⟨rfl, rfl⟩

end Go.Proofs.YtojkjdccjomaaaaDoor
