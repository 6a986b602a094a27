/-
  The iterator that others of package tree hands back: it yields the numbers of a list but for one, for every loop body that keeps what the iterator reads. No statement of the program is proved here; there is no condition.
-/
import Derived.Test.YtoofpmajiphldaaDoorIterT
import Derived.Test.YtoofpmajiphldaaDoorSeen
import Derived.Test.YtoofpmajiphldaaDoorBase
import Derived.Laws.EntriesVeiled
namespace Go.Proofs.YtoofpmajiphldaaDoor
open Go.RowKit Go.Shelf

attribute [local go_sem] Oper.semAt_some
set_option linter.unusedSimpArgs false
set_option linter.unusedVariables false

theorem others_any (A : Option Addr) (n c : Nat) (a : Int) (w : World) :
    Calls Tryd.prog 26 #[.slice A n c, .int .i64 a] w fun e w' => e = .returned (.func (.func 39) #[] #[.pointer (some ⟨w.heap.size, 0, none⟩), .pointer (some ⟨w.heap.size + 1, 0, none⟩)]) ∧
      w' = (w.alloc (.cells #[.slice A n c] 28)).alloc (.cells #[.int .i64 a] 3) := by
  have hmf : ∀ (fn : Fn) (first cap : Array Value) (w : World), (Instr.makeFunc fn first cap).run Tryd.prog w = .ok (.func fn first cap) w := fun _ _ _ _ => rfl
  go_enter Tryd.func26, Tryd.ntmps26
  go_wp2
  go_ret
  exact ⟨rfl, rfl⟩

/-- what the iterator reads -/
def OtG (nB bb bf : Nat) (A : Option Addr) (n c : Nat) (zs : List Int) (a : Int) (W : World) : Prop :=
  nB ≤ W.heap.size ∧ Rd W nB A n c zs ∧ W.cell? ⟨bb, 0, none⟩ = some (.slice A n c) ∧ W.cell? ⟨bf, 0, none⟩ = some (.int .i64 a)
theorem OtG.below {nB bb bf s : Nat} {A : Option Addr} {n c : Nat} {zs : List Int} {a : Int} {W W' : World} (h : OtG nB bb bf A n c zs a W) (h1 : nB ≤ s) (h2 : bb < s) (h3 : bf < s) (hb : Below s W W') : OtG nB bb bf A n c zs a W' :=
  ⟨Nat.le_trans h.1 hb.size, h.2.1.below (hb.mono h1), (hb.cell (p := ⟨bb, 0, none⟩) h2).trans h.2.2.1, (hb.cell (p := ⟨bf, 0, none⟩) h3).trans h.2.2.2⟩
theorem OtG.kept {nB bb bf : Nat} {X : Nat → Prop} {A : Option Addr} {n c : Nat} {zs : List Int} {a : Int} {W W' : World} (h : OtG nB bb bf A n c zs a W) (hX : ∀ k, X k → nB ≤ k) (h2 : ¬ X bb) (h3 : ¬ X bf) (hb : Kept X W W') : OtG nB bb bf A n c zs a W' := by
  refine ⟨Nat.le_trans h.1 hb.1, h.2.1.keep (Nat.le_refl _) fun p hp => ?_, hb.cell h.2.2.1 h2, hb.cell h.2.2.2 h3⟩
  unfold World.cell?
  rw [hb.2 p.block (Nat.lt_of_lt_of_le hp h.1) (fun hx => by have := hX _ hx; omega)]

theorem but_step {zs : List Int} {k : Nat} {a p : Int} (hk : k < zs.length) (hp : p = zs.getD k 0) : ((zs.drop k).filter fun x => !decide (x = a)) = if p = a then ((zs.drop (k + 1)).filter fun x => !decide (x = a)) else p :: ((zs.drop (k + 1)).filter fun x => !decide (x = a)) := by
  rw [List.drop_eq_getElem_cons hk]
  have : zs[k] = p := by rw [hp]; simp [List.getD, hk]
  rw [this]
  by_cases h : p = a
  · rw [if_pos h, List.filter_cons_of_neg (by simpa using h)]
  · rw [if_neg h, List.filter_cons_of_pos (by simpa using h)]

set_option maxRecDepth 100000 in
set_option maxHeartbeats 2000000 in
/-- T are the blocks that the loop's body has made -/
theorem others1_seqT (nB bb bf : Nat) (A : Option Addr) (n c : Nat) (zs : List Int) (a : Int) (X : Nat → Prop) (w : World)
    (hG : OtG nB bb bf A n c zs a w) (hX1 : ∀ k, X k → nB ≤ k) (hX2 : ∀ k, X k → k < w.heap.size) (hXb : ¬ X bb) (hXf : ¬ X bf) :
    SeqCellsT Fence.wide 9 Tryd.prog 39 #[.pointer (some ⟨bb, 0, none⟩), .pointer (some ⟨bf, 0, none⟩)] encI X (zs.filter fun x => !decide (x = a)) w := by
  intro l J Jx W hb hsz hJ hL hJx hY h0
  have e1 := World.block_lt_of_cell? w _ hG.2.2.1
  have e2 := World.block_lt_of_cell? w _ hG.2.2.2
  have e3 := hG.1
  simp only at e1 e2
  have hGW := hG.below e3 e1 e2 hb
  have hro : Fence.wide.round = none := rfl
  have HX := Lib.hid hG.2.1.len
  have hbig := hG.2.1.big
  have g0 := hGW.2.2.1
  obtain ⟨s, hs⟩ : ∃ s, s = W.heap.size := ⟨_, rfl⟩
  have HY := Lib.hid hY
  have HJ := Lib.hid hJ
  have HL := Lib.hid hL
  have HS := Lib.hid hs
  have es1 : bb < s := by omega
  have es2 : bf < s := by omega
  have es3 : nB ≤ s := by omega
  clear hY hJ hL hs hG hb
  refine callsIn_of_wp Tryd.func39 rfl trivial ?_ hro
  simp only [Tryd.ntmps39, List.size_toArray, List.length_cons, List.length_nil, Nat.reduceAdd, Nat.reduceSub, Array.replicate_succ, Array.replicate_zero, List.push_toArray, List.append_toArray, List.nil_append, List.cons_append]
  gi_wp2
  gi_loopw [5, 8] (fun _ iv wr => ∃ (j : Nat) (T : Nat → Prop) (pre : List Int), j ≤ n ∧ iv = .int .i64 (j : Int) ∧ Hid (pre ++ ((zs.drop j).filter fun x => !decide (x = a)) = zs.filter fun x => !decide (x = a)) ∧ J T pre wr ∧ OtG nB bb bf A n c zs a wr) (fun _ iv _ => n - (intOf iv).toNat)
  case atStart => exact ⟨0, _, [], Nat.zero_le _, rfl, rfl, h0, hGW⟩
  case round =>
    clear g0 hGW h0
    obtain ⟨j, T, pre, hjn, rfl, HZ, hj, hG⟩ := hrel
    by_cases hlt : j < n
    · obtain ⟨b1, o1, rfl, hb1, hc1⟩ := hG.2.1.at_ (by omega)
      have g1 := hc1 j hlt
      clear hc1
      obtain ⟨p, hp⟩ : ∃ p, p = zs.getD j 0 := ⟨_, rfl⟩
      rw [← hp] at g1
      have hkl : j < zs.length := by rw [HX.out]; exact hlt
      have HS1 := Lib.hid (but_step (a := a) hkl hp)
      have g3 := hG.2.2.2
      clear hp hkl
      by_cases hpa : p = a
      · have hd : (p != a) = false := by simp [hpa]
        have HZ1 : Hid (pre ++ ((zs.drop (j + 1)).filter fun x => !decide (x = a)) = zs.filter fun x => !decide (x = a)) := by
          show _ = _
          rw [← HZ.out, HS1.out, if_pos hpa]
        clear HZ HS1 hpa
        gi_wp2
        refine ⟨fun _ h => (by cases h), ?_⟩
        gi_wp2
        go_roundw
        case rel => exact ⟨j + 1, T, pre, by omega, by go_num, HZ1, hj, hG⟩
        case measure => simp [intOf]; omega
      · have hd : (p != a) = true := by simpa using hpa
        have HZ1 : Hid (pre ++ [p] ++ ((zs.drop (j + 1)).filter fun x => !decide (x = a)) = zs.filter fun x => !decide (x = a)) := by
          show _ = _
          rw [← HZ.out, HS1.out, if_neg hpa]
          simp
        obtain ⟨fn, tmps, assign, body, hy, hRd⟩ := HY.out T pre p wr hj ⟨_, HZ1.out⟩
        simp only [encI] at hy
        have HTl := Lib.hid (HL.out T pre wr hj)
        have hsw := hG.1
        clear HZ HS1 hpa hj
        gi_wp2
        refine hRd.mono ?_
        rintro e W3 (⟨rfl, T', hT', hJ3, hk3⟩ | ⟨rfl, hJx3⟩)
        · have hG3 := hG.kept (fun k hk => by
            rcases hk with (hk | hk) | hk
            · exact hX1 k hk
            · omega
            · have := (HTl.out k hk).1; rw [← HS.out] at this; omega) (fun hk => by
            rcases hk with (hk | hk) | hk
            · exact hXb hk
            · omega
            · have := (HTl.out _ hk).1; rw [← HS.out] at this; omega) (fun hk => by
            rcases hk with (hk | hk) | hk
            · exact hXf hk
            · omega
            · have := (HTl.out _ hk).1; rw [← HS.out] at this; omega) hk3
          clear hk3 hG
          gi_wp2
          go_roundw
          case rel => exact ⟨j + 1, T', pre ++ [p], by omega, by go_num, HZ1, hJ3, hG3⟩
          case measure => simp [intOf]; omega
        · gi_wp2
          refine bodyPost_ret (results_none rfl _ _ _) rfl ?_
          exact ⟨⟨_, rfl⟩, .inr ⟨_, ⟨_, HZ1.out⟩, hJx3⟩⟩
    · obtain rfl : j = n := by omega
      have hfin : J T (zs.filter fun x => !decide (x = a)) wr := by
        have := HZ.out
        rw [List.drop_eq_nil_of_le (by rw [HX.out]; exact Nat.le_refl _), List.filter_nil, List.append_nil] at this
        rw [← this]
        exact hj
      clear HZ hj hG
      gi_wp2
      go_end0
      exact ⟨⟨_, rfl⟩, .inl ⟨T, hfin⟩⟩

end Go.Proofs.YtoofpmajiphldaaDoor
