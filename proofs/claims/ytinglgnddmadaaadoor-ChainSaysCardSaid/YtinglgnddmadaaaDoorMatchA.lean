/-
  Contracts of package match: isSide, isVertex, Check, joined and the iterator that it hands back, withoutLeft.
-/
import Derived.Test.YtinglgnddmadaaaDoorGraphA
import Derived.Test.YtinglgnddmadaaaDoorSeen
import Derived.Test.YtinglgnddmadaaaDoorMatchK
namespace Go.Proofs.YtinglgnddmadaaaDoor
open Go.RowKit Go.Shelf

attribute [local go_sem] Oper.semAt_some
set_option linter.unusedSimpArgs false
set_option linter.unusedVariables false

theorem isSide_yes (n : Int) (w : World) (h1 : 0 ≤ n) (h2 : n ≤ 6) :
    Calls Tryd.prog 46 #[.int .i64 n] w fun e w' => e = .returned (.bool true) ∧ w = w' := by
  go_enter Tryd.func46, Tryd.ntmps46
  go_wp2
  go_ret
  exact ⟨rfl, rfl⟩
theorem isSide_no (n : Int) (w : World) (h : n < 0 ∨ 6 < n) :
    Calls Tryd.prog 46 #[.int .i64 n] w fun e w' => e = .returned (.bool false) ∧ w = w' := by
  by_cases ha : n < 0
  · go_enter Tryd.func46, Tryd.ntmps46
    go_wp2
    go_ret
    exact ⟨rfl, rfl⟩
  · have h1 : 0 ≤ n := by omega
    have hd : decide (n ≤ 6) = false := by simp; omega
    clear h ha
    go_enter Tryd.func46, Tryd.ntmps46
    go_wp2
    go_ret
    exact ⟨rfl, rfl⟩
theorem mVertex_yes (n v : Int) (w : World) (h1 : 0 ≤ v) (h2 : v < n) :
    Calls Tryd.prog 47 #[.int .i64 n, .int .i64 v] w fun e w' => e = .returned (.bool true) ∧ w = w' := by
  go_enter Tryd.func47, Tryd.ntmps47
  go_wp2
  go_ret
  exact ⟨rfl, rfl⟩
theorem mVertex_no (n v : Int) (w : World) (h : v < 0 ∨ n ≤ v) :
    Calls Tryd.prog 47 #[.int .i64 n, .int .i64 v] w fun e w' => e = .returned (.bool false) ∧ w = w' := by
  by_cases ha : v < 0
  · go_enter Tryd.func47, Tryd.ntmps47
    go_wp2
    go_ret
    exact ⟨rfl, rfl⟩
  · have h1 : 0 ≤ v := by omega
    have hd : decide (v < n) = false := by simp; omega
    clear h ha
    go_enter Tryd.func47, Tryd.ntmps47
    go_wp2
    go_ret
    exact ⟨rfl, rfl⟩

set_option maxHeartbeats 1000000 in
theorem MCheck_any (l r : Int) (A : Option Addr) (k c : Nat) (ls : List Gr.Ln) (w : World) (hr : RdP w w.heap.size A k c ls) :
    Calls Tryd.prog 32 #[.int .i64 l, .int .i64 r, .slice A k c] w fun e w' => e = .returned (errOf (Ma.code l r ls)) ∧ Below w.heap.size w w' := by
  have HX := Lib.hid hr.len
  have hbig := hr.big
  by_cases h1 : l < 0 ∨ 6 < l
  · have hfin : Hid (Ma.code l r ls = 1) := by show _ = _; unfold Ma.code; rw [if_pos (by omega)]
    go_enter Tryd.func32, Tryd.ntmps32
    go_wp2_with fail
    refine (isSide_no l _ h1).mono ?_
    rintro e w1 ⟨rfl, rfl⟩
    go_wp2
    go_ret
    exact ⟨by rw [hfin.out]; rfl, Below.refl _ _⟩
  by_cases h2 : r < 0 ∨ 6 < r
  · have hfin : Hid (Ma.code l r ls = 1) := by show _ = _; unfold Ma.code; rw [if_pos (by omega)]
    go_enter Tryd.func32, Tryd.ntmps32
    go_wp2_with fail
    refine (isSide_yes l _ (by omega) (by omega)).mono ?_
    rintro e w1 ⟨rfl, rfl⟩
    go_wp2_with fail
    refine (isSide_no r _ h2).mono ?_
    rintro e w1 ⟨rfl, rfl⟩
    go_wp2
    go_ret
    exact ⟨by rw [hfin.out]; rfl, Below.refl _ _⟩
  by_cases h24 : 24 < k
  · have hfin : Hid (Ma.code l r ls = 4) := by show _ = _; unfold Ma.code; rw [if_neg (by omega), if_pos (by rw [HX.out]; exact h24)]
    go_enter Tryd.func32, Tryd.ntmps32
    go_wp2_with fail
    refine (isSide_yes l _ (by omega) (by omega)).mono ?_
    rintro e w1 ⟨rfl, rfl⟩
    go_wp2_with fail
    refine (isSide_yes r _ (by omega) (by omega)).mono ?_
    rintro e w1 ⟨rfl, rfl⟩
    go_wp2
    go_ret
    exact ⟨by rw [hfin.out]; rfl, Below.refl _ _⟩
  have hcode : Hid (Ma.code l r ls = Ma.fault l r ls) := by show _ = _; unfold Ma.code; rw [if_neg (by omega), if_neg (by rw [HX.out]; exact h24)]
  go_enter Tryd.func32, Tryd.ntmps32
  go_wp2_with fail
  refine (isSide_yes l _ (by omega) (by omega)).mono ?_
  rintro e w1 ⟨rfl, rfl⟩
  go_wp2_with fail
  refine (isSide_yes r _ (by omega) (by omega)).mono ?_
  rintro e w1 ⟨rfl, rfl⟩
  go_wp2
  go_loopw [8, 24] (fun _ i wr => ∃ j : Nat, j ≤ k ∧ i = .int .i64 j ∧ Below w.heap.size w wr ∧ Hid (Ma.code l r ls = Ma.fault l r (ls.drop j))) (fun _ i _ => k - (intOf i).toNat)
  case atStart => exact ⟨0, Nat.zero_le _, rfl, Below.refl _ _, hcode⟩
  case round =>
    obtain ⟨j, hj, rfl, hbel, H⟩ := hrel
    by_cases hlt : j < k
    · obtain ⟨b1, o1, rfl, hbb, hcc⟩ := hr.at_ (by omega)
      obtain ⟨x, y⟩ := hcc j hlt
      have g1 : wr.cell? ⟨b1, o1 + j * 2, none⟩ = some (.int .i64 (ls.getD j (0, 0)).1) := (hbel.cell (by exact hbb)).trans x
      have g2 : wr.cell? ⟨b1, o1 + j * 2 + 1, none⟩ = some (.int .i64 (ls.getD j (0, 0)).2) := (hbel.cell (by exact hbb)).trans y
      clear hcc x y
      obtain ⟨⟨p, q⟩, hp⟩ : ∃ p, p = ls.getD j (0, 0) := ⟨_, rfl⟩
      rw [← hp] at g1 g2
      have HP := Lib.hid hp
      clear hp
      simp only at g1 g2
      have hkl : Hid (j < ls.length) := by show _ < _; rw [HX.out]; exact hlt
      have hsz := hbel.size
      have hb2 : Below w.heap.size w (wr.alloc (.cells #[.int .i64 p, .int .i64 q] 39)) := hbel.alloc hsz _
      by_cases ha : p < 0 ∨ l ≤ p
      · have hfin : Hid (Ma.code l r ls = 1) := by show _ = _; rw [H.out, Ma.fault_bad hkl.out (by rw [← HP.out]; simp only; omega)]
        go_wp2_with fail
        refine (mVertex_no l p _ ha).mono ?_
        rintro e w1 ⟨rfl, rfl⟩
        go_wp2
        go_ret
        exact ⟨by rw [hfin.out]; rfl, hb2⟩
      · by_cases hq : q < 0 ∨ r ≤ q
        · have hfin : Hid (Ma.code l r ls = 1) := by show _ = _; rw [H.out, Ma.fault_bad hkl.out (by rw [← HP.out]; simp only; omega)]
          go_wp2_with fail
          refine (mVertex_yes l p _ (by omega) (by omega)).mono ?_
          rintro e w1 ⟨rfl, rfl⟩
          go_wp2_with fail
          refine (mVertex_no r q _ hq).mono ?_
          rintro e w1 ⟨rfl, rfl⟩
          go_wp2
          go_ret
          exact ⟨by rw [hfin.out]; rfl, hb2⟩
        · have hnext : Hid (Ma.code l r ls = Ma.fault l r (ls.drop (j + 1))) := by show _ = _; rw [H.out, Ma.fault_on hkl.out (by rw [← HP.out]; simp only; omega)]
          go_wp2_with fail
          refine (mVertex_yes l p _ (by omega) (by omega)).mono ?_
          rintro e w1 ⟨rfl, rfl⟩
          go_wp2_with fail
          refine (mVertex_yes r q _ (by omega) (by omega)).mono ?_
          rintro e w1 ⟨rfl, rfl⟩
          go_wp2
          go_roundw
          case rel => exact ⟨j + 1, by omega, by go_num, hb2, hnext⟩
          case measure => simp [intOf]; omega
    · have hfin : Hid (Ma.code l r ls = 0) := by
        show _ = _
        rw [H.out, List.drop_eq_nil_of_le (by rw [HX.out]; omega)]; rfl
      go_wp2
      go_ret
      exact ⟨by rw [hfin.out]; rfl, hbel⟩

/-! ### joined -/
theorem joined_any (A : Option Addr) (n c : Nat) (a : Int) (w : World) :
    Calls Tryd.prog 50 #[.slice A n c, .int .i64 a] w fun e w' => e = .returned (.func (.func 57) #[] #[.pointer (some ⟨w.heap.size, 0, none⟩), .pointer (some ⟨w.heap.size + 1, 0, none⟩)]) ∧
      w' = (w.alloc (.cells #[.slice A n c] 22)).alloc (.cells #[.int .i64 a] 3) := by
  have hmf : ∀ (fn : Fn) (first cap : Array Value) (w : World), (Instr.makeFunc fn first cap).run Tryd.prog w = .ok (.func fn first cap) w := fun _ _ _ _ => rfl
  go_enter Tryd.func50, Tryd.ntmps50
  go_wp2
  go_ret
  exact ⟨rfl, rfl⟩

/-- what the iterator reads -/
def JoG (nB bb bf : Nat) (A : Option Addr) (n c : Nat) (ls : List Gr.Ln) (a : Int) (W : World) : Prop :=
  nB ≤ W.heap.size ∧ RdP W nB A n c ls ∧ W.cell? ⟨bb, 0, none⟩ = some (.slice A n c) ∧ W.cell? ⟨bf, 0, none⟩ = some (.int .i64 a)
theorem JoG.below {nB bb bf s : Nat} {A : Option Addr} {n c : Nat} {ls : List Gr.Ln} {a : Int} {W W' : World} (h : JoG nB bb bf A n c ls a W) (h1 : nB ≤ s) (h2 : bb < s) (h3 : bf < s) (hb : Below s W W') : JoG nB bb bf A n c ls a W' :=
  ⟨Nat.le_trans h.1 hb.size, h.2.1.below (hb.mono h1), (hb.cell (p := ⟨bb, 0, none⟩) h2).trans h.2.2.1, (hb.cell (p := ⟨bf, 0, none⟩) h3).trans h.2.2.2⟩
theorem JoG.kept {nB bb bf : Nat} {X : Nat → Prop} {A : Option Addr} {n c : Nat} {ls : List Gr.Ln} {a : Int} {W W' : World} (h : JoG nB bb bf A n c ls a W) (hX : ∀ k, X k → nB ≤ k) (h2 : ¬ X bb) (h3 : ¬ X bf) (hb : Kept X W W') : JoG nB bb bf A n c ls a W' :=
  ⟨Nat.le_trans h.1 hb.1, h.2.1.kept hb hX h.1, hb.cell h.2.2.1 h2, hb.cell h.2.2.2 h3⟩


theorem jl_step {ls : List Gr.Ln} {k : Nat} {a p q : Int} (hk : k < ls.length) (hp : (p, q) = ls.getD k (0, 0)) : Ma.jl (ls.drop k) a = if p = a then q :: Ma.jl (ls.drop (k + 1)) a else Ma.jl (ls.drop (k + 1)) a := by
  rw [List.drop_eq_getElem_cons hk]
  have : ls[k] = (p, q) := by rw [hp]; simp [List.getD, hk]
  rw [this]
  unfold Ma.jl
  by_cases h : p = a
  · rw [if_pos h, List.filter_cons_of_pos (by simpa using h)]; rfl
  · rw [if_neg h, List.filter_cons_of_neg (by simpa using h)]

set_option maxRecDepth 100000 in
set_option maxHeartbeats 2000000 in
theorem joined1_in (l nB bb bf s : Nat) (A : Option Addr) (n c : Nat) (ls : List Gr.Ln) (a : Int) (X : Nat → Prop)
    (h1 : nB ≤ s) (h2 : bb < s) (h3 : bf < s) (hX1 : ∀ k, X k → nB ≤ k) (hX2 : ∀ k, X k → k < s) (hXb : ¬ X bb) (hXf : ¬ X bf)
    (J Jx : List Int → World → Prop) (hJ : Stays s J)
    (hY : ∀ pre x W1, J pre W1 → (pre ++ [x]) <+: Ma.jl ls a → YieldAt Fence.wide 8 Tryd.prog l (encI x) W1 fun e W' =>
      (e = .returned (.bool true) ∧ J (pre ++ [x]) W' ∧ Kept X W1 W') ∨ (e = .returned (.bool false) ∧ Jx (pre ++ [x]) W'))
    (W : World) (hs : W.heap.size = s) (hG : JoG nB bb bf A n c ls a W) (h0 : J [] W) :
    CallsIn Fence.wide 9 Tryd.prog 57 #[.func (.yield l) #[] #[], .pointer (some ⟨bb, 0, none⟩), .pointer (some ⟨bf, 0, none⟩)] W fun e W' => (∃ v, e = .returned v) ∧
      (J (Ma.jl ls a) W' ∨ ∃ pre, pre <+: Ma.jl ls a ∧ Jx pre W') := by
  have hro : Fence.wide.round = none := rfl
  have HX := Lib.hid hG.2.1.len
  have hbig := hG.2.1.big
  have g0 := hG.2.2.1
  have HY := Lib.hid hY
  have HJ := Lib.hid hJ
  clear hY hJ
  refine callsIn_of_wp Tryd.func57 rfl trivial ?_ hro
  simp only [Tryd.ntmps57, List.size_toArray, List.length_cons, List.length_nil, Nat.reduceAdd, Nat.reduceSub, Array.replicate_succ, Array.replicate_zero, List.push_toArray, List.append_toArray, List.nil_append, List.cons_append]
  gi_wp2
  gi_loopw [5, 8] (fun _ iv wr => ∃ (j : Nat) (pre : List Int), j ≤ n ∧ iv = .int .i64 (j : Int) ∧ Hid (pre ++ Ma.jl (ls.drop j) a = Ma.jl ls a) ∧ J pre wr ∧ JoG nB bb bf A n c ls a wr ∧ s ≤ wr.heap.size) (fun _ iv _ => n - (intOf iv).toNat)
  case atStart => exact ⟨0, [], Nat.zero_le _, rfl, rfl, h0, hG, by omega⟩
  case round =>
    clear g0 hG h0
    obtain ⟨j, pre, hjn, rfl, HZ, hj, hG, hsz⟩ := hrel
    by_cases hlt : j < n
    · obtain ⟨b1, o1, rfl, hb1, hc1⟩ := hG.2.1.at_ (by omega)
      obtain ⟨g1, g2⟩ := hc1 j hlt
      clear hc1
      obtain ⟨⟨p, q⟩, hp⟩ : ∃ p, p = ls.getD j (0, 0) := ⟨_, rfl⟩
      rw [← hp] at g1 g2
      simp only at g1 g2
      have hkl : j < ls.length := by rw [HX.out]; exact hlt
      have HS := Lib.hid (jl_step (a := a) hkl hp)
      clear hp hkl
      obtain ⟨W0, hW0⟩ : ∃ W0, W0 = wr.alloc (.cells #[.int .i64 p, .int .i64 q] 39) := ⟨_, rfl⟩
      have hB0 : Below s wr W0 := by rw [hW0]; exact (Below.refl _ _).alloc hsz _
      have hG0 := hG.below h1 h2 h3 hB0
      have hj0 := HJ.out _ _ _ hj hB0
      have hsz0 : s ≤ W0.heap.size := Nat.le_trans hsz hB0.size
      have g3 := hG0.2.2.2
      have c1 : W0.cell? ⟨wr.heap.size, 0, none⟩ = some (.int .i64 p) := by rw [hW0]; simp
      have c2 : W0.cell? ⟨wr.heap.size, 1, none⟩ = some (.int .i64 q) := by rw [hW0]; simp
      rw [hW0] at g3 c1 c2
      have HW0 := Lib.hid hW0
      clear hW0
      by_cases hpa : p = a
      · have HS1 : Hid (pre ++ [q] ++ Ma.jl (ls.drop (j + 1)) a = Ma.jl ls a) := by
          show _ = _
          rw [← HZ.out, HS.out, if_pos hpa]
          simp
        subst hpa
        obtain ⟨fn, tmps, assign, body, hy, hRd⟩ := HY.out pre q W0 hj0 ⟨_, HS1.out⟩
        simp only [encI] at hy
        rw [HW0.out] at hy
        clear hj0 hB0 hG hj HS HZ
        gi_wp2
        rw [← HW0.out]
        refine hRd.mono ?_
        rintro e W3 (⟨rfl, hJ3, hk3⟩ | ⟨rfl, hJx3⟩)
        · have hG3 := hG0.kept hX1 hXb hXf hk3
          have hs3 : s ≤ W3.heap.size := Nat.le_trans hsz0 hk3.1
          clear hG0 hk3
          gi_wp2
          go_roundw
          case rel => exact ⟨j + 1, pre ++ [q], by omega, by go_num, HS1, hJ3, hG3, hs3⟩
          case measure => simp [intOf]; omega
        · gi_wp2
          refine bodyPost_ret (results_none rfl _ _ _) rfl ?_
          exact ⟨⟨_, rfl⟩, .inr ⟨_, ⟨_, HS1.out⟩, hJx3⟩⟩
      · have hd : (p == a) = false := by simpa using hpa
        have HS1 : Hid (pre ++ Ma.jl (ls.drop (j + 1)) a = Ma.jl ls a) := by
          show _ = _
          rw [← HZ.out, HS.out, if_neg hpa]
        clear hG hj HS HZ hpa
        gi_wp2
        refine ⟨fun _ h => (by cases h), ?_⟩
        gi_wp2
        rw [← HW0.out]
        go_roundw
        case rel => exact ⟨j + 1, pre, by omega, by go_num, HS1, hj0, hG0, hsz0⟩
        case measure => simp [intOf]; omega
    · obtain rfl : j = n := by omega
      have hfin : J (Ma.jl ls a) wr := by
        have := HZ.out
        rw [List.drop_eq_nil_of_le (by rw [HX.out]; exact Nat.le_refl _)] at this
        simp only [Ma.jl, List.filter_nil, List.map_nil, List.append_nil] at this
        unfold Ma.jl
        rw [← this]
        exact hj
      clear HZ hj hG
      gi_wp2
      go_end0
      exact ⟨⟨_, rfl⟩, .inl hfin⟩

/-- the same, as the caller's law asks for it -/
theorem joined1_seq (nB bb bf : Nat) (A : Option Addr) (n c : Nat) (ls : List Gr.Ln) (a : Int) (X : Nat → Prop) (w : World)
    (hG : JoG nB bb bf A n c ls a w) (hX1 : ∀ k, X k → nB ≤ k) (hX2 : ∀ k, X k → k < w.heap.size) (hXb : ¬ X bb) (hXf : ¬ X bf) :
    SeqCells Fence.wide 9 Tryd.prog 57 #[.pointer (some ⟨bb, 0, none⟩), .pointer (some ⟨bf, 0, none⟩)] encI X (Ma.jl ls a) w := by
  intro l J Jx W hb hsz hJ _ hY h0
  have e1 := World.block_lt_of_cell? w _ hG.2.2.1
  have e2 := World.block_lt_of_cell? w _ hG.2.2.2
  have e3 := hG.1
  simp only at e1 e2
  exact joined1_in l nB bb bf W.heap.size A n c ls a _ (by omega) (by omega) (by omega) (fun k hk => hk.elim (hX1 k) (fun h => by omega)) (fun k hk => hk.elim (fun h => by have := hX2 k h; omega) (fun h => h.2))
    (fun hx => hx.elim hXb (fun h => by omega)) (fun hx => hx.elim hXf (fun h => by omega)) J Jx hJ hY W rfl (hG.below e3 e1 e2 hb) h0

/-! ### withoutLeft -/
theorem wl_step {ls : List Gr.Ln} {k : Nat} {a p q : Int} (hk : k < ls.length) (hp : (p, q) = ls.getD k (0, 0)) : Ma.wl (ls.take (k + 1)) a = Ma.wl (ls.take k) a ++ if p = a then [] else [(p, q)] := by
  unfold Ma.wl
  rw [List.take_succ_eq_append_getElem hk, List.filter_append]
  congr 1
  have : ls[k] = (p, q) := by rw [hp]; simp [List.getD, hk]
  rw [this]
  by_cases h : p = a
  · simp [h]
  · simp [h]


end Go.Proofs.YtinglgnddmadaaaDoor
