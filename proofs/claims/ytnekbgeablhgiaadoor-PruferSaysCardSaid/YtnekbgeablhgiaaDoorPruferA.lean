/-
  The iterator of package prufer over the points that go, each with the one beside it: it yields them in order, for every loop body that keeps what the iterator reads. No statement of the program is proved here; there is no condition.
-/
import Derived.Test.YtnekbgeablhgiaaDoorPruferT
import Derived.Test.YtnekbgeablhgiaaDoorWalkI
import Derived.Test.YtnekbgeablhgiaaDoorIterY
import Derived.Test.YtnekbgeablhgiaaDoorLibS
import Derived.ControlIn
namespace Go.Proofs.YtnekbgeablhgiaaDoor
open Go.RowKit Go.Shelf

attribute [local go_sem] Oper.semAt_some
set_option linter.unusedSimpArgs false
set_option linter.unusedVariables false

/-- slices.Index at []int, where it is found -/
theorem First_any (A : Option Addr) (n c : Nat) (xs : List Int) (v : Int) (a : Nat) (w : World) (hx : Rd w w.heap.size A n c xs) (ha : a < n) (h1 : xs.getD a 0 = v) (h2 : ∀ i, i < a → xs.getD i 0 ≠ v) :
    Calls Tryd.prog 29 #[.slice A n c, .int .i64 v] w fun e w' => e = .returned (.int .i64 (a : Int)) ∧ w = w' := by
  have hbn := hx.big
  have H1 := Lib.hid h1
  have H2 := Lib.hid h2
  clear h1 h2
  go_enter Tryd.func29, Tryd.ntmps29
  go_wp2
  go_loop [5, 8] (fun _ i => ∃ k : Nat, k ≤ a ∧ i = .int .i64 k) (fun _ i => n - (intOf i).toNat)
  case atStart => exact ⟨0, Nat.zero_le _, rfl⟩
  case round =>
    obtain ⟨k, hk, rfl⟩ := hrel
    obtain ⟨b1, o1, rfl, hb1, hc1⟩ := hx.at_ (by omega)
    have g1 := hc1 k (by omega)
    clear hc1
    by_cases he : k = a
    · subst he
      rw [H1.out] at g1
      go_wp2
      go_ret
      exact ⟨rfl, rfl⟩
    · have hne := H2.out k (by omega)
      obtain ⟨p, hp⟩ : ∃ p, p = xs.getD k 0 := ⟨_, rfl⟩
      rw [← hp] at g1 hne
      clear hp
      have hd : (v == p) = false := by simpa using fun e => hne e.symm
      have hd' : (p == v) = false := by simpa using hne
      have hlt : (k : Int) < (n : Int) := by omega
      clear hne
      go_wp2
      go_round
      case rel => exact ⟨k + 1, by omega, by go_num⟩
      case measure => simp [intOf]; omega

theorem removals_any (A : Option Addr) (n c gf : Nat) (cb : Array Value) (w : World) :
    Calls Tryd.prog 21 #[.slice A n c, .func (.func gf) #[] cb] w fun e w' => e = .returned (.func (.func 40) #[] #[.pointer (some ⟨w.heap.size, 0, none⟩), .pointer (some ⟨w.heap.size + 1, 0, none⟩)]) ∧
      w' = (w.alloc (.cells #[.slice A n c] 23)).alloc (.cells #[.func (.func gf) #[] cb] 49) := by
  have hmf : ∀ (fn : Fn) (first cap : Array Value) (w : World), (Instr.makeFunc fn first cap).run Tryd.prog w = .ok (.func fn first cap) w := fun _ _ _ _ => rfl
  go_enter Tryd.func21, Tryd.ntmps21
  go_wp2
  go_ret
  exact ⟨rfl, rfl⟩

/-- what the iterator holds: the box of the numbers, the box of the function, the numbers -/
def RmG (bd bn B db c : Nat) (gf : Nat) (cb : Array Value) (n : Nat) (ds : List Int) (W : World) : Prop :=
  W.cell? ⟨bd, 0, none⟩ = some (.slice (some ⟨db, 0, none⟩) n c) ∧ W.cell? ⟨bn, 0, none⟩ = some (.func (.func gf) #[] cb) ∧ Own W B 3 (.slice (some ⟨db, 0, none⟩) n c) ds
theorem RmG.below {bd bn B db c gf n : Nat} {cb : Array Value} {ds : List Int} {W W' : World} {s : Nat} (h : RmG bd bn B db c gf cb n ds W) (h1 : bd < s) (h2 : bn < s) (h3 : db < s) (hb : Below s W W') : RmG bd bn B db c gf cb n ds W' :=
  ⟨(hb.cell (p := ⟨bd, 0, none⟩) h1).trans h.1, (hb.cell (p := ⟨bn, 0, none⟩) h2).trans h.2.1, h.2.2.same fun k hk => by cases hk; exact hb.block db h3⟩
theorem RmG.kept {bd bn B db c gf n : Nat} {cb : Array Value} {ds : List Int} {X : Nat → Prop} {W W' : World} (h : RmG bd bn B db c gf cb n ds W) (h1 : ¬ X bd) (h2 : ¬ X bn) (h3 : ¬ X db) (hb : Kept X W W') : RmG bd bn B db c gf cb n ds W' :=
  ⟨hb.cell h.1 h1, hb.cell h.2.1 h2, h.2.2.same fun k hk => by cases hk; exact hb.2 db (h.2.2.lt db rfl) h3⟩
/-- one less, and one away -/
theorem RmG.step {bd bn B db c gf n : Nat} {cb : Array Value} {ds : List Int} {W : World} (h : RmG bd bn B db c gf cb n ds W) (h1 : bd ≠ db) (h2 : bn ≠ db) (a b : Nat) (y : Int) :
    RmG bd bn B db c gf cb n ((ds.set a 0).set b y) ((W.setCell ⟨db, a, none⟩ (.int .i64 0)).setCell ⟨db, b, none⟩ (.int .i64 y)) :=
  ⟨(World.cell?_setCell_other _ _ _ _ (fun e => h1 (congrArg Addr.block e).symm)).trans ((World.cell?_setCell_other _ _ _ _ (fun e => h1 (congrArg Addr.block e).symm)).trans h.1),
   (World.cell?_setCell_other _ _ _ _ (fun e => h2 (congrArg Addr.block e).symm)).trans ((World.cell?_setCell_other _ _ _ _ (fun e => h2 (congrArg Addr.block e).symm)).trans h.2.1),
   ((h.2.2.store a 0).1.store b y).1⟩

/-- what the two stores meet -/
theorem RmG.facts {bd bn B db c gf n : Nat} {cb : Array Value} {ds : List Int} {W : World} (h : RmG bd bn B db c gf cb n ds W) (h1 : bd ≠ db) {a b : Nat} {y : Int} (ha : a < n) (hb : b < n) (e1 : ds.getD a 0 = 1) (e2 : y = (ds.set a 0).getD b 0) :
    W.cell? ⟨bd, 0, none⟩ = some (.slice (some ⟨db, 0, none⟩) n c) ∧ W.cell? ⟨db, a, none⟩ = some (.int .i64 1) ∧ W.frozen? ⟨db, a, none⟩ = false ∧
    (W.setCell ⟨db, a, none⟩ (.int .i64 0)).cell? ⟨bd, 0, none⟩ = some (.slice (some ⟨db, 0, none⟩) n c) ∧ (W.setCell ⟨db, a, none⟩ (.int .i64 0)).cell? ⟨db, b, none⟩ = some (.int .i64 y) ∧ (W.setCell ⟨db, a, none⟩ (.int .i64 0)).frozen? ⟨db, b, none⟩ = false := by
  have hst := (h.2.2.store a 0).1
  refine ⟨h.1, ?_, h.2.2.frozen a, (World.cell?_setCell_other _ _ _ _ (fun e => h1 (congrArg Addr.block e).symm)).trans h.1, ?_, hst.frozen b⟩
  · rw [h.2.2.cell a ha, e1]
  · rw [hst.cell b hb, e2]

/-- at the head of the loop -/
def RmI (s bd bn B db c gf : Nat) (cb : Array Value) (n : Nat) (D : Nat → List Int) (zs : List (Nat × Nat)) (J : (Nat → Prop) → List (Nat × Nat) → World → Prop) (k : Nat) (W : World) : Prop :=
  (∃ T, J T (zs.take k) W) ∧ RmG bd bn B db c gf cb n (D k) W ∧ s ≤ W.heap.size

set_option maxRecDepth 100000 in
set_option maxHeartbeats 4000000 in
theorem removals1_in (l bd bn B db c gf s : Nat) (cb : Array Value) (n : Nat) (D : Nat → List Int) (zs : List (Nat × Nat)) (hrun : Pf.Run n D zs) (hn8 : n ≤ 8) (X : Nat → Prop) (G : List (Nat × Nat) → World → Prop)
    (h1 : bd < s) (h2 : bn < s) (h3 : db < s) (hBd : B ≤ db) (n1 : bd ≠ db) (n2 : bn ≠ db) (hX1 : ¬ X bd) (hX2 : ¬ X bn) (hX3 : ¬ X db)
    (eg : ∀ args w, (callFunc gf args).run Tryd.prog w = .ok (.enter gf args) w)
    (hask : ∀ k, k < zs.length → ∀ W, G (zs.take k) W → Own W B 3 (.slice (some ⟨db, 0, none⟩) n c) (D k) → Calls Tryd.prog gf (#[.int .i64 ((zs.getD k (0, 0)).1 : Int)] ++ cb) W fun e W' => e = .returned (.int .i64 ((zs.getD k (0, 0)).2 : Int)) ∧ Below W.heap.size W W')
    (J : (Nat → Prop) → List (Nat × Nat) → World → Prop) (Jx : List (Nat × Nat) → World → Prop) (hJ : StaysT s J) (hJY : SetY (fun k => k = db) J) (hL : LieT s J) (hJG : ∀ T pre A, J T pre A → G pre A)
    (hY : ∀ T pre x W1, J T pre W1 → (pre ++ [x]) <+: zs → YieldAt Fence.wide 8 Tryd.prog l (encP x) W1 fun e W' =>
      (e = .returned (.bool true) ∧ ∃ T', (∀ k, T' k → T k ∨ W1.heap.size ≤ k) ∧ J T' (pre ++ [x]) W' ∧ Kept (fun k => X k ∨ T k) W1 W') ∨ (e = .returned (.bool false) ∧ Jx (pre ++ [x]) W'))
    (W : World) (hs : W.heap.size = s) (hG : RmG bd bn B db c gf cb n (D 0) W) (h0 : J (fun _ => False) [] W) :
    CallsIn Fence.wide 9 Tryd.prog 40 #[.func (.yield l) #[] #[], .pointer (some ⟨bd, 0, none⟩), .pointer (some ⟨bn, 0, none⟩)] W fun e W' => (∃ v, e = .returned v) ∧
      ((∃ T, J T zs W' ∧ RmG bd bn B db c gf cb n (D zs.length) W') ∨ ∃ pre, pre <+: zs ∧ Jx pre W') := by
  have hro : Fence.wide.round = none := rfl
  have hF1 : Fence.wide.fn 29 := trivial
  have hF2 : Fence.wide.fn gf := trivial
  obtain ⟨r, hr⟩ : ∃ r, r = zs.length := ⟨_, rfl⟩
  have hrn : r + 2 = n := by rw [hr]; exact hrun.len
  have HR := Lib.hid hr
  have HRUN := Lib.hid hrun
  have HASK := Lib.hid hask
  have HY := Lib.hid hY
  have HJ := Lib.hid hJ
  have HJY := Lib.hid hJY
  have HLT := Lib.hid hL
  have HJG := Lib.hid hJG
  clear hY hJ hL hJY hJG hask hrun hr
  have g1 := hG.1
  have HI : RmI s bd bn B db c gf cb n D zs J 0 W := ⟨⟨_, h0⟩, hG, by omega⟩
  clear hG h0
  refine callsIn_of_wp Tryd.func40 rfl trivial ?_ hro
  simp only [Tryd.ntmps40, List.size_toArray, List.length_cons, List.length_nil, Nat.reduceAdd, Nat.reduceSub, Array.replicate_succ, Array.replicate_zero, List.push_toArray, List.append_toArray, List.nil_append, List.cons_append]
  gi_wp2
  clear g1
  gi_loopw [4, 5, 9] (fun _ _ iv wr => ∃ i : Nat, i ≤ r ∧ iv = .int .i64 (i : Int) ∧ RmI s bd bn B db c gf cb n D zs J i wr) (fun _ _ iv _ => r - (intOf iv).toNat)
  case atStart => exact ⟨0, Nat.zero_le _, rfl, HI⟩
  case round =>
    clear HI
    obtain ⟨i, hi, rfl, ⟨T, hj⟩, hG, hsz⟩ := hrel
    by_cases hlt : i < r
    · have hlt' : i < zs.length := by rw [← HR.out]; exact hlt
      obtain ⟨q1, q2⟩ := HRUN.out.lt i hlt'
      obtain ⟨e1, e2⟩ := HRUN.out.one i hlt'
      have hnx := HRUN.out.next i hlt'
      have hA := HASK.out i hlt' wr (HJG.out _ _ _ hj) hG.2.2
      have hpre : zs.take i ++ [zs.getD i (0, 0)] = zs.take (i + 1) := by
        rw [List.take_succ_eq_append_getElem hlt']
        simp [List.getD, hlt']
      have hsm := (HRUN.out.small i (zs.getD i (0, 0)).2 (Nat.le_of_lt hlt'))
      obtain ⟨⟨a, b⟩, hab⟩ : ∃ p, p = zs.getD i (0, 0) := ⟨_, rfl⟩
      rw [← hab] at q1 q2 e1 e2 hnx hA hpre hsm
      simp only at q1 q2 e1 e2 hnx hA hsm
      have HAB := Lib.hid hab
      obtain ⟨y, hy⟩ : ∃ y, y = ((D i).set a 0).getD b 0 := ⟨_, rfl⟩
      rw [← hy] at hnx
      have hys : 0 ≤ y ∧ y ≤ 16 := by
        rw [hy]
        simp only [List.getD, List.getElem?_set]
        by_cases hab : a = b
        · subst hab
          have : a < (D i).length := by rw [HRUN.out.dl i (Nat.le_of_lt hlt')]; exact q1
          simp [this]
        · rw [if_neg hab]
          exact hsm
      have HPRE := Lib.hid hpre
      have HNX := Lib.hid hnx
      have HA := Lib.hid hA
      have HF := Lib.hid (First_any (some ⟨db, 0, none⟩) n c (D i) 1 a wr hG.2.2.rd' q1 e1 e2)
      have HD := Lib.hid hy
      have HE := Lib.hid e1
      clear hab hpre hnx hA e1 e2 hsm hy
      have g1 := hG.1
      have g2 := hG.2.1
      have a0 : (0 : Int) ≤ (a : Int) := by omega
      have a1 : (a : Int) < (n : Int) := by omega
      have b0 : (0 : Int) ≤ (b : Int) := by omega
      have b1 : (b : Int) < (n : Int) := by omega
      have k1 : (i : Int) < (n : Int) - 2 := by omega
      gi_wp2_with (first
        | (gi_at_call 29; refine (callsIn_wide.2 HF.out).mono ?_; rintro e w1 ⟨rfl, rfl⟩)
        | (refine (callsIn_wide.2 HA.out).mono ?_; rintro e w5 ⟨rfl, hb5⟩; obtain ⟨c1, c2, c3, c4, c5, c6⟩ := (hG.below (Nat.lt_of_lt_of_le h1 hsz) (Nat.lt_of_lt_of_le h2 hsz) (Nat.lt_of_lt_of_le h3 hsz) hb5).facts n1 q1 q2 HE.out HD.out;
           have hG6 := (hG.below (Nat.lt_of_lt_of_le h1 hsz) (Nat.lt_of_lt_of_le h2 hsz) (Nat.lt_of_lt_of_le h3 hsz) hb5).step n1 n2 a b (y - 1);
           have hj6 := HJY.out _ _ _ ⟨db, b, none⟩ (.int .i64 (y - 1)) rfl (HJY.out _ _ _ ⟨db, a, none⟩ (.int .i64 0) rfl (HJ.out _ _ _ _ hj (hb5.mono hsz) (fun k hk => hb5.block k (HLT.out _ _ _ hj k hk).2)));
           obtain ⟨W6, hW6⟩ : ∃ W6, W6 = (w5.setCell ⟨db, a, none⟩ (.int .i64 0)).setCell ⟨db, b, none⟩ (.int .i64 (y - 1)) := ⟨_, rfl⟩;
           rw [← hW6] at hG6 hj6;
           have hs6 : s ≤ W6.heap.size := (by rw [hW6]; simp; exact Nat.le_trans hsz hb5.size);
           obtain ⟨fn, tmps, assign, body, hy, hRd⟩ := HY.out T (zs.take i) (a, b) W6 hj6 (by rw [HPRE.out]; exact List.take_prefix _ _);
           simp only [encP] at hy; rw [hW6] at hy))
      rw [← hW6]
      clear hW6 hy
      refine hRd.mono ?_
      rintro e W3 (⟨rfl, T3, hT3, hJ3, hk3⟩ | ⟨rfl, hJx3⟩)
      · have hTL := HLT.out _ _ _ hj6
        have hG3 := hG6.kept (X := fun k => X k ∨ T k) (fun h => h.elim hX1 (fun h => by have := (hTL _ h).1; omega)) (fun h => h.elim hX2 (fun h => by have := (hTL _ h).1; omega)) (fun h => h.elim hX3 (fun h => by have := (hTL _ h).1; omega)) hk3
        have HF3 : RmI s bd bn B db c gf cb n D zs J (i + 1) W3 := by
          refine ⟨⟨T3, ?_⟩, ?_, Nat.le_trans hs6 hk3.1⟩
          · rw [← HPRE.out]; exact hJ3
          · rw [HNX.out]; exact hG3
        clear hG hj hG6 hj6 hG3 hJ3 hk3 c1 c2 c3 c4 c5 c6 g1 g2 hT3 hTL
        gi_wp2
        go_roundw
        case rel => exact ⟨i + 1, by omega, by go_num, HF3⟩
        case measure => simp [intOf]; omega
      · gi_wp2
        refine bodyPost_ret (results_none rfl _ _ _) rfl ?_
        exact ⟨⟨_, rfl⟩, .inr ⟨_, by rw [HPRE.out]; exact List.take_prefix _ _, hJx3⟩⟩
    · obtain rfl : i = r := by omega
      have hfin : J T zs wr := by
        rw [HR.out, List.take_length] at hj
        exact hj
      have k1 : ¬ (i : Int) < (n : Int) - 2 := by omega
      have hend : RmG bd bn B db c gf cb n (D zs.length) wr := by rw [← HR.out]; exact hG
      clear hj hG
      gi_wp2
      go_end0
      first | exact ⟨⟨_, rfl⟩, .inl ⟨⟨_, hfin⟩, hend⟩⟩ | exact ⟨⟨_, rfl⟩, .inl ⟨_, hfin, hend⟩⟩

/-- the same, as the caller's law asks for it -/
theorem removals1_seq (bd bn B db c gf : Nat) (cb : Array Value) (n : Nat) (D : Nat → List Int) (zs : List (Nat × Nat)) (hrun : Pf.Run n D zs) (hn8 : n ≤ 8) (X : Nat → Prop) (G : List (Nat × Nat) → World → Prop) (w : World)
    (hBd : B ≤ db) (n1 : bd ≠ db) (n2 : bn ≠ db) (hX1 : ¬ X bd) (hX2 : ¬ X bn) (hX3 : ¬ X db) (hXs : ∀ k, X k → k < w.heap.size)
    (eg : ∀ args w, (callFunc gf args).run Tryd.prog w = .ok (.enter gf args) w)
    (hask : ∀ k, k < zs.length → ∀ W, G (zs.take k) W → Own W B 3 (.slice (some ⟨db, 0, none⟩) n c) (D k) → Calls Tryd.prog gf (#[.int .i64 ((zs.getD k (0, 0)).1 : Int)] ++ cb) W fun e W' => e = .returned (.int .i64 ((zs.getD k (0, 0)).2 : Int)) ∧ Below W.heap.size W W')
    (hG : RmG bd bn B db c gf cb n (D 0) w) :
    SeqCellsY Fence.wide 9 Tryd.prog 40 #[.pointer (some ⟨bd, 0, none⟩), .pointer (some ⟨bn, 0, none⟩)] encP X (fun k => k = db) G (RmG bd bn B db c gf cb n (D zs.length)) zs w := by
  intro l J Jx W hb hsz hJ hJY hL _ hJG hY h0
  have e1 := World.block_lt_of_cell? w _ hG.1
  have e2 := World.block_lt_of_cell? w _ hG.2.1
  have e3 := hG.2.2.lt db rfl
  simp only at e1 e2
  exact removals1_in l bd bn B db c gf W.heap.size cb n D zs hrun hn8 (fun k => X k ∨ (w.heap.size ≤ k ∧ k < W.heap.size)) G (by omega) (by omega) (by omega) hBd n1 n2 (fun h => h.elim hX1 (fun h => by omega)) (fun h => h.elim hX2 (fun h => by omega)) (fun h => h.elim hX3 (fun h => by omega))
    eg hask J Jx hJ hJY hL hJG hY W rfl (hG.below e1 e2 e3 hb) h0

end Go.Proofs.YtnekbgeablhgiaaDoor
