/-
  Contracts of package close: through; pairs, and the iterator that it hands back (it yields the pairs that the table takes, in order, for every loop body).
-/
import Derived.Test.YthalopmplekdoaaDoorCloseA
import Derived.Test.YthalopmplekdoaaDoorGraphI
import Derived.Laws.EntriesVeiled
namespace Go.Proofs.YthalopmplekdoaaDoor
open Go.RowKit Go.Shelf

attribute [local go_sem] Oper.semAt_some
set_option linter.unusedSimpArgs false
set_option linter.unusedVariables false

theorem tbl_agg (r : Nat → Nat → Bool) : ((Cl.tbl r).map Value.bool).toArray.size = 64 := by simp [Cl.tbl_len]

theorem tpairs_any (r : Nat → Nat → Bool) (w : World) :
    Calls Tryd.prog 32 #[.agg ((Cl.tbl r).map Value.bool).toArray] w fun e w' => e = .returned (.func (.func 40) #[] #[.pointer (some ⟨w.heap.size, 0, none⟩)]) ∧
      w' = w.alloc (.cells ((Cl.tbl r).map Value.bool).toArray 74) := by
  have hmf : ∀ (fn : Fn) (first cap : Array Value) (w : World), (Instr.makeFunc fn first cap).run Tryd.prog w = .ok (.func fn first cap) w := fun _ _ _ _ => rfl
  go_enter Tryd.func32, Tryd.ntmps32
  go_wp2
  go_ret
  exact ⟨rfl, rfl⟩

/-! ### whole arrays inside a fence -/
section
variable {F : Fence} {n : Nat} {P : Program}
theorem wpListIn_loadB {ops : Array Oper} {rest : List Oper} {o : Oper} {a : Act} {w : World} {Q : Exit → Act → World → Prop} (hgd : o.guard = none) (ty : TypeId) (x : Operand) (ho : o.op = .load ty x)
    (b : Nat) (hx : a.eval x = .pointer (some ⟨b, 0, none⟩)) (t : TypeId) (xs : List Bool) (h : ArB w b t xs) (k : Nat) (e : TypeId) (hu : P.underlying ty = some (.array k e)) (hi : (P.info? ty).map (·.size) = some xs.length)
    (hK : wpListIn F n P ops Q rest (a.put o.dst (.agg (xs.map Value.bool).toArray)) w) : wpListIn F n P ops Q (o :: rest) a w := by
  refine wpListIn_plain hgd fun K hK' => ?_
  unfold Oper.wpIn
  refine ⟨by simp [Oper.about, ho], ?_⟩
  rw [Oper.semAt_plain F _ _ (by rw [ho]; intro c hc'; cases hc')]
  simp only [execOp, ho, hx, Instr.loadAt, Instr.sureAddr, Sem.run_bind, Sem.run_pure, Result.andThen_ok, run_loadVar_row w b t ty _ (0, 0) _ h hu rfl (show (P.info? ty).map (·.size) = some (xs.map Value.bool).toArray.size by rw [hi]; simp)]
  exact hK' _ _ hK
theorem wpListIn_storeB {ops : Array Oper} {rest : List Oper} {o : Oper} {a : Act} {w : World} {Q : Exit → Act → World → Prop} (hgd : o.guard = none) (ty : TypeId) (x y : Operand) (ho : o.op = .store ty x y)
    (b : Nat) (hx : a.eval x = .pointer (some ⟨b, 0, none⟩)) (ys : List Bool) (hy : a.eval y = .agg (ys.map Value.bool).toArray) (t : TypeId) (xs : List Bool) (h : ArB w b t xs) (hi : (P.info? ty).map (·.size) = some ys.length) (hl : xs.length = ys.length)
    (hK : ∀ w', ArB w' b t ys → (∀ B, B ≤ b → Below B w w') → w'.heap.size = w.heap.size → wpListIn F n P ops Q rest (a.put o.dst undef) w') : wpListIn F n P ops Q (o :: rest) a w := by
  refine wpListIn_plain hgd fun K hK' => ?_
  have hs := run_storeVar_row (P := P) w b t ty (xs.map Value.bool).toArray (ys.map Value.bool).toArray h (by rw [hi]; simp) (by simp [hl]) (by simp [Value.oneCell'])
  unfold Oper.wpIn
  refine ⟨by simp [Oper.about, ho], ?_⟩
  rw [Oper.semAt_plain F _ _ (by rw [ho]; intro c hc'; cases hc')]
  simp only [execOp, ho, hx, hy, Instr.storeAt, Instr.sureAddr, Sem.run_bind, Sem.run_pure, Result.andThen_ok, hs]
  exact hK' _ _ (hK _ (setRow_heap w b _ _ t (0, 0) h) (fun B hB => ⟨rfl, rfl, rfl, by simp, fun k hk => setRow_other w b k _ (by omega)⟩) (by simp))
end

/-- row a of a table -/
def rowb (r : Nat → Nat → Bool) (a : Nat) : List Bool := (List.range 8).map (r a)
theorem rowb_len (r : Nat → Nat → Bool) (a : Nat) : (rowb r a).length = 8 := by simp [rowb]
theorem rowb_at (r : Nat → Nat → Bool) (a : Nat) {b : Nat} (hb : b < 8) : (rowb r a).getD b false = r a b := by simp [rowb, List.getD, hb]
theorem tbl_row (r : Nat → Nat → Bool) {a : Nat} (ha : a < 8) : (((Cl.tbl r).map Value.bool).toArray.extract (a * 8) (a * 8 + 8)) = ((rowb r a).map Value.bool).toArray := by
  apply Array.ext
  · simp [Cl.tbl_len, rowb_len]; omega
  · intro i h1 h2
    have hi : i < 8 := by simpa [rowb_len] using h2
    have h3 := Cl.tbl_at r ha hi
    have h4 : a * 8 + i < (Cl.tbl r).length := by rw [Cl.tbl_len]; omega
    simp [List.getD, h4] at h3
    simp [h3, rowb]
theorem run_rowOf (r : Nat → Nat → Bool) {a : Nat} (ha : a < 8) (w : World) : (Instr.index 74 (.agg ((Cl.tbl r).map Value.bool).toArray) (.int .i64 (a : Int))).run Tryd.prog w = .ok (.agg ((rowb r a).map Value.bool).toArray) w := by
  have hu : Tryd.prog.underlying 74 = some (.array 8 67) := Tryd.underlying74
  have hv : Tryd.prog.underlying 67 = some (.array 8 4) := Tryd.underlying67
  have h8 : (sizeOf 67).run Tryd.prog w = .ok 8 w := by kernel_rfl
  have hag : (isAgg 67).run Tryd.prog w = .ok true w := by kernel_rfl
  have c1 : (0 : Int) ≤ (a : Int) ∧ (a : Int) < ((8 : Nat) : Int) := by omega
  simp only [Instr.index, asIntOf, Sem.run_bind, Sem.run_pure, Result.andThen_ok, run_underlying hu w, if_pos c1, h8, part, hag, Int.toNat_natCast, if_true, tbl_row r ha]
theorem run_cellOf (xs : List Bool) (hl : xs.length = 8) {b : Nat} (hb : b < 8) (w : World) : (Instr.index 67 (.agg (xs.map Value.bool).toArray) (.int .i64 (b : Int))).run Tryd.prog w = .ok (.bool (xs.getD b false)) w := by
  have hv : Tryd.prog.underlying 67 = some (.array 8 4) := Tryd.underlying67
  have h8 : (sizeOf 4).run Tryd.prog w = .ok 1 w := by kernel_rfl
  have hag : (isAgg 4).run Tryd.prog w = .ok false w := by kernel_rfl
  have c1 : (0 : Int) ≤ (b : Int) ∧ (b : Int) < ((8 : Nat) : Int) := by omega
  have c2 : (xs.map Value.bool).toArray[b * 1]? = some (.bool (xs.getD b false)) := by simp [List.getD, show b < xs.length by omega]
  simp only [Instr.index, asIntOf, Sem.run_bind, Sem.run_pure, Result.andThen_ok, run_underlying hv w, if_pos c1, h8, part, hag, Int.toNat_natCast, c2, Bool.false_eq_true, if_false]

set_option maxRecDepth 100000 in
set_option maxHeartbeats 2000000 in
theorem tpairs1 (l m b1 : Nat) (r : Nat → Nat → Bool) (hm : m ≤ 8) (hr : ∀ a b, r a b = true → a < m ∧ b < m)
    (J Jx : List (Fin m × Fin m) → World → Prop) (hJ : ∀ pre W W', J pre W → Below W.heap.size W W' → J pre W')
    (hY : ∀ pre x W, J pre W → pre.length < 64 → YieldAt Fence.wide 8 Tryd.prog l (enc2 x) W fun e W' =>
      (e = .returned (.bool true) ∧ J (pre ++ [x]) W') ∨ (e = .returned (.bool false) ∧ Jx (pre ++ [x]) W'))
    (W : World) (hW : ArB W b1 74 (Cl.tbl r)) (h0 : J [] W) :
    CallsIn Fence.wide 9 Tryd.prog 40 #[.func (.yield l) #[] #[], .pointer (some ⟨b1, 0, none⟩)] W fun e W' => (∃ v, e = .returned v) ∧
      ((∃ xs, xs.map nat2 = Gr.full m r ∧ J xs W') ∨ (∃ pre, True ∧ Jx pre W')) := by
  have hro : Fence.wide.round = none := rfl
  have hts : (Tryd.prog.info? 74).map (·.size) = some (Cl.tbl r).length := by rw [Cl.tbl_len]; exact relInfo
  refine callsIn_of_wp Tryd.func40 rfl trivial ?_ hro
  simp only [Tryd.ntmps40, List.size_toArray, List.length_cons, List.length_nil, Nat.reduceAdd, Nat.reduceSub, Array.replicate_succ, Array.replicate_zero, List.push_toArray, List.append_toArray, List.nil_append, List.cons_append]
  gi_wp2_with (first | refine wpListIn_loadB rfl 74 (.tmp 1) rfl _ rfl _ _ hW _ _ Tryd.underlying74 hts ?_)
  clear hW
  gi_loopw [8] (fun i wr => ∃ (a : Nat) (pre : List (Fin m × Fin m)), a ≤ 8 ∧ i = .int .i64 (a : Int) ∧ Hid (pre.map nat2 = Gr.upTo 8 r a 0) ∧ J pre wr) (fun i _ => 8 - (intOf i).toNat)
  case atStart => exact ⟨0, [], Nat.zero_le _, rfl, by show _ = _; simp [Gr.upTo], h0⟩
  case round =>
    clear h0
    obtain ⟨a, pre, ha, rfl, H, hj⟩ := hrel
    by_cases hlt : a < 8
    · have i1 := run_rowOf r hlt
      have hrs : (Tryd.prog.info? 67).map (·.size) = some (rowb r a).length := by rw [rowb_len]; exact rel8Info
      have hn8 : ArB (wr.alloc (.cells #[.bool false, .bool false, .bool false, .bool false, .bool false, .bool false, .bool false, .bool false] 67)) wr.heap.size 67 (List.replicate 8 false) := (by have h := ArB.new wr 67 (List.replicate 8 false); exact h)
      have hl8 : (List.replicate 8 false).length = (rowb r a).length := by rw [rowb_len]; rfl
      have hbn : Below wr.heap.size wr (wr.alloc (.cells #[.bool false, .bool false, .bool false, .bool false, .bool false, .bool false, .bool false, .bool false] 67)) := (Below.refl _ _).alloc (Nat.le_refl _) _
      have hll := rowb_len r a
      obtain ⟨rw_, hrw⟩ : ∃ rw_, rw_ = rowb r a := ⟨_, rfl⟩
      rw [← hrw] at hrs hl8 hll
      have i1' : ∀ w, (Instr.index 74 (.agg ((Cl.tbl r).map Value.bool).toArray) (.int .i64 (a : Int))).run Tryd.prog w = .ok (.agg (rw_.map Value.bool).toArray) w := by rw [hrw]; exact i1
      clear i1
      have HRW := Lib.hid hrw
      clear hrw
      have HLL := Lib.hid hll
      clear hll
      gi_wp2_with (first
        | (refine wpListIn_storeB rfl 67 (.tmp 4) (.tmp 11) rfl _ rfl rw_ rfl _ _ hn8 hrs hl8 ?_; intro w2 u1 u2 u3)
        | (refine wpListIn_loadB rfl 67 (.tmp 4) rfl _ rfl _ _ u1 _ _ Tryd.underlying67 hrs ?_))
      have hj2 := hJ _ _ _ hj (hbn.trans (u2 _ (Nat.le_refl _)))
      clear hj hbn u1 u2 u3 hn8 i1'
      gi_loopw [13] (fun i wi => ∃ (b : Nat) (pre : List (Fin m × Fin m)), b ≤ 8 ∧ i = .int .i64 (b : Int) ∧ Hid (pre.map nat2 = Gr.upTo 8 r a b) ∧ J pre wi) (fun i _ => 8 - (intOf i).toNat)
      case atStart => exact ⟨0, pre, Nat.zero_le _, rfl, H, hj2⟩
      case round =>
        clear hj2 H
        obtain ⟨b, pre, hb, rfl, H, hj⟩ := hrel
        by_cases hlb : b < 8
        · have i2 := run_cellOf rw_ HLL.out hlb
          have e2 : rw_.getD b false = r a b := by rw [HRW.out]; exact rowb_at r a hlb
          rw [e2] at i2
          clear e2
          cases hab : r a b
          · have hnext : Hid (pre.map nat2 = Gr.upTo 8 r a (b + 1)) := by show _ = _; rw [H.out, Gr.upTo_miss hab]
            rw [hab] at i2
            clear hab
            gi_wp2
            refine ⟨fun _ _ => trivial, ?_⟩
            gi_wp2
            go_roundw
            case rel => exact ⟨b + 1, pre, by omega, by go_num, hnext, hj⟩
            case measure => simp [intOf]; omega
          · obtain ⟨ham, hbm⟩ := hr a b hab
            have hnext : Hid ((pre ++ [((⟨a, ham⟩ : Fin m), (⟨b, hbm⟩ : Fin m))]).map nat2 = Gr.upTo 8 r a (b + 1)) := by
              show _ = _
              rw [List.map_append, H.out, Gr.upTo_hit hab]
              rfl
            have hlen : pre.length < 64 := by
              have := congrArg List.length H.out
              rw [List.length_map] at this
              rw [this]
              exact Gr.upTo_small (m := 8) hlt hlb
            rw [hab] at i2
            clear hab
            obtain ⟨fn, tmps, assign, body, hy, hR⟩ := hY pre (⟨a, ham⟩, ⟨b, hbm⟩) wr hj hlen
            simp only [enc2] at hy
            gi_wp2
            refine hR.mono ?_
            rintro e W3 (⟨rfl, hJ3⟩ | ⟨rfl, hJx3⟩)
            · gi_wp2
              go_roundw
              case rel => exact ⟨b + 1, _, by omega, by go_num, hnext, hJ3⟩
              case measure => simp [intOf]; omega
            · gi_wp2
              refine bodyPost_ret (results_none rfl _ _ _) rfl ?_
              exact ⟨⟨_, rfl⟩, .inr ⟨_, trivial, hJx3⟩⟩
        · obtain rfl : b = 8 := by omega
          have hnext : Hid (pre.map nat2 = Gr.upTo 8 r (a + 1) 0) := by show _ = _; rw [H.out, Gr.upTo_row]
          gi_wp2
          go_roundw
          case rel => exact ⟨a + 1, pre, by omega, by go_num, hnext, hj⟩
          case measure => simp [intOf]; omega
    · obtain rfl : a = 8 := by omega
      gi_wp2
      go_end0
      exact ⟨⟨_, rfl⟩, .inl ⟨pre, by rw [H.out, Gr.upTo_done]; exact Cl.full_cut hm hr, hj⟩⟩

/-- the same, as the caller's law asks for it -/
theorem tpairs1_stops (m b1 : Nat) (r : Nat → Nat → Bool) (hm : m ≤ 8) (hr : ∀ a b, r a b = true → a < m ∧ b < m) (w : World) (hw : ArB w b1 74 (Cl.tbl r)) :
    SeqStopsK Fence.wide 9 Tryd.prog 40 #[.pointer (some ⟨b1, 0, none⟩)] (enc2 (m := m)) (fun _ _ => True) (fun xs => xs.map nat2 = Gr.full m r) (fun _ => True) 64 w :=
  fun l J Jx W hW hJ _ hY h0 => tpairs1 l m b1 r hm hr J Jx (fun _ _ _ hs hb => hJ _ _ _ none hs (grown_of_below hb none) (fun _ e => by cases e))
    (fun pre x W h1 h2 => (hY pre x W h1 h2).mono fun e W' h => h.elim (fun h => .inl ⟨h.1, h.2.1⟩) .inr) W (hw.past hW) h0

end Go.Proofs.YthalopmplekdoaaDoor
