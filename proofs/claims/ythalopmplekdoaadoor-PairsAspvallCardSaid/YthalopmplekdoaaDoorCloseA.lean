/-
  Contracts of package close: closure (a table that is filled in place), through.
-/
import Derived.Test.YthalopmplekdoaaDoorCloseP
import Derived.Test.YthalopmplekdoaaDoorArr
import Derived.Test.YthalopmplekdoaaDoorGraphC
import Derived.Laws.Rows
import Derived.Laws.Tables
import Derived.Deep.WholeRow
namespace Go.Proofs.YthalopmplekdoaaDoor
open Go.RowKit Go.Shelf

attribute [local go_sem] Oper.semAt_some
set_option linter.unusedSimpArgs false
set_option linter.unusedVariables false

section
variable {w w' : World} {b : Nat} {t : TypeId} {bs : List Bool}
theorem ArB.below {B : Nat} (h : ArB w b t bs) (hb : Below B w w') (hlt : b < B) : ArB w' b t bs := h.same (hb.block b hlt)
theorem ArB.past (h : ArB w b t bs) (hb : Below w.heap.size w w') : ArB w' b t bs := h.below hb h.lt
theorem ArB.other (h : ArB w b t bs) {a : Addr} (v : Value) (hne : b ≠ a.block) : ArB (w.setCell a v) b t bs := h.same (heap_setCell_other w a b v hne)
theorem ArB.alloc (h : ArB w b t bs) (o : Obj) : ArB (w.alloc o) b t bs := h.same (Below.heap_alloc _ _ _ h.lt)
end
section
variable {P : Program}
/-- a whole array, by value -/
theorem wpList_loadB {ops : Array Oper} {rest : List Oper} {o : Oper} {a : Act} {w : World} {Q : Exit → Act → World → Prop} (hgd : o.guard = none) (ty : TypeId) (x : Operand) (ho : o.op = .load ty x)
    (b : Nat) (hx : a.eval x = .pointer (some ⟨b, 0, none⟩)) (t : TypeId) (xs : List Bool) (h : ArB w b t xs) (n : Nat) (e : TypeId) (hu : P.underlying ty = some (.array n e)) (hi : (P.info? ty).map (·.size) = some xs.length)
    (hK : wpList P ops Q rest (a.put o.dst (.agg (xs.map Value.bool).toArray)) w) : wpList P ops Q (o :: rest) a w :=
  wpList_load_row hgd ty x ho b hx t _ _ _ h hu rfl (by rw [hi]; simp) hK
/-- a whole array, stored -/
theorem wpList_storeB {ops : Array Oper} {rest : List Oper} {o : Oper} {a : Act} {w : World} {Q : Exit → Act → World → Prop} (hgd : o.guard = none) (ty : TypeId) (x y : Operand) (ho : o.op = .store ty x y)
    (b : Nat) (hx : a.eval x = .pointer (some ⟨b, 0, none⟩)) (ys : List Bool) (hy : a.eval y = .agg (ys.map Value.bool).toArray) (t : TypeId) (xs : List Bool) (h : ArB w b t xs) (hi : (P.info? ty).map (·.size) = some ys.length) (hl : xs.length = ys.length)
    (hK : ∀ w', ArB w' b t ys → (∀ k, k ≠ b → w'.heap[k]? = w.heap[k]?) → (∀ B, B ≤ b → Below B w w') → w'.heap.size = w.heap.size → wpList P ops Q rest (a.put o.dst undef) w') : wpList P ops Q (o :: rest) a w := by
  refine wpList_store_row hgd ty x y ho b _ hx hy t _ h (by rw [hi]; simp) (by simp [hl]) (by simp [Value.oneCell']) (hK _ ?_ (fun k hk => setRow_other w b k _ hk) (fun B hB => ⟨rfl, rfl, rfl, by simp, fun k hk => setRow_other w b k _ (by omega)⟩) (by simp))
  exact setRow_heap w b _ _ t (0, 0) h
/-- a whole array that a function hands back -/
theorem results_B {fn : Func} {p : Tmp} {ty : TypeId} (h : fn.results = #[.cell p ty]) (tmps : Array Value) (w : World) (b : Nat) (t : TypeId) (xs : List Bool) (hp : tmps.getD p undef = .pointer (some ⟨b, 0, none⟩)) (ha : ArB w b t xs)
    (n : Nat) (e : TypeId) (hu : P.underlying ty = some (.array n e)) (hi : (P.info? ty).map (·.size) = some xs.length) : (results fn tmps).run P w = .ok (.agg (xs.map Value.bool).toArray) w :=
  results_cell_row h tmps w b t _ _ _ hp ha hu rfl (by rw [hi]; simp)
end

theorem false64 : (List.replicate 64 false).map Value.bool = [.bool false, .bool false, .bool false, .bool false, .bool false, .bool false, .bool false, .bool false, .bool false, .bool false, .bool false, .bool false, .bool false, .bool false, .bool false, .bool false, .bool false, .bool false, .bool false, .bool false, .bool false, .bool false, .bool false, .bool false, .bool false, .bool false, .bool false, .bool false, .bool false, .bool false, .bool false, .bool false, .bool false, .bool false, .bool false, .bool false, .bool false, .bool false, .bool false, .bool false, .bool false, .bool false, .bool false, .bool false, .bool false, .bool false, .bool false, .bool false, .bool false, .bool false, .bool false, .bool false, .bool false, .bool false, .bool false, .bool false, .bool false, .bool false, .bool false, .bool false, .bool false, .bool false, .bool false, .bool false] := rfl
theorem relInfo : (Tryd.prog.info? 74).map (·.size) = some 64 := by kernel_rfl
theorem rel8Info : (Tryd.prog.info? 67).map (·.size) = some 8 := by kernel_rfl

/-- in the midst of closure -/
def ClI (w : World) (r : Nat → Nat → Bool) (wr : World) : Prop := ArB wr w.heap.size 74 (List.replicate 64 false) ∧ ArB wr (w.heap.size + 1) 74 (Cl.tbl r) ∧ Below w.heap.size w wr
theorem ClI.to {w wr : World} {r s : Nat → Nat → Bool} (h : ClI w r wr) (e : Cl.tbl r = Cl.tbl s) : ClI w s wr := ⟨h.1, by rw [← e]; exact h.2.1, h.2.2⟩
theorem ClI.cell {w wr : World} {r : Nat → Nat → Bool} (h : ClI w r wr) {a b : Nat} (ha : a < 8) (hb : b < 8) : wr.cell? ⟨w.heap.size + 1, a * 8 + b, none⟩ = some (.bool (r a b)) := by
  rw [h.2.1.cell (by rw [Cl.tbl_len]; omega), Cl.tbl_at r ha hb]
theorem ClI.set {w wr : World} {r s : Nat → Nat → Bool} (h : ClI w r wr) {a b : Nat} (e : (Cl.tbl r).set (a * 8 + b) true = Cl.tbl s) : ClI w s (wr.setCell ⟨w.heap.size + 1, a * 8 + b, none⟩ (.bool true)) :=
  ⟨h.1.other _ (by simp), by rw [← e]; exact h.2.1.store _ _, h.2.2.setCell (by simp) _⟩
theorem ClI.drew {w wr : World} {r : Nat → Nat → Bool} (h : ClI w r wr) : ClI w r wr.drew := ⟨h.1, h.2.1, h.2.2.drew⟩
theorem ClI.alloc {w wr : World} {r : Nat → Nat → Bool} (h : ClI w r wr) (o : Obj) : ClI w r (wr.alloc o) := ⟨h.1.alloc o, h.2.1.alloc o, h.2.2.alloc h.2.2.size o⟩

set_option maxRecDepth 100000 in
set_option maxHeartbeats 2000000 in
theorem closure_any (n : Nat) (h8 : n ≤ 8) (A : Option Addr) (k c : Nat) (ls : List Gr.Ln) (w : World) (hr : RdP w w.heap.size A k c ls) (hg : ∀ p ∈ ls, Gr.Good (n : Int) p) :
    Calls Tryd.prog 31 #[.slice A k c] w fun e w' => e = .returned (.agg ((Cl.tbl (Cl.cl ls 8)).map Value.bool).toArray) ∧ Below w.heap.size w w' := by
  have HX := Lib.hid hr.len
  have HG := Lib.hid hg
  clear hg
  have hbig := hr.big
  go_enter Tryd.func31, Tryd.ntmps31
  go_wp2
  have H00 : ClI w (Cl.hasTo ls 0) _ := ⟨(ArB.new w 74 (List.replicate 64 false)).alloc _, (by have := ArB.new (w.alloc (.cells ((List.replicate 64 false).map Value.bool).toArray 74)) 74 (List.replicate 64 false); rw [World.size_alloc] at this; rw [Cl.tbl_zero]; exact this), ((Below.refl _ _).alloc (Nat.le_refl _) _).alloc (by rw [World.size_alloc]; omega) _⟩
  rw [false64] at H00
  go_loopw [5, 11] (fun _ i wr => ∃ j : Nat, j ≤ k ∧ i = .int .i64 j ∧ ClI w (Cl.hasTo ls j) wr) (fun _ i _ => k - (intOf i).toNat)
  case atStart => exact ⟨0, Nat.zero_le _, rfl, H00⟩
  case round =>
    clear H00
    obtain ⟨j, hj, rfl, H⟩ := hrel
    by_cases hlt : j < k
    · obtain ⟨b1, o1, rfl, hbb, hcc⟩ := hr.at_ (by omega)
      obtain ⟨x, y⟩ := hcc j hlt
      have g1 : wr.cell? ⟨b1, o1 + j * 2, none⟩ = some (.int .i64 (ls.getD j (0, 0)).1) := (H.2.2.cell (by exact hbb)).trans x
      have g2 : wr.cell? ⟨b1, o1 + j * 2 + 1, none⟩ = some (.int .i64 (ls.getD j (0, 0)).2) := (H.2.2.cell (by exact hbb)).trans y
      clear hcc x y
      have hmem : ls.getD j (0, 0) ∈ ls := by
        have : j < ls.length := by rw [HX.out]; exact hlt
        simp [List.getD, this]
      have hgood := HG.out _ hmem
      obtain ⟨⟨p, q⟩, hp⟩ : ∃ p, p = ls.getD j (0, 0) := ⟨_, rfl⟩
      rw [← hp] at g1 g2 hgood
      unfold Gr.Good at hgood
      simp only at g1 g2 hgood
      obtain ⟨a, rfl⟩ : ∃ a : Nat, p = (a : Int) := ⟨p.toNat, by omega⟩
      obtain ⟨b, rfl⟩ : ∃ b : Nat, q = (b : Int) := ⟨q.toNat, by omega⟩
      have ha : a < 8 := by omega
      have hb : b < 8 := by omega
      have HN : ClI w (Cl.hasTo ls (j + 1)) (((wr.alloc (.cells #[.int .i64 (a : Int), .int .i64 (b : Int)] 45))).setCell ⟨w.heap.size + 1, a * 8 + b, none⟩ (.bool true)) := (H.alloc _).set (Cl.tbl_next (by rw [HX.out]; exact hlt) hp ha hb)
      have HND := HN.drew
      have hf := (H.alloc (.cells #[.int .i64 (a : Int), .int .i64 (b : Int)] 45)).2.1.frozen (a * 8 + b)
      have hce := (H.alloc (.cells #[.int .i64 (a : Int), .int .i64 (b : Int)] 45)).cell ha hb
      have a1 : (0 : Int) ≤ (a : Int) := by omega
      have a2 : (a : Int) < 8 := by omega
      have b1' : (0 : Int) ≤ (b : Int) := by omega
      have b2' : (b : Int) < 8 := by omega
      clear hgood hp hmem H
      go_wp2
      go_region
      go_wp2
      go_roundw
      case rel => exact ⟨j + 1, by omega, by push_cast; rfl, HND⟩
      case measure => simp [intOf]; omega
    · have H0 : ClI w (Cl.cl ls 0) wr := H.to (Cl.tbl_lines ls (by rw [HX.out]; omega))
      clear H
      go_wp2
      go_loopw [6, 7, 8, 22] (fun _ _ _ i wr => ∃ t : Nat, t ≤ 8 ∧ i = .int .i64 t ∧ ClI w (Cl.cl ls t) wr) (fun _ _ _ i _ => 8 - (intOf i).toNat)
      case atStart => exact ⟨0, Nat.zero_le _, rfl, H0⟩
      case round =>
        clear H0
        obtain ⟨t, ht, rfl, H⟩ := hrel
        by_cases hlt2 : t < 8
        · have H1 : ClI w (Cl.mid ls t 0 0) wr := H.to (Cl.mid_start ls t).symm
          clear H
          go_wp2
          go_loopw [7, 8, 25] (fun _ _ i wr => ∃ a : Nat, a ≤ 8 ∧ i = .int .i64 a ∧ ClI w (Cl.mid ls t a 0) wr) (fun _ _ i _ => 8 - (intOf i).toNat)
          case atStart => exact ⟨0, Nat.zero_le _, rfl, H1⟩
          case round =>
            clear H1
            obtain ⟨a, ha, rfl, H⟩ := hrel
            by_cases hlt3 : a < 8
            · go_wp2
              go_loopw [8, 28] (fun _ i wr => ∃ b : Nat, b ≤ 8 ∧ i = .int .i64 b ∧ ClI w (Cl.mid ls t a b) wr) (fun _ i _ => 8 - (intOf i).toNat)
              case atStart => exact ⟨0, Nat.zero_le _, rfl, H⟩
              case round =>
                clear H
                obtain ⟨b, hb, rfl, H⟩ := hrel
                by_cases hlt4 : b < 8
                · have g1 := H.cell hlt3 hlt2
                  rw [Cl.mid_col] at g1
                  have g2 := H.cell hlt2 hlt4
                  rw [Cl.mid_row] at g2
                  have a1 : (0 : Int) ≤ (a : Int) := by omega
                  have a2 : (a : Int) < 8 := by omega
                  have b1 : (0 : Int) ≤ (b : Int) := by omega
                  have b2 : (b : Int) < 8 := by omega
                  have t1 : (0 : Int) ≤ (t : Int) := by omega
                  have t2 : (t : Int) < 8 := by omega
                  cases h1 : Cl.cl ls t a t
                  · have HN : ClI w (Cl.mid ls t a (b + 1)) wr := H.to (Cl.mid_no hlt3 hlt4 (by rw [h1]; rfl))
                    rw [h1] at g1
                    clear H h1 g2
                    go_wp2
                    go_roundw
                    case rel => exact ⟨b + 1, by omega, by push_cast; rfl, HN⟩
                    case measure => simp [intOf]; omega
                  · cases h2 : Cl.cl ls t t b
                    · have HN : ClI w (Cl.mid ls t a (b + 1)) wr := H.to (Cl.mid_no hlt3 hlt4 (by rw [h1, h2]; rfl))
                      rw [h1] at g1
                      rw [h2] at g2
                      clear H h1 h2
                      go_wp2
                      go_roundw
                      case rel => exact ⟨b + 1, by omega, by push_cast; rfl, HN⟩
                      case measure => simp [intOf]; omega
                    · have HN : ClI w (Cl.mid ls t a (b + 1)) (wr.setCell ⟨w.heap.size + 1, a * 8 + b, none⟩ (.bool true)) := H.set (Cl.mid_yes hlt3 hlt4 h1 h2)
                      have hf := H.2.1.frozen (a * 8 + b)
                      have hce := H.cell hlt3 hlt4
                      rw [h1] at g1
                      rw [h2] at g2
                      clear H h1 h2
                      go_wp2
                      go_roundw
                      case rel => exact ⟨b + 1, by omega, by push_cast; rfl, HN⟩
                      case measure => simp [intOf]; omega
                · obtain rfl : b = 8 := by omega
                  have HN : ClI w (Cl.mid ls t (a + 1) 0) wr := H.to (Cl.mid_rowend ls t a)
                  clear H
                  go_wp2
                  go_roundw
                  case rel => exact ⟨a + 1, by omega, by push_cast; rfl, HN⟩
                  case measure => simp [intOf]; omega
            · obtain rfl : a = 8 := by omega
              have HN : ClI w (Cl.cl ls (t + 1)) wr := H.to (Cl.mid_end ls t)
              clear H
              go_wp2
              go_roundw
              case rel => exact ⟨t + 1, by omega, by push_cast; rfl, HN⟩
              case measure => simp [intOf]; omega
        · obtain rfl : t = 8 := by omega
          obtain ⟨t1, t2, hbel⟩ := H
          have hts : (Tryd.prog.info? 74).map (·.size) = some (Cl.tbl (Cl.cl ls 8)).length := by rw [Cl.tbl_len]; exact relInfo
          have hl64 : (List.replicate 64 false).length = (Cl.tbl (Cl.cl ls 8)).length := by rw [Cl.tbl_len]; simp
          obtain ⟨ts, hTS⟩ : ∃ ts, ts = Cl.tbl (Cl.cl ls 8) := ⟨_, rfl⟩
          rw [← hTS] at t2 hts hl64
          have HTS := Lib.hid hTS
          clear hTS
          go_wp2_with (first
            | refine wpList_loadB rfl 74 (.tmp 3) rfl _ rfl _ _ t2 _ _ Tryd.underlying74 hts ?_
            | (refine wpList_storeB rfl 74 (.tmp 2) (.tmp 50) rfl _ rfl ts rfl _ _ t1 hts hl64 ?_; intro w2 u1 u2 u3 u4))
          refine bodyPost_ret (results_B rfl _ _ _ _ _ rfl u1 _ _ Tryd.underlying74 hts) rfl ?_
          exact ⟨by rw [HTS.out], hbel.trans (u3 _ (Nat.le_refl _))⟩

end Go.Proofs.YthalopmplekdoaaDoor
