/-
  Contracts of package stable: placesOf.
-/
import Derived.Test.YthdibdghnfkoeaaDoorStableB
import Derived.Laws.Rows
import Derived.Laws.Tables
import Derived.Deep.WholeRow
namespace Go.Proofs.YthdibdghnfkoeaaDoor
open Go.RowKit Go.Shelf

attribute [local go_sem] Oper.semAt_some
set_option linter.unusedSimpArgs false
set_option linter.unusedVariables false

namespace St
/-- what is known of the table behind i rows, and p places of the next -/
def Tb (n : Nat) (rows : List (List Int)) (i p : Nat) (ts : List Int) : Prop :=
  ts.length = 36 ∧ (∀ a, a < i → ∀ q, q < n → ts.getD (a * 6 + ((rows.getD a []).getD q 0).toNat) 0 = (q : Int)) ∧ ∀ q, q < p → ts.getD (i * 6 + ((rows.getD i []).getD q 0).toNat) 0 = (q : Int)
/-- the table of all places -/
def Tab (n : Nat) (rows : List (List Int)) (ts : List Int) : Prop := ts.length = 36 ∧ ∀ i, i < n → ∀ j, j < n → ts.getD (i * 6 + j) 0 = (pl rows i j : Int)
theorem set_atI (xs : List Int) (i j : Nat) (x : Int) (hi : i < xs.length) : (xs.set i x).getD j 0 = if j = i then x else xs.getD j 0 := by
  simp only [List.getD, List.getElem?_set]
  by_cases e : i = j
  · subst e; simp [hi]
  · have : ¬ j = i := fun h => e h.symm
    simp [e, this]
theorem Row.at_ {n : Nat} {l : List Int} (h : Row n l) {p : Nat} (hp : p < n) : 0 ≤ l.getD p 0 ∧ (l.getD p 0).toNat < n ∧ ((l.getD p 0).toNat : Int) = l.getD p 0 := by
  have := h.rng _ (getD_mem (l := l) (j := p) (by rw [h.len]; exact hp))
  omega
theorem Tb.step {n : Nat} {rows : List (List Int)} (h6 : n ≤ 6) (hk : Rks n rows) {i p : Nat} (hi : i < n) (hp : p < n) {ts : List Int} (h : Tb n rows i p ts) {x : Nat} (hx : (x : Int) = (rows.getD i []).getD p 0) : Tb n rows i (p + 1) (ts.set (i * 6 + x) (p : Int)) := by
  obtain ⟨h1, h2, h3⟩ := h
  have hrow := hk.row hi
  have hxn := (hrow.at_ hp).2.1
  have hx' : x = ((rows.getD i []).getD p 0).toNat := by omega
  have hlt : i * 6 + x < ts.length := by rw [h1]; omega
  refine ⟨by rw [List.length_set]; exact h1, fun a ha q hq => ?_, fun q hq => ?_⟩
  · have := ((hk.row (i := a) (by omega)).at_ hq).2.1
    rw [set_atI _ _ _ _ hlt, if_neg (by omega)]
    exact h2 a ha q hq
  · rw [set_atI _ _ _ _ hlt]
    by_cases e : q = p
    · subst e
      rw [if_pos (by rw [hx'])]
    · rw [if_neg]
      · exact h3 q (by omega)
      · intro hh
        have hqn : q < n := by omega
        have e1 := (hrow.at_ hqn).2.2
        have e2 := (hrow.at_ hp).2.2
        have : (rows.getD i []).getD q 0 = (rows.getD i []).getD p 0 := by omega
        exact e (getD_inj hrow.nodup (by rw [hrow.len]; exact hqn) (by rw [hrow.len]; exact hp) this)
theorem Tb.next {n : Nat} {rows : List (List Int)} {i : Nat} {ts : List Int} (h : Tb n rows i n ts) : Tb n rows (i + 1) 0 ts := by
  obtain ⟨h1, h2, h3⟩ := h
  refine ⟨h1, fun a ha q hq => ?_, fun q hq => by omega⟩
  rcases Nat.lt_or_ge a i with h | h
  · exact h2 a h q hq
  · obtain rfl : a = i := by omega
    exact h3 q hq
theorem Tb.start (n : Nat) (rows : List (List Int)) : Tb n rows 0 0 (List.replicate 36 0) := ⟨by simp, fun a ha => by omega, fun q hq => by omega⟩
theorem Tb.all {n : Nat} {rows : List (List Int)} (hk : Rks n rows) {ts : List Int} (h : Tb n rows n 0 ts) : Tab n rows ts := by
  refine ⟨h.1, fun i hi j hj => ?_⟩
  obtain ⟨p, h1, h2, h3⟩ := (hk.row hi).plc hj
  have := h.2.1 i hi p h1
  rw [h3] at this
  rw [← hk.pl hi hj, h2, ← this]
  simp
end St

/-- in the midst of placesOf -/
def PoI (n : Nat) (rows : List (List Int)) (w : World) (i p : Nat) (wr : World) : Prop := ∃ ts, ArI wr w.heap.size 49 (List.replicate 36 0) ∧ ArI wr (w.heap.size + 1) 49 ts ∧ St.Tb n rows i p ts ∧ Below w.heap.size w wr
theorem zeros36 : (List.replicate 36 (0 : Int)).map (Value.int .i64) = [.int .i64 0, .int .i64 0, .int .i64 0, .int .i64 0, .int .i64 0, .int .i64 0, .int .i64 0, .int .i64 0, .int .i64 0, .int .i64 0, .int .i64 0, .int .i64 0, .int .i64 0, .int .i64 0, .int .i64 0, .int .i64 0, .int .i64 0, .int .i64 0, .int .i64 0, .int .i64 0, .int .i64 0, .int .i64 0, .int .i64 0, .int .i64 0, .int .i64 0, .int .i64 0, .int .i64 0, .int .i64 0, .int .i64 0, .int .i64 0, .int .i64 0, .int .i64 0, .int .i64 0, .int .i64 0, .int .i64 0, .int .i64 0] := rfl

theorem tabInfo : (Tryd.prog.info? 49).map (·.size) = some 36 := by kernel_rfl
theorem sixInfo : (Tryd.prog.info? 46).map (·.size) = some 6 := by kernel_rfl

set_option maxHeartbeats 1000000 in
theorem placesOf_any (n : Nat) (h6 : n ≤ 6) (A : Option Addr) (c : Nat) (rows : List (List Int)) (w : World) (hr : RdR w w.heap.size A n c rows) (hk : St.Rks n rows) :
    Calls Tryd.prog 21 #[.slice A n c] w fun e w' => ∃ ts, e = .returned (.agg (ts.map (Value.int .i64)).toArray) ∧ St.Tab n rows ts ∧ Below w.heap.size w w' := by
  have HX := Lib.hid hr.len
  have HK := Lib.hid hk
  clear hk
  have hbig := hr.big
  go_enter Tryd.func21, Tryd.ntmps21
  go_wp2
  have H00 : PoI n rows w 0 0 _ := ⟨_, (ArI.new w 49 (List.replicate 36 0)).alloc _, (by have := ArI.new (w.alloc (.cells ((List.replicate 36 (0 : Int)).map (Value.int .i64)).toArray 49)) 49 (List.replicate 36 0); rw [World.size_alloc] at this; exact this), St.Tb.start n rows, ((Below.refl _ _).alloc (Nat.le_refl _) _).alloc (by rw [World.size_alloc]; omega) _⟩
  rw [zeros36] at H00
  go_loopw [4, 5, 6, 7, 10] (fun _ _ _ _ i wr => ∃ j : Nat, j ≤ n ∧ i = .int .i64 j ∧ PoI n rows w j 0 wr) (fun _ _ _ _ i _ => n - (intOf i).toNat)
  case atStart => exact ⟨0, Nat.zero_le _, rfl, H00⟩
  case round =>
    clear H00
    obtain ⟨j, hj, rfl, H⟩ := hrel
    by_cases hlt : j < n
    · obtain ⟨b1, o1, rfl, hbb, hcc⟩ := hr.at_ (by omega)
      obtain ⟨A', c', y1, y2⟩ := hcc j hlt
      have hrow : Hid (St.Row n (rows.getD j [])) := HK.out.row hlt
      rw [hrow.out.len] at y1 y2
      have g1 : wr.cell? ⟨b1, o1 + j, none⟩ = some (.slice A' n c') := by obtain ⟨_, _, _, _, hbel⟩ := H; exact (hbel.cell (by exact hbb)).trans y1
      clear hcc y1
      go_wp2
      go_loopw [6, 7, 17] (fun _ _ i wr => ∃ q : Nat, q ≤ n ∧ i = .int .i64 q ∧ PoI n rows w j q wr) (fun _ _ i _ => n - (intOf i).toNat)
      case atStart => exact ⟨0, Nat.zero_le _, rfl, H⟩
      case round =>
        clear H g1
        obtain ⟨q, hq, rfl, H⟩ := hrel
        by_cases hlt2 : q < n
        · obtain ⟨b2, o2, rfl, hb2, hcc⟩ := y2.at_ (by omega)
          obtain ⟨ts, t1, t2, t3, hbel⟩ := H
          have g1 : wr.cell? ⟨b2, o2 + q, none⟩ = some (.int .i64 ((rows.getD j []).getD q 0)) := (hbel.cell (by exact hb2)).trans (hcc q hlt2)
          clear hcc
          have hat := hrow.out.at_ hlt2
          obtain ⟨x, hx⟩ : ∃ x : Nat, (x : Int) = (rows.getD j []).getD q 0 := ⟨_, hat.2.2⟩
          have hxn : x < n := by omega
          clear hat
          rw [← hx] at g1
          have HV := Lib.hid hx
          clear hx
          have g2 := t2.cell (i := j * 6 + x) (by rw [t3.1]; omega)
          have hf := t2.frozen (j * 6 + x)
          have hst := t2.store (j * 6 + x) (q : Int)
          have htb := t3.step h6 HK.out hlt hlt2 HV.out
          have ht1 := t1.other (a := ⟨w.heap.size + 1, j * 6 + x, none⟩) (.int .i64 (q : Int)) (by simp)
          have hb3 : Below w.heap.size w (wr.setCell ⟨w.heap.size + 1, j * 6 + x, none⟩ (.int .i64 (q : Int))) := hbel.setCell (by simp) _
          have HN : PoI n rows w j (q + 1) (wr.setCell ⟨w.heap.size + 1, j * 6 + x, none⟩ (.int .i64 (q : Int))) := ⟨_, ht1, hst, htb, hb3⟩
          clear hst htb ht1 hb3 t1 t2 t3 hbel
          go_wp2
          go_roundw
          case rel => exact ⟨q + 1, by omega, by push_cast; rfl, HN⟩
          case measure => simp [intOf]; omega
        · obtain rfl : q = n := by omega
          have HN : PoI q rows w (j + 1) 0 wr := by obtain ⟨ts, t1, t2, t3, hbel⟩ := H; exact ⟨ts, t1, t2, t3.next, hbel⟩
          clear H
          go_wp2
          go_roundw
          case rel => exact ⟨j + 1, by omega, by push_cast; rfl, HN⟩
          case measure => simp [intOf]; omega
    · obtain rfl : j = n := by omega
      obtain ⟨ts, t1, t2, t3, hbel⟩ := H
      have HT : Hid (St.Tab j rows ts) := t3.all HK.out
      have hts : (Tryd.prog.info? 49).map (·.size) = some ts.length := by rw [t3.1]; exact tabInfo
      have hl36 : (List.replicate 36 (0 : Int)).length = ts.length := by rw [t3.1]; simp
      clear t3
      go_wp2_with (first
        | refine wpList_loadA rfl 49 (.tmp 3) rfl _ rfl _ _ t2 _ _ Tryd.underlying49 hts ?_
        | (refine wpList_storeA rfl 49 (.tmp 2) (.tmp 29) rfl _ rfl ts rfl _ _ t1 hts hl36 ?_; intro w2 u1 u2 u3 u4))
      refine bodyPost_ret (results_A rfl _ _ _ _ _ rfl u1 _ _ Tryd.underlying49 hts) rfl ?_
      exact ⟨ts, rfl, HT.out, hbel.trans (u3 _ (Nat.le_refl _))⟩

end Go.Proofs.YthdibdghnfkoeaaDoor
