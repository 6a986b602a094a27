/-
  Contracts of package graph: isVertex, closedUp, Check, the closures adjacency and pairs hand back, and slices.Contains at lines.
-/
import Derived.Test.YtjcdnkbandagoaaDoorBase
import Derived.Test.YtjcdnkbandagoaaDoorLibP
import Derived.Test.YtjcdnkbandagoaaDoorGraphL
import Derived.Laws.StructEq
import Derived.Laws.Cover2
namespace Go.Proofs.YtjcdnkbandagoaaDoor
open Go.RowKit

theorem lineInfo : (Tryd.prog.info? 39).map (fun i => (i.zero, i.size, i.bytes)) = some (some (.agg #[.int .i64 0, .int .i64 0]), 2, 16) := by kernel_rfl
theorem rowInfo : (Tryd.prog.info? 26).map (fun i => (i.zero, i.size, i.bytes)) = some (some (.slice none 0 0), 1, 24) := by kernel_rfl

theorem lineStood : Tryd.prog.stoodInHeld 39 = false := by kernel_rfl
theorem lineStruct : Tryd.prog.underlying 39 = some (.struct (Tryd.prog.fieldsOf 39)) := by kernel_rfl
@[go_sem] theorem lineGuard : Tryd.prog.eqGuardType Tryd.prog.depth 39 = false := by kernel_rfl
@[go_sem] theorem eqLine (a b c d : Int) (w : World) : (Op.equalIn 10000 39 (.agg #[.int .i64 a, .int .i64 b]) (.agg #[.int .i64 c, .int .i64 d])).run Tryd.prog w = .ok (a == c && b == d) w := by
  have u3 := Tryd.underlying3
  have a3 := Tryd.isAgg3
  have z3 := Tryd.sizeOf3
  rw [show (10000 : Nat) = 9999 + 1 from rfl, run_equalIn_struct w 9999 _ _ _ lineStruct lineStood]
  simp only [Program.fieldsOf, Tryd.underlying39]
  go_simp
  by_cases h1 : a = c <;> by_cases h2 : b = d <;> simp [h1, h2]

/-! ### isVertex, closedUp -/
theorem isVertex_yes (n v : Int) (w : World) (h1 : 0 ≤ v) (h2 : v < n) :
    Calls Tryd.prog 20 #[.int .i64 n, .int .i64 v] w fun e w' => e = .returned (.bool true) ∧ w = w' := by
  go_enter Tryd.func20, Tryd.ntmps20
  go_wp2
  go_ret
  exact ⟨rfl, rfl⟩
theorem isVertex_no (n v : Int) (w : World) (h : v < 0 ∨ n ≤ v) :
    Calls Tryd.prog 20 #[.int .i64 n, .int .i64 v] w fun e w' => e = .returned (.bool false) ∧ w = w' := by
  by_cases ha : v < 0
  · go_enter Tryd.func20, Tryd.ntmps20
    go_wp2
    go_ret
    exact ⟨rfl, rfl⟩
  · have h1 : 0 ≤ v := by omega
    have hd : decide (v < n) = false := by simp; omega
    clear h ha
    go_enter Tryd.func20, Tryd.ntmps20
    go_wp2
    go_ret
    exact ⟨rfl, rfl⟩

/-! ### slices.Index, slices.Contains -/
theorem has_drop {ls : List Gr.Ln} {k : Nat} {a b : Int} (hk : k < ls.length) (x : Gr.Ln) (hx : x = ls.getD k (0, 0)) (h : ¬ x = (a, b)) : (ls.drop k).contains (a, b) = (ls.drop (k + 1)).contains (a, b) := by
  subst hx
  rw [List.drop_eq_getElem_cons hk]
  simp only [List.getD, hk, List.getElem?_eq_getElem, Option.getD_some] at h
  simp only [List.contains_cons]
  have : ((a, b) == ls[k]) = false := by simp only [beq_eq_false_iff_ne, ne_eq]; exact fun e => h e.symm
  rw [this, Bool.false_or]
theorem has_at {ls : List Gr.Ln} {k : Nat} {a b : Int} (hk : k < ls.length) (x : Gr.Ln) (hx : x = ls.getD k (0, 0)) (h : x = (a, b)) : Gr.has ls a b = true := by
  subst hx
  simp only [List.getD, hk, List.getElem?_eq_getElem, Option.getD_some] at h
  rw [Gr.has_iff, ← h]
  exact List.getElem_mem hk


end Go.Proofs.YtjcdnkbandagoaaDoor
