/-
  The contract of the reference's Behind: a list with one number more.
-/
import Derived.Test.YtoofpmajiphldaaRefL
namespace Go.Proofs.Ytoofpmajiphldaa.RefW
open Go.RowKit
set_option linter.unusedSimpArgs false
set_option linter.unusedVariables false

theorem Behind_any (A : Option Addr) (n c : Nat) (zs : List Int) (x : Int) (w : World) (hr : Rd w w.heap.size A n c zs) (hn : n ≤ 1000000) :
    Calls Try.prog 35 #[.slice A n c, .int .i64 x] w fun e w' => ∃ v, e = .returned v ∧ Own w' w.heap.size 3 v (zs ++ [x]) ∧ Below w.heap.size w w' := by
  have HL := Lib.hid hr.len
  go_enter Try.func35, Try.ntmps35
  go_wp2_with (first
    | (at_builtin; refine wpList_app _ rfl (.tmp 6) (.tmp 7) _ rfl w.heap.size 3 Try.underlying24 intInfo _ _ rfl (Own.nil w w.heap.size 3) A n c zs rfl hr (by simp; omega) (Nat.le_refl _) ?_; intro v1 w1 hown1 hg1 hat1; rw [List.nil_append] at hown1; have hb1 : Below w.heap.size w w1 := (Below.refl _ _).grown hg1 (Nat.le_refl _) (fun _ h => by cases h); have hs1 := hb1.size)
    | (at_builtin; refine wpList_app _ rfl (.tmp 9) (.tmp 11) _ rfl w.heap.size 3 Try.underlying24 intInfo _ zs rfl (hown1.below ((Below.refl _ _).alloc (Nat.le_refl _) _)) (some ⟨w1.heap.size, 0, none⟩) 1 1 [x] rfl (Rd.one _ _ _) (by rw [HL.out]; omega) (by simp; omega) ?_; intro v2 w2 hown2 hg2 hat2))
  go_ret
  exact ⟨_, rfl, hown2, below_app (hb1.alloc hs1 _) (hown1.below ((Below.refl _ _).alloc (Nat.le_refl _) _)) hg2 (by simp; omega)⟩

end Go.Proofs.Ytoofpmajiphldaa.RefW
