/-
  The contract of the reference's Set: what the call returns and what it leaves in memory.
-/
import Derived.Test.YtinglgnddmadaaaDoorRefL
import Derived.Test.YtinglgnddmadaaaDoorLibT
namespace Go.Proofs.YtinglgnddmadaaaDoor.RefD
open Go.RowKit

/-- a slice of the call's own that is not empty -/
theorem row_of {w : World} {base e : Nat} {v : Value} {zs : List Int} (h : Own w base e v zs) (hp : 0 < zs.length) : ∃ g cap, v = .slice (some ⟨g, 0, none⟩) zs.length cap := by
  rcases h.2 with ⟨rfl, h0⟩ | ⟨g, cap, cur, rfl, _⟩
  · omega
  · exact ⟨g, cap, rfl⟩

set_option maxHeartbeats 1000000 in
/-- Set: a new list with one number put in -/
theorem Set_any (A : Option Addr) (n c : Nat) (l : List Int) (i : Nat) (x : Int) (w : World) (hr : Rd w w.heap.size A n c l) (hi : i < n) (hsm : n ≤ 1048576) :
    Calls Tryd.prog 22 #[.slice A n c, .int .i64 (i : Int), .int .i64 x] w fun e w' => ∃ g cap, e = .returned (.slice (some ⟨g, 0, none⟩) n cap) ∧ Own w' w.heap.size 3 (.slice (some ⟨g, 0, none⟩) n cap) (l.set i x) ∧ Below w.heap.size w w' := by
  have HX := Lib.hid hr.len
  go_enter Tryd.func22, Tryd.ntmps22
  go_wp2_with (at_builtin; refine wpList_app _ rfl (.tmp 8) (.tmp 9) _ rfl w.heap.size 3 Tryd.underlying24 intInfo (.slice none 0 0) [] rfl (Own.nil w w.heap.size 3) A n c l rfl hr (by simp; omega) (Nat.le_refl _) ?_; intro v1 w1 hown1 hg1 hat1; rw [List.nil_append] at hown1; obtain ⟨g, cap, hv⟩ := row_of hown1 (by rw [HX.out]; omega); rw [HX.out] at hv; subst hv; have g2 := hown1.cell i hi; have g3 := hown1.frozen i; have hst := hown1.store i x; have hba := hown1.base_le)
  have hb1 : Below w.heap.size w w1 := below_app (Below.refl _ _) (Own.nil w w.heap.size 3) hg1 (Nat.le_refl _)
  go_ret
  exact ⟨g, cap, rfl, hst.1, hb1.setCell (p := ⟨g, i, none⟩) hba _⟩

end Go.Proofs.YtinglgnddmadaaaDoor.RefD
