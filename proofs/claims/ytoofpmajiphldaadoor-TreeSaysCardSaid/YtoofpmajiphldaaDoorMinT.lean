/-
  The least of some texts: slices.Min at []string, by its own text. No statement of the program is proved here; there is no condition.
-/
import Derived.Test.YtoofpmajiphldaaDoorBase
import Derived.Test.YtoofpmajiphldaaDoorLibU
import Derived.Test.YtoofpmajiphldaaDoorTreeU
namespace Go.Proofs.YtoofpmajiphldaaDoor
open Go.RowKit
set_option linter.unusedSimpArgs false
set_option linter.unusedVariables false

theorem map_at (zs : List (List Nat)) {i : Nat} (hi : i < zs.length) : (zs.map Nm.bs).getD i ⟨#[]⟩ = Nm.bs (zs.getD i []) := by simp [List.getD, hi]

set_option maxHeartbeats 400000 in
theorem MinT_any (A : Option Addr) (n c : Nat) (zs : List (List Nat)) (hs : ∀ x ∈ zs, Nm.Sm x) (w : World) (hr : RdT w w.heap.size A n c (zs.map Nm.bs)) (hn : 1 ≤ n) :
    Calls Tryd.prog 29 #[.slice A n c] w fun e w' => e = .returned (.string (Nm.bs (Nm.least zs))) ∧ w = w' := by
  have hbig := hr.big
  have hlen : zs.length = n := by have := hr.len; simpa using this
  obtain ⟨b, o, rfl, hb, hc⟩ := hr.at_ (by omega)
  have g0 := hc 0 (by omega)
  rw [Nat.add_zero, map_at zs (by omega)] at g0
  obtain ⟨z0, hz0⟩ : ∃ z0, z0 = Nm.bs (zs.getD 0 []) := ⟨_, rfl⟩
  rw [← hz0] at g0
  have H0 : Hid (z0 = Nm.bs (Nm.least (zs.take 1))) := by
    show _ = _
    rw [hz0]
    have e : zs.take 1 = [zs.getD 0 []] := by
      cases zs with
      | nil => simp at hlen; omega
      | cons x l => rfl
    rw [e]
    rfl
  have HC : Hid (∀ i, i < n → w.cell? ⟨b, o + i, none⟩ = some (.string (Nm.bs (zs.getD i [])))) := by
    show ∀ i, _
    intro i hi
    rw [← map_at zs (by omega)]
    exact hc i hi
  have HS := Lib.hid hs
  have HL := Lib.hid hlen
  clear hc hz0 hs hlen
  go_enter Tryd.func29, Tryd.ntmps29
  go_wp2
  go_loopw [3, 4] (fun dv iv wr => ∃ (i : Nat) (d : ByteArray), 1 ≤ i ∧ i ≤ n ∧ iv = .int .i64 (i : Int) ∧ dv = .string d ∧ Hid (d = Nm.bs (Nm.least (zs.take i))) ∧ w = wr) (fun _ iv _ => n - (intOf iv).toNat)
  case atStart => exact ⟨1, z0, Nat.le_refl _, hn, rfl, rfl, H0, rfl⟩
  case round =>
    clear H0 g0
    obtain ⟨i, d, hi1, hin, rfl, rfl, H, rfl⟩ := hrel
    by_cases hlt : i < n
    · have g := HC.out i hlt
      obtain ⟨x, hx⟩ : ∃ x, x = Nm.bs (zs.getD i []) := ⟨_, rfl⟩
      rw [← hx] at g
      obtain ⟨z, hz⟩ : ∃ z, z = Lib.minS d x := ⟨_, rfl⟩
      have hmx : ∀ ats ty W, (Builtin.min_ ats ty #[.string d, .string x]).run Tryd.prog W = .ok (.string z) W := fun ats ty W => by rw [hz]; exact Lib.run_min_strs W ats ty d x
      have HN : Hid (z = Nm.bs (Nm.least (zs.take (i + 1)))) := by
        show _ = _
        have hil : i < zs.length := by rw [HL.out]; exact hlt
        have hxm : Nm.Sm (zs.getD i []) := HS.out _ (by simp [List.getD, hil])
        rw [hz, H.out, hx, Nm.min_bs (Nm.least_sm (by rw [List.length_take]; omega) (fun y hy => HS.out y (List.mem_of_mem_take hy))) hxm, Nm.least_take (by omega) hil]
      have i1 : (0 : Int) ≤ (i : Int) := by omega
      have i2 : (i : Int) < (n : Int) := by omega
      clear hx hz H
      go_wp2
      go_roundw
      case rel => exact ⟨i + 1, z, by omega, by omega, by go_num, rfl, HN, trivial⟩
      case measure => simp [intOf]; omega
    · obtain rfl : i = n := by omega
      go_wp2
      go_ret
      refine ⟨?_, rfl⟩
      have := H.out
      rw [List.take_of_length_le (by rw [HL.out]; exact Nat.le_refl _)] at this
      rw [← this]
      rfl

end Go.Proofs.YtoofpmajiphldaaDoor
