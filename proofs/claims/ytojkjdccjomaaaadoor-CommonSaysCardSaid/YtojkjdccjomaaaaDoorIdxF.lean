/-
  The contract of slices.IndexFunc at []int, whether there is one or none. No statement of the program is proved here; there is no condition.
-/
import Derived.Test.YtojkjdccjomaaaaDoorBase
import Derived.BigQuiet
namespace Go.Proofs.YtojkjdccjomaaaaDoor
open Go.RowKit
set_option linter.unusedSimpArgs false
set_option linter.unusedVariables false

theorem IndexFnI_all (g : Nat) (cb : Array Value) (f : Int → Bool) (A : Option Addr) (n c : Nat) (zs : List Int) (w : World) (hr : Rd w w.heap.size A n c zs)
    (eg : ∀ args w, (callFunc g args).run Tryd.prog w = .ok (.enter g args) w)
    (hcall : ∀ V x, x ∈ zs → Below w.heap.size w V → Calls Tryd.prog g (#[.int .i64 x] ++ cb) V fun e V' => e = .returned (.bool (f x)) ∧ Below V.heap.size V V') :
    Calls Tryd.prog 33 #[.slice A n c, .func (.func g) #[] cb] w fun e w' => Below w.heap.size w w' ∧ ((e = .returned (.int .i64 (-1)) ∧ Hid (∀ i, i < n → f (zs.getD i 0) = false)) ∨ ∃ k : Nat, e = .returned (.int .i64 (k : Int)) ∧ k < n ∧ Hid (f (zs.getD k 0) = true)) := by
  have HX := Lib.hid hr.len
  have hbig := hr.big
  have HC := Lib.hid hcall
  clear hcall
  go_enter Tryd.func33, Tryd.ntmps33
  go_wp2
  go_loopw [5, 8] (fun _ iv wr => ∃ k : Nat, k ≤ n ∧ iv = .int .i64 (k : Int) ∧ Below w.heap.size w wr ∧ Hid (∀ i, i < k → f (zs.getD i 0) = false)) (fun _ iv _ => n - (intOf iv).toNat)
  case atStart => exact ⟨0, Nat.zero_le _, rfl, Below.refl _ _, fun i h => by omega⟩
  case round =>
    obtain ⟨k, hk, rfl, hbel, HF⟩ := hrel
    by_cases hlt : k < n
    · obtain ⟨b1, o1, rfl, hbb, hcc⟩ := (hr.below hbel).at_ (by omega)
      have g1 := hcc k hlt
      clear hcc
      have hm : zs.getD k 0 ∈ zs := by simp [List.getD, show k < zs.length by rw [HX.out]; exact hlt]
      have HK := Lib.hid (HC.out wr _ hm hbel)
      clear hm
      have hstep : Hid (f (zs.getD k 0) = false → ∀ i, i < k + 1 → f (zs.getD i 0) = false) := fun h i hi => by
        rcases Nat.lt_or_ge i k with h1 | h1
        · exact HF.out i h1
        · have : i = k := by omega
          rw [this]; exact h
      obtain ⟨p, hp⟩ : ∃ p, p = zs.getD k 0 := ⟨_, rfl⟩
      rw [← hp] at g1 HK hstep
      have HP := Lib.hid hp
      clear hp
      have k1 : (0 : Int) ≤ (k : Int) := by omega
      have k2 : (k : Int) < (n : Int) := by omega
      cases hf : f p with
      | true =>
        have HFT := Lib.hid hf
        rw [hf] at HK
        clear hf hstep
        go_wp2_with fail
        refine HK.out.mono ?_
        rintro e w1 ⟨rfl, hb1⟩
        go_wp2
        go_ret
        exact ⟨hbel.trans (hb1.mono hbel.size), .inr ⟨_, rfl, hlt, by show _ = _; rw [← HP.out]; exact HFT.out⟩⟩
      | false =>
        have hI := Lib.hid (hstep.out hf)
        rw [hf] at HK
        clear hf hstep
        go_wp2_with fail
        refine HK.out.mono ?_
        rintro e w1 ⟨rfl, hb1⟩
        go_wp2
        go_roundw
        case rel => exact ⟨k + 1, by omega, by go_num, hbel.trans (hb1.mono hbel.size), hI⟩
        case measure => simp [intOf]; omega
    · obtain rfl : k = n := by omega
      go_wp2
      go_ret
      exact ⟨hbel, .inl ⟨rfl, HF⟩⟩

end Go.Proofs.YtojkjdccjomaaaaDoor
