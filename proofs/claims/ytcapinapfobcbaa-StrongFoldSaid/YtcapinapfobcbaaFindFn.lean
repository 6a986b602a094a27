/-
  Contracts of IndexFunc and ContainsFunc of package slices, at slices of lines, with whatever closure that answers.
-/
import Derived.Test.YtcapinapfobcbaaBase
import Derived.Test.YtcapinapfobcbaaLibP
import Derived.Test.YtcapinapfobcbaaGraphA
import Derived.Shelf.Abstract
namespace Go.Proofs.Ytcapinapfobcbaa
open Go.RowKit

set_option linter.unusedSimpArgs false
set_option linter.unusedVariables false

/-! ### slices.IndexFunc, slices.ContainsFunc -/
/-- r is where a line lies that f takes, or -1 -/
def Idx (ls : List Gr.Ln) (f : Gr.Ln → Bool) (r : Int) : Prop := (r = -1 ∧ ∀ i, i < ls.length → f (ls.getD i (0, 0)) = false) ∨ ∃ i : Nat, r = (i : Int) ∧ i < ls.length ∧ f (ls.getD i (0, 0)) = true

set_option maxRecDepth 100000 in
set_option maxHeartbeats 1000000 in
theorem IndexFn_any (g : Nat) (cb : Array Value) (f : Gr.Ln → Bool) (A : Option Addr) (n c : Nat) (ls : List Gr.Ln) (w : World) (hr : RdP w w.heap.size A n c ls)
    (eg : ∀ args w, (callFunc g args).run Try.prog w = .ok (.enter g args) w)
    (hcall : ∀ V p, p ∈ ls → Below w.heap.size w V → Calls Try.prog g (#[.agg #[.int .i64 p.1, .int .i64 p.2]] ++ cb) V fun e V' => e = .returned (.bool (f p)) ∧ Below V.heap.size V V') :
    Calls Try.prog 40 #[.slice A n c, .func (.func g) #[] cb] w fun e w' => Below w.heap.size w w' ∧ ∃ r : Int, e = .returned (.int .i64 r) ∧ Hid (Idx ls f r) := by
  have HX := Lib.hid hr.len
  have hbig := hr.big
  have HC := Lib.hid hcall
  clear hcall
  go_enter Try.func40, Try.ntmps40
  go_wp2
  go_loopw [8] (fun iv wr => ∃ k : Nat, k ≤ n ∧ iv = .int .i64 (k : Int) ∧ Below w.heap.size w wr ∧ Hid (∀ i, i < k → f (ls.getD i (0, 0)) = false)) (fun iv _ => n - (intOf iv).toNat)
  case atStart => exact ⟨0, Nat.zero_le _, rfl, Below.refl _ _, fun i h => by omega⟩
  case round =>
    obtain ⟨k, hk, rfl, hbel, HF⟩ := hrel
    by_cases hlt : k < n
    · obtain ⟨b1, o1, rfl, hbb, hcc⟩ := (hr.below hbel).at_ (by omega)
      obtain ⟨g1, g2⟩ := hcc k hlt
      clear hcc
      have hm : ls.getD k (0, 0) ∈ ls := by simp [List.getD, show k < ls.length by rw [HX.out]; exact hlt]
      have HK := Lib.hid (HC.out wr _ hm hbel)
      clear hm
      have hstep : Hid (f (ls.getD k (0, 0)) = false → ∀ i, i < k + 1 → f (ls.getD i (0, 0)) = false) := fun h i hi => by
        rcases Nat.lt_or_ge i k with h1 | h1
        · exact HF.out i h1
        · have : i = k := by omega
          rw [this]; exact h
      have hfin : Hid (f (ls.getD k (0, 0)) = true → Idx ls f (k : Int)) := fun h => .inr ⟨k, rfl, by rw [HX.out]; exact hlt, h⟩
      obtain ⟨⟨p, q⟩, hp⟩ : ∃ p, p = ls.getD k (0, 0) := ⟨_, rfl⟩
      rw [← hp] at g1 g2 HK hstep hfin
      simp only at g1 g2 HK
      clear hp
      have k1 : (0 : Int) ≤ (k : Int) := by omega
      have k2 : (k : Int) < (n : Int) := by omega
      cases hf : f (p, q) with
      | true =>
        have hI := Lib.hid (hfin.out hf)
        rw [hf] at HK
        clear hf hstep hfin
        go_wp2_with fail
        refine HK.out.mono ?_
        rintro e w1 ⟨rfl, hb1⟩
        go_wp2
        go_ret
        exact ⟨hbel.trans (hb1.mono hbel.size), _, rfl, hI⟩
      | false =>
        have hI := Lib.hid (hstep.out hf)
        rw [hf] at HK
        clear hf hstep hfin
        go_wp2_with fail
        refine HK.out.mono ?_
        rintro e w1 ⟨rfl, hb1⟩
        go_wp2
        go_roundw
        case rel => exact ⟨k + 1, by omega, by go_num, hbel.trans (hb1.mono hbel.size), hI⟩
        case measure => simp [intOf]; omega
    · obtain rfl : k = n := by omega
      have hI : Hid (Idx ls f (-1)) := .inl ⟨rfl, fun i hi => HF.out i (by rw [← HX.out]; exact hi)⟩
      go_wp2
      go_ret
      exact ⟨hbel, _, rfl, hI⟩

theorem ContainsFn_any (g : Nat) (cb : Array Value) (f : Gr.Ln → Bool) (A : Option Addr) (n c : Nat) (ls : List Gr.Ln) (w : World) (hr : RdP w w.heap.size A n c ls)
    (eg : ∀ args w, (callFunc g args).run Try.prog w = .ok (.enter g args) w)
    (hcall : ∀ V p, p ∈ ls → Below w.heap.size w V → Calls Try.prog g (#[.agg #[.int .i64 p.1, .int .i64 p.2]] ++ cb) V fun e V' => e = .returned (.bool (f p)) ∧ Below V.heap.size V V') :
    Calls Try.prog 34 #[.slice A n c, .func (.func g) #[] cb] w fun e w' => Below w.heap.size w w' ∧ ∃ t, e = .returned (.bool t) ∧ Hid (t = ls.any f) := by
  have HI := Lib.hid (IndexFn_any g cb f A n c ls w hr eg hcall)
  clear hcall
  go_enter Try.func34, Try.ntmps34
  go_wp2_with fail
  refine HI.out.mono ?_
  rintro e w1 ⟨hb1, r, rfl, hI⟩
  by_cases h : 0 ≤ r
  · have ht : Hid (true = ls.any f) := by
      show _ = _
      rcases hI.out with ⟨h1, _⟩ | ⟨i, h1, h2, h3⟩
      · omega
      · exact (List.any_eq_true.2 ⟨ls.getD i (0, 0), by simp [List.getD, h2], h3⟩).symm
    go_wp2
    go_ret
    exact ⟨hb1, _, rfl, ht⟩
  · have ht : Hid (false = ls.any f) := by
      show _ = _
      rcases hI.out with ⟨h1, h2⟩ | ⟨i, h1, h2, h3⟩
      · refine (List.any_eq_false.2 fun p hp => ?_).symm
        obtain ⟨i, hi, rfl⟩ := List.getElem_of_mem hp
        have := h2 i hi
        simp [List.getD, hi] at this
        simp [this]
      · omega
    have hd : decide (0 ≤ r) = false := by simpa using h
    go_wp2
    go_ret
    exact ⟨hb1, _, rfl, ht⟩

end Go.Proofs.Ytcapinapfobcbaa
