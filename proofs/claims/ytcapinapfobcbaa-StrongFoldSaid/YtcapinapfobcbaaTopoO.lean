/-
  What Order of package topo hands back, case by case.
-/
import Derived.Test.YtcapinapfobcbaaTopoB
namespace Go.Proofs.Ytcapinapfobcbaa
open Go.RowKit
set_option linter.unusedSimpArgs false
set_option linter.unusedVariables false

theorem Order_bad (m : Nat) (A : Option Addr) (k c : Nat) (ls : List Gr.Ln) (o : List Int) (w : World) (hr : RdP w w.heap.size A k c ls) (h : Gr.code (m : Int) ls = 0) (hstep : To.Step m ls o) (hstuck : To.Stuck m ls o) (hlt : o.length < m) :
    Calls Try.prog 15 #[.int .i64 (m : Int), .slice A k c] w fun e w' => e = .returned (.tuple #[.slice none 0 0, errv 5]) ∧ Below w.heap.size w w' := by
  refine (Order_any (m : Int) A k c ls w hr).mono ?_
  rintro e w1 ⟨hb, (⟨h0, _⟩ | ⟨_, o', h1, h2, (⟨_, rfl⟩ | ⟨h3, _⟩)⟩)⟩
  · exact absurd h h0
  · exact ⟨rfl, hb⟩
  · rw [Int.toNat_natCast] at h1 h3
    have := h1.free h3 hstep hstuck
    omega
theorem Order_good (m : Nat) (A : Option Addr) (k c : Nat) (ls : List Gr.Ln) (o : List Int) (w : World) (hr : RdP w w.heap.size A k c ls) (h : Gr.code (m : Int) ls = 0) (hstep : To.Step m ls o) (hl : o.length = m) :
    Calls Try.prog 15 #[.int .i64 (m : Int), .slice A k c] w fun e w' => ∃ A1 c1, e = .returned (.tuple #[.slice A1 m c1, .nilIface]) ∧ Own w' w.heap.size 3 (.slice A1 m c1) o ∧ Below w.heap.size w w' := by
  refine (Order_any (m : Int) A k c ls w hr).mono ?_
  rintro e w1 ⟨hb, (⟨h0, _⟩ | ⟨_, o', h1, h2, (⟨h3, rfl⟩ | ⟨h3, v, rfl, hown⟩)⟩)⟩
  · exact absurd h h0
  · rw [Int.toNat_natCast] at h1 h2 h3
    have := hstep.free hl h1 h2
    omega
  · rw [Int.toNat_natCast] at h1 h3
    obtain rfl := hstep.only h1 hl h3
    obtain ⟨A1, c1, rfl, _⟩ := hown.rd
    rw [hl] at hown ⊢
    exact ⟨A1, c1, rfl, hown, hb⟩

theorem Order_code (n : Int) (A : Option Addr) (k c : Nat) (ls : List Gr.Ln) (w : World) (hr : RdP w w.heap.size A k c ls) (h : Gr.code n ls ≠ 0) :
    Calls Try.prog 15 #[.int .i64 n, .slice A k c] w fun e w' => e = .returned (.tuple #[.slice none 0 0, errv (Gr.code n ls)]) ∧ Below w.heap.size w w' := by
  refine (Order_any n A k c ls w hr).mono ?_
  rintro e w1 ⟨hb, (⟨_, rfl⟩ | ⟨h0, _⟩)⟩
  · exact ⟨rfl, hb⟩
  · exact absurd h0 h
theorem Order_yes (m : Nat) (A : Option Addr) (k c : Nat) (ls : List Gr.Ln) (o : List Int) (w : World) (hr : RdP w w.heap.size A k c ls) (h : Gr.code (m : Int) ls = 0) (hstep : To.Step m ls o) (hl : o.length = m) :
    Calls Try.prog 15 #[.int .i64 (m : Int), .slice A k c] w fun e w' => ∃ A1 c1, e = .returned (.tuple #[.slice A1 m c1, .nilIface]) ∧ Rd w' w'.heap.size A1 m c1 o ∧ Below w.heap.size w w' := by
  refine (Order_good m A k c ls o w hr h hstep hl).mono ?_
  rintro e w1 ⟨A1, c1, rfl, hown, hb⟩
  exact ⟨A1, c1, rfl, hown.rd', hb⟩

end Go.Proofs.Ytcapinapfobcbaa
