/-
  The closed fact of the laws on package halves, and the contracts of Part as the laws use them.
-/
import Derived.Test.YtklanopgmlmjlaaDoorHalvesB
import Derived.Test.YtklanopgmlmjlaaDoorGraphE
namespace Go.Proofs.YtklanopgmlmjlaaDoor
open Go.RowKit

set_option linter.unusedSimpArgs false
set_option linter.unusedVariables false

/-! ### plain facts -/
theorem Ha.nrow_irr {m : Nat} {ls : List Gr.Ln} (h : Gr.code (m : Int) ls = 0) : ∀ a, a < m → a ∉ Wa.nrow m ls a := by
  intro a ha hh
  have h1 := (Wa.mem_nrow.1 hh).2
  rw [Gr.adj_iff] at h1
  have hg := (Gr.code_zero.1 h).2.2.2
  rcases h1 with h1 | h1
  · exact (hg _ h1).2.2.2.2 rfl
  · exact (hg _ h1).2.2.2.2 rfl
/-- Konig: parted just if there is no odd ring -/
theorem Ha.okB_odd {m : Nat} {ls : List Gr.Ln} (h : Gr.code (m : Int) ls = 0) : Ha.okB m ls = decide (Ha.odd m ls = 0) := by
  obtain ⟨o, ho, hi⟩ := Ha.odd_is h
  have h1 := Ha.okB_iff h
  rw [Bool.eq_iff_iff, h1, ho]
  rcases hi with ⟨rfl, hn⟩ | ⟨hq, _⟩
  · simp only [decide_eq_true_eq]
    exact ⟨fun _ => rfl, fun _ => hn⟩
  · have := hq.1
    simp only [decide_eq_true_eq]
    constructor
    · intro hh
      exact absurd hq (hh _)
    · intro hh
      omega
theorem Ha.odd_range {m : Nat} {ls : List Gr.Ln} (h : Gr.code (m : Int) ls = 0) : ∃ o : Nat, Ha.odd m ls = (o : Int) ∧ (o = 0 ∨ (o % 2 = 1 ∧ 3 ≤ o ∧ o ≤ m)) := by
  obtain ⟨o, ho, hi⟩ := Ha.odd_is h
  exact ⟨o, ho, hi.says (Wa.nrow_ok m ls) (Ha.nrow_irr h)⟩
theorem Ha.code_erase {m : Nat} {ls : List Gr.Ln} (h : Gr.code (m : Int) ls = 0) (i : Nat) : Gr.code (m : Int) (ls.eraseIdx i) = 0 := by
  obtain ⟨h1, h2, h3, h4⟩ := Gr.code_zero.1 h
  refine Gr.code_zero.2 ⟨h1, h2, Nat.le_trans (List.length_eraseIdx_le _ _) h3, fun p hp => h4 p (List.mem_of_mem_eraseIdx hp)⟩
theorem Ha.okB_erase {m : Nat} {ls : List Gr.Ln} (h : Gr.code (m : Int) ls = 0) (hk : Ha.okB m ls = true) (i : Nat) : Ha.okB m (ls.eraseIdx i) = true := by
  rw [Ha.okB_iff (Ha.code_erase h i)]
  refine Ha.less_none (fun a ha b hb => ?_) ((Ha.okB_iff h).1 hk)
  obtain ⟨h1, h2⟩ := Wa.mem_nrow.1 hb
  refine Wa.mem_nrow.2 ⟨h1, ?_⟩
  rw [Gr.adj_iff] at h2 ⊢
  exact h2.imp List.mem_of_mem_eraseIdx List.mem_of_mem_eraseIdx
theorem Ha.code_more {m : Nat} {ls : List Gr.Ln} (h : Gr.code (m : Int) ls = 0) (h24 : ls.length < 24) {a b : Int} (ha : 0 ≤ a) (ha2 : a < m) (hb : 0 ≤ b) (hb2 : b < m) (hab : a ≠ b) : Gr.code (m : Int) (ls ++ [(a, b)]) = 0 := by
  obtain ⟨h1, h2, h3, h4⟩ := Gr.code_zero.1 h
  refine Gr.code_zero.2 ⟨h1, h2, by simp; omega, fun p hp => ?_⟩
  rcases List.mem_append.1 hp with hp | hp
  · exact h4 p hp
  · rw [List.mem_singleton] at hp
    subst hp
    exact ⟨ha, ha2, hb, hb2, hab⟩
theorem Ha.okB_more {m : Nat} {ls : List Gr.Ln} (h : Gr.code (m : Int) ls = 0) (hk : Ha.okB m ls = true) (h24 : ls.length < 24) {a b : Nat} (ha2 : a < m) (hb2 : b < m) (hne : Ha.pt m (Wa.nrow m ls) a ≠ Ha.pt m (Wa.nrow m ls) b) : Gr.code (m : Int) (ls ++ [((a : Int), (b : Int))]) = 0 ∧ Ha.okB m (ls ++ [((a : Int), (b : Int))]) = true := by
  have hab : (a : Int) ≠ (b : Int) := fun e => by
    have : a = b := by omega
    rw [this] at hne
    exact hne rfl
  have hc := Ha.code_more h h24 (a := (a : Int)) (b := (b : Int)) (by omega) (by omega) (by omega) (by omega) hab
  refine ⟨hc, ?_⟩
  rw [Ha.okB_iff hc]
  have hn := (Ha.okB_iff h).1 hk
  refine Ha.parted_none (c := Ha.pt m (Wa.nrow m ls)) fun u hu v hv => ?_
  obtain ⟨hvm, hadj⟩ := Wa.mem_nrow.1 hv
  have hne2 : Ha.pt m (Wa.nrow m ls) u ≠ Ha.pt m (Wa.nrow m ls) v := by
    have hold : Gr.adj ls (u : Int) (v : Int) = true → Ha.pt m (Wa.nrow m ls) u ≠ Ha.pt m (Wa.nrow m ls) v := fun ho =>
      Ha.pt_proper (Wa.nrow_ok m ls) (Wa.nrow_sym m ls) hn hu (Wa.mem_nrow.2 ⟨hvm, ho⟩)
    rcases Gr.adj_iff.1 hadj with hm | hm
    · rcases List.mem_append.1 hm with hm | hm
      · exact hold (Gr.adj_iff.2 (.inl hm))
      · rw [List.mem_singleton, Prod.mk.injEq] at hm
        have e1 : u = a := by omega
        have e2 : v = b := by omega
        rw [e1, e2]; exact hne
    · rcases List.mem_append.1 hm with hm | hm
      · exact hold (Gr.adj_iff.2 (.inr hm))
      · rw [List.mem_singleton, Prod.mk.injEq] at hm
        have e1 : u = b := by omega
        have e2 : v = a := by omega
        rw [e1, e2]; exact hne.symm
  have r1 := Ha.pt_range (m := m) (Wa.nrow m ls) u
  have r2 := Ha.pt_range (m := m) (Wa.nrow m ls) v
  omega
/-- the colors of the ends of a line -/
theorem Ha.okB_line {m : Nat} {ls : List Gr.Ln} (h : Gr.code (m : Int) ls = 0) (hk : Ha.okB m ls = true) {p : Gr.Ln} (hp : p ∈ ls) : (Ha.parts m (Wa.nrow m ls)).getD p.1.toNat 0 ≠ (Ha.parts m (Wa.nrow m ls)).getD p.2.toNat 0 := by
  have := Ha.okB_any h
  rw [hk] at this
  have h2 : (ls.any fun p => decide ((Ha.parts m (Wa.nrow m ls)).getD p.1.toNat 0 = (Ha.parts m (Wa.nrow m ls)).getD p.2.toNat 0)) = false := by
    generalize (ls.any fun p => decide ((Ha.parts m (Wa.nrow m ls)).getD p.1.toNat 0 = (Ha.parts m (Wa.nrow m ls)).getD p.2.toNat 0)) = t at this ⊢
    cases t
    · rfl
    · cases this
  have h3 := List.any_eq_false.1 h2 p hp
  simpa using h3

/-! ### Part -/
theorem Part_yes (m : Nat) (A : Option Addr) (n c : Nat) (ls : List Gr.Ln) (w : World) (hr : RdP w w.heap.size A n c ls) (h : Gr.code (m : Int) ls = 0) (hk : Ha.okB m ls = true) :
    Calls Tryd.prog 8 #[.int .i64 (m : Int), .slice A n c] w fun e w' => ∃ g, e = .returned (.tuple #[.slice (some ⟨g, 0, none⟩) m m, .nilIface]) ∧ Own w' w.heap.size 3 (.slice (some ⟨g, 0, none⟩) m m) (Ha.parts m (Wa.nrow m ls)) ∧ Below w.heap.size w w' := by
  refine (Part_ok m A n c ls w hr h).mono ?_
  rintro e w1 ⟨hb, (⟨h0, _⟩ | ⟨_, g, rfl, ho⟩)⟩
  · rw [hk] at h0; cases h0
  · exact ⟨g, rfl, ho, hb⟩
theorem Part_no (m : Nat) (A : Option Addr) (n c : Nat) (ls : List Gr.Ln) (w : World) (hr : RdP w w.heap.size A n c ls) (h : Gr.code (m : Int) ls = 0) (hk : Ha.okB m ls = false) :
    Calls Tryd.prog 8 #[.int .i64 (m : Int), .slice A n c] w fun e w' => e = .returned (.tuple #[.slice none 0 0, errv 5]) ∧ Below w.heap.size w w' := by
  refine (Part_ok m A n c ls w hr h).mono ?_
  rintro e w1 ⟨hb, (⟨_, rfl⟩ | ⟨h0, _⟩)⟩
  · exact ⟨rfl, hb⟩
  · rw [hk] at h0; cases h0

/-! ### the closed fact -/
theorem RdP.newTwo (w : World) (t : TypeId) (p q r s : Int) : RdP (w.alloc (.cells #[.int .i64 p, .int .i64 q, .int .i64 r, .int .i64 s] t)) (w.heap.size + 1) (some ⟨w.heap.size, 0, none⟩) 2 2 [(p, q), (r, s)] := by
  refine ⟨rfl, Nat.le_refl _, by omega, fun h => (by cases h), fun _ => ⟨w.heap.size, 0, rfl, by omega, fun k hk => ?_⟩⟩
  have : k = 0 ∨ k = 1 := by omega
  rcases this with rfl | rfl <;> simp
theorem RdP.newThree (w : World) (t : TypeId) (p q r s x y : Int) : RdP (w.alloc (.cells #[.int .i64 p, .int .i64 q, .int .i64 r, .int .i64 s, .int .i64 x, .int .i64 y] t)) (w.heap.size + 1) (some ⟨w.heap.size, 0, none⟩) 3 3 [(p, q), (r, s), (x, y)] := by
  refine ⟨rfl, Nat.le_refl _, by omega, fun h => (by cases h), fun _ => ⟨w.heap.size, 0, rfl, by omega, fun k hk => ?_⟩⟩
  have : k = 0 ∨ k = 1 ∨ k = 2 := by omega
  rcases this with rfl | rfl | rfl <;> simp

theorem hfact1 : Gr.code (3 : Int) [(0, 1), (1, 2)] = 0 := by kernel_rfl
theorem hfact2 : Ha.okB 3 [(0, 1), (1, 2)] = true := by kernel_rfl
theorem hfact3 : Ha.parts 3 (Wa.nrow 3 [(0, 1), (1, 2)]) = [0, 1, 0] := by kernel_rfl
theorem hfact4 : Gr.code (3 : Int) [(0, 1), (1, 2), (2, 0)] = 0 := by kernel_rfl
theorem hfact5 : Ha.odd 3 [(0, 1), (1, 2), (2, 0)] = 3 := by kernel_rfl

theorem Part_f (A : Option Addr) (w : World) (hr : RdP w w.heap.size A 2 2 [(0, 1), (1, 2)]) :
    Calls Tryd.prog 8 #[.int .i64 3, .slice A 2 2] w fun e w' => ∃ g, e = .returned (.tuple #[.slice (some ⟨g, 0, none⟩) 3 3, .nilIface]) ∧ Rd w' w'.heap.size (some ⟨g, 0, none⟩) 3 3 [0, 1, 0] ∧ Below w.heap.size w w' := by
  refine Calls.mono (Part_yes 3 A 2 2 _ w hr hfact1 hfact2) ?_
  rintro e w1 ⟨g, rfl, ho, hb⟩
  rw [hfact3] at ho
  exact ⟨g, rfl, ho.rd', hb⟩
theorem Odd_f (A : Option Addr) (w : World) (hr : RdP w w.heap.size A 3 3 [(0, 1), (1, 2), (2, 0)]) :
    Calls Tryd.prog 11 #[.int .i64 3, .slice A 3 3] w fun e w' => e = .returned (.tuple #[.int .i64 3, .nilIface]) ∧ Below w.heap.size w w' := by
  have := Odd_ok 3 A 3 3 _ w hr hfact4
  rw [hfact5] at this
  exact this

set_option maxRecDepth 100000 in
set_option maxHeartbeats 1000000 in
theorem halvesFact_any (w : World) : Calls Tryd.prog 12 #[] w fun e w' => e = .returned (.bool true) ∧ Below w.heap.size w w' := by
  obtain ⟨x0, hx0⟩ : ∃ x0, x0 = w.alloc (.cells #[.int .i64 0, .int .i64 1, .int .i64 1, .int .i64 2] 40) := ⟨_, rfl⟩
  have hb0 : Below w.heap.size w x0 := by rw [hx0]; exact (Below.refl _ _).alloc (Nat.le_refl _) _
  have hr0 : RdP x0 x0.heap.size (some ⟨w.heap.size, 0, none⟩) 2 2 [(0, 1), (1, 2)] := by rw [hx0]; exact (RdP.newTwo w _ 0 1 1 2).more (by simp)
  have HX0 := Lib.hid hx0
  clear hx0
  go_enter Tryd.func12, Tryd.ntmps12
  go_wp2_with fail
  rw [← HX0.out]
  clear HX0
  refine (Part_f _ _ hr0).mono ?_
  rintro e w1 ⟨g1, rfl, hrd1, hb1⟩
  have hb01 := hb0.trans (hb1.mono hb0.size)
  clear hr0 hb0 hb1
  obtain ⟨x1, hx1⟩ : ∃ x1, x1 = w1.alloc (.cells #[.int .i64 0, .int .i64 1, .int .i64 1, .int .i64 2, .int .i64 2, .int .i64 0] 40) := ⟨_, rfl⟩
  have hbx : Below w1.heap.size w1 x1 := by rw [hx1]; exact (Below.refl _ _).alloc (Nat.le_refl _) _
  have hr1 : RdP x1 x1.heap.size (some ⟨w1.heap.size, 0, none⟩) 3 3 [(0, 1), (1, 2), (2, 0)] := by rw [hx1]; exact (RdP.newThree w1 _ 0 1 1 2 2 0).more (by simp)
  have HX1 := Lib.hid hx1
  clear hx1
  go_wp2_with fail
  rw [← HX1.out]
  clear HX1
  refine (Odd_f _ _ hr1).mono ?_
  rintro e w2 ⟨rfl, hb2⟩
  have hb02 := hb01.trans ((hbx.trans (hb2.mono hbx.size)).mono hb01.size)
  have hrd2 := (hrd1.past hbx).past hb2
  clear hr1 hbx hb2 hb01 hrd1
  obtain ⟨x2, hx2⟩ : ∃ x2, x2 = w2.alloc (.cells #[.int .i64 0, .int .i64 1, .int .i64 0] 3) := ⟨_, rfl⟩
  have hbx2 : Below w2.heap.size w2 x2 := by rw [hx2]; exact (Below.refl _ _).alloc (Nat.le_refl _) _
  have hr2 : Rd x2 x2.heap.size (some ⟨w2.heap.size, 0, none⟩) 3 3 [0, 1, 0] := by rw [hx2]; exact (Rd.new w2 [0, 1, 0] _ 3 rfl (by omega)).more (by simp)
  have HX2 := Lib.hid hx2
  clear hx2
  go_wp2_with fail
  rw [← HX2.out]
  clear HX2
  refine (Ints_t _ _ 3 3 _ 3 [0, 1, 0] [0, 1, 0] true _ (hrd2.past hbx2) hr2 (by decide)).mono ?_
  rintro e w4 ⟨rfl, hb4⟩
  go_wp2
  go_ret
  exact ⟨rfl, hb02.trans ((hbx2.trans (hb4.mono hbx2.size)).mono hb02.size)⟩

end Go.Proofs.YtklanopgmlmjlaaDoor
