/-
  The closed fact of the laws on graphs holds.
-/
import Derived.Test.YtghdallaohpelaaDoorGraphB
import Derived.Test.YtghdallaohpelaaDoorGraphE
namespace Go.Proofs.YtghdallaohpelaaDoor
open Go.RowKit

/-- three rows that have just been laid -/
theorem RdR.new3 (w : World) (t : TypeId) (A0 A1 A2 : Option Addr) (n0 n1 n2 c0 c1 c2 : Nat) (r0 r1 r2 : List Int) (h0 : Rd w w.heap.size A0 n0 c0 r0) (h1 : Rd w w.heap.size A1 n1 c1 r1) (h2 : Rd w w.heap.size A2 n2 c2 r2) :
    RdR (w.alloc (.cells #[.slice A0 n0 c0, .slice A1 n1 c1, .slice A2 n2 c2] t)) (w.heap.size + 1) (some ⟨w.heap.size, 0, none⟩) 3 3 [r0, r1, r2] := by
  have hb : Below w.heap.size w (w.alloc (.cells #[.slice A0 n0 c0, .slice A1 n1 c1, .slice A2 n2 c2] t)) := (Below.refl _ _).alloc (Nat.le_refl _) _
  refine ⟨rfl, Nat.le_refl _, by omega, fun h => (by cases h), fun _ => ⟨w.heap.size, 0, rfl, by omega, fun k hk => ?_⟩⟩
  have hk3 : k = 0 ∨ k = 1 ∨ k = 2 := by omega
  rcases hk3 with rfl | rfl | rfl
  · refine ⟨A0, c0, by simp [h0.len], ?_⟩
    have := (h0.below hb).more (Nat.le_succ _)
    simpa [h0.len] using this
  · refine ⟨A1, c1, by simp [h1.len], ?_⟩
    have := (h1.below hb).more (Nat.le_succ _)
    simpa [h1.len] using this
  · refine ⟨A2, c2, by simp [h2.len], ?_⟩
    have := (h2.below hb).more (Nat.le_succ _)
    simpa [h2.len] using this
/-- two lines that have just been laid -/
theorem RdP.new2 (w : World) (t : TypeId) (p q r s : Int) : RdP (w.alloc (.cells #[.int .i64 p, .int .i64 q, .int .i64 r, .int .i64 s] t)) (w.heap.size + 1) (some ⟨w.heap.size, 0, none⟩) 2 2 [(p, q), (r, s)] := by
  refine ⟨rfl, Nat.le_refl _, by omega, fun h => (by cases h), fun _ => ⟨w.heap.size, 0, rfl, by omega, fun k hk => ?_⟩⟩
  have hk2 : k = 0 ∨ k = 1 := by omega
  rcases hk2 with rfl | rfl
  · simp
  · simp

theorem fact_code : Gr.code 3 [(2, 0)] = 0 := by decide
theorem fact_rows : Gr.rows 3 [(2, 0)] = [[2], [], [0]] := by decide
theorem fact_other : Gr.other 3 [(2, 0)] = [(0, 1), (1, 2)] := by decide

set_option maxRecDepth 100000 in
set_option maxHeartbeats 2000000 in
theorem graphFact_any (w : World) : Calls Tryd.prog 16 #[] w fun e w' => e = .returned (.bool true) ∧ Below w.heap.size w w' := by
  have hb0 : Below w.heap.size w (w.alloc (.cells #[.int .i64 2, .int .i64 0] 33)) := (Below.refl _ _).alloc (Nat.le_refl _) _
  have hr0 : RdP (w.alloc (.cells #[.int .i64 2, .int .i64 0] 33)) (w.alloc (.cells #[.int .i64 2, .int .i64 0] 33)).heap.size (some ⟨w.heap.size, 0, none⟩) 1 1 [(2, 0)] := (RdP.one w (2, 0) _).more (by simp)
  go_enter Tryd.func16, Tryd.ntmps16
  go_wp2_with fail
  refine (Beside_any 3 _ 1 1 [(2, 0)] _ hr0).mono ?_
  rintro e w1 ⟨hb1, (⟨hne, rfl⟩ | ⟨_, A1, c1, rfl, hr1⟩)⟩
  · exact absurd fact_code hne
  have hb01 := hb0.trans (hb1.mono hb0.size)
  simp only [show ((3 : Int).toNat) = 3 from rfl] at hr1 ⊢
  rw [fact_rows] at hr1
  obtain ⟨x1, hx1⟩ : ∃ x1, x1 = w1.alloc (.cells #[.int .i64 2, .int .i64 0] 33) := ⟨_, rfl⟩
  have hbx : Below w1.heap.size w1 x1 := by rw [hx1]; exact (Below.refl _ _).alloc (Nat.le_refl _) _
  have hr2 : RdP x1 x1.heap.size (some ⟨w1.heap.size, 0, none⟩) 1 1 [(2, 0)] := by rw [hx1]; exact (RdP.one w1 (2, 0) _).more (by simp)
  go_wp2_with fail
  rw [← hx1]
  clear hx1
  refine (Other_any 3 _ 1 1 [(2, 0)] _ hr2).mono ?_
  rintro e w2 ⟨hb2, (⟨hne, rfl⟩ | ⟨_, hl, rfl⟩ | ⟨_, _, v, rfl, hown⟩)⟩
  · exact absurd fact_code hne
  · simp only [show ((3 : Int).toNat) = 3 from rfl, fact_other] at hl
    exact absurd hl (by decide)
  simp only [show ((3 : Int).toNat) = 3 from rfl, fact_other] at hown
  have hbw : Below w1.heap.size w1 w2 := hbx.trans (hb2.mono hbx.size)
  have hb02 := hb01.trans (hbw.mono hb01.size)
  have hr1' := hr1.past hbw
  obtain ⟨A2, c2, rfl, hr3⟩ := hown.rd
  simp only [List.length_cons, List.length_nil, Nat.reduceAdd] at hr3 ⊢
  clear hown hr1 hbx hr2 hb2 hb1 hbw hr0 hb0
  obtain ⟨y0, hy0⟩ : ∃ y, y = w2.alloc (.cells #[.int .i64 2] 3) := ⟨_, rfl⟩
  obtain ⟨y1, hy1⟩ : ∃ y, y = y0.alloc (.cells #[] 3) := ⟨_, rfl⟩
  obtain ⟨y2, hy2⟩ : ∃ y, y = y1.alloc (.cells #[.int .i64 0] 3) := ⟨_, rfl⟩
  obtain ⟨y3, hy3⟩ : ∃ y, y = y2.alloc (.cells #[.slice (some ⟨w2.heap.size, 0, none⟩) 1 1, .slice (some ⟨w2.heap.size + 1, 0, none⟩) 0 0, .slice (some ⟨w2.heap.size + 1 + 1, 0, none⟩) 1 1] 29) := ⟨_, rfl⟩
  have s0 : y0.heap.size = w2.heap.size + 1 := by rw [hy0]; simp
  have s1 : y1.heap.size = w2.heap.size + 1 + 1 := by rw [hy1]; simp [s0]
  have s2 : y2.heap.size = w2.heap.size + 1 + 1 + 1 := by rw [hy2]; simp [s1]
  have s3 : y3.heap.size = w2.heap.size + 1 + 1 + 1 + 1 := by rw [hy3]; simp [s2]
  have b0 : Below w2.heap.size w2 y0 := by rw [hy0]; exact (Below.refl _ _).alloc (Nat.le_refl _) _
  have b1 : Below y0.heap.size y0 y1 := by rw [hy1]; exact (Below.refl _ _).alloc (Nat.le_refl _) _
  have b2 : Below y1.heap.size y1 y2 := by rw [hy2]; exact (Below.refl _ _).alloc (Nat.le_refl _) _
  have b3 : Below y2.heap.size y2 y3 := by rw [hy3]; exact (Below.refl _ _).alloc (Nat.le_refl _) _
  have rA : Rd y2 y2.heap.size (some ⟨w2.heap.size, 0, none⟩) 1 1 [2] := by
    have : Rd y0 y0.heap.size (some ⟨w2.heap.size, 0, none⟩) 1 1 [2] := by rw [hy0]; exact (Rd.one w2 2 _).more (by simp)
    exact (this.past b1).past b2
  have rB : Rd y2 y2.heap.size (some ⟨w2.heap.size + 1, 0, none⟩) 0 0 [] := Rd.empty _ _ _ _ _ _ rfl rfl (by omega)
  have rC : Rd y2 y2.heap.size (some ⟨w2.heap.size + 1 + 1, 0, none⟩) 1 1 [0] := by
    have := (Rd.one y1 0 3).more (B' := y1.heap.size + 1) (Nat.le_refl _)
    rw [← hy2, s1] at this
    exact this.more (by omega)
  have rL : RdR y3 y3.heap.size (some ⟨w2.heap.size + 1 + 1 + 1, 0, none⟩) 3 3 [[2], [], [0]] := by
    have := RdR.new3 y2 29 _ _ _ 1 0 1 1 0 1 [2] [] [0] rA rB rC
    rw [← hy3, s2] at this
    exact this.more (by omega)
  have b23 : Below w2.heap.size w2 y3 := b0.trans (((b1.trans (b2.mono b1.size)).trans (b3.mono (Nat.le_trans b1.size b2.size))).mono b0.size)
  have hrx := hr1'.past b23
  go_wp2_with fail
  rw [← hy0, ← hy1, ← hy2, ← hy3]
  refine (Rows_any _ _ 3 3 _ 3 _ _ true _ hrx rL (by decide)).mono ?_
  rintro e w3 ⟨rfl, hb3⟩
  have hb03 := b23.trans (hb3.mono b23.size)
  have hr4 := hr3.past hb03
  have b4 : Below w3.heap.size w3 (w3.alloc (.cells #[.int .i64 0, .int .i64 1, .int .i64 1, .int .i64 2] 33)) := (Below.refl _ _).alloc (Nat.le_refl _) _
  have rM : RdP (w3.alloc (.cells #[.int .i64 0, .int .i64 1, .int .i64 1, .int .i64 2] 33)) (w3.alloc (.cells #[.int .i64 0, .int .i64 1, .int .i64 1, .int .i64 2] 33)).heap.size (some ⟨w3.heap.size, 0, none⟩) 2 2 [(0, 1), (1, 2)] := (RdP.new2 w3 _ 0 1 1 2).more (by simp)
  go_wp2_with fail
  refine (Lines_any _ _ 2 2 _ 2 _ _ true _ (hr4.past b4) rM (by decide)).mono ?_
  rintro e w4 ⟨rfl, hb4⟩
  go_wp2
  go_ret
  exact ⟨rfl, hb02.trans ((hb03.trans ((b4.trans (hb4.mono b4.size)).mono hb03.size)).mono hb02.size)⟩

end Go.Proofs.YtghdallaohpelaaDoor
