/-
  The contract of From of package walk: the distances from a point, or what is wrong.
-/
import Derived.Test.YtoofpmajiphldaaDoorWalkG
import Derived.Test.YtoofpmajiphldaaDoorRepeat
namespace Go.Proofs.YtoofpmajiphldaaDoor
open Go.RowKit Go.Shelf

attribute [local go_sem] Oper.semAt_some
set_option linter.unusedSimpArgs false

/-- what From hands back -/
def FromPost (n : Int) (ls : List Gr.Ln) (a : Int) (w : World) (e : Ending) (w' : World) : Prop :=
  Below w.heap.size w w' ∧ ((Wa.fcode n ls a ≠ 0 ∧ e = .returned (.tuple #[.slice none 0 0, errv (Wa.fcode n ls a)])) ∨
    (Wa.fcode n ls a = 0 ∧ ∃ g, e = .returned (.tuple #[.slice (some ⟨g, 0, none⟩) n.toNat n.toNat, .nilIface]) ∧ Own w' w.heap.size 3 (.slice (some ⟨g, 0, none⟩) n.toNat n.toNat) (Wa.dists n.toNat (Wa.nrow n.toNat ls) a.toNat)))

theorem From_err (n : Int) (A : Option Addr) (k c : Nat) (ls : List Gr.Ln) (a : Int) (w : World) (hr : RdP w w.heap.size A k c ls) (h : Gr.code n ls ≠ 0) :
    Calls Tryd.prog 35 #[.int .i64 n, .slice A k c, .int .i64 a] w (FromPost n ls a w) := by
  have he : Wa.fcode n ls a = Gr.code n ls := by unfold Wa.fcode; rw [if_neg h]
  have H := Lib.hid h
  have HE := Lib.hid he
  clear h he
  go_enter Tryd.func35, Tryd.ntmps35
  go_wp2_with fail
  refine (Beside_any n A k c ls _ hr).mono ?_
  rintro e w1 ⟨hb, (⟨_, rfl⟩ | ⟨h0, _⟩)⟩
  · go_wp2
    go_ret2
    exact ⟨hb, .inl ⟨by rw [HE.out]; exact H.out, by rw [HE.out]; rfl⟩⟩
  · exact absurd h0 H.out

theorem From_range (n : Int) (A : Option Addr) (k c : Nat) (ls : List Gr.Ln) (a : Int) (w : World) (hr : RdP w w.heap.size A k c ls) (h : Gr.code n ls = 0) (ha : a < 0 ∨ n ≤ a) :
    Calls Tryd.prog 35 #[.int .i64 n, .slice A k c, .int .i64 a] w (FromPost n ls a w) := by
  have he : Wa.fcode n ls a = 1 := by unfold Wa.fcode; rw [if_pos h, if_pos ha]
  have H := Lib.hid h
  have HE := Lib.hid he
  clear h he
  by_cases h1 : a < 0
  · clear ha
    go_enter Tryd.func35, Tryd.ntmps35
    go_wp2_with fail
    refine (Beside_any n A k c ls _ hr).mono ?_
    rintro e w1 ⟨hb, (⟨h0, _⟩ | ⟨_, A1, c1, rfl, _⟩)⟩
    · exact absurd H.out h0
    · go_wp2
      go_ret2
      exact ⟨hb, .inl ⟨by rw [HE.out]; omega, by rw [HE.out]; rfl⟩⟩
  · have h2 : n ≤ a := by omega
    have h3 : 0 ≤ a := by omega
    have hd : decide (a < 0) = false := by simp; omega
    clear ha h1
    go_enter Tryd.func35, Tryd.ntmps35
    go_wp2_with fail
    refine (Beside_any n A k c ls _ hr).mono ?_
    rintro e w1 ⟨hb, (⟨h0, _⟩ | ⟨_, A1, c1, rfl, _⟩)⟩
    · exact absurd H.out h0
    · go_wp2
      go_ret2
      exact ⟨hb, .inl ⟨by rw [HE.out]; omega, by rw [HE.out]; rfl⟩⟩

theorem Beside_good (m : Nat) (A : Option Addr) (k c : Nat) (ls : List Gr.Ln) (w : World) (hr : RdP w w.heap.size A k c ls) (h : Gr.code (m : Int) ls = 0) :
    Calls Tryd.prog 24 #[.int .i64 (m : Int), .slice A k c] w fun e w' => ∃ A1 c1, e = .returned (.tuple #[.slice A1 m c1, .nilIface]) ∧ RdR w' w'.heap.size A1 m c1 (Gr.rows m ls) ∧ Below w.heap.size w w' := by
  refine (Beside_any (m : Int) A k c ls w hr).mono ?_
  rintro e w1 ⟨hb, (⟨h0, _⟩ | ⟨_, A1, c1, rfl, hrr⟩)⟩
  · exact absurd h h0
  · rw [Int.toNat_natCast] at hrr ⊢
    exact ⟨A1, c1, rfl, hrr, hb⟩

set_option maxRecDepth 100000 in
set_option maxHeartbeats 4000000 in
theorem From_ok (m a : Nat) (A : Option Addr) (k c : Nat) (ls : List Gr.Ln) (w : World) (hr : RdP w w.heap.size A k c ls) (h : Gr.code (m : Int) ls = 0) (ha : a < m) :
    CallsIn Fence.wide 10 Tryd.prog 35 #[.int .i64 (m : Int), .slice A k c, .int .i64 (a : Int)] w (FromPost (m : Int) ls (a : Int) w) := by
  have hm8 : m ≤ 8 := by have := (Gr.code_zero.1 h).2.1; omega
  have hm1 : 1 ≤ m := by omega
  have H := Lib.hid h
  clear h
  have hro : Fence.wide.round = none := rfl
  have hF1 : Fence.wide.fn 24 := trivial
  have hF2 : Fence.wide.fn 32 := trivial
  have hF3 : Fence.wide.fn 33 := trivial
  have hd1 : decide ((a : Int) < 0) = false := by simp
  have hd2 : decide ((m : Int) ≤ (a : Int)) = false := by simp; omega
  have hd3 : decide (m ≤ a) = false := by simp; omega
  refine callsIn_of_wp_marks Tryd.func35 rfl trivial ?_ hro
  simp only [Tryd.ntmps35, List.size_toArray, List.length_cons, List.length_nil, Nat.reduceAdd, Nat.reduceSub, Array.replicate_succ, Array.replicate_zero, List.push_toArray, List.append_toArray, List.nil_append, List.cons_append]
  gi_wp2_with (first
    | (gi_at_call 24; refine (callsIn_wide.2 (Beside_good m A k c ls _ hr H.out)).mono ?_; rintro e w1 ⟨A1, c1, rfl, hrr, hb⟩; have hbs := hb.size; obtain ⟨s1, hs1⟩ : ∃ s1, s1 = w1.heap.size := ⟨_, rfl⟩; obtain ⟨W1, hW1⟩ : ∃ W1, W1 = w1.alloc (.cells #[.int .i64 (-1)] 3) := ⟨_, rfl⟩; have hWc : W1.cell? ⟨s1, 0, none⟩ = some (.int .i64 (-1)) := (by rw [hW1, hs1]; simp); have hWs : W1.heap.size = s1 + 1 := (by rw [hW1, hs1]; simp); have hWb : Below s1 w1 W1 := (by rw [hW1]; exact (Below.refl _ _).alloc (by omega) _); have HS1 := Lib.hid hs1; have HWs := Lib.hid hWs; have HW1 := Lib.hid hW1; clear hs1 hWs hW1)
    | (gi_at_call 32; rw [← HW1.out, ← HS1.out]; refine (callsIn_wide.2 (Repeat_one (-1) s1 m hm1 hm8 W1 hWc)).mono ?_; rintro e w2 ⟨rfl, hown2, hb2⟩; rw [HWs.out] at hown2 hb2; rw [HWs.out])
    | (gi_at_call 33; refine (callsIn_wide.2 (outward_any _ _ _ _ _)).mono ?_; rintro e w4 ⟨rfl, rfl⟩))
  obtain ⟨s2, hs2⟩ : ∃ s2, s2 = w2.heap.size := ⟨_, rfl⟩
  simp only [← hs2, Nat.add_assoc, Nat.reduceAdd]
  obtain ⟨W0, hW0⟩ : ∃ W0, W0 = (((w2.alloc (.cells #[.slice (some ⟨s1 + 1, 0, none⟩) m m] 28)).alloc (.cells #[.slice A1 m c1] 32)).alloc (.cells #[.int .i64 (a : Int)] 3)) := ⟨_, rfl⟩
  rw [← hW0]
  have hs12 : s1 + 1 < s2 := by have := hown2.lt (s1 + 1) rfl; omega
  have hws : w.heap.size ≤ s1 := by rw [HS1.out]; exact hbs
  have hsz : W0.heap.size = s2 + 3 := by rw [hW0]; simp [hs2]
  have hb02 : Below w2.heap.size w2 W0 := by rw [hW0]; exact (((Below.refl _ _).alloc (Nat.le_refl _) _).alloc (by simp) _).alloc (by simp; omega) _
  have hb1w : Below s1 w1 W0 := (hWb.trans (hb2.mono (by omega))).trans (hb02.mono (by omega))
  have hB0 : Below w.heap.size w W0 := hb.trans (hb1w.mono hws)
  have hown0 := hown2.below hb02
  have hc0 : W0.cell? ⟨s2, 0, none⟩ = some (.slice (some ⟨s1 + 1, 0, none⟩) m m) := by
    rw [hW0, hs2]
    exact ((Boxed.new w2 28 (.slice (some ⟨s1 + 1, 0, none⟩) m m)).alloc _).alloc _ |>.cell
  have hG0 : OutG s1 (s2 + 1) (s2 + 2) A1 m c1 (Gr.rows m ls) a W0 := by
    refine ⟨by omega, ?_, ?_, ?_⟩
    · have := hrr
      rw [← HS1.out] at this
      exact this.below hb1w
    · rw [hW0]
      have := Boxed.new (w2.alloc (.cells #[.slice (some ⟨s1 + 1, 0, none⟩) m m] 28)) 32 (.slice A1 m c1)
      rw [World.size_alloc, ← hs2] at this
      exact (this.alloc _).cell
    · rw [hW0]
      have := Boxed.new ((w2.alloc (.cells #[.slice (some ⟨s1 + 1, 0, none⟩) m m] 28)).alloc (.cells #[.slice A1 m c1] 32)) 3 (.int .i64 (a : Int))
      rw [World.size_alloc, World.size_alloc, ← hs2] at this
      exact this.cell
  clear hW0 hs2 hown2 hb2 hrr hb hbs hb02 hb1w hWb hWc
  refine wpIn_range_cells hro (by omega) (gf := 50) (lb := #[.pointer (some ⟨s2 + 1, 0, none⟩), .pointer (some ⟨s2 + 2, 0, none⟩)]) rfl trivial (enters_of Tryd.func50 (by kernel_rfl) rfl) (X := fun k => k = s1 + 1) (zs := Wa.out m (Wa.nrow m ls) a)
    (outward1_seq m a s1 (s2 + 1) (s2 + 2) hm8 ha (Wa.nrow m ls) (Wa.nrow_ok m ls) A1 c1 (Gr.rows m ls) (fun k hk => Wa.rows_nrow ls hk) _ W0 hG0 (fun k hk => by omega) (fun k hk => by omega) (by omega) (by omega))
    (fun k hk => by omega) (fun _ => rfl)
    (fun pre W => Own W (s1 + 1) 3 (.slice (some ⟨s1 + 1, 0, none⟩) m m) (Wa.lay pre (fun x => (x.2 : Int)) (List.replicate m (-1))) ∧ W.cell? ⟨s2, 0, none⟩ = some (.slice (some ⟨s1 + 1, 0, none⟩) m m) ∧ Below w.heap.size w W)
    (fun _ _ => False)
    (fun pre U V h hb => ⟨h.1.same (fun k hk => by cases hk; exact hb.block (s1 + 1) (by omega)), (hb.cell (p := ⟨s2, 0, none⟩) (show s2 < _ by omega)).trans h.2.1, h.2.2.trans (hb.mono (by omega))⟩)
    (fun _ _ _ h _ => h) ⟨hown0, hc0, hB0⟩
    (fun x => { tmps := #[.int .i64 (m : Int), .slice A k c, .int .i64 (a : Int), undef, undef, undef, .slice none 0 0, .nilIface, .slice A1 m c1, .nilIface, .pointer (some ⟨s2, 0, none⟩), .int .i64 (x.1 : Int), .int .i64 (x.2 : Int), .tuple #[.slice A1 m c1, .nilIface], .int .i64 (m : Int), .slice A k c,
      .tuple #[.slice A1 m c1, .nilIface], .slice A1 m c1, .nilIface, .nilIface, .bool false, undef, .int .i64 (a : Int), .bool false, .bool false, .int .i64 (a : Int), .int .i64 (m : Int), .bool false, .bool false, undef, .slice (some ⟨s1, 0, none⟩) 1 1, .int .i64 (m : Int),
      .slice (some ⟨s1 + 1, 0, none⟩) m m, .slice A1 m c1, .int .i64 (a : Int), .func (.func 50) #[] #[.pointer (some ⟨s2 + 1, 0, none⟩), .pointer (some ⟨s2 + 2, 0, none⟩)], .int .i64 (x.1 : Int), .int .i64 (x.2 : Int), undef, undef, undef, undef, undef], defers := [] }) ?assign ?body ?done ?stop
  case assign =>
    intro x l W K hK
    simp only [encP]
    gi_wp2
    exact hK
  case body =>
    rintro pre ⟨v, d⟩ hpre l W ⟨hown, hc, hB⟩
    have hd := (Wa.mem_out (Wa.nrow_ok m ls) ha v d).1 (hpre.subset (by simp))
    have hv := Wa.wk_lt (Wa.nrow_ok m ls) ha hd.1
    have hv1 : (0 : Int) ≤ (v : Int) := by omega
    have hv2 : (v : Int) < (m : Int) := by omega
    have g1 := hown.cell v hv
    have g2 := hown.frozen v
    clear hd hpre
    gi_wp2
    refine ⟨Kept.set _ _ _ _ rfl, ?_, ?_, ?_⟩
    · rw [Wa.lay_snoc]
      exact (hown.store v (d : Int)).1
    · rw [World.cell?_setCell_other _ _ _ _ (fun e => by have : s1 + 1 = s2 := (congrArg Addr.block e); omega)]
      exact hc
    · exact hB.setCell (p := ⟨s1 + 1, v, none⟩) (show w.heap.size ≤ s1 + 1 by omega) _
  case done =>
    rintro D W hD ⟨hown, hc, hB⟩ hK
    have hB' := hB.trans (belowK_b (w := w) (Nat.le_refl _) W D _ (.deferred none) (by omega) hK rfl rfl)
    have hown' : Own (W.putObj D (.deferred none)) (s1 + 1) 3 (.slice (some ⟨s1 + 1, 0, none⟩) m m) _ := ownsRow_putObj hown (.deferred none) hK rfl
    rw [Wa.lay_out (Wa.nrow_ok m ls) ha] at hown'
    clear hown
    gi_wp2
    refine ⟨by simp, .inl ⟨_, _, rfl, run_takeDeferred hK, ?_⟩⟩
    refine ⟨_, results_tmp2 rfl _ _ _, hB', .inr ⟨Wa.fcode_zero.2 ⟨H.out, by omega, by omega⟩, s1 + 1, rfl, ?_⟩⟩
    rw [Int.toNat_natCast, Int.toNat_natCast]
    exact hown'.mono (by omega)
  case stop =>
    rintro D pre W _ _ h _
    exact h.elim

theorem From_any (n : Int) (A : Option Addr) (k c : Nat) (ls : List Gr.Ln) (a : Int) (w : World) (hr : RdP w w.heap.size A k c ls) :
    Calls Tryd.prog 35 #[.int .i64 n, .slice A k c, .int .i64 a] w (FromPost n ls a w) := by
  by_cases h : Gr.code n ls = 0
  · by_cases ha : a < 0 ∨ n ≤ a
    · exact From_range n A k c ls a w hr h ha
    · obtain ⟨m, rfl⟩ : ∃ m : Nat, n = (m : Int) := ⟨n.toNat, by have := (Gr.code_zero.1 h).1; omega⟩
      obtain ⟨b, rfl⟩ : ∃ b : Nat, a = (b : Int) := ⟨a.toNat, by omega⟩
      exact callsIn_wide.1 (From_ok m b A k c ls w hr h (by omega))
  · exact From_err n A k c ls a w hr h

end Go.Proofs.YtoofpmajiphldaaDoor
