/-
  The contract of From of package walk: the distances from a point, or what is wrong.
  The contract of Parts of package walk: for each point the least point that hangs together with it, or what is wrong.
  Contracts of From and Parts of package walk where nothing is wrong.
-/
import Derived.Test.YtojkjdccjomaaaaDoorWalkG
import Derived.Test.YtojkjdccjomaaaaDoorRepeat
import Derived.Test.YtojkjdccjomaaaaDoorWalkM
namespace Go.Proofs.YtojkjdccjomaaaaDoor
open Go.RowKit Go.Shelf

attribute [local go_sem] Oper.semAt_some
set_option linter.unusedSimpArgs false

/-- what From hands back -/
def FromPost (n : Int) (ls : List Gr.Ln) (a : Int) (w : World) (e : Ending) (w' : World) : Prop :=
  Below w.heap.size w w' ∧ ((Wa.fcode n ls a ≠ 0 ∧ e = .returned (.tuple #[.slice none 0 0, errv (Wa.fcode n ls a)])) ∨
    (Wa.fcode n ls a = 0 ∧ ∃ g, e = .returned (.tuple #[.slice (some ⟨g, 0, none⟩) n.toNat n.toNat, .nilIface]) ∧ Own w' w.heap.size 3 (.slice (some ⟨g, 0, none⟩) n.toNat n.toNat) (Wa.dists n.toNat (Wa.nrow n.toNat ls) a.toNat)))

theorem From_err (n : Int) (A : Option Addr) (k c : Nat) (ls : List Gr.Ln) (a : Int) (w : World) (hr : RdP w w.heap.size A k c ls) (h : Gr.code n ls ≠ 0) :
    Calls Tryd.prog 17 #[.int .i64 n, .slice A k c, .int .i64 a] w (FromPost n ls a w) := by
  have he : Wa.fcode n ls a = Gr.code n ls := by unfold Wa.fcode; rw [if_neg h]
  have H := Lib.hid h
  have HE := Lib.hid he
  clear h he
  go_enter Tryd.func17, Tryd.ntmps17
  go_wp2_with fail
  refine (Beside_any n A k c ls _ hr).mono ?_
  rintro e w1 ⟨hb, (⟨_, rfl⟩ | ⟨h0, _⟩)⟩
  · go_wp2
    go_ret2
    exact ⟨hb, .inl ⟨by rw [HE.out]; exact H.out, by rw [HE.out]; rfl⟩⟩
  · exact absurd h0 H.out

theorem From_range (n : Int) (A : Option Addr) (k c : Nat) (ls : List Gr.Ln) (a : Int) (w : World) (hr : RdP w w.heap.size A k c ls) (h : Gr.code n ls = 0) (ha : a < 0 ∨ n ≤ a) :
    Calls Tryd.prog 17 #[.int .i64 n, .slice A k c, .int .i64 a] w (FromPost n ls a w) := by
  have he : Wa.fcode n ls a = 1 := by unfold Wa.fcode; rw [if_pos h, if_pos ha]
  have H := Lib.hid h
  have HE := Lib.hid he
  clear h he
  by_cases h1 : a < 0
  · clear ha
    go_enter Tryd.func17, Tryd.ntmps17
    go_wp2_with fail
    refine (Beside_any n A k c ls _ hr).mono ?_
    rintro e w1 ⟨hb, (⟨h0, _⟩ | ⟨_, A1, c1, rfl, _⟩)⟩
    · exact absurd H.out h0
    · go_wp2
      go_ret2
      exact ⟨hb, .inl ⟨by rw [HE.out]; omega, by rw [HE.out]; rfl⟩⟩
  · have h2 : n ≤ a := by omega
    have h3 : 0 ≤ a := by omega
    have hd : decide (a < 0) = false := by simp; omega
    clear ha h1
    go_enter Tryd.func17, Tryd.ntmps17
    go_wp2_with fail
    refine (Beside_any n A k c ls _ hr).mono ?_
    rintro e w1 ⟨hb, (⟨h0, _⟩ | ⟨_, A1, c1, rfl, _⟩)⟩
    · exact absurd H.out h0
    · go_wp2
      go_ret2
      exact ⟨hb, .inl ⟨by rw [HE.out]; omega, by rw [HE.out]; rfl⟩⟩

theorem Beside_good (m : Nat) (A : Option Addr) (k c : Nat) (ls : List Gr.Ln) (w : World) (hr : RdP w w.heap.size A k c ls) (h : Gr.code (m : Int) ls = 0) :
    Calls Tryd.prog 18 #[.int .i64 (m : Int), .slice A k c] w fun e w' => ∃ A1 c1, e = .returned (.tuple #[.slice A1 m c1, .nilIface]) ∧ RdR w' w'.heap.size A1 m c1 (Gr.rows m ls) ∧ Below w.heap.size w w' := by
  refine (Beside_any (m : Int) A k c ls w hr).mono ?_
  rintro e w1 ⟨hb, (⟨h0, _⟩ | ⟨_, A1, c1, rfl, hrr⟩)⟩
  · exact absurd h h0
  · rw [Int.toNat_natCast] at hrr ⊢
    exact ⟨A1, c1, rfl, hrr, hb⟩

set_option maxRecDepth 100000 in
set_option maxHeartbeats 4000000 in
theorem From_ok (m a : Nat) (A : Option Addr) (k c : Nat) (ls : List Gr.Ln) (w : World) (hr : RdP w w.heap.size A k c ls) (h : Gr.code (m : Int) ls = 0) (ha : a < m) :
    CallsIn Fence.wide 10 Tryd.prog 17 #[.int .i64 (m : Int), .slice A k c, .int .i64 (a : Int)] w (FromPost (m : Int) ls (a : Int) w) := by
  have hm8 : m ≤ 8 := by have := (Gr.code_zero.1 h).2.1; omega
  have hm1 : 1 ≤ m := by omega
  have H := Lib.hid h
  clear h
  have hro : Fence.wide.round = none := rfl
  have hF1 : Fence.wide.fn 18 := trivial
  have hF2 : Fence.wide.fn 28 := trivial
  have hF3 : Fence.wide.fn 29 := trivial
  have hd1 : decide ((a : Int) < 0) = false := by simp
  have hd2 : decide ((m : Int) ≤ (a : Int)) = false := by simp; omega
  have hd3 : decide (m ≤ a) = false := by simp; omega
  refine callsIn_of_wp_marks Tryd.func17 rfl trivial ?_ hro
  simp only [Tryd.ntmps17, List.size_toArray, List.length_cons, List.length_nil, Nat.reduceAdd, Nat.reduceSub, Array.replicate_succ, Array.replicate_zero, List.push_toArray, List.append_toArray, List.nil_append, List.cons_append]
  gi_wp2_with (first
    | (gi_at_call 18; refine (callsIn_wide.2 (Beside_good m A k c ls _ hr H.out)).mono ?_; rintro e w1 ⟨A1, c1, rfl, hrr, hb⟩; have hbs := hb.size; obtain ⟨s1, hs1⟩ : ∃ s1, s1 = w1.heap.size := ⟨_, rfl⟩; obtain ⟨W1, hW1⟩ : ∃ W1, W1 = w1.alloc (.cells #[.int .i64 (-1)] 3) := ⟨_, rfl⟩; have hWc : W1.cell? ⟨s1, 0, none⟩ = some (.int .i64 (-1)) := (by rw [hW1, hs1]; simp); have hWs : W1.heap.size = s1 + 1 := (by rw [hW1, hs1]; simp); have hWb : Below s1 w1 W1 := (by rw [hW1]; exact (Below.refl _ _).alloc (by omega) _); have HS1 := Lib.hid hs1; have HWs := Lib.hid hWs; have HW1 := Lib.hid hW1; clear hs1 hWs hW1)
    | (gi_at_call 28; rw [← HW1.out, ← HS1.out]; refine (callsIn_wide.2 (Repeat_one (-1) s1 m hm1 hm8 W1 hWc)).mono ?_; rintro e w2 ⟨rfl, hown2, hb2⟩; rw [HWs.out] at hown2 hb2; rw [HWs.out])
    | (gi_at_call 29; refine (callsIn_wide.2 (outward_any _ _ _ _ _)).mono ?_; rintro e w4 ⟨rfl, rfl⟩))
  obtain ⟨s2, hs2⟩ : ∃ s2, s2 = w2.heap.size := ⟨_, rfl⟩
  simp only [← hs2, Nat.add_assoc, Nat.reduceAdd]
  obtain ⟨W0, hW0⟩ : ∃ W0, W0 = (((w2.alloc (.cells #[.slice (some ⟨s1 + 1, 0, none⟩) m m] 25)).alloc (.cells #[.slice A1 m c1] 38)).alloc (.cells #[.int .i64 (a : Int)] 3)) := ⟨_, rfl⟩
  rw [← hW0]
  have hs12 : s1 + 1 < s2 := by have := hown2.lt (s1 + 1) rfl; omega
  have hws : w.heap.size ≤ s1 := by rw [HS1.out]; exact hbs
  have hsz : W0.heap.size = s2 + 3 := by rw [hW0]; simp [hs2]
  have hb02 : Below w2.heap.size w2 W0 := by rw [hW0]; exact (((Below.refl _ _).alloc (Nat.le_refl _) _).alloc (by simp) _).alloc (by simp; omega) _
  have hb1w : Below s1 w1 W0 := (hWb.trans (hb2.mono (by omega))).trans (hb02.mono (by omega))
  have hB0 : Below w.heap.size w W0 := hb.trans (hb1w.mono hws)
  have hown0 := hown2.below hb02
  have hc0 : W0.cell? ⟨s2, 0, none⟩ = some (.slice (some ⟨s1 + 1, 0, none⟩) m m) := by
    rw [hW0, hs2]
    exact ((Boxed.new w2 25 (.slice (some ⟨s1 + 1, 0, none⟩) m m)).alloc _).alloc _ |>.cell
  have hG0 : OutG s1 (s2 + 1) (s2 + 2) A1 m c1 (Gr.rows m ls) a W0 := by
    refine ⟨by omega, ?_, ?_, ?_⟩
    · have := hrr
      rw [← HS1.out] at this
      exact this.below hb1w
    · rw [hW0]
      have := Boxed.new (w2.alloc (.cells #[.slice (some ⟨s1 + 1, 0, none⟩) m m] 25)) 38 (.slice A1 m c1)
      rw [World.size_alloc, ← hs2] at this
      exact (this.alloc _).cell
    · rw [hW0]
      have := Boxed.new ((w2.alloc (.cells #[.slice (some ⟨s1 + 1, 0, none⟩) m m] 25)).alloc (.cells #[.slice A1 m c1] 38)) 3 (.int .i64 (a : Int))
      rw [World.size_alloc, World.size_alloc, ← hs2] at this
      exact this.cell
  clear hW0 hs2 hown2 hb2 hrr hb hbs hb02 hb1w hWb hWc
  refine wpIn_range_cells hro (by omega) (gf := 38) (lb := #[.pointer (some ⟨s2 + 1, 0, none⟩), .pointer (some ⟨s2 + 2, 0, none⟩)]) rfl trivial (enters_of Tryd.func38 (by kernel_rfl) rfl) (X := fun k => k = s1 + 1) (zs := Wa.out m (Wa.nrow m ls) a)
    (outward1_seq m a s1 (s2 + 1) (s2 + 2) hm8 ha (Wa.nrow m ls) (Wa.nrow_ok m ls) A1 c1 (Gr.rows m ls) (fun k hk => Wa.rows_nrow ls hk) _ W0 hG0 (fun k hk => by omega) (fun k hk => by omega) (by omega) (by omega))
    (fun k hk => by omega) (fun _ => rfl)
    (fun pre W => Own W (s1 + 1) 3 (.slice (some ⟨s1 + 1, 0, none⟩) m m) (Wa.lay pre (fun x => (x.2 : Int)) (List.replicate m (-1))) ∧ W.cell? ⟨s2, 0, none⟩ = some (.slice (some ⟨s1 + 1, 0, none⟩) m m) ∧ Below w.heap.size w W)
    (fun _ _ => False)
    (fun pre U V h hb => ⟨h.1.same (fun k hk => by cases hk; exact hb.block (s1 + 1) (by omega)), (hb.cell (p := ⟨s2, 0, none⟩) (show s2 < _ by omega)).trans h.2.1, h.2.2.trans (hb.mono (by omega))⟩)
    (fun _ _ _ h _ => h) ⟨hown0, hc0, hB0⟩
    (fun x => { tmps := #[.int .i64 (m : Int), .slice A k c, .int .i64 (a : Int), undef, undef, undef, .slice none 0 0, .nilIface, .slice A1 m c1, .nilIface, .pointer (some ⟨s2, 0, none⟩), .int .i64 (x.1 : Int), .int .i64 (x.2 : Int), .tuple #[.slice A1 m c1, .nilIface], .int .i64 (m : Int), .slice A k c,
      .tuple #[.slice A1 m c1, .nilIface], .slice A1 m c1, .nilIface, .nilIface, .bool false, undef, .int .i64 (a : Int), .bool false, .bool false, .int .i64 (a : Int), .int .i64 (m : Int), .bool false, .bool false, undef, .slice (some ⟨s1, 0, none⟩) 1 1, .int .i64 (m : Int),
      .slice (some ⟨s1 + 1, 0, none⟩) m m, .slice A1 m c1, .int .i64 (a : Int), .func (.func 38) #[] #[.pointer (some ⟨s2 + 1, 0, none⟩), .pointer (some ⟨s2 + 2, 0, none⟩)], .int .i64 (x.1 : Int), .int .i64 (x.2 : Int), undef, undef, undef, undef, undef], defers := [] }) ?assign ?body ?done ?stop
  case assign =>
    intro x l W K hK
    simp only [encP]
    gi_wp2
    exact hK
  case body =>
    rintro pre ⟨v, d⟩ hpre l W ⟨hown, hc, hB⟩
    have hd := (Wa.mem_out (Wa.nrow_ok m ls) ha v d).1 (hpre.subset (by simp))
    have hv := Wa.wk_lt (Wa.nrow_ok m ls) ha hd.1
    have hv1 : (0 : Int) ≤ (v : Int) := by omega
    have hv2 : (v : Int) < (m : Int) := by omega
    have g1 := hown.cell v hv
    have g2 := hown.frozen v
    clear hd hpre
    gi_wp2
    refine ⟨Kept.set _ _ _ _ rfl, ?_, ?_, ?_⟩
    · rw [Wa.lay_snoc]
      exact (hown.store v (d : Int)).1
    · rw [World.cell?_setCell_other _ _ _ _ (fun e => by have : s1 + 1 = s2 := (congrArg Addr.block e); omega)]
      exact hc
    · exact hB.setCell (p := ⟨s1 + 1, v, none⟩) (show w.heap.size ≤ s1 + 1 by omega) _
  case done =>
    rintro D W hD ⟨hown, hc, hB⟩ hK
    have hB' := hB.trans (belowK_b (w := w) (Nat.le_refl _) W D _ (.deferred none) (by omega) hK rfl rfl)
    have hown' : Own (W.putObj D (.deferred none)) (s1 + 1) 3 (.slice (some ⟨s1 + 1, 0, none⟩) m m) _ := ownsRow_putObj hown (.deferred none) hK rfl
    rw [Wa.lay_out (Wa.nrow_ok m ls) ha] at hown'
    clear hown
    gi_wp2
    refine ⟨by simp, .inl ⟨_, _, rfl, run_takeDeferred hK, ?_⟩⟩
    refine ⟨_, results_tmp2 rfl _ _ _, hB', .inr ⟨Wa.fcode_zero.2 ⟨H.out, by omega, by omega⟩, s1 + 1, rfl, ?_⟩⟩
    rw [Int.toNat_natCast, Int.toNat_natCast]
    exact hown'.mono (by omega)
  case stop =>
    rintro D pre W _ _ h _
    exact h.elim

theorem From_any (n : Int) (A : Option Addr) (k c : Nat) (ls : List Gr.Ln) (a : Int) (w : World) (hr : RdP w w.heap.size A k c ls) :
    Calls Tryd.prog 17 #[.int .i64 n, .slice A k c, .int .i64 a] w (FromPost n ls a w) := by
  by_cases h : Gr.code n ls = 0
  · by_cases ha : a < 0 ∨ n ≤ a
    · exact From_range n A k c ls a w hr h ha
    · obtain ⟨m, rfl⟩ : ∃ m : Nat, n = (m : Int) := ⟨n.toNat, by have := (Gr.code_zero.1 h).1; omega⟩
      obtain ⟨b, rfl⟩ : ∃ b : Nat, a = (b : Int) := ⟨a.toNat, by omega⟩
      exact callsIn_wide.1 (From_ok m b A k c ls w hr h (by omega))
  · exact From_err n A k c ls a w hr h

end Go.Proofs.YtojkjdccjomaaaaDoor

namespace Go.Proofs.YtojkjdccjomaaaaDoor
open Go.RowKit Go.Shelf

attribute [local go_sem] Oper.semAt_some
set_option linter.unusedSimpArgs false

/-- what Parts hands back -/
def PartsPost (n : Int) (ls : List Gr.Ln) (w : World) (e : Ending) (w' : World) : Prop :=
  Below w.heap.size w w' ∧ ((Gr.code n ls ≠ 0 ∧ e = .returned (.tuple #[.slice none 0 0, errv (Gr.code n ls)])) ∨
    (Gr.code n ls = 0 ∧ ∃ g, e = .returned (.tuple #[.slice (some ⟨g, 0, none⟩) n.toNat n.toNat, .nilIface]) ∧ Own w' w.heap.size 3 (.slice (some ⟨g, 0, none⟩) n.toNat n.toNat) (Wa.labs n.toNat (Wa.nrow n.toNat ls) n.toNat)))

theorem Parts_err (n : Int) (A : Option Addr) (k c : Nat) (ls : List Gr.Ln) (w : World) (hr : RdP w w.heap.size A k c ls) (h : Gr.code n ls ≠ 0) :
    Calls Tryd.prog 26 #[.int .i64 n, .slice A k c] w (PartsPost n ls w) := by
  have H := Lib.hid h
  clear h
  go_enter Tryd.func26, Tryd.ntmps26
  go_wp2_with fail
  refine (Beside_any n A k c ls _ hr).mono ?_
  rintro e w1 ⟨hb, (⟨_, rfl⟩ | ⟨h0, _⟩)⟩
  · go_wp2
    go_ret2
    exact ⟨hb, .inl ⟨H.out, rfl⟩⟩
  · exact absurd h0 H.out

/-- what holds between two rounds: i points have been asked -/
def PartsI (m : Nat) (ls : List Gr.Ln) (w : World) (A1 : Option Addr) (c1 s1 s2 i : Nat) (Ds : List Nat) (W : World) : Prop :=
  Own W (s1 + 1) 3 (.slice (some ⟨s1 + 1, 0, none⟩) m m) (Wa.labs m (Wa.nrow m ls) i) ∧ W.cell? ⟨s2, 0, none⟩ = some (.slice (some ⟨s1 + 1, 0, none⟩) m m) ∧ Below w.heap.size w W ∧
  RdR W s1 A1 m c1 (Gr.rows m ls) ∧ s2 < W.heap.size ∧ Ds.Nodup ∧ ∀ D ∈ Ds, s2 < D ∧ W.heap[D]? = some (.deferred (some []))

set_option maxRecDepth 100000 in
set_option maxHeartbeats 4000000 in
theorem Parts_ok (m : Nat) (A : Option Addr) (k c : Nat) (ls : List Gr.Ln) (w : World) (hr : RdP w w.heap.size A k c ls) (h : Gr.code (m : Int) ls = 0) :
    CallsIn Fence.wide 10 Tryd.prog 26 #[.int .i64 (m : Int), .slice A k c] w (PartsPost (m : Int) ls w) := by
  have hm8 : m ≤ 8 := by have := (Gr.code_zero.1 h).2.1; omega
  have hm1 : 1 ≤ m := by have := (Gr.code_zero.1 h).1; omega
  have H := Lib.hid h
  clear h
  have hro : Fence.wide.round = none := rfl
  have hF1 : Fence.wide.fn 18 := trivial
  have hF2 : Fence.wide.fn 28 := trivial
  have hF3 : Fence.wide.fn 29 := trivial
  refine callsIn_of_wp_marks Tryd.func26 rfl trivial ?_ hro
  simp only [Tryd.ntmps26, List.size_toArray, List.length_cons, List.length_nil, Nat.reduceAdd, Nat.reduceSub, Array.replicate_succ, Array.replicate_zero, List.push_toArray, List.append_toArray, List.nil_append, List.cons_append]
  gi_wp2_with (first
    | (gi_at_call 18; refine (callsIn_wide.2 (Beside_good m A k c ls _ hr H.out)).mono ?_; rintro e w1 ⟨A1, c1, rfl, hrr, hb⟩; have hbs := hb.size; obtain ⟨s1, hs1⟩ : ∃ s1, s1 = w1.heap.size := ⟨_, rfl⟩; obtain ⟨W1, hW1⟩ : ∃ W1, W1 = w1.alloc (.cells #[.int .i64 (-1)] 3) := ⟨_, rfl⟩; have hWc : W1.cell? ⟨s1, 0, none⟩ = some (.int .i64 (-1)) := (by rw [hW1, hs1]; simp); have hWs : W1.heap.size = s1 + 1 := (by rw [hW1, hs1]; simp); have hWb : Below s1 w1 W1 := (by rw [hW1]; exact (Below.refl _ _).alloc (by omega) _); have HS1 := Lib.hid hs1; have HWs := Lib.hid hWs; have HW1 := Lib.hid hW1; clear hs1 hWs hW1)
    | (gi_at_call 28; rw [← HW1.out, ← HS1.out]; refine (callsIn_wide.2 (Repeat_one (-1) s1 m hm1 hm8 W1 hWc)).mono ?_; rintro e w2 ⟨rfl, hown2, hb2⟩; rw [HWs.out] at hown2 hb2; rw [HWs.out]))
  obtain ⟨s2, hs2⟩ : ∃ s2, s2 = w2.heap.size := ⟨_, rfl⟩
  simp only [← hs2, Nat.add_assoc, Nat.reduceAdd]
  obtain ⟨W0, hW0⟩ : ∃ W0, W0 = w2.alloc (.cells #[.slice (some ⟨s1 + 1, 0, none⟩) m m] 25) := ⟨_, rfl⟩
  rw [← hW0]
  have hs12 : s1 + 1 < s2 := by have := hown2.lt (s1 + 1) rfl; omega
  have hws : w.heap.size ≤ s1 := by rw [HS1.out]; exact hbs
  have hsz : W0.heap.size = s2 + 1 := by rw [hW0]; simp [hs2]
  have hb02 : Below w2.heap.size w2 W0 := by rw [hW0]; exact (Below.refl _ _).alloc (Nat.le_refl _) _
  have hb1w : Below s1 w1 W0 := (hWb.trans (hb2.mono (by omega))).trans (hb02.mono (by omega))
  have hI0 : PartsI m ls w A1 c1 s1 s2 0 [] W0 := by
    refine ⟨?_, ?_, hb.trans (hb1w.mono hws), ?_, by omega, List.nodup_nil, fun D hD => by simp at hD⟩
    · rw [Wa.labs_zero]
      exact hown2.below hb02
    · rw [hW0, hs2]
      exact (Boxed.new w2 25 (.slice (some ⟨s1 + 1, 0, none⟩) m m)).cell
    · have := hrr
      rw [← HS1.out] at this
      exact this.below hb1w
  clear hW0 hs2 hown2 hb2 hrr hb hbs hb02 hb1w hWb hWc hsz
  refine wpIn_loop (fun a' w' => ∃ (i : Nat) (Ds : List Nat) (u9 u10 u25 u26 u27 u28 u29 u30 u31 u32 u33 u34 u35 u36 u37 u38 u39 u40 u41 : Value), a' = { tmps := #[.int .i64 (m : Int), .slice A k c, undef, undef, .slice none 0 0, .nilIface, .slice A1 m c1, .nilIface, .pointer (some ⟨s2, 0, none⟩), u9, u10, .tuple #[.slice A1 m c1, .nilIface], .int .i64 (m : Int), .slice A k c, .tuple #[.slice A1 m c1, .nilIface], .slice A1 m c1, .nilIface, .nilIface, .bool false, undef, .slice (some ⟨s1, 0, none⟩) 1 1, .int .i64 (m : Int), .slice (some ⟨s1 + 1, 0, none⟩) m m, .int .i64 (m : Int), .int .i64 (i : Int), u25, u26, u27, u28, u29, u30, u31, u32, u33, u34, u35, u36, u37, u38, u39, u40, u41, undef], defers := Ds.map fun D => { target := .collected D, args := #[] } } ∧ i ≤ m ∧ PartsI m ls w A1 c1 s1 s2 i Ds w')
    (fun a' _ => m - (intOf (a'.tmps.getD 24 undef)).toNat) ⟨0, [], _, _, _, _, _, _, _, _, _, _, _, _, _, _, _, _, _, _, _, rfl, Nat.zero_le _, hI0⟩ ?_
  clear hI0
  rintro a' W ⟨i, Ds, u9, u10, u25, u26, u27, u28, u29, u30, u31, u32, u33, u34, u35, u36, u37, u38, u39, u40, u41, rfl, him, hown, hc, hB, hrd, hsW, hnd, hDs⟩
  have HDs := Lib.hid hDs
  clear hDs
  by_cases hlt : i < m
  · have hi1 : (0 : Int) ≤ (i : Int) := by omega
    have hi2 : (i : Int) < (m : Int) := by omega
    have g1 := hown.cell i hlt
    rw [Wa.labs_at _ _ hlt] at g1
    have hs1W : s1 + 1 < W.heap.size := by omega
    by_cases hp : 0 ≤ Wa.lab m (Wa.nrow m ls) i i
    · have HL := Lib.hid (Wa.labs_skip (Wa.nrow_ok m ls) hlt hp)
      generalize Wa.lab m (Wa.nrow m ls) i i = p at g1 hp
      have hdp : decide (0 ≤ p) = true := by simpa using hp
      have hbw : Below W.heap.size W (W.alloc (.cells #[.int .i64 (i : Int)] 3)) := (Below.refl _ _).alloc (Nat.le_refl _) _
      have hown' := hown.below hbw
      rw [← HL.out] at hown'
      have HF : PartsI m ls w A1 c1 s1 s2 (i + 1) Ds (W.alloc (.cells #[.int .i64 (i : Int)] 3)) :=
        ⟨hown', (hbw.cell (p := ⟨s2, 0, none⟩) hsW).trans hc, hB.alloc hB.size _, hrd.below (hbw.mono (by omega)), by simp; omega, hnd, fun D hD => ⟨(HDs.out D hD).1, (hbw.block D (Array.getElem?_eq_some_iff.1 (HDs.out D hD).2).1).trans (HDs.out D hD).2⟩⟩
      clear hown hown'
      gi_wp2
      refine ⟨⟨i + 1, Ds, ?_⟩, by simp [intOf]; omega⟩
      (repeat apply Exists.intro)
      exact ⟨rfl, by omega, HF⟩
    · have HL := Lib.hid (Wa.labs_take (Wa.nrow_ok m ls) (Wa.nrow_sym m ls) hlt hp)
      generalize Wa.lab m (Wa.nrow m ls) i i = p at g1 hp
      have hdp : decide (0 ≤ p) = false := by simpa using hp
      gi_wp2_with (gi_at_call 29; refine (callsIn_wide.2 (outward_any _ _ _ _ _)).mono ?_; rintro e w4 ⟨rfl, rfl⟩)
      obtain ⟨sW, hsW2⟩ : ∃ sW, sW = W.heap.size := ⟨_, rfl⟩
      rw [← hsW2] at hsW
      simp only [World.size_alloc, ← hsW2, Nat.add_assoc, Nat.reduceAdd]
      obtain ⟨V, hV⟩ : ∃ V, V = (((W.alloc (.cells #[.int .i64 (i : Int)] 3)).alloc (.cells #[.slice A1 m c1] 38)).alloc (.cells #[.int .i64 (i : Int)] 3)) := ⟨_, rfl⟩
      rw [← hV]
      have hVs : V.heap.size = sW + 3 := by rw [hV]; simp [hsW2]
      have hVb : Below W.heap.size W V := by rw [hV]; exact (((Below.refl _ _).alloc (Nat.le_refl _) _).alloc (by simp) _).alloc (by simp; omega) _
      have hVc : V.cell? ⟨sW, 0, none⟩ = some (.int .i64 (i : Int)) := by
        rw [hV, hsW2]
        exact ((Boxed.new W 3 (.int .i64 (i : Int))).alloc _).alloc _ |>.cell
      have hG0 : OutG s1 (sW + 1) (sW + 2) A1 m c1 (Gr.rows m ls) i V := by
        refine ⟨by omega, hrd.below (hVb.mono (by omega)), ?_, ?_⟩
        · rw [hV]
          have := Boxed.new (W.alloc (.cells #[.int .i64 (i : Int)] 3)) 38 (.slice A1 m c1)
          rw [World.size_alloc, ← hsW2] at this
          exact (this.alloc _).cell
        · rw [hV]
          have := Boxed.new ((W.alloc (.cells #[.int .i64 (i : Int)] 3)).alloc (.cells #[.slice A1 m c1] 38)) 3 (.int .i64 (i : Int))
          rw [World.size_alloc, World.size_alloc, ← hsW2] at this
          exact this.cell
      have hownV := hown.below hVb
      have hcV := (hVb.cell (p := ⟨s2, 0, none⟩) (show s2 < _ by omega)).trans hc
      have hBV := hB.trans (hVb.mono hB.size)
      have HDV : Hid (∀ D ∈ Ds, s2 < D ∧ D < V.heap.size ∧ V.heap[D]? = some (.deferred (some []))) := by
        intro D hD
        have h1 := HDs.out D hD
        have h2 := (Array.getElem?_eq_some_iff.1 h1.2).1
        exact ⟨h1.1, by have := hVb.size; omega, (hVb.block D h2).trans h1.2⟩
      have hrdV := hrd.below (hVb.mono (by omega))
      clear hV hsW2 hVb hown hc hB hrd HDs g1
      refine wpIn_range_cells hro (by omega) (gf := 38) (lb := #[.pointer (some ⟨sW + 1, 0, none⟩), .pointer (some ⟨sW + 2, 0, none⟩)]) rfl trivial (enters_of Tryd.func38 (by kernel_rfl) rfl) (X := fun k => k = s1 + 1) (zs := Wa.out m (Wa.nrow m ls) i)
        (outward1_seq m i s1 (sW + 1) (sW + 2) hm8 hlt (Wa.nrow m ls) (Wa.nrow_ok m ls) A1 c1 (Gr.rows m ls) (fun k hk => Wa.rows_nrow ls hk) _ V hG0 (fun k hk => by omega) (fun k hk => by omega) (by omega) (by omega))
        (fun k hk => by omega) (fun _ => rfl)
        (fun pre U => Own U (s1 + 1) 3 (.slice (some ⟨s1 + 1, 0, none⟩) m m) (Wa.lay pre (fun _ => (i : Int)) (Wa.labs m (Wa.nrow m ls) i)) ∧ U.cell? ⟨s2, 0, none⟩ = some (.slice (some ⟨s1 + 1, 0, none⟩) m m) ∧ U.cell? ⟨sW, 0, none⟩ = some (.int .i64 (i : Int)) ∧ Below w.heap.size w U ∧ RdR U s1 A1 m c1 (Gr.rows m ls) ∧ sW < U.heap.size ∧ ∀ D ∈ Ds, U.heap[D]? = some (.deferred (some [])))
        (fun _ _ => False)
        (fun pre U U' h hb => ⟨h.1.same (fun k hk => by cases hk; exact hb.block (s1 + 1) (by omega)), (hb.cell (p := ⟨s2, 0, none⟩) (show s2 < _ by omega)).trans h.2.1, (hb.cell (p := ⟨sW, 0, none⟩) (show sW < _ by omega)).trans h.2.2.1, h.2.2.2.1.trans (hb.mono (by omega)), h.2.2.2.2.1.below (hb.mono (by omega)), by have := hb.size; have := h.2.2.2.2.2.1; omega, fun D hD => (hb.block D (HDV.out D hD).2.1).trans (h.2.2.2.2.2.2 D hD)⟩)
        (fun _ _ _ h _ => h) ⟨hownV, hcV, hVc, hBV, hrdV, by omega, fun D hD => (HDV.out D hD).2.2⟩
        (fun x => { tmps := #[.int .i64 (m : Int), .slice A k c, undef, undef, .slice none 0 0, .nilIface, .slice A1 m c1, .nilIface, .pointer (some ⟨s2, 0, none⟩), .pointer (some ⟨sW, 0, none⟩), .int .i64 (x.1 : Int), .tuple #[.slice A1 m c1, .nilIface], .int .i64 (m : Int), .slice A k c, .tuple #[.slice A1 m c1, .nilIface], .slice A1 m c1, .nilIface, .nilIface, .bool false, undef, .slice (some ⟨s1, 0, none⟩) 1 1, .int .i64 (m : Int), .slice (some ⟨s1 + 1, 0, none⟩) m m, .int .i64 (m : Int), .int .i64 (i : Int), .bool true, .int .i64 (i : Int), .slice (some ⟨s1 + 1, 0, none⟩) m m, .int .i64 (i : Int), .pointer (some ⟨s1 + 1, i, none⟩), .int .i64 p, .bool false, .slice A1 m c1, .int .i64 (i : Int), .func (.func 38) #[] #[.pointer (some ⟨sW + 1, 0, none⟩), .pointer (some ⟨sW + 2, 0, none⟩)], .int .i64 (x.1 : Int), .int .i64 (x.2 : Int), u37, u38, u39, u40, u41, undef], defers := [] }) ?assign ?body ?done ?stop
      case assign =>
        intro x l W K hK
        simp only [encP]
        gi_wp2
        exact hK
      case body =>
        rintro pre ⟨v, d⟩ hpre l W ⟨hown, hc, hc2, hB, hrd, hsU, hDs⟩
        have hd := (Wa.mem_out (Wa.nrow_ok m ls) hlt v d).1 (hpre.subset (by simp))
        have hv := Wa.wk_lt (Wa.nrow_ok m ls) hlt hd.1
        have hv1 : (0 : Int) ≤ (v : Int) := by omega
        have hv2 : (v : Int) < (m : Int) := by omega
        have g1 := hown.cell v hv
        have g2 := hown.frozen v
        have HD2 := Lib.hid hDs
        clear hd hpre hDs
        gi_wp2
        have hbs : Below s1 W (W.setCell ⟨s1 + 1, v, none⟩ (.int .i64 (i : Int))) := (Below.refl _ _).setCell (p := ⟨s1 + 1, v, none⟩) (show s1 ≤ s1 + 1 by omega) _
        refine ⟨Kept.set _ _ _ _ rfl, ?_, ?_, ?_, ?_, hrd.below hbs, by simp; omega, fun D hD => ?_⟩
        · rw [Wa.lay_snoc]
          exact (hown.store v (i : Int)).1
        · rw [World.cell?_setCell_other _ _ _ _ (fun e => by have : s1 + 1 = s2 := (congrArg Addr.block e); omega)]
          exact hc
        · rw [World.cell?_setCell_other _ _ _ _ (fun e => by have : s1 + 1 = sW := (congrArg Addr.block e); omega)]
          exact hc2
        · exact hB.setCell (p := ⟨s1 + 1, v, none⟩) (show w.heap.size ≤ s1 + 1 by omega) _
        · exact (Below.heap_setCell W ⟨s1 + 1, v, none⟩ _ D (by have := (HDV.out D hD).1; show D ≠ s1 + 1; omega)).trans (HD2.out D hD)
      case done =>
        rintro D U hD ⟨hown, hc, _, hB, hrd, hsU, hDs⟩ hK
        rw [HL.out] at hown
        have HF : PartsI m ls w A1 c1 s1 s2 (i + 1) (D :: Ds) U := by
          refine ⟨hown, hc, hB, hrd, by omega, List.nodup_cons.2 ⟨fun hx => by have := (HDV.out D hx).2.1; omega, hnd⟩, fun E hE => ?_⟩
          rcases List.mem_cons.1 hE with rfl | hE
          · exact ⟨by omega, hK⟩
          · exact ⟨(HDV.out E hE).1, hDs E hE⟩
        clear hown hc hB hrd hDs hK
        gi_wp2
        refine ⟨⟨i + 1, D :: Ds, ?_⟩, by simp [intOf]; omega⟩
        (repeat apply Exists.intro)
        exact ⟨rfl, by omega, HF⟩
      case stop =>
        rintro D pre W _ _ h _
        exact h.elim
  · obtain rfl : i = m := by omega
    gi_wp2
    refine leaves_marks (fun U => Own U (s1 + 1) 3 (.slice (some ⟨s1 + 1, 0, none⟩) i i) (Wa.labs i (Wa.nrow i ls) i) ∧ Below w.heap.size w U) s2 ?_ ?_ Ds W hnd (fun D hD => ⟨by have := (HDs.out D hD).1; omega, (HDs.out D hD).2⟩) ⟨hown, hB⟩
    · rintro U D ⟨h1, h2⟩ hD hK
      exact ⟨ownsRow_putObj h1 (.deferred none) hK rfl, h2.trans (below_put U D _ (by omega))⟩
    · rintro U ⟨h1, h2⟩
      refine ⟨_, results_tmp2 rfl _ _ _, h2, .inr ⟨H.out, s1 + 1, rfl, ?_⟩⟩
      rw [Int.toNat_natCast]
      exact h1.mono (by omega)

theorem Parts_any (n : Int) (A : Option Addr) (k c : Nat) (ls : List Gr.Ln) (w : World) (hr : RdP w w.heap.size A k c ls) :
    Calls Tryd.prog 26 #[.int .i64 n, .slice A k c] w (PartsPost n ls w) := by
  by_cases h : Gr.code n ls = 0
  · obtain ⟨m, rfl⟩ : ∃ m : Nat, n = (m : Int) := ⟨n.toNat, by have := (Gr.code_zero.1 h).1; omega⟩
    exact callsIn_wide.1 (Parts_ok m A k c ls w hr h)
  · exact Parts_err n A k c ls w hr h

end Go.Proofs.YtojkjdccjomaaaaDoor

namespace Go.Proofs.YtojkjdccjomaaaaDoor
open Go.RowKit

set_option linter.unusedSimpArgs false
set_option linter.unusedVariables false

/-- From where nothing is wrong -/
theorem From_fine (m a : Nat) (A : Option Addr) (k c : Nat) (ls : List Gr.Ln) (w : World) (hr : RdP w w.heap.size A k c ls) (h : Gr.code (m : Int) ls = 0) (ha : a < m) :
    Calls Tryd.prog 17 #[.int .i64 (m : Int), .slice A k c, .int .i64 (a : Int)] w fun e w' => ∃ g, e = .returned (.tuple #[.slice (some ⟨g, 0, none⟩) m m, .nilIface]) ∧ Own w' w.heap.size 3 (.slice (some ⟨g, 0, none⟩) m m) (Wa.dists m (Wa.nrow m ls) a) ∧ Below w.heap.size w w' := by
  refine (From_any (m : Int) A k c ls (a : Int) w hr).mono ?_
  rintro e w1 ⟨hb, (⟨h0, _⟩ | ⟨_, g, rfl, ho⟩)⟩
  · exact absurd (Wa.fcode_zero.2 ⟨h, by omega, by omega⟩) h0
  · simp only [Int.toNat_natCast] at ho ⊢
    exact ⟨g, rfl, ho, hb⟩

theorem Parts_fine (m : Nat) (A : Option Addr) (k c : Nat) (ls : List Gr.Ln) (w : World) (hr : RdP w w.heap.size A k c ls) (h : Gr.code (m : Int) ls = 0) :
    Calls Tryd.prog 26 #[.int .i64 (m : Int), .slice A k c] w fun e w' => ∃ g, e = .returned (.tuple #[.slice (some ⟨g, 0, none⟩) m m, .nilIface]) ∧ Own w' w.heap.size 3 (.slice (some ⟨g, 0, none⟩) m m) (Wa.labs m (Wa.nrow m ls) m) ∧ Below w.heap.size w w' := by
  refine (Parts_any (m : Int) A k c ls w hr).mono ?_
  rintro e w1 ⟨hb, (⟨h0, _⟩ | ⟨_, g, rfl, ho⟩)⟩
  · exact absurd h h0
  · simp only [Int.toNat_natCast] at ho ⊢
    exact ⟨g, rfl, ho, hb⟩

end Go.Proofs.YtojkjdccjomaaaaDoor
