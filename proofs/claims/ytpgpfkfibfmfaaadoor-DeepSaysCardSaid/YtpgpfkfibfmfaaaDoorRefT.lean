/-
  The contract of the reference's Walk: the deep walk over all points.
-/
import Derived.Test.YtpgpfkfibfmfaaaDoorRefV
namespace Go.Proofs.YtpgpfkfibfmfaaaDoor.RefV
open Go.RowKit Go.Shelf

set_option linter.unusedSimpArgs false
set_option linter.unusedVariables false

/-- three lists of the call's own that grow, in the state in block b + 1; block b is for what is handed back -/
def Tri (b : Nat) (w : World) (v1 v2 v3 : Value) (l1 l2 l3 : List Int) (W : World) : Prop :=
  W.heap[b + 1]? = some (.cells #[v1, v2, v3, .int .i64 0] 26 (0, 0)) ∧ W.heap[b]? = some (.cells #[.slice none 0 0, .slice none 0 0, .slice none 0 0, .int .i64 0] 26 (0, 0)) ∧
  Own W (b + 2) 3 v1 l1 ∧ Own W (b + 2) 3 v2 l2 ∧ Own W (b + 2) 3 v3 l3 ∧ (∀ q, v1.ownBlock = some q → v2.ownBlock ≠ some q) ∧ (∀ q, v1.ownBlock = some q → v3.ownBlock ≠ some q) ∧ (∀ q, v2.ownBlock = some q → v3.ownBlock ≠ some q) ∧ Below b w W ∧ b + 2 ≤ W.heap.size

section
variable {b : Nat} {w W W' : World} {v1 v2 v3 v' : Value} {l1 l2 l3 l' : List Int}

/-- what an append onto one of them leaves of the rest -/
theorem grown_rest {v : Value} {o : Obj} {p : Addr} {u : Value} (hp : p.block = b + 1) (hv : Own W (b + 2) 3 v l1) (hs : b + 2 ≤ W.heap.size) (hB : Below b w W) (hg : (W.alloc o).grownBy W' v.ownBlock) :
    (∀ k, k ≤ b → (W'.setCell p u).heap[k]? = W.heap[k]?) ∧ W'.heap[b + 1]? = W.heap[b + 1]? ∧ Below b w (W'.setCell p u) ∧ b + 2 ≤ (W'.setCell p u).heap.size ∧
      ∀ {x : Value} {l : List Int}, Own W (b + 2) 3 x l → (∀ q, v.ownBlock = some q → x.ownBlock ≠ some q) → Own (W'.setCell p u) (b + 2) 3 x l := by
  have hlow : ∀ k, k ≤ b + 1 → W'.heap[k]? = W.heap[k]? := fun k hk => by
    have h1 := hg.block k (by simp; omega) (fun e => by have := hv.at_base k e.symm; omega)
    rw [h1]
    exact Below.heap_alloc W o k (by omega)
  have hb1 : Below b w W' := ((hB.alloc (by omega) o)).grown hg (by simp; omega) (fun k hk => by have := hv.at_base k hk; omega)
  refine ⟨fun k hk => (Below.heap_setCell _ _ _ _ (by omega)).trans (hlow k (by omega)), hlow _ (Nat.le_refl _), hb1.setCell (by omega) _, ?_, fun {x l} hx hne => ?_⟩
  · have := hg.size
    simp at this ⊢
    omega
  · have h1 := (hx.below ((Below.refl _ _).alloc (Nat.le_refl _) o)).grown hg (fun k hk e => hne k e hk)
    exact h1.same (fun k hk => Below.heap_setCell _ _ _ _ (by have := hx.at_base k hk; omega))

theorem Tri.app1 (h : Tri b w v1 v2 v3 l1 l2 l3 W) (o : Obj) (hown : Own W' (b + 2) 3 v' l') (hg : (W.alloc o).grownBy W' v1.ownBlock) (hat : v'.ownBlock = v1.ownBlock ∨ v'.ownBlock = some (W.alloc o).heap.size) : Tri b w v' v2 v3 l' l2 l3 (W'.setCell ⟨b + 1, 0, none⟩ v') := by
  obtain ⟨a1, a2, a3, a4, a5, a6, a7, a8, a9, a10⟩ := h
  obtain ⟨r1, r2, r3, r4, r5⟩ := grown_rest (p := ⟨b + 1, 0, none⟩) (u := v') rfl a3 a10 a9 hg
  refine ⟨heap_set (r2.trans a1) 0 v', (r1 b (Nat.le_refl _)).trans a2, hown.same (fun k hk => Below.heap_setCell _ _ _ _ (by have := hown.at_base k hk; show k ≠ b + 1; omega)), r5 a4 a6, r5 a5 a7, fun q hq => ?_, fun q hq => ?_, a8, r3, r4⟩
  · rcases hat with e | e
    · exact a6 q (e ▸ hq)
    · intro e2
      have := a4.lt q e2
      rw [hq] at e
      simp at e
      omega
  · rcases hat with e | e
    · exact a7 q (e ▸ hq)
    · intro e2
      have := a5.lt q e2
      rw [hq] at e
      simp at e
      omega

theorem Tri.app2 (h : Tri b w v1 v2 v3 l1 l2 l3 W) (o : Obj) (hown : Own W' (b + 2) 3 v' l') (hg : (W.alloc o).grownBy W' v2.ownBlock) (hat : v'.ownBlock = v2.ownBlock ∨ v'.ownBlock = some (W.alloc o).heap.size) : Tri b w v1 v' v3 l1 l' l3 (W'.setCell ⟨b + 1, 1, none⟩ v') := by
  obtain ⟨a1, a2, a3, a4, a5, a6, a7, a8, a9, a10⟩ := h
  obtain ⟨r1, r2, r3, r4, r5⟩ := grown_rest (p := ⟨b + 1, 1, none⟩) (u := v') rfl a4 a10 a9 hg
  refine ⟨heap_set (r2.trans a1) 1 v', (r1 b (Nat.le_refl _)).trans a2, r5 a3 (fun q h1 h2 => a6 q h2 h1), hown.same (fun k hk => Below.heap_setCell _ _ _ _ (by have := hown.at_base k hk; show k ≠ b + 1; omega)), r5 a5 a8, fun q hq => ?_, a7, fun q hq => ?_, r3, r4⟩
  · rcases hat with e | e
    · rw [e]; exact a6 q hq
    · intro e2
      have := a3.lt q hq
      rw [e2] at e
      simp at e
      omega
  · rcases hat with e | e
    · exact a8 q (e ▸ hq)
    · intro e2
      have := a5.lt q e2
      rw [hq] at e
      simp at e
      omega

theorem Tri.app3 (h : Tri b w v1 v2 v3 l1 l2 l3 W) (o : Obj) (hown : Own W' (b + 2) 3 v' l') (hg : (W.alloc o).grownBy W' v3.ownBlock) (hat : v'.ownBlock = v3.ownBlock ∨ v'.ownBlock = some (W.alloc o).heap.size) : Tri b w v1 v2 v' l1 l2 l' (W'.setCell ⟨b + 1, 2, none⟩ v') := by
  obtain ⟨a1, a2, a3, a4, a5, a6, a7, a8, a9, a10⟩ := h
  obtain ⟨r1, r2, r3, r4, r5⟩ := grown_rest (p := ⟨b + 1, 2, none⟩) (u := v') rfl a5 a10 a9 hg
  refine ⟨heap_set (r2.trans a1) 2 v', (r1 b (Nat.le_refl _)).trans a2, r5 a3 (fun q h1 h2 => a7 q h2 h1), r5 a4 (fun q h1 h2 => a8 q h2 h1), hown.same (fun k hk => Below.heap_setCell _ _ _ _ (by have := hown.at_base k hk; show k ≠ b + 1; omega)), a6, fun q hq => ?_, fun q hq => ?_, r3, r4⟩
  · rcases hat with e | e
    · rw [e]; exact a7 q hq
    · intro e2
      have := a3.lt q hq
      rw [e2] at e
      simp at e
      omega
  · rcases hat with e | e
    · rw [e]; exact a8 q hq
    · intro e2
      have := a4.lt q hq
      rw [e2] at e
      simp at e
      omega
end

/-- over all points: those below i are done -/
def WalL (m : Nat) (ls : List Gr.Ln) (b : Nat) (s1 : List Bool) (D : Dp.Dt) (w : World) (i : Nat) (W : World) : Prop :=
  ∃ (G : Dp.Fo) (sj : List Bool) (dj : Dp.Dt) (kj : Nat) (A1 : Option Addr) (c1 : Nat) (A2 : Option Addr) (c2 : Nat) (A3 : Option Addr) (c3 : Nat), G.depth ≤ m ∧ Sim m sj dj ∧ Dp.Dfs (Wa.nrow m ls) sj (List.range' i (m - i)) G s1 ∧ kj + 2 * G.size = 2 * m ∧ Dp.lay dj (Dp.emit kj G (-1)) = D ∧
    W.heap[b + 1]? = some (.cells #[.slice A1 m c1, .slice A2 m c2, .slice A3 m c3, .int .i64 (kj : Int)] 26 (0, 0)) ∧ W.heap[b]? = some (.cells #[.slice none 0 0, .slice none 0 0, .slice none 0 0, .int .i64 0] 26 (0, 0)) ∧
    Fr W (b + 2) A1 m c1 dj.met ∧ Fr W (b + 2) A2 m c2 dj.left ∧ Fr W (b + 2) A3 m c3 dj.par ∧ Below b w W ∧ b + 2 ≤ W.heap.size

set_option maxRecDepth 100000 in
set_option maxHeartbeats 1000000 in
theorem Walk_any (m : Nat) (hm8 : m ≤ 8) (hm1 : 1 ≤ m) (B : Option Addr) (nl cl : Nat) (ls : List Gr.Ln) (F : Dp.Fo) (hF : Dp.Whole m (Wa.nrow m ls) F) (w : World) (hrl : RdP w w.heap.size B nl cl ls) :
    Calls Tryd.prog 5 #[.int .i64 (m : Int), .slice B nl cl] w (VPost m ⟨Dp.mets m F, Dp.lefts m F, Dp.pars m F⟩ (2 * m) w) := by
  obtain ⟨b, hb⟩ : ∃ b, b = w.heap.size := ⟨_, rfl⟩
  obtain ⟨x0, hx0⟩ : ∃ x0, x0 = (w.alloc (.cells #[.slice none 0 0, .slice none 0 0, .slice none 0 0, .int .i64 0] 26)).alloc (.cells #[.slice none 0 0, .slice none 0 0, .slice none 0 0, .int .i64 0] 26) := ⟨_, rfl⟩
  have hI0 : Tri b w (.slice none 0 0) (.slice none 0 0) (.slice none 0 0) (List.replicate 0 (-1)) (List.replicate 0 (-1)) (List.replicate 0 (-1)) x0 := by
    refine ⟨?_, ?_, Own.nil _ _ _, Own.nil _ _ _, Own.nil _ _ _, fun q hq => (by cases hq), fun q hq => (by cases hq), fun q hq => (by cases hq), ?_, ?_⟩
    · have := World.alloc_heap_new (w.alloc (.cells #[.slice none 0 0, .slice none 0 0, .slice none 0 0, .int .i64 0] 26)) (.cells #[.slice none 0 0, .slice none 0 0, .slice none 0 0, .int .i64 0] 26)
      rw [← hx0, World.size_alloc, ← hb] at this
      exact this
    · rw [hx0, hb]
      exact (Below.heap_alloc _ _ _ (by simp)).trans (World.alloc_heap_new w _)
    · rw [hx0, hb]; exact ((Below.refl _ _).alloc (Nat.le_refl _) _).alloc (by simp) _
    · rw [hx0, hb]; simp
  rw [← hb] at hrl
  have HX0 := Lib.hid hx0
  have HB := Lib.hid hb
  have HF := Lib.hid hF
  clear hx0 hb hF
  go_enter Tryd.func5, Tryd.ntmps5
  go_wp2
  rw [← HX0.out, ← HB.out]
  go_loopw [6] (fun iv wr => ∃ (i : Nat) (v1 v2 v3 : Value), i ≤ m ∧ iv = .int .i64 (i : Int) ∧ Tri b w v1 v2 v3 (List.replicate i (-1)) (List.replicate i (-1)) (List.replicate i (-1)) wr) (fun iv _ => m - (intOf iv).toNat)
  case atStart => exact ⟨0, _, _, _, Nat.zero_le _, rfl, hI0⟩
  case round =>
    obtain ⟨i, v1, v2, v3, him, rfl, hT⟩ := hrel
    clear hI0
    by_cases hlt : i < m
    · obtain ⟨V, hV⟩ : ∃ V, V = wr := ⟨_, rfl⟩
      subst hV
      have t0 := cell_of hT.1 (i := 0) rfl
      have hsV := hT.2.2.2.2.2.2.2.2.2
      have hlen : (List.replicate i (-1 : Int)).length = i := by simp
      have HL := Lib.hid hlen
      clear hlen
      go_wp2_with (first
        | (at_builtin; refine wpList_app _ rfl (.tmp 14) (.tmp 15) 24 rfl (b + 2) 3 Tryd.underlying24 intInfo v1 _ rfl (hT.2.2.1.below ((Below.refl _ _).alloc (Nat.le_refl _) _)) (some ⟨V.heap.size, 0, none⟩) 1 1 [-1] rfl (Rd.one _ _ _) (by rw [HL.out]; omega) (by have := hT.2.2.2.2.2.2.2.2.2; simp; omega) ?_; intro v1' w1 ho1 hg1 ha1; obtain ⟨B1, e1, hv1, _⟩ := ho1.rd; simp only [List.length_append, List.length_replicate, List.length_cons, List.length_nil, Nat.zero_add] at hv1; subst hv1; have hT1 := hT.app1 _ ho1 hg1 ha1; have hk1 := (grown_rest (p := ⟨b + 1, 0, none⟩) (u := .slice B1 (i + 1) e1) rfl hT.2.2.1 hT.2.2.2.2.2.2.2.2.2 hT.2.2.2.2.2.2.2.2.1 hg1).2.1.trans hT.1; have p1 := cell_of hk1 (i := 0) rfl; have q1 := frozen_of hk1 0; have r1 := cell_of hT1.1 (i := 1) rfl; obtain ⟨X1, hX1⟩ : ∃ X1, X1 = w1.setCell ⟨b + 1, 0, none⟩ (.slice B1 (i + 1) e1) := ⟨_, rfl⟩; have hz1 : X1.heap.size = w1.heap.size := (by rw [hX1]; simp); rw [← hX1] at hT1; have HX1 := Lib.hid hX1; clear hX1 hk1 ho1 hg1 ha1)
        | (at_builtin; rw [← HX1.out]; refine wpList_app _ rfl (.tmp 19) (.tmp 20) 24 rfl (b + 2) 3 Tryd.underlying24 intInfo v2 _ rfl (hT1.2.2.2.1.below ((Below.refl _ _).alloc (Nat.le_refl _) _)) (some ⟨w1.heap.size, 0, none⟩) 1 1 [-1] rfl (by rw [← hz1]; exact Rd.one _ _ _) (by rw [HL.out]; omega) (by have := hT1.2.2.2.2.2.2.2.2.2; simp; omega) ?_; intro v2' w2 ho2 hg2 ha2; obtain ⟨B2, e2, hv2, _⟩ := ho2.rd; simp only [List.length_append, List.length_replicate, List.length_cons, List.length_nil, Nat.zero_add] at hv2; subst hv2; have hT2 := hT1.app2 _ ho2 hg2 ha2; have hk2 := (grown_rest (p := ⟨b + 1, 1, none⟩) (u := .slice B2 (i + 1) e2) rfl hT1.2.2.2.1 hT1.2.2.2.2.2.2.2.2.2 hT1.2.2.2.2.2.2.2.2.1 hg2).2.1.trans hT1.1; have p2 := cell_of hk2 (i := 1) rfl; have q2 := frozen_of hk2 1; have r2 := cell_of hT2.1 (i := 2) rfl; obtain ⟨X2, hX2⟩ : ∃ X2, X2 = w2.setCell ⟨b + 1, 1, none⟩ (.slice B2 (i + 1) e2) := ⟨_, rfl⟩; have hz2 : X2.heap.size = w2.heap.size := (by rw [hX2]; simp); rw [← hX2] at hT2; have HX2 := Lib.hid hX2; clear hX2 hk2 ho2 hg2 ha2)
        | (at_builtin; rw [← HX2.out]; refine wpList_app _ rfl (.tmp 24) (.tmp 25) 24 rfl (b + 2) 3 Tryd.underlying24 intInfo v3 _ rfl (hT2.2.2.2.2.1.below ((Below.refl _ _).alloc (Nat.le_refl _) _)) (some ⟨w2.heap.size, 0, none⟩) 1 1 [-1] rfl (by rw [← hz2]; exact Rd.one _ _ _) (by rw [HL.out]; omega) (by have := hT2.2.2.2.2.2.2.2.2.2; simp; omega) ?_; intro v3' w3 ho3 hg3 ha3; obtain ⟨B3, e3, hv3, _⟩ := ho3.rd; simp only [List.length_append, List.length_replicate, List.length_cons, List.length_nil, Nat.zero_add] at hv3; subst hv3; have hT3 := hT2.app3 _ ho3 hg3 ha3; have hk3 := (grown_rest (p := ⟨b + 1, 2, none⟩) (u := .slice B3 (i + 1) e3) rfl hT2.2.2.2.2.1 hT2.2.2.2.2.2.2.2.2.2 hT2.2.2.2.2.2.2.2.2.1 hg3).2.1.trans hT2.1; have p3 := cell_of hk3 (i := 2) rfl; have q3 := frozen_of hk3 2; skip))
      go_roundw
      case rel =>
        refine ⟨i + 1, .slice B1 (i + 1) e1, .slice B2 (i + 1) e2, .slice B3 (i + 1) e3, by omega, by go_num, ?_⟩
        have e : List.replicate (i + 1) (-1 : Int) = List.replicate i (-1) ++ [-1] := List.replicate_succ'
        rw [e]
        exact hT3
      case measure => simp [intOf]; omega
    · obtain rfl : i = m := by omega
      obtain ⟨a1, a2, a3, a4, a5, a6, a7, a8, a9, a10⟩ := hT
      obtain ⟨A1, c1, rfl, _⟩ := a3.rd
      obtain ⟨A2, c2, rfl, _⟩ := a4.rd
      obtain ⟨A3, c3, rfl, _⟩ := a5.rd
      rw [List.length_replicate] at a1 a3 a4 a5
      obtain ⟨s1, hD⟩ := HF.out
      have hsz := HF.out.size (Wa.nrow_ok i ls)
      have hlay := Dp.lay_whole (Wa.nrow_ok i ls) HF.out ⟨List.replicate i (-1), List.replicate i (-1), List.replicate i (-1)⟩ ⟨by simp, by simp, by simp⟩
      obtain ⟨Df, hDf⟩ : ∃ Df, Df = (⟨Dp.mets i F, Dp.lefts i F, Dp.pars i F⟩ : Dp.Dt) := ⟨_, rfl⟩
      rw [← hDf] at hlay
      have HDf := Lib.hid hDf
      have hI1 : WalL i ls b s1 Df w 0 wr := by
        refine ⟨F, List.replicate i false, ⟨List.replicate i (-1), List.replicate i (-1), List.replicate i (-1)⟩, 0, A1, c1, A2, c2, A3, c3, by have := Dp.Fo.depth_le F; omega, ⟨by simp, ⟨by simp, by simp, by simp⟩, fun u hu => ?_⟩, by rw [Nat.sub_zero, ← List.range_eq_range']; exact hD, by omega, hlay, a1, a2, Fr.own a3, Fr.own a4, Fr.own a5, a9, a10⟩
        simp [List.getD, hu]
      clear a1 a2 a3 a4 a5 a6 a7 a8 a9 a10 hD hsz hlay hDf
      go_wp2
      go_loopw [7] (fun iv wr => ∃ t : Nat, t ≤ i ∧ iv = .int .i64 (t : Int) ∧ WalL i ls b s1 Df w t wr) (fun iv _ => i - (intOf iv).toNat)
      case atStart => exact ⟨0, Nat.zero_le _, rfl, hI1⟩
      case round =>
        clear hI1
        obtain ⟨t, htm, rfl, G, sj, dj, kj, A1, c1, A2, c2, A3, c3, hdj, hsj, hDj, hkj, hlj, hBx, hZx, r1, r2, r3, hbx, hsx⟩ := hrel
        have HDj := Lib.hid hDj
        have HSj := Lib.hid hsj
        have HKj := Lib.hid hkj
        have HLj := Lib.hid hlj
        clear hDj hsj hkj hlj
        have v0 := cell_of hBx (i := 0) rfl
        have v2 := cell_of hBx (i := 1) rfl
        have v3 := cell_of hBx (i := 2) rfl
        have v4 := cell_of hBx (i := 3) rfl
        have hz : RdP wr wr.heap.size B nl cl ls := (hrl.below hbx).more (by omega)
        by_cases hlt : t < i
        · have hj1 : (0 : Int) ≤ (t : Int) := by omega
          have hj2 : (t : Int) < (i : Int) := by omega
          have HDj2 : Hid (Dp.Dfs (Wa.nrow i ls) sj (t :: List.range' (t + 1) (i - (t + 1))) G s1) := by
            show Dp.Dfs _ _ _ _ _
            have := HDj.out
            rw [show i - t = (i - (t + 1)) + 1 by omega, List.range'_succ] at this
            exact this
          have hmet := HSj.out.2.2 t hlt
          obtain ⟨b1, o1, rfl, hb1, hc1⟩ := r1.rd.at_ (by omega)
          have v1 := hc1 t hlt
          clear hc1 HDj
          obtain ⟨y, hy⟩ : ∃ y, y = dj.met.getD t 0 := ⟨_, rfl⟩
          rw [← hy] at hmet v1
          clear hy
          cases ht : sj.getD t false with
          | true =>
            have hd0 : decide (y < 0) = false := by simp; exact hmet.1 ht
            have hn : WalL i ls b s1 Df w (t + 1) wr := ⟨G, sj, dj, kj, _, c1, A2, c2, A3, c3, hdj, HSj.out, HDj2.out.hit ht, HKj.out, HLj.out, hBx, hZx, r1, r2, r3, hbx, hsx⟩
            clear ht hmet hBx r1 r2 r3 hZx hbx HDj2 HSj HKj HLj
            go_wp2
            go_roundw
            case rel => exact ⟨t + 1, by omega, by go_num, hn⟩
            case measure => simp [intOf]; omega
          | false =>
            have hd0 : decide (y < 0) = true := by
              simp
              rcases Int.lt_or_le y 0 with h | h
              · exact h
              · rw [hmet.2 h] at ht; cases ht
            obtain ⟨ch2, rest2, s2, hG, hd2, hd3⟩ := HDj2.out.miss ht
            have hdd : ch2.depth < i ∧ rest2.depth ≤ i := by rw [hG] at hdj; simp only [Dp.Fo.depth] at hdj; omega
            have hkk : kj + 2 * (ch2.size + rest2.size + 1) = 2 * i := by have := HKj.out; rw [hG] at this; exact this
            have hll : Dp.lay (Dp.lay dj (Dp.emit kj (.cons t ch2 .nil) (-1))) (Dp.emit (kj + 2 * ch2.size + 2) rest2 (-1)) = Df := by
              rw [← HLj.out, hG, ← Dp.lay_append]
              simp [Dp.emit]
            have hgo : Dp.Dfs (Wa.nrow i ls) sj [t] (.cons t ch2 .nil) s2 := .go ht hd2 (.nil _)
            have hs2 := HSj.out.dfs (Wa.nrow_ok i ls) hgo (by simpa using hlt) kj (-1)
            have HC := visit_any i hm8 B nl cl ls i ch2 hdd.1 t (-1) sj s2 kj dj _ A2 A3 c1 c2 c3 wr hlt HSj.out hd2 (by omega) r1.rd r2.rd r3.rd hz
            obtain ⟨K2, hK2⟩ : ∃ K2, K2 = kj + 2 * ch2.size + 2 := ⟨_, rfl⟩
            rw [← hK2] at HC hll
            have hkk2 : K2 + 2 * rest2.size = 2 * i := by omega
            clear hK2
            have HC2 := Lib.hid HC
            have HS2 := Lib.hid hs2
            have HD3 := Lib.hid hd3
            have HKK := Lib.hid hkk2
            have HLL := Lib.hid hll
            have hdd2 := hdd.2
            clear HC hs2 hd2 hd3 hkk hkk2 hll hdd hgo hG ht hmet HDj2 HSj HKj HLj r1 r2 r3
            go_wp2_with fail
            refine HC2.out.mono ?_
            rintro e w3 ⟨E1, e1', E2, e2', E3, e3', rfl, r1, r2, r3, hb3⟩
            have hs3 := hb3.size
            have hB5 := (hb3.block (b + 1) (by omega)).trans hBx
            have hZ5 := (hb3.block b (by omega)).trans hZx
            have p0 := cell_of hB5 (i := 0) rfl
            have p1 := cell_of hB5 (i := 1) rfl
            have p2 := cell_of hB5 (i := 2) rfl
            have p3 := cell_of hB5 (i := 3) rfl
            have q0 := frozen_of hB5 0
            have q1 := frozen_of hB5 1
            have q2 := frozen_of hB5 2
            have q3 := frozen_of hB5 3
            have hn : WalL i ls b s1 Df w (t + 1) (put4 w3 (b + 1) (.slice E1 i e1') (.slice E2 i e2') (.slice E3 i e3') (.int .i64 (K2 : Int))) :=
              ⟨rest2, s2, _, K2, E1, e1', E2, e2', E3, e3', hdd2, HS2.out, HD3.out, HKK.out, HLL.out, put4_same hB5 _ _ _ _, (put4_other w3 (b + 1) _ _ _ _ (by omega)).trans hZ5, (r1.mono (by omega)).put4 (b + 1) _ _ _ _ (by omega), (r2.mono (by omega)).put4 (b + 1) _ _ _ _ (by omega), (r3.mono (by omega)).put4 (b + 1) _ _ _ _ (by omega),
                put4_below _ _ _ _ (hbx.trans (hb3.mono (by omega))) (by omega), by rw [put4_size]; omega⟩
            clear r1 r2 r3 hB5 hZ5 hBx hZx hbx hb3 HS2 HD3 HKK HLL HC2
            go_wp2
            go_roundw
            case rel => exact ⟨t + 1, by omega, by go_num, hn⟩
            case measure => simp [intOf]; omega
        · obtain rfl : t = i := by omega
          have hD0 := HDj.out
          rw [Nat.sub_self] at hD0
          obtain ⟨hG0, _⟩ := hD0.done
          have hkk : kj = 2 * t := by have := HKj.out; rw [hG0] at this; exact this
          have hdD : dj = Df := by have := HLj.out; rw [hG0] at this; exact this
          subst hdD
          have HKf := Lib.hid hkk
          have z0 := cell_of hZx (i := 0) rfl
          have z1 := cell_of hZx (i := 1) rfl
          have z2 := cell_of hZx (i := 2) rfl
          have z3 := cell_of hZx (i := 3) rfl
          have f0 := frozen_of hZx 0
          have f1 := frozen_of hZx 1
          have f2 := frozen_of hZx 2
          have f3 := frozen_of hZx 3
          clear hD0 hG0 HDj HSj HKj HLj hkk
          go_wp2
          have hE := put4_same hZx (.slice A1 t c1) (.slice A2 t c2) (.slice A3 t c3) (.int .i64 (kj : Int))
          refine bodyPost_ret (results_c rfl _ _ _ ⟨b, 0, none⟩ _ rfl (load_deep (put4 wr b (.slice A1 t c1) (.slice A2 t c2) (.slice A3 t c3) (.int .i64 (kj : Int))) b _ _ _ _ (cell_of hE (i := 0) rfl) (cell_of hE (i := 1) rfl) (cell_of hE (i := 2) rfl) (cell_of hE (i := 3) rfl))) rfl ?_
          have hfr : ∀ {A : Option Addr} {c : Nat} {zs : List Int}, Fr wr (b + 2) A t c zs → Fr (put4 wr b (.slice A1 t c1) (.slice A2 t c2) (.slice A3 t c3) (.int .i64 (kj : Int))) w.heap.size A t c zs := fun {A c zs} h => by
            rw [← HB.out]
            exact (h.put4 b _ _ _ _ (by omega)).mono (by omega)
          have e := HDf.out
          rw [e] at r1 r2 r3
          refine ⟨A1, c1, A2, c2, A3, c3, by rw [← HKf.out]; rfl, hfr r1, hfr r2, hfr r3, ?_⟩
          rw [← HB.out]
          exact put4_below _ _ _ _ hbx (by omega)

end Go.Proofs.YtpgpfkfibfmfaaaDoor.RefV
