/-
  Contracts of the reference's visit and Walk: the deep walk, with its state handed on by value.
-/
import Derived.Test.YtpgpfkfibfmfaaaDoorRefSet
import Derived.Test.YtpgpfkfibfmfaaaDoorDeepK
namespace Go.Proofs.YtpgpfkfibfmfaaaDoor.RefV
open Go.RowKit Go.Shelf

set_option linter.unusedSimpArgs false
set_option linter.unusedVariables false

/-- a block of cells, one of which is written -/
theorem heap_set {W : World} {b : Nat} {vs : Array Value} {t : TypeId} (h : W.heap[b]? = some (.cells vs t (0, 0))) (i : Nat) (v : Value) : (W.setCell ⟨b, i, none⟩ v).heap[b]? = some (.cells (vs.setIfInBounds i v) t (0, 0)) := by
  obtain ⟨hlt, hk⟩ := Array.getElem?_eq_some_iff.1 h
  show (W.heap.modify b _)[b]? = _
  rw [Array.getElem?_eq_getElem (by rw [Array.size_modify]; exact hlt), Array.getElem_modify_self, hk]
  rfl
theorem cell_of {W : World} {b : Nat} {vs : Array Value} {t : TypeId} (h : W.heap[b]? = some (.cells vs t (0, 0))) {i : Nat} {v : Value} (hv : vs[i]? = some v) : W.cell? ⟨b, i, none⟩ = some v := by simp [World.cell?, h, hv]
theorem frozen_of {W : World} {b : Nat} {vs : Array Value} {t : TypeId} (h : W.heap[b]? = some (.cells vs t (0, 0))) (i : Nat) : W.frozen? ⟨b, i, none⟩ = false := by simp [World.frozen?, h]
theorem results_c {fn : Func} {p : Tmp} {ty : TypeId} (h : fn.results = #[.cell p ty]) (tmps : Array Value) (P : Program) (w : World) (a : Addr) (v : Value) (e : tmps.getD p undef = .pointer (some a)) (l : (loadVar ty a).run P w = .ok v w) :
    (results fn tmps).run P w = .ok v w := by
  have e' : tmps[p]?.getD undef = .pointer (some a) := by simpa using e
  simp [results, h, e', l, asAddr, Sem.run_bind, Result.andThen]
theorem load_deep (W : World) (g : Nat) (v1 v2 v3 v4 : Value) (h1 : W.cell? ⟨g, 0, none⟩ = some v1) (h2 : W.cell? ⟨g, 1, none⟩ = some v2) (h3 : W.cell? ⟨g, 2, none⟩ = some v3) (h4 : W.cell? ⟨g, 3, none⟩ = some v4) :
    (loadVar 26 ⟨g, 0, none⟩).run Tryd.prog W = .ok (.agg #[v1, v2, v3, v4]) W := by
  go_simp

/-- the marks and the lists agree on who has been met -/
def Sim (m : Nat) (s : List Bool) (d : Dp.Dt) : Prop := s.length = m ∧ d.Len m ∧ ∀ u, u < m → (s.getD u false = true ↔ 0 ≤ d.met.getD u 0)
theorem Sim.start {m : Nat} {s : List Bool} {d : Dp.Dt} (h : Sim m s d) {i : Nat} (hi : i < m) (k : Nat) (p : Int) : Sim m (s.set i true) (Dp.lay1 d ⟨k, i, p, false⟩) := by
  obtain ⟨h1, h2, h3⟩ := h
  refine ⟨by simp [h1], Dp.lay1_len h2 _, fun u hu => ?_⟩
  rw [Wa.getD_set s i u (by omega)]
  simp only [Dp.lay1]
  show _ ↔ 0 ≤ (d.met.set i (k : Int)).getD u 0
  rw [Dp.getD_setI _ _ _ _ (by rw [h2.1]; exact hi)]
  by_cases e : u = i
  · simp [e]
  · simp only [e, decide_false, Bool.false_or, if_false]
    exact h3 u hu
theorem Sim.dfs {m : Nat} {R : Nat → List Nat} (hR : Wa.Ok m R) {s s' : List Bool} {d : Dp.Dt} {ws : List Nat} {F : Dp.Fo} (h : Sim m s d) (hd : Dp.Dfs R s ws F s') (hw : ∀ w ∈ ws, w < m) (k : Nat) (p : Int) : Sim m s' (Dp.lay d (Dp.emit k F p)) := by
  have q := hd.spec hR h.1 hw
  refine ⟨q.len, Dp.lay_len h.2.1 _, fun u hu => ?_⟩
  rw [q.seen, (Dp.lay_emit F k p d h.2.1 q.nodup (fun x hx => (q.new x hx).2) u).1]
  by_cases e : u ∈ F.pts
  · simp [e]
  · simp only [e, or_false, if_false]
    exact h.2.2 u hu

/-- the points beside a from j on -/
def rowFrom (m : Nat) (ls : List Gr.Ln) (a j : Nat) : List Nat := (List.range' j (m - j)).filter fun b => Gr.adj ls (a : Int) (b : Int)
theorem rowFrom_zero (m : Nat) (ls : List Gr.Ln) (a : Nat) : rowFrom m ls a 0 = Wa.nrow m ls a := by
  unfold rowFrom Wa.nrow
  rw [Nat.sub_zero, ← List.range_eq_range']
theorem rowFrom_end (m : Nat) (ls : List Gr.Ln) (a : Nat) : rowFrom m ls a m = [] := by simp [rowFrom]
theorem rowFrom_yes {m : Nat} {ls : List Gr.Ln} {a j : Nat} (hj : j < m) (h : Gr.adj ls (a : Int) (j : Int) = true) : rowFrom m ls a j = j :: rowFrom m ls a (j + 1) := by
  unfold rowFrom
  rw [show m - j = (m - (j + 1)) + 1 by omega, List.range'_succ, List.filter_cons_of_pos (by simpa using h)]
theorem rowFrom_no {m : Nat} {ls : List Gr.Ln} {a j : Nat} (hj : j < m) (h : Gr.adj ls (a : Int) (j : Int) = false) : rowFrom m ls a j = rowFrom m ls a (j + 1) := by
  unfold rowFrom
  rw [show m - j = (m - (j + 1)) + 1 by omega, List.range'_succ, List.filter_cons_of_neg (by simp [h])]

/-- a list that reads so in each world that keeps the blocks from B on -/
def Fr (W : World) (B : Nat) (A : Option Addr) (n c : Nat) (zs : List Int) : Prop := ∀ W' : World, W.heap.size ≤ W'.heap.size → (∀ k, B ≤ k → k < W.heap.size → W'.heap[k]? = W.heap[k]?) → Rd W' W'.heap.size A n c zs
/-- a list that reads so in each world that keeps all blocks but b and b + 1 -/
def Fz (W : World) (b : Nat) (A : Option Addr) (n c : Nat) (zs : List Int) : Prop := ∀ W' : World, W.heap.size ≤ W'.heap.size → (∀ k, k ≠ b → k ≠ b + 1 → k < W.heap.size → W'.heap[k]? = W.heap[k]?) → Rd W' W'.heap.size A n c zs
theorem Fr.rd {W : World} {B : Nat} {A : Option Addr} {n c : Nat} {zs : List Int} (h : Fr W B A n c zs) : Rd W W.heap.size A n c zs := h W (Nat.le_refl _) (fun _ _ _ => rfl)
theorem Fz.rd {W : World} {b : Nat} {A : Option Addr} {n c : Nat} {zs : List Int} (h : Fz W b A n c zs) : Rd W W.heap.size A n c zs := h W (Nat.le_refl _) (fun _ _ _ _ => rfl)
theorem Fr.kept {W V : World} {B : Nat} {A : Option Addr} {n c : Nat} {zs : List Int} (h : Fr W B A n c zs) (hs : W.heap.size ≤ V.heap.size) (hk : ∀ k, B ≤ k → k < W.heap.size → V.heap[k]? = W.heap[k]?) : Fr V B A n c zs :=
  fun W' h1 h2 => h W' (by omega) (fun k e1 e2 => (h2 k e1 (by omega)).trans (hk k e1 e2))
theorem Fz.kept {W V : World} {b : Nat} {A : Option Addr} {n c : Nat} {zs : List Int} (h : Fz W b A n c zs) (hs : W.heap.size ≤ V.heap.size) (hk : ∀ k, k ≠ b → k ≠ b + 1 → k < W.heap.size → V.heap[k]? = W.heap[k]?) : Fz V b A n c zs :=
  fun W' h1 h2 => h W' (by omega) (fun k e1 e2 e3 => (h2 k e1 e2 (by omega)).trans (hk k e1 e2 e3))
theorem Fr.mono {W : World} {B B' : Nat} {A : Option Addr} {n c : Nat} {zs : List Int} (h : Fr W B A n c zs) (hB : B' ≤ B) : Fr W B' A n c zs := fun W' h1 h2 => h W' h1 (fun k e1 e2 => h2 k (by omega) e2)
theorem Fr.fz {W : World} {B b : Nat} {A : Option Addr} {n c : Nat} {zs : List Int} (h : Fr W B A n c zs) (hB : b + 2 ≤ B) : Fz W b A n c zs := fun W' h1 h2 => h W' h1 (fun k e1 e2 => h2 k (by omega) (by omega) e2)
theorem Fr.own {W : World} {B e : Nat} {A : Option Addr} {n c : Nat} {zs : List Int} (h : Own W B e (.slice A n c) zs) : Fr W B A n c zs := fun W' h1 h2 => by
  have h3 := h.same (w' := W') (fun k hk => h2 k (h.at_base k hk) (h.lt k hk))
  exact h3.rd'
theorem Fz.old {W : World} {b : Nat} {A : Option Addr} {n c : Nat} {zs : List Int} (h : Rd W b A n c zs) (hb : b ≤ W.heap.size) : Fz W b A n c zs := fun W' h1 h2 => by
  refine h.keep (by omega) (fun p hp => ?_)
  have := h2 p.block (by omega) (by omega) (by omega)
  unfold World.cell?
  rw [this]
/-- behind a call that keeps all that was there -/
theorem Fr.past {W V : World} {B : Nat} {A : Option Addr} {n c : Nat} {zs : List Int} (h : Fr W B A n c zs) (hb : Below W.heap.size W V) : Fr V B A n c zs := h.kept hb.size (fun k _ h2 => hb.block k h2)
theorem Fz.past {W V : World} {b : Nat} {A : Option Addr} {n c : Nat} {zs : List Int} (h : Fz W b A n c zs) (hb : Below W.heap.size W V) : Fz V b A n c zs := h.kept hb.size (fun k _ _ h2 => hb.block k h2)
/-- behind a store into block b -/
theorem Fr.set {W : World} {B : Nat} {A : Option Addr} {n c : Nat} {zs : List Int} (h : Fr W B A n c zs) (p : Addr) (v : Value) (hp : p.block < B) : Fr (W.setCell p v) B A n c zs :=
  h.kept (by simp) (fun k e1 e2 => Below.heap_setCell _ _ _ _ (by omega))
theorem Fz.set {W : World} {b : Nat} {A : Option Addr} {n c : Nat} {zs : List Int} (h : Fz W b A n c zs) (p : Addr) (v : Value) (hp : p.block = b ∨ p.block = b + 1) : Fz (W.setCell p v) b A n c zs :=
  h.kept (by simp) (fun k e1 e2 e3 => Below.heap_setCell _ _ _ _ (by omega))

/-- a whole state that is written into block b -/
def put4 (W : World) (b : Nat) (v0 v1 v2 v3 : Value) : World := (((W.setCell ⟨b, 0, none⟩ v0).setCell ⟨b, 1, none⟩ v1).setCell ⟨b, 2, none⟩ v2).setCell ⟨b, 3, none⟩ v3
theorem put4_size (W : World) (b : Nat) (v0 v1 v2 v3 : Value) : (put4 W b v0 v1 v2 v3).heap.size = W.heap.size := by simp [put4]
theorem put4_other (W : World) (b : Nat) (v0 v1 v2 v3 : Value) {k : Nat} (h : k ≠ b) : (put4 W b v0 v1 v2 v3).heap[k]? = W.heap[k]? :=
  (Below.heap_setCell _ ⟨b, 3, none⟩ v3 k h).trans ((Below.heap_setCell _ ⟨b, 2, none⟩ v2 k h).trans ((Below.heap_setCell _ ⟨b, 1, none⟩ v1 k h).trans (Below.heap_setCell _ ⟨b, 0, none⟩ v0 k h)))
theorem put4_same {W : World} {b : Nat} {u0 u1 u2 u3 : Value} {t : TypeId} (h : W.heap[b]? = some (.cells #[u0, u1, u2, u3] t (0, 0))) (v0 v1 v2 v3 : Value) : (put4 W b v0 v1 v2 v3).heap[b]? = some (.cells #[v0, v1, v2, v3] t (0, 0)) := by
  have := heap_set (heap_set (heap_set (heap_set h 0 v0) 1 v1) 2 v2) 3 v3
  unfold put4
  rw [this]
  rfl
theorem put4_below {W : World} {b : Nat} (v0 v1 v2 v3 : Value) {B : Nat} {w : World} (h : Below B w W) (hb : B ≤ b) : Below B w (put4 W b v0 v1 v2 v3) :=
  (((h.setCell (p := ⟨b, 0, none⟩) hb v0).setCell (p := ⟨b, 1, none⟩) hb v1).setCell (p := ⟨b, 2, none⟩) hb v2).setCell (p := ⟨b, 3, none⟩) hb v3
theorem Fr.put4 {W : World} {B : Nat} {A : Option Addr} {n c : Nat} {zs : List Int} (h : Fr W B A n c zs) (b : Nat) (v0 v1 v2 v3 : Value) (hb : b < B) : Fr (put4 W b v0 v1 v2 v3) B A n c zs :=
  h.kept (Nat.le_of_eq (put4_size W b v0 v1 v2 v3).symm) (fun k e1 e2 => put4_other W b v0 v1 v2 v3 (by omega))
theorem Fz.put4 {W : World} {b : Nat} {A : Option Addr} {n c : Nat} {zs : List Int} (h : Fz W b A n c zs) (v0 v1 v2 v3 : Value) : Fz (put4 W b v0 v1 v2 v3) b A n c zs :=
  h.kept (Nat.le_of_eq (put4_size W b v0 v1 v2 v3).symm) (fun k e1 e2 e3 => put4_other W b v0 v1 v2 v3 e1)

/-- the state in its block -/
def DBox (m b : Nat) (d : Dp.Dt) (k : Nat) (W : World) : Prop :=
  ∃ A1 c1 A2 c2 A3 c3, W.heap[b]? = some (.cells #[.slice A1 m c1, .slice A2 m c2, .slice A3 m c3, .int .i64 (k : Int)] 26 (0, 0)) ∧ Fr W (b + 2) A1 m c1 d.met ∧ Fz W b A2 m c2 d.left ∧ Fr W (b + 2) A3 m c3 d.par

/-- what visit hands back -/
def VPost (m : Nat) (d : Dp.Dt) (k : Nat) (w : World) (e : Ending) (w' : World) : Prop :=
  ∃ A1 c1 A2 c2 A3 c3, e = .returned (.agg #[.slice A1 m c1, .slice A2 m c2, .slice A3 m c3, .int .i64 (k : Int)]) ∧ Fr w' w.heap.size A1 m c1 d.met ∧ Fr w' w.heap.size A2 m c2 d.left ∧ Fr w' w.heap.size A3 m c3 d.par ∧ Below w.heap.size w w'

/-- within a point's row: the points below j are done -/
def VisL (m : Nat) (ls : List Gr.Ln) (i b f k1 : Nat) (s1 : List Bool) (D : Dp.Dt) (w : World) (j : Nat) (W : World) : Prop :=
  ∃ (G : Dp.Fo) (sj : List Bool) (dj : Dp.Dt) (kj : Nat), G.depth ≤ f ∧ Sim m sj dj ∧ Dp.Dfs (Wa.nrow m ls) sj (rowFrom m ls i j) G s1 ∧ kj + 2 * G.size = k1 ∧ Dp.lay dj (Dp.emit kj G (i : Int)) = D ∧
    DBox m b dj kj W ∧ W.heap[b + 1]? = some (.cells #[.slice none 0 0, .slice none 0 0, .slice none 0 0, .int .i64 0] 26 (0, 0)) ∧ Below b w W ∧ b + 2 ≤ W.heap.size

set_option maxRecDepth 100000 in
set_option maxHeartbeats 1000000 in
theorem visit_any (m : Nat) (hm8 : m ≤ 8) (B : Option Addr) (nl cl : Nat) (ls : List Gr.Ln) :
    ∀ (f : Nat) (ch : Dp.Fo), ch.depth < f → ∀ (i : Nat) (p : Int) (s s1 : List Bool) (k : Nat) (d : Dp.Dt) (A1 A2 A3 : Option Addr) (c1 c2 c3 : Nat) (w : World), i < m → Sim m s d → Dp.Dfs (Wa.nrow m ls) (s.set i true) (Wa.nrow m ls i) ch s1 → k + 2 * ch.size + 2 ≤ 90 →
      Rd w w.heap.size A1 m c1 d.met → Rd w w.heap.size A2 m c2 d.left → Rd w w.heap.size A3 m c3 d.par → RdP w w.heap.size B nl cl ls →
      Calls Tryd.prog 12 #[.int .i64 (m : Int), .slice B nl cl, .agg #[.slice A1 m c1, .slice A2 m c2, .slice A3 m c3, .int .i64 (k : Int)], .int .i64 (i : Int), .int .i64 p] w
        (VPost m (Dp.lay d (Dp.emit k (.cons i ch .nil) p)) (k + 2 * ch.size + 2) w) := by
  intro f
  induction f with
  | zero => intro ch h; omega
  | succ f ih =>
  intro ch hdep i p s s1 k d A1 A2 A3 c1 c2 c3 w hi hsim hd hk90 hr1 hr2 hr3 hrl
  obtain ⟨b, hb⟩ : ∃ b, b = w.heap.size := ⟨_, rfl⟩
  obtain ⟨x0, hx0⟩ : ∃ x0, x0 = (w.alloc (.cells #[.slice A1 m c1, .slice A2 m c2, .slice A3 m c3, .int .i64 (k : Int)] 26)).alloc (.cells #[.slice none 0 0, .slice none 0 0, .slice none 0 0, .int .i64 0] 26) := ⟨_, rfl⟩
  have hB0 : x0.heap[b]? = some (.cells #[.slice A1 m c1, .slice A2 m c2, .slice A3 m c3, .int .i64 (k : Int)] 26 (0, 0)) := by
    rw [hx0, hb]
    exact (Below.heap_alloc _ _ _ (by simp)).trans (World.alloc_heap_new w _)
  have hZ0 : x0.heap[b + 1]? = some (.cells #[.slice none 0 0, .slice none 0 0, .slice none 0 0, .int .i64 0] 26 (0, 0)) := by
    have := World.alloc_heap_new (w.alloc (.cells #[.slice A1 m c1, .slice A2 m c2, .slice A3 m c3, .int .i64 (k : Int)] 26)) (.cells #[.slice none 0 0, .slice none 0 0, .slice none 0 0, .int .i64 0] 26)
    rw [← hx0, World.size_alloc, ← hb] at this
    exact this
  have hs0 : x0.heap.size = b + 2 := by rw [hx0, hb]; simp
  have hb0 : Below b w x0 := by rw [hx0, hb]; exact ((Below.refl _ _).alloc (Nat.le_refl _) _).alloc (by simp) _
  rw [← hb] at hr1 hr2 hr3 hrl
  have q1 : Fz x0 b A1 m c1 d.met := Fz.old (hr1.below hb0) (by omega)
  have q2 : Fz x0 b A2 m c2 d.left := Fz.old (hr2.below hb0) (by omega)
  have q3 : Fz x0 b A3 m c3 d.par := Fz.old (hr3.below hb0) (by omega)
  have hi1 : (0 : Int) ≤ (i : Int) := by omega
  have hi2 : (i : Int) < (m : Int) := by omega
  obtain ⟨D, hD⟩ : ∃ D, D = Dp.lay (Dp.lay1 d ⟨k, i, p, false⟩) (Dp.emit (k + 1) ch (i : Int)) := ⟨_, rfl⟩
  have hfin : Dp.lay d (Dp.emit k (.cons i ch .nil) p) = Dp.lay1 D ⟨k + 2 * ch.size + 1, i, p, true⟩ := by
    rw [hD]
    simp only [Dp.emit, Dp.lay_cons, Dp.lay_append]
    rfl
  have hkb : k < 100 := by omega
  have HX0 := Lib.hid hx0
  have HB := Lib.hid hb
  have HIH := Lib.hid ih
  have HDf := Lib.hid hd
  have HSim := Lib.hid hsim
  have HDD := Lib.hid hD
  have HFin := Lib.hid hfin
  clear hx0 hb ih hd hsim hr1 hr2 hr3 hD hfin
  go_enter Tryd.func12, Tryd.ntmps12
  go_wp2_with fail
  rw [← HX0.out, ← HB.out]
  refine (RefD.Set_any A1 m c1 d.met i (k : Int) x0 q1.rd hi (by omega)).mono ?_
  rintro e w1 ⟨g1, e1, rfl, o1, hb1⟩
  have hs1 := hb1.size
  have hB1 := (hb1.block b (by omega)).trans hB0
  have hZ1 := (hb1.block (b + 1) (by omega)).trans hZ0
  have u0 := cell_of hB1 (i := 0) rfl
  have u1 := frozen_of hB1 0
  obtain ⟨W1, hW1⟩ : ∃ W1, W1 = w1.setCell ⟨b, 0, none⟩ (.slice (some ⟨g1, 0, none⟩) m e1) := ⟨_, rfl⟩
  have hB2 : W1.heap[b]? = some (.cells #[.slice (some ⟨g1, 0, none⟩) m e1, .slice A2 m c2, .slice A3 m c3, .int .i64 (k : Int)] 26 (0, 0)) := by rw [hW1]; exact heap_set hB1 0 _
  have hZ2 : W1.heap[b + 1]? = some (.cells #[.slice none 0 0, .slice none 0 0, .slice none 0 0, .int .i64 0] 26 (0, 0)) := by rw [hW1]; exact (Below.heap_setCell _ _ _ _ (show b + 1 ≠ b by omega)).trans hZ1
  have hbW1 : Below b w W1 := by rw [hW1]; exact (hb0.trans (hb1.mono (by omega))).setCell (p := ⟨b, 0, none⟩) (show b ≤ b by omega) _
  have hsW1 : W1.heap.size = w1.heap.size := by rw [hW1]; simp
  have t1 : Fr W1 (b + 2) (some ⟨g1, 0, none⟩) m e1 (d.met.set i (k : Int)) := by rw [hs0] at o1; rw [hW1]; exact (Fr.own o1).set _ _ (show b < b + 2 by omega)
  have t2 : Fz W1 b A2 m c2 d.left := by rw [hW1]; exact (q2.past hb1).set _ _ (.inl rfl)
  have t3 : Fz W1 b A3 m c3 d.par := by rw [hW1]; exact (q3.past hb1).set _ _ (.inl rfl)
  have u2 := cell_of hB2 (i := 2) rfl
  rw [hW1] at u2
  have HW1 := Lib.hid hW1
  clear hW1 hB0 hB1 hZ0 hZ1 q1 q2 q3 o1
  go_wp2_with fail
  rw [← HW1.out]
  refine (RefD.Set_any A3 m c3 d.par i p W1 t3.rd hi (by omega)).mono ?_
  rintro e w2 ⟨g3, e3, rfl, o3, hb2⟩
  have hs2 := hb2.size
  have hB3 := (hb2.block b (by omega)).trans hB2
  have hZ3 := (hb2.block (b + 1) (by omega)).trans hZ2
  have u3 := cell_of hB3 (i := 2) rfl
  have u4 := frozen_of hB3 2
  obtain ⟨W2, hW2⟩ : ∃ W2, W2 = w2.setCell ⟨b, 2, none⟩ (.slice (some ⟨g3, 0, none⟩) m e3) := ⟨_, rfl⟩
  have hB4 : W2.heap[b]? = some (.cells #[.slice (some ⟨g1, 0, none⟩) m e1, .slice A2 m c2, .slice (some ⟨g3, 0, none⟩) m e3, .int .i64 (k : Int)] 26 (0, 0)) := by rw [hW2]; exact heap_set hB3 2 _
  have hZ4 : W2.heap[b + 1]? = some (.cells #[.slice none 0 0, .slice none 0 0, .slice none 0 0, .int .i64 0] 26 (0, 0)) := by rw [hW2]; exact (Below.heap_setCell _ _ _ _ (show b + 1 ≠ b by omega)).trans hZ3
  have hbW2 : Below b w W2 := by rw [hW2]; exact (hbW1.trans (hb2.mono (by omega))).setCell (p := ⟨b, 2, none⟩) (show b ≤ b by omega) _
  have t1' : Fr W2 (b + 2) (some ⟨g1, 0, none⟩) m e1 (d.met.set i (k : Int)) := by rw [hW2]; exact (t1.past hb2).set _ _ (show b < b + 2 by omega)
  have t2' : Fz W2 b A2 m c2 d.left := by rw [hW2]; exact (t2.past hb2).set _ _ (.inl rfl)
  have t3' : Fr W2 (b + 2) (some ⟨g3, 0, none⟩) m e3 (d.par.set i p) := by rw [hW2]; exact ((Fr.own o3).mono (by omega)).set _ _ (show b < b + 2 by omega)
  have u5 := cell_of hB4 (i := 3) rfl
  have u6 := frozen_of hB4 3
  rw [hW2] at u5 u6
  obtain ⟨W3, hW3⟩ : ∃ W3, W3 = W2.setCell ⟨b, 3, none⟩ (.int .i64 ((k : Int) + 1)) := ⟨_, rfl⟩
  have hI0 : VisL m ls i b f (k + 1 + 2 * ch.size) s1 D w 0 W3 := by
    refine ⟨ch, s.set i true, Dp.lay1 d ⟨k, i, p, false⟩, k + 1, by omega, HSim.out.start hi k p, by rw [rowFrom_zero]; exact HDf.out, rfl, HDD.out.symm, ⟨some ⟨g1, 0, none⟩, e1, A2, c2, some ⟨g3, 0, none⟩, e3, ?_, ?_, ?_, ?_⟩, ?_, ?_, ?_⟩
    · rw [hW3]
      have := heap_set hB4 3 (.int .i64 ((k : Int) + 1))
      rw [this]
      simp
    · rw [hW3]; exact t1'.set _ _ (show b < b + 2 by omega)
    · rw [hW3]; exact t2'.set _ _ (.inl rfl)
    · rw [hW3]; exact t3'.set _ _ (show b < b + 2 by omega)
    · rw [hW3]; exact (Below.heap_setCell _ _ _ _ (show b + 1 ≠ b by omega)).trans hZ4
    · rw [hW3]; exact hbW2.setCell (p := ⟨b, 3, none⟩) (show b ≤ b by omega) _
    · rw [hW3, hW2]; simp; omega
  have HW3 : Hid (W3 = (w2.setCell ⟨b, 2, none⟩ (.slice (some ⟨g3, 0, none⟩) m e3)).setCell ⟨b, 3, none⟩ (.int .i64 ((k : Int) + 1))) := by show _ = _; rw [hW3, hW2]
  clear hW3 hW2 hB2 hB3 hB4 hZ2 hZ3 hZ4 t1 t2 t3 t1' t2' t3' o3 hbW1 hbW2 hb1 hb2 hs1 hs2 hsW1 hb0 hs0
  have HKs : Hid (k + 1 + 2 * ch.size ≤ 89) := by show _ ≤ _; omega
  obtain ⟨K1, hK1⟩ : ∃ K1, K1 = k + 1 + 2 * ch.size := ⟨_, rfl⟩
  rw [← hK1] at hI0 HKs
  have HK1 := Lib.hid hK1
  clear hK1
  go_wp2
  rw [← HW3.out]
  go_loopw [11] (fun jv wr => ∃ j : Nat, j ≤ m ∧ jv = .int .i64 (j : Int) ∧ VisL m ls i b f K1 s1 D w j wr) (fun jv _ => m - (intOf jv).toNat)
  case atStart => exact ⟨0, Nat.zero_le _, rfl, hI0⟩
  case round =>
    obtain ⟨j, hjm, rfl, G, sj, dj, kj, hdj, hsj, hDj, hkj, hlj, ⟨C1, d1, C2, d2, C3, d3, hBx, r1, r2, r3⟩, hZx, hbx, hsx⟩ := hrel
    have HDj := Lib.hid hDj
    have HSj := Lib.hid hsj
    have HKj := Lib.hid hkj
    have HLj := Lib.hid hlj
    clear hI0 hDj hsj hkj hlj
    have hz : RdP wr wr.heap.size B nl cl ls := (hrl.below hbx).more (by omega)
    by_cases hlt : j < m
    · have hj1 : (0 : Int) ≤ (j : Int) := by omega
      have hj2 : (j : Int) < (m : Int) := by omega
      cases hadj : Gr.adj ls (i : Int) (j : Int) with
      | false =>
        have HA := Lib.hid hadj
        have hn : VisL m ls i b f K1 s1 D w (j + 1) wr := ⟨G, sj, dj, kj, hdj, HSj.out, by rw [← rowFrom_no hlt hadj]; exact HDj.out, HKj.out, HLj.out, ⟨C1, d1, C2, d2, C3, d3, hBx, r1, r2, r3⟩, hZx, hbx, hsx⟩
        clear hadj hBx r1 r2 r3 hZx hbx HDj HSj HKj HLj
        go_wp2_with (go_at_call 13; refine (RefL.Beside_any B nl cl ls (i : Int) (j : Int) false _ hz HA.out).mono ?_; rintro e x3 ⟨rfl, rfl⟩)
        go_roundw
        case rel => exact ⟨j + 1, by omega, by go_num, hn⟩
        case measure => simp [intOf]; omega
      | true =>
        have HA := Lib.hid hadj
        have HDj2 : Hid (Dp.Dfs (Wa.nrow m ls) sj (j :: rowFrom m ls i (j + 1)) G s1) := by show Dp.Dfs _ _ _ _ _; rw [← rowFrom_yes hlt hadj]; exact HDj.out
        have hmet := HSj.out.2.2 j hlt
        obtain ⟨b1, o1, rfl, hb1, hc1⟩ := r1.rd.at_ (by omega)
        have v1 := hc1 j hlt
        have v0 := cell_of hBx (i := 0) rfl
        clear hc1 hadj HDj
        obtain ⟨y, hy⟩ : ∃ y, y = dj.met.getD j 0 := ⟨_, rfl⟩
        rw [← hy] at hmet v1
        clear hy
        cases ht : sj.getD j false with
        | true =>
          have hd0 : decide (y < 0) = false := by simp; exact hmet.1 ht
          have hn : VisL m ls i b f K1 s1 D w (j + 1) wr := ⟨G, sj, dj, kj, hdj, HSj.out, HDj2.out.hit ht, HKj.out, HLj.out, ⟨_, d1, C2, d2, C3, d3, hBx, r1, r2, r3⟩, hZx, hbx, hsx⟩
          clear ht hmet hBx r1 r2 r3 hZx hbx HDj2 HSj HKj HLj
          go_wp2_with (go_at_call 13; refine (RefL.Beside_any B nl cl ls (i : Int) (j : Int) true _ hz HA.out).mono ?_; rintro e x3 ⟨rfl, rfl⟩)
          go_roundw
          case rel => exact ⟨j + 1, by omega, by go_num, hn⟩
          case measure => simp [intOf]; omega
        | false =>
          have hd0 : decide (y < 0) = true := by
            simp
            rcases Int.lt_or_le y 0 with h | h
            · exact h
            · rw [hmet.2 h] at ht; cases ht
          obtain ⟨ch2, rest2, s2, hG, hd2, hd3⟩ := HDj2.out.miss ht
          have hdd : ch2.depth < f ∧ rest2.depth ≤ f := by rw [hG] at hdj; simp only [Dp.Fo.depth] at hdj; omega
          have hkk : kj + 2 * (ch2.size + rest2.size + 1) = K1 := by have := HKj.out; rw [hG] at this; exact this
          have hk9 := HKs.out
          have hll : Dp.lay (Dp.lay dj (Dp.emit kj (.cons j ch2 .nil) (i : Int))) (Dp.emit (kj + 2 * ch2.size + 2) rest2 (i : Int)) = D := by
            rw [← HLj.out, hG, ← Dp.lay_append]
            simp [Dp.emit]
          have hgo : Dp.Dfs (Wa.nrow m ls) sj [j] (.cons j ch2 .nil) s2 := .go ht hd2 (.nil _)
          have hs2 := HSj.out.dfs (Wa.nrow_ok m ls) hgo (by simpa using hlt) kj (i : Int)
          have HC := HIH.out ch2 hdd.1 j (i : Int) sj s2 kj dj _ C2 C3 d1 d2 d3 wr hlt HSj.out hd2 (by omega) r1.rd r2.rd r3.rd hz
          obtain ⟨K2, hK2⟩ : ∃ K2, K2 = kj + 2 * ch2.size + 2 := ⟨_, rfl⟩
          rw [← hK2] at HC hll
          have hkk2 : K2 + 2 * rest2.size = K1 := by omega
          clear hK2
          have HC2 := Lib.hid HC
          have HS2 := Lib.hid hs2
          have HD3 := Lib.hid hd3
          have HKK := Lib.hid hkk2
          have HLL := Lib.hid hll
          have hdd2 := hdd.2
          have v2 := cell_of hBx (i := 1) rfl
          have v3 := cell_of hBx (i := 2) rfl
          have v4 := cell_of hBx (i := 3) rfl
          clear HC hs2 hd2 hd3 hkk hkk2 hll hdd hgo hG ht hmet HDj2 HSj HKj HLj r1 r2 r3
          go_wp2_with (go_at_call 13; refine (RefL.Beside_any B nl cl ls (i : Int) (j : Int) true _ hz HA.out).mono ?_; rintro e x3 ⟨rfl, rfl⟩)
          refine HC2.out.mono ?_
          rintro e w3 ⟨E1, e1', E2, e2', E3, e3', rfl, r1, r2, r3, hb3⟩
          have hs3 := hb3.size
          have hB5 := (hb3.block b (by omega)).trans hBx
          have hZ5 := (hb3.block (b + 1) (by omega)).trans hZx
          have p0 := cell_of hB5 (i := 0) rfl
          have p1 := cell_of hB5 (i := 1) rfl
          have p2 := cell_of hB5 (i := 2) rfl
          have p3 := cell_of hB5 (i := 3) rfl
          have q0 := frozen_of hB5 0
          have q1 := frozen_of hB5 1
          have q2 := frozen_of hB5 2
          have q3 := frozen_of hB5 3
          clear HC2
          have hn : VisL m ls i b f K1 s1 D w (j + 1) (put4 w3 b (.slice E1 m e1') (.slice E2 m e2') (.slice E3 m e3') (.int .i64 (K2 : Int))) :=
            ⟨rest2, s2, _, K2, hdd2, HS2.out, HD3.out, HKK.out, HLL.out, ⟨E1, e1', E2, e2', E3, e3', put4_same hB5 _ _ _ _, (r1.mono (by omega)).put4 b _ _ _ _ (by omega), (r2.fz (by omega)).put4 _ _ _ _, (r3.mono (by omega)).put4 b _ _ _ _ (by omega)⟩,
              (put4_other w3 b _ _ _ _ (by omega)).trans hZ5, put4_below _ _ _ _ (hbx.trans (hb3.mono (by omega))) (Nat.le_refl _), by rw [put4_size]; omega⟩
          clear r1 r2 r3 hB5 hZ5 hBx hZx hbx hb3 HS2 HD3 HKK HLL
          go_wp2
          go_roundw
          case rel => exact ⟨j + 1, by omega, by go_num, hn⟩
          case measure => simp [intOf]; omega
    · obtain rfl : j = m := by omega
      have hD0 := HDj.out
      rw [rowFrom_end] at hD0
      obtain ⟨hG0, _⟩ := hD0.done
      have hkk : kj = K1 := by have := HKj.out; rw [hG0] at this; exact this
      subst hkk
      have hdD : dj = D := by have := HLj.out; rw [hG0] at this; exact this
      subst hdD
      have hk9 := HKs.out
      have v1 := cell_of hBx (i := 1) rfl
      have v3 := cell_of hBx (i := 3) rfl
      clear hD0 hG0 HDj HSj HKj HLj HDf HSim HDD HIH
      go_wp2_with fail
      refine (RefD.Set_any C2 j d2 dj.left i (kj : Int) wr r2.rd hi (by omega)).mono ?_
      rintro e w5 ⟨g5, e5, rfl, o5, hb5⟩
      have hs5 := hb5.size
      have hB6 := (hb5.block b (by omega)).trans hBx
      have hZ6 := (hb5.block (b + 1) (by omega)).trans hZx
      have p1 := cell_of hB6 (i := 1) rfl
      have q1 := frozen_of hB6 1
      obtain ⟨W5, hW5⟩ : ∃ W5, W5 = w5.setCell ⟨b, 1, none⟩ (.slice (some ⟨g5, 0, none⟩) j e5) := ⟨_, rfl⟩
      have hB7 : W5.heap[b]? = some (.cells #[.slice C1 j d1, .slice (some ⟨g5, 0, none⟩) j e5, .slice C3 j d3, .int .i64 (kj : Int)] 26 (0, 0)) := by rw [hW5]; exact heap_set hB6 1 _
      have hZ7 : W5.heap[b + 1]? = some (.cells #[.slice none 0 0, .slice none 0 0, .slice none 0 0, .int .i64 0] 26 (0, 0)) := by rw [hW5]; exact (Below.heap_setCell _ _ _ _ (show b + 1 ≠ b by omega)).trans hZ6
      have p3 := cell_of hB7 (i := 3) rfl
      have q3 := frozen_of hB7 3
      obtain ⟨W6, hW6⟩ : ∃ W6, W6 = W5.setCell ⟨b, 3, none⟩ (.int .i64 ((kj : Int) + 1)) := ⟨_, rfl⟩
      have hB8 : W6.heap[b]? = some (.cells #[.slice C1 j d1, .slice (some ⟨g5, 0, none⟩) j e5, .slice C3 j d3, .int .i64 ((kj : Int) + 1)] 26 (0, 0)) := by rw [hW6]; exact heap_set hB7 3 _
      have hZ8 : W6.heap[b + 1]? = some (.cells #[.slice none 0 0, .slice none 0 0, .slice none 0 0, .int .i64 0] 26 (0, 0)) := by rw [hW6]; exact (Below.heap_setCell _ _ _ _ (show b + 1 ≠ b by omega)).trans hZ7
      have y0 := cell_of hB8 (i := 0) rfl
      have y1 := cell_of hB8 (i := 1) rfl
      have y2 := cell_of hB8 (i := 2) rfl
      have y3 := cell_of hB8 (i := 3) rfl
      have z0 := cell_of hZ8 (i := 0) rfl
      have z1 := cell_of hZ8 (i := 1) rfl
      have z2 := cell_of hZ8 (i := 2) rfl
      have z3 := cell_of hZ8 (i := 3) rfl
      have f0 := frozen_of hZ8 0
      have f1 := frozen_of hZ8 1
      have f2 := frozen_of hZ8 2
      have f3 := frozen_of hZ8 3
      have t1 : Fr W6 (b + 2) C1 j d1 dj.met := by rw [hW6, hW5]; exact ((r1.past hb5).set _ _ (show b < b + 2 by omega)).set _ _ (show b < b + 2 by omega)
      have t2 : Fr W6 (b + 2) (some ⟨g5, 0, none⟩) j e5 (dj.left.set i (kj : Int)) := by rw [hW6, hW5]; exact (((Fr.own o5).mono (by omega)).set _ _ (show b < b + 2 by omega)).set _ _ (show b < b + 2 by omega)
      have t3 : Fr W6 (b + 2) C3 j d3 dj.par := by rw [hW6, hW5]; exact ((r3.past hb5).set _ _ (show b < b + 2 by omega)).set _ _ (show b < b + 2 by omega)
      have hbW6 : Below b w W6 := by rw [hW6, hW5]; exact ((hbx.trans (hb5.mono (by omega))).setCell (p := ⟨b, 1, none⟩) (show b ≤ b by omega) _).setCell (p := ⟨b, 3, none⟩) (show b ≤ b by omega) _
      have HW6 : Hid (W6 = (w5.setCell ⟨b, 1, none⟩ (.slice (some ⟨g5, 0, none⟩) j e5)).setCell ⟨b, 3, none⟩ (.int .i64 ((kj : Int) + 1))) := by show _ = _; rw [hW6, hW5]
      rw [hW5] at p3 q3
      rw [hW6, hW5] at y0 y1 y2 y3 z0 z1 z2 z3 f0 f1 f2 f3
      clear hW6 hW5 hBx hZx hB6 hZ6 hB7 hZ7 r1 r2 r3 hbx hb5 o5
      go_wp2
      rw [← HW6.out]
      have hE := put4_same hZ8 (.slice C1 j d1) (.slice (some ⟨g5, 0, none⟩) j e5) (.slice C3 j d3) (.int .i64 ((kj : Int) + 1))
      have hkf : kj + 1 = k + 2 * ch.size + 2 := by have := HK1.out; omega
      have hkf' : k + 2 * ch.size + 1 = kj := by omega
      have hfn := HFin.out
      rw [hkf'] at hfn
      refine bodyPost_ret (results_c rfl _ _ _ ⟨b + 1, 0, none⟩ _ rfl (load_deep (put4 W6 (b + 1) (.slice C1 j d1) (.slice (some ⟨g5, 0, none⟩) j e5) (.slice C3 j d3) (.int .i64 ((kj : Int) + 1))) (b + 1) _ _ _ _ (cell_of hE (i := 0) rfl) (cell_of hE (i := 1) rfl) (cell_of hE (i := 2) rfl) (cell_of hE (i := 3) rfl))) rfl ?_
      rw [hfn, ← hkf]
      have hfr : ∀ {A : Option Addr} {c : Nat} {zs : List Int}, Fr W6 (b + 2) A j c zs → Fr (put4 W6 (b + 1) (.slice C1 j d1) (.slice (some ⟨g5, 0, none⟩) j e5) (.slice C3 j d3) (.int .i64 ((kj : Int) + 1))) w.heap.size A j c zs := fun {A c zs} h => by
        rw [← HB.out]
        exact (h.put4 (b + 1) _ _ _ _ (by omega)).mono (by omega)
      refine ⟨C1, d1, some ⟨g5, 0, none⟩, e5, C3, d3, rfl, hfr t1, hfr t2, hfr t3, ?_⟩
      rw [← HB.out]
      exact put4_below _ _ _ _ hbW6 (by omega)

end Go.Proofs.YtpgpfkfibfmfaaaDoor.RefV
