/-
  The contract of Of of package dom: for each point those over whom all ways go, or what is wrong. No statement of the program is proved here; there is no condition.
-/
import Derived.Test.YtjcdnkbandagoaaDomB
import Derived.Test.YtjcdnkbandagoaaGraphC
import Derived.Test.YtjcdnkbandagoaaLibT
namespace Go.Proofs.Ytjcdnkbandagoaa
open Go.RowKit Go.Shelf

attribute [local go_sem] Oper.semAt_some
set_option linter.unusedSimpArgs false
set_option linter.unusedVariables false

/-- rows while they are built, each in a block of its own: the values lie in block s, row a reads as F a, P a q where q is its block -/
def RwsI (B s m D : Nat) (F : Nat → List Int) (P : Nat → Nat → Prop) (W : World) : Prop :=
  ∃ vs : List Value, W.ownsRow B 29 1 (.slice (some ⟨s, 0, none⟩) m m) m vs ∧ vs.length = m ∧
    (∀ a, a < m → Own W D 3 (vs.getD a undef) (F a)) ∧
    (∀ a a' q, a < m → a' < m → (vs.getD a undef).ownBlock = some q → (vs.getD a' undef).ownBlock = some q → a = a') ∧
    ∀ a q, a < m → (vs.getD a undef).ownBlock = some q → P a q
theorem RwsI.congr {B s m D : Nat} {F F' : Nat → List Int} {P P' : Nat → Nat → Prop} {W : World} (h : RwsI B s m D F P W) (hF : ∀ a, a < m → F a = F' a) (hP : ∀ a q, a < m → q < W.heap.size → P a q → P' a q) : RwsI B s m D F' P' W := by
  obtain ⟨vs, h1, h2, h3, h4, h5⟩ := h
  exact ⟨vs, h1, h2, fun a ha => by rw [← hF a ha]; exact h3 a ha, h4, fun a q ha hq => hP a q ha ((h3 a ha).lt q hq) (h5 a q ha hq)⟩
/-- other blocks have changed -/
theorem RwsI.same {B s m D : Nat} {F : Nat → List Int} {P : Nat → Nat → Prop} {W W' : World} (h : RwsI B s m D F P W) (h0 : W'.heap[s]? = W.heap[s]?) (hs : ∀ a q, a < m → q < W.heap.size → P a q → W'.heap[q]? = W.heap[q]?) : RwsI B s m D F P W' := by
  obtain ⟨vs, h1, h2, h3, h4, h5⟩ := h
  exact ⟨vs, ownsRow_same h1 (fun k hk => by cases hk; exact h0), h2, fun a ha => (h3 a ha).same (fun k hk => hs a k ha ((h3 a ha).lt k hk) (h5 a k ha hk)), h4, h5⟩
theorem RwsI.lt {B s m D : Nat} {F : Nat → List Int} {P : Nat → Nat → Prop} {W : World} (h : RwsI B s m D F P W) (hm : 0 < m) : s < W.heap.size := by
  obtain ⟨vs, h1, h2, _⟩ := h
  exact (World.ownsRow.lt h1 s rfl).2
theorem RwsI.below {B s m D : Nat} {F : Nat → List Int} {P : Nat → Nat → Prop} {W W' : World} (h : RwsI B s m D F P W) (hm : 0 < m) (hb : Below W.heap.size W W') : RwsI B s m D F P W' :=
  h.same (hb.block s (h.lt hm)) (fun a q _ hq _ => hb.block q hq)
theorem RwsI.drew {B s m D : Nat} {F : Nat → List Int} {P : Nat → Nat → Prop} {W : World} (h : RwsI B s m D F P W) : RwsI B s m D F P W.drew := h

/-- a number is put to the row of a -/
theorem rws_step {B s m D : Nat} {F F' : Nat → List Int} {P : Nat → Nat → Prop} {a : Nat} {b : Int} (ha : a < m) (W w3 : World) (o : Obj) (vs : List Value) (V v' : Value) (hsD : s < D) (hWD : D ≤ W.heap.size)
    (hrow : W.ownsRow B 29 1 (.slice (some ⟨s, 0, none⟩) m m) m vs) (hvl : vs.length = m) (hown : ∀ a, a < m → Own W D 3 (vs.getD a undef) (F a))
    (hdis : ∀ a a' q, a < m → a' < m → (vs.getD a undef).ownBlock = some q → (vs.getD a' undef).ownBlock = some q → a = a') (hP : ∀ a q, a < m → (vs.getD a undef).ownBlock = some q → P a q) (hV : V = vs.getD a undef)
    (hown' : Own w3 D 3 v' (F a ++ [b])) (hgrow : (W.alloc o).grownBy w3 V.ownBlock) (hat : v'.ownBlock = V.ownBlock ∨ v'.ownBlock = some (W.alloc o).heap.size)
    (hF1 : F' a = F a ++ [b]) (hF2 : ∀ x, x < m → x ≠ a → F' x = F x) (hPn : ∀ q, W.heap.size ≤ q → P a q) :
    w3.cell? ⟨s, a, none⟩ = some V ∧ w3.frozen? ⟨s, a, none⟩ = false ∧ Below D W w3 ∧ RwsI B s m D F' P (w3.setCell ⟨s, a, none⟩ v') ∧ (∀ k, k < W.heap.size → k ≠ s → V.ownBlock ≠ some k → (w3.setCell ⟨s, a, none⟩ v').heap[k]? = W.heap[k]?) ∧ w3.grownBy (w3.setCell ⟨s, a, none⟩ v') (some s) := by
  have hoV := hown a ha
  rw [← hV] at hoV
  have hVb : ∀ q, V.ownBlock = some q → D ≤ q := hoV.at_base
  have hba : Below D W (W.alloc o) := (Below.refl _ W).alloc hWD _
  have hbel : Below D W w3 := hba.grown hgrow (by simp; omega) hVb
  have hrow3 : w3.ownsRow B 29 1 (.slice (some ⟨s, 0, none⟩) m m) m vs := World.ownsRow.kept (hrow.alloc o) hgrow (.inr (fun e => by have := hVb s e.symm; omega))
  have hset := hrow3.stored a v'
  have hlt : ∀ a', a' < m → ∀ q, (vs.getD a' undef).ownBlock = some q → q < W.heap.size := fun a' ha' q hq => (hown a' ha').lt q hq
  have hget : ∀ a', a' < m → (vs.set a v').getD a' undef = if a' = a then v' else vs.getD a' undef := by
    intro a' ha'
    simp only [List.getD, List.getElem?_set]
    by_cases h : a = a'
    · subst h
      simp [hvl, ha]
    · rw [if_neg h, if_neg (fun e => h e.symm)]
  refine ⟨?_, hrow3.frozenAt a, hbel, ⟨vs.set a v', hset.1, by simp [hvl], ?_, ?_, ?_⟩, ?_, hset.2⟩
  · rw [hrow3.cellAt a (by omega), hV]
    simp [List.getD, hvl, ha]
  · intro a' ha'
    rw [hget a' ha']
    by_cases h : a' = a
    · subst h
      rw [if_pos rfl, hF1]
      exact hown'.grown hset.2 (fun q hq e => by have := hown'.at_base q hq; cases e; omega)
    · rw [if_neg h, hF2 a' ha' h]
      have h1 := (hown a' ha').below ((Below.refl _ W).alloc (Nat.le_refl _) o)
      have h2 := h1.grown hgrow (fun q hq e => h (hdis a' a q ha' ha hq (by rw [← hV]; exact e)))
      exact h2.grown hset.2 (fun q hq e => by have := h2.at_base q hq; cases e; omega)
  · intro x y q hx hy h1 h2
    rw [hget x hx] at h1
    rw [hget y hy] at h2
    by_cases ex : x = a
    · by_cases ey : y = a
      · rw [ex, ey]
      · rw [if_pos ex] at h1
        rw [if_neg ey] at h2
        rcases hat with h | h
        · exact absurd (hdis y a q hy ha h2 (by rw [← hV, ← h]; exact h1)) ey
        · rw [h] at h1
          have := hlt y hy q h2
          simp at h1
          omega
    · rw [if_neg ex] at h1
      by_cases ey : y = a
      · rw [if_pos ey] at h2
        rcases hat with h | h
        · exact absurd (hdis x a q hx ha h1 (by rw [← hV, ← h]; exact h2)) ex
        · rw [h] at h2
          have := hlt x hx q h1
          simp at h2
          omega
      · rw [if_neg ey] at h2
        exact hdis x y q hx hy h1 h2
  · intro x q hx hq
    rw [hget x hx] at hq
    by_cases ex : x = a
    · subst ex
      rw [if_pos rfl] at hq
      rcases hat with h | h
      · exact hP x q hx (by rw [← hV, ← h]; exact hq)
      · rw [h] at hq
        simp at hq
        exact hPn q (by omega)
    · rw [if_neg ex] at hq
      exact hP x q hx hq
  · intro k hk hks hkV
    rw [Below.heap_setCell _ _ _ _ (by simpa using hks), hgrow.block k (by simp; omega) (fun e => hkV e.symm)]
    exact Below.heap_alloc _ _ _ hk

theorem Of_code (n : Int) (A : Option Addr) (k c : Nat) (ls : List Gr.Ln) (a : Int) (w : World) (hr : RdP w w.heap.size A k c ls) (h : Gr.code n ls ≠ 0) :
    Calls Try.prog 8 #[.int .i64 n, .slice A k c, .int .i64 a] w fun e w' => e = .returned (.tuple #[.slice none 0 0, errv (Gr.code n ls)]) ∧ Below w.heap.size w w' := by
  have H := Lib.hid h
  clear h
  obtain ⟨W1, hW1⟩ : ∃ W1, W1 = ((w.alloc (.cells #[.int .i64 n] 3)).alloc (.cells #[.slice A k c] 22)).alloc (.cells #[.int .i64 a] 3) := ⟨_, rfl⟩
  have hb1 : Below w.heap.size w W1 := by rw [hW1]; exact (((Below.refl _ _).alloc (Nat.le_refl _) _).alloc (by simp) _).alloc (by simp; omega) _
  have HW1 := Lib.hid hW1
  have hr1 := hr.past hb1
  clear hW1
  go_enter Try.func8, Try.ntmps8
  go_wp2_with fail
  rw [← HW1.out]
  refine (GCheck_err n A k c ls _ hr1 H.out).mono ?_
  rintro e w1 ⟨rfl, hb⟩
  go_wp2
  go_ret2
  exact ⟨rfl, hb1.trans (hb.mono hb1.size)⟩

theorem Of_range (n : Int) (A : Option Addr) (k c : Nat) (ls : List Gr.Ln) (a : Int) (w : World) (hr : RdP w w.heap.size A k c ls) (h : Gr.code n ls = 0) (ha : a < 0 ∨ n ≤ a) :
    Calls Try.prog 8 #[.int .i64 n, .slice A k c, .int .i64 a] w fun e w' => e = .returned (.tuple #[.slice none 0 0, errv 1]) ∧ Below w.heap.size w w' := by
  have H := Lib.hid h
  clear h
  obtain ⟨s, hs⟩ : ∃ s, s = w.heap.size := ⟨_, rfl⟩
  obtain ⟨W1, hW1⟩ : ∃ W1, W1 = ((w.alloc (.cells #[.int .i64 n] 3)).alloc (.cells #[.slice A k c] 22)).alloc (.cells #[.int .i64 a] 3) := ⟨_, rfl⟩
  have hb1 : Below w.heap.size w W1 := by rw [hW1]; exact (((Below.refl _ _).alloc (Nat.le_refl _) _).alloc (by simp) _).alloc (by simp; omega) _
  have hs1 : W1.heap.size = s + 3 := by rw [hW1, hs]; simp
  have hc0 : W1.cell? ⟨s, 0, none⟩ = some (.int .i64 n) := by
    rw [hW1, hs]
    exact (((Boxed.new w _ _).alloc _).alloc _).cell
  have hc2 : W1.cell? ⟨s + 2, 0, none⟩ = some (.int .i64 a) := by
    rw [hW1, hs]
    have := Boxed.new ((w.alloc (.cells #[.int .i64 n] 3)).alloc (.cells #[.slice A k c] 22)) 3 (.int .i64 a)
    simp only [World.size_alloc, Nat.add_assoc, Nat.reduceAdd] at this
    exact this.cell
  have HW1 := Lib.hid hW1
  have HS := Lib.hid hs
  have HS1 := Lib.hid hs1
  have hr1 := hr.past hb1
  clear hW1 hs hs1
  by_cases h1 : a < 0
  · clear ha
    go_enter Try.func8, Try.ntmps8
    go_wp2_with fail
    rw [← HW1.out, ← HS.out]
    refine (GCheck_nil n A k c ls _ hr1 H.out).mono ?_
    rintro e w1 ⟨rfl, hb⟩
    have g0 := (hb.cell (p := ⟨s, 0, none⟩) (by simp [HS1.out])).trans hc0
    have g2 := (hb.cell (p := ⟨s + 2, 0, none⟩) (by simp [HS1.out])).trans hc2
    go_wp2
    go_ret2
    exact ⟨rfl, hb1.trans (hb.mono hb1.size)⟩
  · have h2 : n ≤ a := by omega
    have h3 : 0 ≤ a := by omega
    have hd : decide (a < 0) = false := by simp; omega
    clear ha h1
    go_enter Try.func8, Try.ntmps8
    go_wp2_with fail
    rw [← HW1.out, ← HS.out]
    refine (GCheck_nil n A k c ls _ hr1 H.out).mono ?_
    rintro e w1 ⟨rfl, hb⟩
    have g0 := (hb.cell (p := ⟨s, 0, none⟩) (by simp [HS1.out])).trans hc0
    have g2 := (hb.cell (p := ⟨s + 2, 0, none⟩) (by simp [HS1.out])).trans hc2
    go_wp2
    go_ret2
    exact ⟨rfl, hb1.trans (hb.mono hb1.size)⟩

/-- what stands still: the three boxes, the box of the rows -/
def OfB (w : World) (s m st : Nat) (A : Option Addr) (k c : Nat) (W : World) : Prop :=
  W.cell? ⟨w.heap.size, 0, none⟩ = some (.int .i64 (m : Int)) ∧ W.cell? ⟨w.heap.size + 1, 0, none⟩ = some (.slice A k c) ∧ W.cell? ⟨w.heap.size + 2, 0, none⟩ = some (.int .i64 (st : Int)) ∧
  W.cell? ⟨s + 1, 0, none⟩ = some (.slice (some ⟨s, 0, none⟩) m m) ∧ Below w.heap.size w W ∧ s + 5 ≤ W.heap.size ∧ w.heap.size + 3 ≤ s
theorem OfB.below {w : World} {s m st : Nat} {A : Option Addr} {k c : Nat} {W W' : World} (h : OfB w s m st A k c W) (hb : Below (s + 2) W W') : OfB w s m st A k c W' := by
  obtain ⟨h1, h2, h3, h4, h5, h6, h7⟩ := h
  exact ⟨(hb.cell (p := ⟨w.heap.size, 0, none⟩) (by simp; omega)).trans h1, (hb.cell (p := ⟨w.heap.size + 1, 0, none⟩) (by simp; omega)).trans h2, (hb.cell (p := ⟨w.heap.size + 2, 0, none⟩) (by simp; omega)).trans h3, (hb.cell (p := ⟨s + 1, 0, none⟩) (by simp)).trans h4, h5.trans (hb.mono (by omega)), Nat.le_trans h6 hb.size, h7⟩
theorem OfB.set {w : World} {s m st : Nat} {A : Option Addr} {k c : Nat} {W : World} (h : OfB w s m st A k c W) (a : Nat) (v : Value) : OfB w s m st A k c (W.setCell ⟨s, a, none⟩ v) := by
  obtain ⟨h1, h2, h3, h4, h5, h6, h7⟩ := h
  have key : ∀ b, b ≠ s → (W.setCell ⟨s, a, none⟩ v).cell? ⟨b, 0, none⟩ = W.cell? ⟨b, 0, none⟩ := fun b hb => World.cell?_setCell_other _ _ _ _ (fun e => hb (congrArg Addr.block e).symm)
  exact ⟨(key _ (by omega)).trans h1, (key _ (by omega)).trans h2, (key _ (by omega)).trans h3, (key _ (by omega)).trans h4, h5.setCell (p := ⟨s, a, none⟩) (show w.heap.size ≤ s by omega) _, by simpa using h6, h7⟩
/-- the rows when those of pre are done, and of v's row what is below d -/
def FP (m : Nat) (ls : List Gr.Ln) (st : Nat) (pre : List Int) (a : Nat) : List Int := if (a : Int) ∈ pre then Do.dl m ls st a else []
def FD (m : Nat) (ls : List Gr.Ln) (st v d : Nat) (pre : List Int) (a : Nat) : List Int := if a = v then Do.dlTo m ls st v d else FP m ls st pre a
theorem FD_len {m : Nat} {ls : List Gr.Ln} {st v d : Nat} {pre : List Int} : (FD m ls st v d pre v).length ≤ d := by unfold FD; rw [if_pos rfl]; exact Do.dlTo_len v d

set_option maxRecDepth 100000 in
set_option maxHeartbeats 4000000 in
theorem Of_in (m st : Nat) (A : Option Addr) (k c : Nat) (ls : List Gr.Ln) (w : World) (hr : RdP w w.heap.size A k c ls) (h : Gr.code (m : Int) ls = 0) (hst : st < m) :
    CallsIn Fence.wide 10 Try.prog 8 #[.int .i64 (m : Int), .slice A k c, .int .i64 (st : Int)] w fun e w' => ∃ A1 c1, e = .returned (.tuple #[.slice A1 m c1, .nilIface]) ∧ RdR w' w'.heap.size A1 m c1 (Do.dls m ls st) ∧ Below w.heap.size w w' := by
  have hm8 : m ≤ 8 := by have := (Gr.code_zero.1 h).2.1; omega
  have hm1 : 1 ≤ m := by omega
  have HG := Lib.hid (Gr.code_zero.1 h).2.2.2
  have H := Lib.hid h
  clear h
  have hro : Fence.wide.round = none := rfl
  have hF1 : Fence.wide.fn 17 := trivial
  have hF2 : Fence.wide.fn 18 := trivial
  have hF3 : Fence.wide.fn 19 := trivial
  have hd1 : decide ((st : Int) < 0) = false := by simp
  have hd2 : decide ((m : Int) ≤ (st : Int)) = false := by simp; omega
  have hd3 : decide (m ≤ st) = false := by simp; omega
  have hml : m ≤ maxLen := by simp only [maxLen]; omega
  obtain ⟨i0, hi, hz0, hz1, hz2⟩ := info_parts rowInfo
  have hby : i0.bytes * m ≤ 281474976710656 := by rw [hz2]; omega
  obtain ⟨s0, hs0⟩ : ∃ s0, s0 = w.heap.size := ⟨_, rfl⟩
  obtain ⟨W1, hW1⟩ : ∃ W1, W1 = ((w.alloc (.cells #[.int .i64 (m : Int)] 3)).alloc (.cells #[.slice A k c] 22)).alloc (.cells #[.int .i64 (st : Int)] 3) := ⟨_, rfl⟩
  have hb1 : Below w.heap.size w W1 := by rw [hW1]; exact (((Below.refl _ _).alloc (Nat.le_refl _) _).alloc (by simp) _).alloc (by simp; omega) _
  have hs1 : W1.heap.size = s0 + 3 := by rw [hW1, hs0]; simp
  have hc0 : W1.cell? ⟨s0, 0, none⟩ = some (.int .i64 (m : Int)) := by
    rw [hW1, hs0]
    exact (((Boxed.new w _ _).alloc _).alloc _).cell
  have hc1 : W1.cell? ⟨s0 + 1, 0, none⟩ = some (.slice A k c) := by
    rw [hW1, hs0]
    have := Boxed.new (w.alloc (.cells #[.int .i64 (m : Int)] 3)) 22 (.slice A k c)
    simp only [World.size_alloc, Nat.add_assoc, Nat.reduceAdd] at this
    exact (this.alloc _).cell
  have hc2 : W1.cell? ⟨s0 + 2, 0, none⟩ = some (.int .i64 (st : Int)) := by
    rw [hW1, hs0]
    have := Boxed.new ((w.alloc (.cells #[.int .i64 (m : Int)] 3)).alloc (.cells #[.slice A k c] 22)) 3 (.int .i64 (st : Int))
    simp only [World.size_alloc, Nat.add_assoc, Nat.reduceAdd] at this
    exact this.cell
  have hr1 := hr.past hb1
  have HW1 := Lib.hid hW1
  have HS0 := Lib.hid hs0
  have HS1 := Lib.hid hs1
  clear hW1 hs0 hs1
  refine callsIn_of_wp_marks Try.func8 rfl trivial ?_ hro
  simp only [Try.ntmps8, List.size_toArray, List.length_cons, List.length_nil, Nat.reduceAdd, Nat.reduceSub, Array.replicate_succ, Array.replicate_zero, List.push_toArray, List.append_toArray, List.nil_append, List.cons_append]
  gi_wp2_with (first
    | (gi_at_call 17; rw [← HW1.out, ← HS0.out]; refine (callsIn_wide.2 (GCheck_nil (m : Int) A k c ls _ hr1 H.out)).mono ?_; rintro e w1 ⟨rfl, hb⟩; have hbs : s0 + 3 ≤ w1.heap.size := (by have := hb.size; rw [HS1.out] at this; exact this); have g0 := (hb.cell (p := ⟨s0, 0, none⟩) (by simp [HS1.out])).trans hc0; have g1 := (hb.cell (p := ⟨s0 + 1, 0, none⟩) (by simp [HS1.out])).trans hc1; have g2 := (hb.cell (p := ⟨s0 + 2, 0, none⟩) (by simp [HS1.out])).trans hc2)
    | (gi_at_make; refine wpListIn_mk _ rfl (.tmp 26) (.tmp 26) 24 rfl s0 29 i0 (.slice none 0 0) 1 Try.underlying24 hi hz0 hz1 .i64 .i64 m rfl rfl hby hml (by omega) ?_; intro w2 hrow2 hg2 hsz2; have hb12 : Below w1.heap.size w1 w2 := (Below.refl _ _).grown hg2 (Nat.le_refl _) (fun _ e => by cases e); have q1 : (w2.alloc (Obj.cells #[Value.slice (some ⟨w1.heap.size, 0, none⟩) m m] 24)).cell? ⟨s0 + 1, 0, none⟩ = some (.slice A k c) := (((Below.refl w2.heap.size w2).alloc (Nat.le_refl _) _).cell (p := ⟨s0 + 1, 0, none⟩) (by simp; omega)).trans ((hb12.cell (p := ⟨s0 + 1, 0, none⟩) (by simp; omega)).trans g1); have q2 : (w2.alloc (Obj.cells #[Value.slice (some ⟨w1.heap.size, 0, none⟩) m m] 24)).cell? ⟨s0 + 2, 0, none⟩ = some (.int .i64 (st : Int)) := (((Below.refl w2.heap.size w2).alloc (Nat.le_refl _) _).cell (p := ⟨s0 + 2, 0, none⟩) (by simp; omega)).trans ((hb12.cell (p := ⟨s0 + 2, 0, none⟩) (by simp; omega)).trans g2))
    | (gi_at_call 18; refine (callsIn_wide.2 (reached_any _ _ _ _ _ _)).mono ?_; rintro e w3 ⟨rfl, rfl⟩))
  obtain ⟨s, hs⟩ : ∃ s, s = w1.heap.size := ⟨_, rfl⟩
  rw [← hs] at hsz2 hrow2 hb12 hbs
  simp only [← hs, hsz2, World.size_alloc, Nat.add_assoc, Nat.reduceAdd]
  obtain ⟨W0, hW0⟩ : ∃ W0, W0 = (((w2.alloc (Obj.cells #[Value.slice (some ⟨s, 0, none⟩) m m] 24)).alloc (Obj.cells #[Value.slice A k c] 22)).alloc (Obj.cells #[Value.int IntKind.i64 (st : Int)] 3)).alloc (Obj.cells #[Value.int IntKind.i64 (-1)] 3) := ⟨_, rfl⟩
  rw [← hW0]
  have hsz : W0.heap.size = s + 5 := by rw [hW0]; simp [hsz2]
  have hb20 : Below (s + 1) w2 W0 := by
    rw [hW0]
    exact ((((Below.refl _ _).alloc (by omega) _).alloc (by simp; omega) _).alloc (by simp; omega) _).alloc (by simp; omega) _
  have hb10 : Below s w1 W0 := hb12.trans (hb20.mono (by omega))
  have hB0 : Below w.heap.size w W0 := (hb1.trans (hb.mono hb1.size)).trans (hb10.mono (by have := HS0.out; omega))
  have bO : Boxed W0 (s + 1) 24 (.slice (some ⟨s, 0, none⟩) m m) := by
    rw [hW0]
    have := Boxed.new w2 24 (.slice (some ⟨s, 0, none⟩) m m)
    simp only [World.size_alloc, hsz2, Nat.add_assoc, Nat.reduceAdd] at this
    exact (((this.alloc _).alloc _).alloc _)
  have hBo : OfB w s m st A k c W0 := by
    refine ⟨?_, ?_, ?_, bO.cell, hB0, by omega, by rw [← HS0.out]; exact hbs⟩
    · rw [← HS0.out]; exact (hb10.cell (p := ⟨s0, 0, none⟩) (by simp; omega)).trans g0
    · rw [← HS0.out]; exact (hb10.cell (p := ⟨s0 + 1, 0, none⟩) (by simp; omega)).trans g1
    · rw [← HS0.out]; exact (hb10.cell (p := ⟨s0 + 2, 0, none⟩) (by simp; omega)).trans g2
  have hG0 : ReG w.heap.size (s + 3) (s + 4) (s + 2) A k c ls (st : Int) (-1) W0 := by
    refine ⟨hB0.size, hr.below hB0, ?_, ?_, ?_⟩
    · rw [hW0]
      have := Boxed.new ((w2.alloc (Obj.cells #[Value.slice (some ⟨s, 0, none⟩) m m] 24)).alloc (Obj.cells #[Value.slice A k c] 22)) 3 (.int .i64 (st : Int))
      simp only [World.size_alloc, hsz2, Nat.add_assoc, Nat.reduceAdd] at this
      exact (this.alloc _).cell
    · rw [hW0]
      have := Boxed.new (((w2.alloc (Obj.cells #[Value.slice (some ⟨s, 0, none⟩) m m] 24)).alloc (Obj.cells #[Value.slice A k c] 22)).alloc (Obj.cells #[Value.int IntKind.i64 (st : Int)] 3)) 3 (.int .i64 (-1))
      simp only [World.size_alloc, hsz2, Nat.add_assoc, Nat.reduceAdd] at this
      exact this.cell
    · rw [hW0]
      have := Boxed.new (w2.alloc (Obj.cells #[Value.slice (some ⟨s, 0, none⟩) m m] 24)) 22 (.slice A k c)
      simp only [World.size_alloc, hsz2, Nat.add_assoc, Nat.reduceAdd] at this
      exact ((this.alloc _).alloc _).cell
  have hcells : (madeCells (Value.slice none 0 0).cells (m * 1)).toList = List.replicate m (Value.slice none 0 0) := by
    rw [Nat.mul_one, show (Value.slice none 0 0).cells = #[Value.slice none 0 0] from rfl, toList_madeCells_one]
  rw [hcells] at hrow2
  have hI0 : RwsI w.heap.size s m (s + 5) (FP m ls st []) (fun _ _ => False) W0 := by
    have key : ∀ a, a < m → (List.replicate m (Value.slice none 0 0)).getD a undef = .slice none 0 0 := fun a ha => by simp [List.getD, ha]
    refine ⟨List.replicate m (Value.slice none 0 0), ?_, List.length_replicate, fun a ha => ?_, fun a a' q ha ha' hq => ?_, fun a q ha hq => ?_⟩
    · rw [hW0, ← HS0.out]
      exact (((hrow2.alloc _).alloc _).alloc _).alloc _
    · rw [key a ha]
      unfold FP
      rw [if_neg (by simp)]
      exact Own.nil _ _ _
    · rw [key a ha] at hq
      cases hq
    · rw [key a ha] at hq
      cases hq
  have hs3 : w.heap.size + 3 ≤ s := by rw [← HS0.out]; exact hbs
  clear hW0 hs hb hrow2 hg2 hsz2 hb12 hb20 hb10 hB0 q1 q2 g0 g1 g2 hc0 hc1 hc2 hb1 hr1 bO hcells hi hz0 hz1 hz2 hby
  refine wpIn_range_cellsT hro (by omega) (gf := 25) (lb := #[.pointer (some ⟨s + 3, 0, none⟩), .pointer (some ⟨s + 4, 0, none⟩), .pointer (some ⟨s + 2, 0, none⟩)]) rfl trivial (enters_of Try.func25 (by kernel_rfl) rfl) (X := fun q => q = s) (zs := Do.out m ls (-1) (st : Int))
    (reached1_seqT w.heap.size (s + 3) (s + 4) (s + 2) A k c ls m st (-1) hm8 hst HG.out _ W0 hG0 (fun q hq => by omega) (fun q hq => by omega) (by omega) (by omega) (by omega))
    (fun q hq => by omega) (fun _ => rfl)
    (fun T pre W => RwsI w.heap.size s m (s + 5) (FP m ls st pre) (fun _ q => T q) W ∧ (∀ q, T q → q < W.heap.size) ∧ OfB w s m st A k c W)
    (fun _ _ => False)
    (fun T pre U V h hb ht => ⟨h.1.same (hb.block s (by omega)) (fun a q _ _ hq => ht q hq), fun q hq => Nat.lt_of_lt_of_le (h.2.1 q hq) hb.size, h.2.2.below (hb.mono (by omega))⟩)
    (fun T pre U h => h.2.1)
    (fun _ _ _ h _ => h) ⟨hI0, fun _ h => h.elim, hBo⟩
    (fun x => { tmps := #[.int .i64 (m : Int), .slice A k c, .int .i64 (st : Int), .pointer (some ⟨s0, 0, none⟩), .pointer (some ⟨s0 + 1, 0, none⟩), .pointer (some ⟨s0 + 2, 0, none⟩), .slice none 0 0, .nilIface, .nilIface, .pointer (some ⟨s + 1, 0, none⟩), .int .i64 x, undef,
      .int .i64 (m : Int), .slice A k c, .nilIface, .nilIface, .bool false, undef, .int .i64 (st : Int), .bool false, .bool false, .int .i64 (st : Int), .int .i64 (m : Int), .bool false, .bool false, undef, .int .i64 (m : Int), .slice (some ⟨s, 0, none⟩) m m, .slice A k c, .int .i64 (st : Int),
      .func (.func 25) #[] #[.pointer (some ⟨s + 3, 0, none⟩), .pointer (some ⟨s + 4, 0, none⟩), .pointer (some ⟨s + 2, 0, none⟩)], .int .i64 x,
      undef, undef, undef, undef, undef, undef, undef, undef, undef, undef, undef, undef, undef, undef, undef, undef, undef, undef, undef, undef, undef], defers := [] }) ?assign ?body ?done ?stop
  case assign =>
    intro x l W K hK
    simp only [encI]
    gi_wp2
    exact hK
  case body =>
    rintro T pre x hpre l W hTl hWl ⟨hrw, hTs, hbb⟩
    have hmem : x ∈ Do.out m ls (-1) (st : Int) := hpre.subset (by simp)
    have hnd := List.Nodup.sublist hpre.sublist (Do.out_nodup (av := -1) hst HG.out)
    have hxp : x ∉ pre := fun hx => (List.nodup_append.1 hnd).2.2 x hx x (by simp) rfl
    obtain ⟨v, rfl, hv⟩ := Do.out_lt hst HG.out hmem
    have HRE := Lib.hid ((Do.out_all hst HG.out).1 hmem)
    have hI1 : RwsI w.heap.size s m (s + 5) (FD m ls st v 0 pre) (fun _ q => T q ∨ W.heap.size ≤ q) W := by
      refine hrw.congr (fun a ha => ?_) (fun a q _ _ hq => .inl hq)
      unfold FD
      by_cases e : a = v
      · subst e
        rw [if_pos rfl]
        unfold FP
        rw [if_neg hxp]
        rfl
      · rw [if_neg e]
    have HXP := Lib.hid hxp
    have v1 : (0 : Int) ≤ (v : Int) := by omega
    have v2 : (v : Int) < (m : Int) := by omega
    have g0 := hbb.1
    rw [← HS0.out] at g0
    clear hmem hnd hxp hpre hrw
    gi_wp2
    gi_loopw [11, 33] (fun _ dv wr => ∃ d : Nat, d ≤ m ∧ dv = .int .i64 (d : Int) ∧ RwsI w.heap.size s m (s + 5) (FD m ls st v d pre) (fun _ q => T q ∨ W.heap.size ≤ q) wr ∧ Kept (fun q => q = s ∨ T q) W wr ∧ OfB w s m st A k c wr) (fun _ dv _ => m - (intOf dv).toNat)
    case atStart => exact ⟨0, Nat.zero_le _, rfl, hI1, Kept.refl _ _, hbb⟩
    case round =>
      clear hI1 hbb g0
      obtain ⟨d, hd, rfl, hrw, hkW, hbb⟩ := hrel
      by_cases hlt : d < m
      · have g1 := hbb.2.1
        have g2 := hbb.2.2.1
        rw [← HS0.out] at g1 g2
        have hrl : RdP wr wr.heap.size A k c ls := hr.past hbb.2.2.2.2.1
        obtain ⟨t, ht⟩ : ∃ t, Do.dom m ls st v d = t := ⟨_, rfl⟩
        have HD := Lib.hid (dominates_any m st A k c ls (d : Int) (v : Int) t wr hrl hm8 hst HG.out (by rw [Do.out_dom hst HG.out HRE.out d, ht]))
        have hDw := hbb.2.2.2.2.2.1
        cases t with
        | false =>
          have HF : Hid (∀ a, a < m → FD m ls st v d pre a = FD m ls st v (d + 1) pre a) := by
            show ∀ a, _
            intro a ha
            unfold FD
            rw [Do.dlTo_no ht]
          clear ht hrl
          gi_wp2_with (first
            | (gi_at_call 19; refine (CallsIn.inRound l (callsIn_wide.2 HD.out)).mono ?_; rintro e w5 ⟨rfl, hb5⟩))
          go_roundw
          case rel => exact ⟨d + 1, by omega, by go_num, (hrw.below (by omega) hb5).congr HF.out (fun _ _ _ _ h => h), ⟨Nat.le_trans hkW.1 hb5.size, fun q hq hx => (hb5.block q (Nat.lt_of_lt_of_le hq hkW.1)).trans (hkW.2 q hq hx)⟩, hbb.below (hb5.mono (by omega))⟩
          case measure => simp [intOf]; omega
        | true =>
          have HF1 : Hid (FD m ls st v (d + 1) pre v = FD m ls st v d pre v ++ [(d : Int)]) := by
            show _ = _
            unfold FD
            rw [if_pos rfl, if_pos rfl, Do.dlTo_yes ht]
          have HF2 : Hid (∀ x, x < m → x ≠ v → FD m ls st v (d + 1) pre x = FD m ls st v d pre x) := by
            show ∀ x, _
            intro x _ hx
            unfold FD
            rw [if_neg hx, if_neg hx]
          have HROOM : Hid ((FD m ls st v d pre v).length + 1 ≤ 17592186044416) := by
            show _ ≤ _
            have := FD_len (m := m) (ls := ls) (st := st) (v := v) (d := d) (pre := pre)
            omega
          clear ht hrl
          gi_wp2_with (first
            | (gi_at_call 19; refine (CallsIn.inRound l (callsIn_wide.2 HD.out)).mono ?_; rintro e w5 ⟨rfl, hb5⟩))
          rename_i K1 hK1
          have hbb5 := hbb.below (hb5.mono (by omega))
          have hrw5 := hrw.below (by omega) hb5
          have hkW5 : Kept (fun q => q = s ∨ T q) W w5 := ⟨Nat.le_trans hkW.1 hb5.size, fun q hq hx => (hb5.block q (Nat.lt_of_lt_of_le hq hkW.1)).trans (hkW.2 q hq hx)⟩
          obtain ⟨Wd, hWd⟩ : ∃ Wd, Wd = w5.drew := ⟨_, rfl⟩
          have hBd : OfB w s m st A k c Wd := by
            rw [hWd]
            exact ⟨hbb5.1, hbb5.2.1, hbb5.2.2.1, hbb5.2.2.2.1, hbb5.2.2.2.2.1.drew, hbb5.2.2.2.2.2⟩
          have hKd : Kept (fun q => q = s ∨ T q) W Wd := by rw [hWd]; exact hkW5
          have hrd : RwsI w.heap.size s m (s + 5) (FD m ls st v d pre) (fun _ q => T q ∨ W.heap.size ≤ q) Wd := by rw [hWd]; exact hrw5
          have hW5 : W.heap.size ≤ Wd.heap.size := hKd.1
          have hD5 : s + 5 ≤ Wd.heap.size := hBd.2.2.2.2.2.1
          clear hbb hbb5 hrw hrw5 hkW hkW5 hb5
          obtain ⟨vs, hrowd, hvl, hownd, hdis, hP⟩ := hrd
          obtain ⟨V, hV⟩ : ∃ V, V = vs.getD v undef := ⟨_, rfl⟩
          have hcad : Wd.cell? ⟨s, v, none⟩ = some V := by
            rw [hrowd.cellAt v (by omega), hV]
            simp [List.getD, hvl, hv]
          have hS1 : Wd.cell? ⟨s + 1, 0, none⟩ = some (.slice (some ⟨s, 0, none⟩) m m) := hBd.2.2.2.1
          have hca2 : (Wd.alloc (.cells #[.int .i64 (d : Int)] 3)).cell? ⟨s, v, none⟩ = some V := ((Below.refl _ Wd).alloc (Nat.le_refl _) _).cell (World.block_lt_of_cell? Wd _ hcad) |>.trans hcad
          have hS2 : (Wd.alloc (.cells #[.int .i64 (d : Int)] 3)).cell? ⟨s + 1, 0, none⟩ = some (.slice (some ⟨s, 0, none⟩) m m) := ((Below.refl _ Wd).alloc (Nat.le_refl _) _).cell (World.block_lt_of_cell? Wd _ hS1) |>.trans hS1
          have hoA2 : Own (Wd.alloc (.cells #[.int .i64 (d : Int)] 3)) (s + 5) 3 V (FD m ls st v d pre v) := by
            have := hownd v hv
            rw [← hV] at this
            exact this.below ((Below.refl _ Wd).alloc (Nat.le_refl _) _)
          have HV := Lib.hid hV
          clear hV
          refine wpIn_round_held (S := fun w' => w'.cell? ⟨s + 1, 0, none⟩ = some (.slice (some ⟨s, 0, none⟩) m m)) (by kernel_rfl) ?hnd ?hno (by rw [← hWd]; exact hS1) ?hgo
          case hnd =>
            intro j o ho c hd
            have hmem := Array.mem_of_getElem? ho
            simp only [List.mem_toArray, List.mem_cons, List.not_mem_nil, or_false] at hmem
            rcases hmem with rfl | rfl | rfl | rfl | rfl | rfl | rfl | rfl | rfl | rfl | rfl <;> cases hd
          case hno =>
            rintro ⟨_, _, h⟩
            exact h
          case hgo =>
            intro _
            rw [← hWd]
            clear hWd
            refine wpAnyH_take (i := 1) (v := .int .i64 (v : Int)) rfl (by kernel_rfl) (by kernel_rfl) (by kernel_rfl) (fun _ _ _ h => h) (Or.inl ⟨by rfl, ?_⟩) (by assumption) ?_
            · intro w hSw
              go_simp
            simp only [Act.put, List.setIfInBounds_toArray, List.set_cons_zero, List.set_cons_succ]
            refine wpAnyH_take (i := 3) (v := .int .i64 (v : Int)) rfl (by kernel_rfl) (by kernel_rfl) (by kernel_rfl) (fun _ _ _ h => h) (Or.inl ⟨by rfl, ?_⟩) (by assumption) ?_
            · intro w hSw
              go_simp
            simp only [Act.put, List.setIfInBounds_toArray, List.set_cons_zero, List.set_cons_succ]
            refine wpAnyH_take (i := 6) (v := .int .i64 (d : Int)) rfl (by kernel_rfl) (by kernel_rfl) (by kernel_rfl) (fun _ _ _ h => h) (Or.inl ⟨by rfl, ?_⟩) (by assumption) ?_
            · intro w hSw
              go_simp
            simp only [Act.put, List.setIfInBounds_toArray, List.set_cons_zero, List.set_cons_succ]
            refine wpAnyH_take (i := 0) (v := .slice (some ⟨s, 0, none⟩) m m) rfl (by kernel_rfl) (by kernel_rfl) (by kernel_rfl) (fun _ _ _ h => h) (Or.inl ⟨by rfl, ?_⟩) (by assumption) ?_
            · intro w hSw
              go_simp
            simp only [Act.put, List.setIfInBounds_toArray, List.set_cons_zero, List.set_cons_succ]
            refine wpAnyH_take (i := 2) (v := .slice (some ⟨s, 0, none⟩) m m) rfl (by kernel_rfl) (by kernel_rfl) (by kernel_rfl) (fun _ _ _ h => h) (Or.inl ⟨by rfl, ?_⟩) (by assumption) ?_
            · intro w hSw
              go_simp
            simp only [Act.put, List.setIfInBounds_toArray, List.set_cons_zero, List.set_cons_succ]
            refine wpAnyH_take (i := 4) (v := .pointer (some ⟨s, v, none⟩)) rfl (by kernel_rfl) (by kernel_rfl) (by kernel_rfl) (fun _ _ _ h => h) (Or.inl ⟨by rfl, ?_⟩) (by assumption) ?_
            · intro w hSw
              go_simp
            simp only [Act.put, List.setIfInBounds_toArray, List.set_cons_zero, List.set_cons_succ]
            refine wpAnyH_ready (rs := [5, 7]) (by kernel_rfl) (by simp) ?_
            refine AllReadyH.cons rfl (fun K hK => ?_) ?_
            · go_simp
              refine hK.out _ _ hS1 (fun _ => ?_)
              clear hK K
              refine wpAnyH_ready (rs := [7]) (by kernel_rfl) (by simp) ?_
              refine AllReadyH.cons rfl (fun K hK => ?_) AllReadyH.nil
              go_simp
              refine hK.out _ _ hS2 (fun _ => ?_)
              clear hK K
              refine wpAnyH_ready (rs := [8]) (by kernel_rfl) (by simp) ?_
              refine AllReadyH.cons rfl (fun K hK => ?_) AllReadyH.nil
              refine step_app (B := Wd.heap.size + 1) _ rfl (.tmp 46) (.tmp 48) 29 rfl (s + 5) 3 Try.underlying29 intInfo V _ rfl hoA2 (some ⟨Wd.heap.size, 0, none⟩) 1 1 [(d : Int)] rfl (Rd.one Wd _ _) HROOM.out (by simp; omega) ?_
              intro v' w3 hown3 hg3 hat3
              obtain ⟨f1, f2, f3, f4, f5, f6⟩ := rws_step (b := (d : Int)) (F' := FD m ls st v (d + 1) pre) hv Wd w3 _ vs V v' (by omega) hD5 hrowd hvl hownd hdis hP HV.out hown3 hg3 hat3 HF1.out HF2.out (fun q hq => .inr (Nat.le_trans hW5 hq))
              obtain ⟨A3, c3, hv3, _⟩ := hown3.rd
              obtain ⟨q3, hq3⟩ : ∃ q3, q3 = (FD m ls st v d pre v ++ [(d : Int)]).length := ⟨_, rfl⟩
              rw [← hq3] at hv3
              clear hq3
              subst hv3
              have hS3 : w3.cell? ⟨s + 1, 0, none⟩ = some (.slice (some ⟨s, 0, none⟩) m m) := (f3.cell (p := ⟨s + 1, 0, none⟩) (by simp)).trans hS1
              refine hK.out _ _ hS3 (fun _ => ?_)
              clear hK K
              simp only [Act.put, List.setIfInBounds_toArray, List.set_cons_zero, List.set_cons_succ]
              refine wpAnyH_ready (rs := [9]) (by kernel_rfl) (by simp) ?_
              refine AllReadyH.cons rfl (fun K hK => ?_) AllReadyH.nil
              go_simp
              refine hK.out _ _ hS3 (fun _ => ?_)
              clear hK K
              refine wpAnyH_ready (rs := [10]) (by kernel_rfl) (by simp) ?_
              refine AllReadyH.cons rfl (fun K hK => ?_) AllReadyH.nil
              go_simp
              have hB6 : OfB w s m st A k c (w3.setCell ⟨s, v, none⟩ (.slice A3 q3 c3)) := (hBd.below (f3.mono (by omega))).set v _
              have hS4 : (w3.setCell ⟨s, v, none⟩ (.slice A3 q3 c3)).cell? ⟨s + 1, 0, none⟩ = some (.slice (some ⟨s, 0, none⟩) m m) := hB6.2.2.2.1
              have hK6 : Kept (fun q => q = s ∨ T q) W (w3.setCell ⟨s, v, none⟩ (.slice A3 q3 c3)) := by
                have h3 := f3.size
                refine ⟨by simp; omega, fun q hq hx => ?_⟩
                rw [f5 q (by omega) (fun e => hx (.inl e)) (fun e => (hP v q hv (by rw [← HV.out]; exact e)).elim (fun h => hx (.inr h)) (fun h => by omega))]
                exact hKd.2 q hq hx
              refine hK.out _ _ hS4 (fun _ => ?_)
              clear hK K
              refine wpAnyH_done (by kernel_rfl) ?_ _
              refine hK1 _ _ ?_
              gi_wp2
              go_roundw
              case rel => exact ⟨d + 1, by omega, by go_num, f4, hK6, hB6⟩
              case measure => simp [intOf]; omega
            refine AllReadyH.cons rfl (fun K hK => ?_) AllReadyH.nil
            go_simp
            refine hK.out _ _ hS2 (fun _ => ?_)
            clear hK K
            refine wpAnyH_ready (rs := [5]) (by kernel_rfl) (by simp) ?_
            refine AllReadyH.cons rfl (fun K hK => ?_) AllReadyH.nil
            go_simp
            refine hK.out _ _ hS2 (fun _ => ?_)
            clear hK K
            refine wpAnyH_ready (rs := [8]) (by kernel_rfl) (by simp) ?_
            refine AllReadyH.cons rfl (fun K hK => ?_) AllReadyH.nil
            refine step_app (B := Wd.heap.size + 1) _ rfl (.tmp 46) (.tmp 48) 29 rfl (s + 5) 3 Try.underlying29 intInfo V _ rfl hoA2 (some ⟨Wd.heap.size, 0, none⟩) 1 1 [(d : Int)] rfl (Rd.one Wd _ _) HROOM.out (by simp; omega) ?_
            intro v' w3 hown3 hg3 hat3
            obtain ⟨f1, f2, f3, f4, f5, f6⟩ := rws_step (b := (d : Int)) (F' := FD m ls st v (d + 1) pre) hv Wd w3 _ vs V v' (by omega) hD5 hrowd hvl hownd hdis hP HV.out hown3 hg3 hat3 HF1.out HF2.out (fun q hq => .inr (Nat.le_trans hW5 hq))
            obtain ⟨A3, c3, hv3, _⟩ := hown3.rd
            obtain ⟨q3, hq3⟩ : ∃ q3, q3 = (FD m ls st v d pre v ++ [(d : Int)]).length := ⟨_, rfl⟩
            rw [← hq3] at hv3
            clear hq3
            subst hv3
            have hS3 : w3.cell? ⟨s + 1, 0, none⟩ = some (.slice (some ⟨s, 0, none⟩) m m) := (f3.cell (p := ⟨s + 1, 0, none⟩) (by simp)).trans hS1
            refine hK.out _ _ hS3 (fun _ => ?_)
            clear hK K
            simp only [Act.put, List.setIfInBounds_toArray, List.set_cons_zero, List.set_cons_succ]
            refine wpAnyH_ready (rs := [9]) (by kernel_rfl) (by simp) ?_
            refine AllReadyH.cons rfl (fun K hK => ?_) AllReadyH.nil
            go_simp
            refine hK.out _ _ hS3 (fun _ => ?_)
            clear hK K
            refine wpAnyH_ready (rs := [10]) (by kernel_rfl) (by simp) ?_
            refine AllReadyH.cons rfl (fun K hK => ?_) AllReadyH.nil
            go_simp
            have hB6 : OfB w s m st A k c (w3.setCell ⟨s, v, none⟩ (.slice A3 q3 c3)) := (hBd.below (f3.mono (by omega))).set v _
            have hS4 : (w3.setCell ⟨s, v, none⟩ (.slice A3 q3 c3)).cell? ⟨s + 1, 0, none⟩ = some (.slice (some ⟨s, 0, none⟩) m m) := hB6.2.2.2.1
            have hK6 : Kept (fun q => q = s ∨ T q) W (w3.setCell ⟨s, v, none⟩ (.slice A3 q3 c3)) := by
              have h3 := f3.size
              refine ⟨by simp; omega, fun q hq hx => ?_⟩
              rw [f5 q (by omega) (fun e => hx (.inl e)) (fun e => (hP v q hv (by rw [← HV.out]; exact e)).elim (fun h => hx (.inr h)) (fun h => by omega))]
              exact hKd.2 q hq hx
            refine hK.out _ _ hS4 (fun _ => ?_)
            clear hK K
            refine wpAnyH_done (by kernel_rfl) ?_ _
            refine hK1 _ _ ?_
            gi_wp2
            go_roundw
            case rel => exact ⟨d + 1, by omega, by go_num, f4, hK6, hB6⟩
            case measure => simp [intOf]; omega
      · obtain rfl : d = m := by omega
        have hF : RwsI w.heap.size s d (s + 5) (FP d ls st (pre ++ [(v : Int)])) (fun _ q => T q ∨ (W.heap.size ≤ q ∧ q < wr.heap.size)) wr := by
          refine hrw.congr (fun a ha => ?_) (fun a q _ hq h => h.imp id (fun h => ⟨h, hq⟩))
          unfold FD FP
          by_cases e : a = v
          · subst e
            rw [if_pos rfl, if_pos (by simp)]
            rfl
          · rw [if_neg e]
            by_cases e2 : (a : Int) ∈ pre
            · rw [if_pos e2, if_pos (by simp [e2])]
            · rw [if_neg e2, if_neg (by simp [e2]; omega)]
        have hkk := hkW.1
        clear hrw
        gi_wp2
        exact ⟨fun q => T q ∨ (W.heap.size ≤ q ∧ q < wr.heap.size), fun q hq => hq.imp id (fun h => h.1), hkW, hF, fun q hq => hq.elim (fun h => Nat.lt_of_lt_of_le (hTs q h) hkk) (fun h => h.2), hbb⟩
  case done =>
    rintro D T W hD hTD ⟨hrw, hTs, hbb⟩ hK
    have hc := hbb.2.2.2.1
    have hB' := hbb.2.2.2.2.1.trans (belowK_b (w := w) (Nat.le_refl _) W D _ (.deferred none) (by omega) hK rfl rfl)
    have hrw' : RwsI w.heap.size s m (s + 5) (FP m ls st (Do.out m ls (-1) (st : Int))) (fun _ q => T q) (W.putObj D (.deferred none)) := hrw.same (World.putObj_heap_other (by omega)) (fun a q _ _ hq => World.putObj_heap_other (by have := hTD q hq; omega))
    have hlt := hrw'.lt (by omega)
    have hrd : RdR (W.putObj D (.deferred none)) (W.putObj D (.deferred none)).heap.size (some ⟨s, 0, none⟩) m m (Do.dls m ls st) := by
      obtain ⟨vs, h1, h2, h3, _, _⟩ := hrw'
      refine ⟨Do.dls_len m ls st, Nat.le_refl _, by omega, fun h => (by cases h), fun _ => ⟨s, 0, rfl, hlt, fun j hj => ?_⟩⟩
      have h4 := h3 j hj
      have e : FP m ls st (Do.out m ls (-1) (st : Int)) j = Do.dl m ls st j := by
        unfold FP
        by_cases hh : (j : Int) ∈ Do.out m ls (-1) (st : Int)
        · rw [if_pos hh]
        · rw [if_neg hh, Do.dl_none]
          cases hx : Sg.reach m ls st j with
          | false => rfl
          | true => exact absurd ((Do.out_all hst HG.out).2 hx) hh
      rw [e] at h4
      obtain ⟨A', c', he, hr'⟩ := h4.rd
      rw [Do.dls_at hj]
      refine ⟨A', c', ?_, hr'⟩
      rw [Nat.zero_add, h1.cellAt j (by omega), ← he]
      simp [List.getD, h2, hj]
    clear hrw hrw' hbb hlt
    gi_wp2
    refine ⟨by simp, .inl ⟨_, _, rfl, run_takeDeferred hK, ?_⟩⟩
    exact ⟨_, results_tmp2 rfl _ _ _, _, _, rfl, hrd, hB'⟩
  case stop =>
    rintro D pre W _ _ h _
    exact h.elim

theorem Of_yes (m st : Nat) (A : Option Addr) (k c : Nat) (ls : List Gr.Ln) (w : World) (hr : RdP w w.heap.size A k c ls) (h : Gr.code (m : Int) ls = 0) (hst : st < m) :
    Calls Try.prog 8 #[.int .i64 (m : Int), .slice A k c, .int .i64 (st : Int)] w fun e w' => ∃ A1 c1, e = .returned (.tuple #[.slice A1 m c1, .nilIface]) ∧ RdR w' w'.heap.size A1 m c1 (Do.dls m ls st) ∧ Below w.heap.size w w' :=
  callsIn_wide.1 (Of_in m st A k c ls w hr h hst)
/-- what is wrong, as a number -/
theorem Of_bad (n : Int) (A : Option Addr) (k c : Nat) (ls : List Gr.Ln) (a : Int) (w : World) (hr : RdP w w.heap.size A k c ls) (h : Do.fcode n ls a ≠ 0) :
    Calls Try.prog 8 #[.int .i64 n, .slice A k c, .int .i64 a] w fun e w' => e = .returned (.tuple #[.slice none 0 0, errv (Do.fcode n ls a)]) ∧ Below w.heap.size w w' := by
  by_cases h0 : Gr.code n ls = 0
  · by_cases ha : a < 0 ∨ n ≤ a
    · have e : Do.fcode n ls a = 1 := by unfold Do.fcode; rw [if_pos h0, if_pos ha]
      rw [e]
      exact Of_range n A k c ls a w hr h0 ha
    · exact absurd (Do.fcode_zero.2 ⟨h0, by omega, by omega⟩) h
  · have e : Do.fcode n ls a = Gr.code n ls := by unfold Do.fcode; rw [if_neg h0]
    rw [e]
    exact Of_code n A k c ls a w hr h0

end Go.Proofs.Ytjcdnkbandagoaa
