/-
  A range over a function whose iterator keeps memory of its own between two rounds (cells that it makes and writes): the caller's law, for loop bodies that write only blocks that lay there ahead of the loop. No statement of the program is proved here; there is no condition.
-/
import Derived.RangeFuncNested
import Derived.RangeFuncBound
import Derived.RangeFuncCalls
import Derived.RangeFuncLeaves
import Derived.RangeFuncBox
import Derived.WalkKit
import Derived.OwnWalkIn
import Derived.TacticsInMore
import Derived.LoopNIn
import Derived.LoopIn
import Derived.Maps.AppendAt
namespace Go.Proofs.YtojkjdccjomaaaaDoor
open Go.RowKit

/-- all blocks but those of X lie as they lay -/
def Kept (X : Nat → Prop) (W W' : World) : Prop := W.heap.size ≤ W'.heap.size ∧ ∀ k, k < W.heap.size → ¬ X k → W'.heap[k]? = W.heap[k]?

theorem Kept.refl (X : Nat → Prop) (W : World) : Kept X W W := ⟨Nat.le_refl _, fun _ _ _ => rfl⟩
theorem Kept.set (X : Nat → Prop) (W : World) (p : Addr) (v : Value) (h : X p.block) : Kept X W (W.setCell p v) :=
  ⟨(KeepsWalks.setCell W p v).size, fun k _ hx => Below.heap_setCell W p v k (fun e => hx (by rw [e]; exact h))⟩
theorem Kept.cell {X : Nat → Prop} {W W' : World} (h : Kept X W W') {p : Addr} {v : Value} (hc : W.cell? p = some v) (hx : ¬ X p.block) : W'.cell? p = some v := by
  have h1 := h.2 p.block (World.block_lt_of_cell? W _ hc) hx
  unfold World.cell? at hc ⊢
  rw [h1]
  exact hc

/-- J says nothing of what lies from block B on -/
def Stays {β : Type} (B : Nat) (J : β → World → Prop) : Prop := ∀ s A C, J s A → Below B A C → J s C

theorem below_put {B : Nat} (W : World) (l : Nat) (o : Obj) (h : B ≤ l) : Below B W (W.putObj l o) :=
  ⟨rfl, rfl, rfl, by simp, fun k hk => World.putObj_heap_other (by omega)⟩

/-- the iterator's contract: it gives zs in order, if the loop's body keeps all blocks but those of X -/
def SeqCells {α : Type} (F : Fence) (n : Nat) (P : Program) (g : Nat) (lb : Array Value) (encs : α → Array Value) (X : Nat → Prop) (zs : List α) (w : World) : Prop :=
  ∀ (l : Nat) (J Jx : List α → World → Prop) (W : World), Below w.heap.size w W → W.heap.size = w.heap.size + 2 → Stays W.heap.size J → Stays W.heap.size Jx →
    (∀ pre x W1, J pre W1 → (pre ++ [x]) <+: zs → YieldAt F (n - 1) P l (encs x) W1 fun e W' =>
      (e = .returned (.bool true) ∧ J (pre ++ [x]) W' ∧ Kept (fun k => X k ∨ (w.heap.size ≤ k ∧ k < W.heap.size)) W1 W') ∨ (e = .returned (.bool false) ∧ Jx (pre ++ [x]) W')) →
    J [] W →
    CallsIn F n P g (#[.func (.yield l) #[] #[]] ++ lb) W fun e W' => (∃ v, e = .returned v) ∧ (J zs W' ∨ ∃ pre, pre <+: zs ∧ Jx pre W')

/-- how a round may be left -/
def cellPost {α : Type} (s : Nat) (X : Nat → Prop) (I Ix : List α → World → Prop) (xs : List α) (W : World) : Exit → Act → World → Prop
  | .normal, _, W' => Kept X W W' ∧ I xs W'
  | .ret, _, W' => Kept (fun k => k < s) W W' ∧ Ix xs W'
  | _, _, _ => False

section
variable {F : Fence} {n : Nat} {P : Program} {α : Type}

/-- one round: s is the block of the deferred calls, s + 1 that of the loop's record -/
theorem cells_round {fn : FuncId} {r : Loop} {s : Nat} {assign body : Code} {encs : α → Array Value} {X : Nat → Prop} {I Ix : List α → World → Prop} (hF : F.fn fn) (hrf : r.fn = fn) (hra : r.assign = assign) (hrb : r.body = body) (hst : r.state = .ready) (hpe : r.pending = none)
    (hX : ∀ k, X k → k < s) (hI : Stays s I) (hIx : Stays s Ix) (a₁ : α → Act) (pre : List α) (x : α) (W : World) (hps : (encs x).size = r.params.size)
    (hassign : ∀ (l : Nat) (W : World) (K : Act → World → Prop), K (a₁ x) W → assign.wpIn (F.inRound l) n P (Exit.then K (fun _ _ _ => False)) { tmps := (r.params.zip (encs x)).foldl (fun t (p, v) => t.setIfInBounds p v) r.tmps, defers := [] } W)
    (hbody : ∀ (l : Nat) (W : World), I pre W → body.wpIn (F.inRound l) n P (cellPost s X I Ix (pre ++ [x]) W) (a₁ x) W)
    (hi : I pre W) (hl : W.heap[s + 1]? = some (.loop r)) (hk : W.heap[s]? = some (.deferred (some []))) :
    YieldAt F n P (s + 1) (encs x) W fun e W' =>
      (e = .returned (.bool true) ∧ (I (pre ++ [x]) W' ∧ W'.heap[s + 1]? = some (.loop r) ∧ W'.heap[s]? = some (.deferred (some []))) ∧ Kept (fun k => X k ∨ (s ≤ k ∧ k < s + 2)) W W') ∨
      (e = .returned (.bool false) ∧ (Ix (pre ++ [x]) W' ∧ W'.heap[s + 1]? = some (.loop { r with state := .done, pending := some .ret }) ∧ W'.heap[s]? = some (.deferred (some [])))) := by
  have hlt := (Array.getElem?_eq_some_iff.1 hl).1
  have hy := run_yield (P := P) (args := encs x) hl hps
  obtain ⟨V, hV⟩ : ∃ V, V = W.putObj (s + 1) (.loop { r with state := .busy }) := ⟨_, rfl⟩
  have hVl : V.heap[s + 1]? = some (.loop { r with state := .busy }) := by rw [hV]; exact World.putObj_heap_same hlt
  have hVk : V.heap[s]? = some (.deferred (some [])) := by rw [hV]; exact (World.putObj_heap_other (by omega)).trans hk
  have hVs : V.heap.size = W.heap.size := by rw [hV]; simp
  have hVo : ∀ k, k ≠ s + 1 → V.heap[k]? = W.heap[k]? := fun k e => by rw [hV]; exact World.putObj_heap_other e
  have hVi : I pre V := by rw [hV]; exact hI _ _ _ hi (below_put W _ _ (by omega))
  have hbeg := run_beginRound (P := P) hl hst
  rw [← hV] at hbeg
  subst hrf hra hrb
  refine ⟨_, _, _, _, hy, roundIn_of_wpIn hF (hassign _ W _ ⟨V, hbeg, wpIn_mono (hbody _ V hVi) ?_⟩)⟩
  have key : ∀ (jump : Option Code) (U : World), Kept (fun k => k < s) V U →
      (Instr.endRound (s + 1) jump).run P U = .ok (.bool jump.isNone) (U.putObj (s + 1) (.loop { r with state := if jump.isNone then .ready else .done, pending := jump })) ∧
      (U.putObj (s + 1) (.loop { r with state := if jump.isNone then .ready else .done, pending := jump })).heap[s + 1]? = some (.loop { r with state := if jump.isNone then .ready else .done, pending := jump }) ∧
      (U.putObj (s + 1) (.loop { r with state := if jump.isNone then .ready else .done, pending := jump })).heap[s]? = some (.deferred (some [])) := by
    intro jump U hU
    have h1 := (hU.2 (s + 1) (by omega) (by omega)).trans hVl
    have h2 := (hU.2 s (by omega) (by omega)).trans hVk
    have h3 := run_endRound (P := P) jump h1
    refine ⟨h3, World.putObj_heap_same (Array.getElem?_eq_some_iff.1 h1).1, (World.putObj_heap_other (by omega)).trans h2⟩
  intro e a3 U hp
  match e, hp with
  | .normal, ⟨hU, hi3⟩ =>
    obtain ⟨e1, e2, e3⟩ := key none U ⟨hU.1, fun k hk hx => hU.2 k hk (fun h => hx (hX k h))⟩
    refine ⟨_, _, e1, .inl ⟨rfl, ⟨hI _ _ _ hi3 (below_put U _ _ (by omega)), ?_, e3⟩, ?_, fun k hk' hx => ?_⟩⟩
    · have er : ({ r with state := if (none : Option Code).isNone then .ready else .done, pending := none } : Loop) = r := by
        cases r
        simp only at hst hpe
        subst hst hpe
        rfl
      rw [er] at e2
      rw [er]
      exact e2
    · have := hU.1
      simp
      omega
    · rw [World.putObj_heap_other (fun e => hx (.inr (by omega))), hU.2 k (by omega) (fun h => hx (.inl h)), hVo k (fun e => hx (.inr (by omega)))]
  | .ret, ⟨hU, hi3⟩ =>
    obtain ⟨e1, e2, e3⟩ := key (some .ret) U hU
    exact ⟨_, _, e1, .inr ⟨rfl, hIx _ _ _ hi3 (below_put U _ _ (by omega)), e2, e3⟩⟩

/-- the caller's law -/
theorem wpIn_range_cells {g : Operand} {ps : Array Tmp} {assign body : Code} {Q : Exit → Act → World → Prop} {a : Act} {w : World}
    (hro : F.round = none) (h1 : 1 ≤ n) {gf : Nat} {lb : Array Value} (hg : a.eval g = .func (.func gf) #[] lb) (hFg : F.fn gf) (eg : ∀ args w, (callFunc gf args).run P w = .ok (.enter gf args) w)
    {encs : α → Array Value} {X : Nat → Prop} {zs : List α} (hseq : SeqCells F (n - 1) P gf lb encs X zs w) (hX : ∀ k, X k → k < w.heap.size) (hps : ∀ x, (encs x).size = ps.size)
    (I Ix : List α → World → Prop) (hI : Stays w.heap.size I) (hIx : Stays w.heap.size Ix) (h0 : I [] w) (a₁ : α → Act)
    (hassign : ∀ (x : α) (l : Nat) (W : World) (K : Act → World → Prop), K (a₁ x) W → assign.wpIn (F.inRound l) (n - 1 - 1) P (Exit.then K (fun _ _ _ => False)) { tmps := (ps.zip (encs x)).foldl (fun t (p, v) => t.setIfInBounds p v) a.tmps, defers := [] } W)
    (hbody : ∀ (pre : List α) (x : α), (pre ++ [x]) <+: zs → ∀ (l : Nat) (W : World), I pre W → body.wpIn (F.inRound l) (n - 1 - 1) P (cellPost w.heap.size X I Ix (pre ++ [x]) W) (a₁ x) W)
    (hdone : ∀ (D : Nat) (W : World), w.heap.size ≤ D → I zs W → W.heap[D]? = some (.deferred (some [])) → Q .normal { a with defers := { target := .collected D, args := #[] } :: a.defers } W)
    (hstop : ∀ (D : Nat) (pre : List α) (W : World), w.heap.size ≤ D → pre <+: zs → Ix pre W → W.heap[D]? = some (.deferred (some [])) → Code.ret.wpIn F n P Q { a with defers := { target := .collected D, args := #[] } :: a.defers } W) :
    (Code.rangeFunc g ps assign body).wpIn F n P Q a w := by
  refine wpIn_rangeFunc fun fn hfn => ?_
  rw [hro]
  obtain ⟨r, hr⟩ : ∃ r : Loop, r = { state := .ready, pending := none, fn, tmps := a.tmps, params := ps, assign, body, defers := w.heap.size } := ⟨_, rfl⟩
  obtain ⟨V, hV⟩ : ∃ V, V = (w.alloc (.deferred (some []))).alloc (.loop r) := ⟨_, rfl⟩
  have hVs : V.heap.size = w.heap.size + 2 := by rw [hV]; simp
  have hVb : Below w.heap.size w V := by rw [hV]; exact ((Below.refl _ w).alloc (Nat.le_refl _) _).alloc (by simp) _
  have hVl : V.heap[w.heap.size + 1]? = some (.loop r) := by
    have := World.alloc_heap_new (w.alloc (.deferred (some []))) (.loop r)
    rwa [World.size_alloc, ← hV] at this
  have hVk : V.heap[w.heap.size]? = some (.deferred (some [])) := by
    rw [hV]
    exact (Below.heap_alloc _ _ _ (by simp)).trans (World.alloc_heap_new w _)
  have hrun := run_enterLoop_outer (P := P) (w := w) fn a.tmps ps assign body
  rw [← hr, ← hV] at hrun
  refine ⟨w.heap.size + 1, _, V, { target := .fn (.func gf) lb, args := #[.func (.yield (w.heap.size + 1)) #[] #[]] }, V, gf, #[.func (.yield (w.heap.size + 1)) #[] #[]] ++ lb, V, hrun, ?_, ?_, ?_, fun _ => h1, ?_⟩
  · simp only [resolve, hg]
    simp [go_sem]
  · intro f' hf'
    simp [Target.leads] at hf'
    subst hf'
    exact hFg
  · simp [invoke, go_sem, eg]
  have look : ∀ {k : Nat} {o : Obj} {A C : World}, k < V.heap.size → Below V.heap.size A C → A.heap[k]? = some o → C.heap[k]? = some o := fun hk hb h => (hb.block _ hk).trans h
  refine (hseq (w.heap.size + 1)
    (fun pre W => I pre W ∧ W.heap[w.heap.size + 1]? = some (.loop r) ∧ W.heap[w.heap.size]? = some (.deferred (some [])))
    (fun pre W => Ix pre W ∧ W.heap[w.heap.size + 1]? = some (.loop { r with state := .done, pending := some .ret }) ∧ W.heap[w.heap.size]? = some (.deferred (some [])))
    V hVb hVs (fun s A C h hb => ⟨hI _ _ _ h.1 (hb.mono (by omega)), look (by omega) hb h.2.1, look (by omega) hb h.2.2⟩) (fun s A C h hb => ⟨hIx _ _ _ h.1 (hb.mono (by omega)), look (by omega) hb h.2.1, look (by omega) hb h.2.2⟩)
    (fun pre x W1 h hpx => ?_) ⟨hI _ _ _ h0 hVb, hVl, hVk⟩).mono ?_
  · have := cells_round (F := F) (n := n - 1 - 1) (P := P) (fn := fn) (r := r) (assign := assign) (body := body) (encs := encs) (X := X) hfn (by rw [hr]) (by rw [hr]) (by rw [hr]) (by rw [hr]) (by rw [hr]) hX hI hIx a₁ pre x W1 (by rw [hr]; exact hps x)
      (by rw [hr]; exact hassign x) (hbody pre x hpx) h.1 h.2.1 h.2.2
    rw [hVs]
    exact this
  · rintro e W2 ⟨⟨v, rfl⟩, (⟨hi, hl, hk⟩ | ⟨pre, hp, hi, hl, hk⟩)⟩
    · refine ⟨none, _, by have := run_endLoop (P := P) hl (by rw [hr]; simp); rw [show r.pending = none by rw [hr]] at this; exact this, ?_⟩
      exact hdone _ _ (Nat.le_refl _) (hI _ _ _ hi (below_put _ _ _ (by omega))) ((World.putObj_heap_other (by omega)).trans hk)
    · refine ⟨some .ret, _, run_endLoop (P := P) hl (by simp), ?_⟩
      exact hstop _ _ _ (Nat.le_refl _) hp (hIx _ _ _ hi (below_put _ _ _ (by omega))) ((World.putObj_heap_other (by omega)).trans hk)

/-- a function that has run several such loops leaves: each mark is taken up -/
theorem leaves_marks {fn : Func} {tmps : Array Value} {R : Ending → World → Prop} (S : World → Prop) (B : Nat) (hS : ∀ (W : World) (D : Nat), S W → B ≤ D → W.heap[D]? = some (.deferred (some [])) → S (W.putObj D (.deferred none)))
    (hend : ∀ W, S W → LeavesIn F n P fn tmps R [] .returning W) :
    ∀ (Ds : List Nat) (W : World), Ds.Nodup → (∀ D ∈ Ds, B ≤ D ∧ W.heap[D]? = some (.deferred (some []))) → S W →
      LeavesInM F n P fn tmps R (Ds.map fun D => { target := .collected D, args := #[] }) .returning W
  | [], W, _, _, h => hend W h
  | D :: Ds, W, hnd, hD, h => by
    refine ⟨by simp, .inl ⟨D, W.putObj D (.deferred none), rfl, run_takeDeferred (hD D (by simp)).2, ?_⟩⟩
    refine leaves_marks S B hS hend Ds _ (List.nodup_cons.1 hnd).2 (fun E hE => ⟨(hD E (by simp [hE])).1, ?_⟩) (hS W D h (hD D (by simp)).1 (hD D (by simp)).2)
    rw [World.putObj_heap_other (fun e => (List.nodup_cons.1 hnd).1 (by rw [← e]; exact hE))]
    exact (hD E (by simp [hE])).2
end

end Go.Proofs.YtojkjdccjomaaaaDoor
