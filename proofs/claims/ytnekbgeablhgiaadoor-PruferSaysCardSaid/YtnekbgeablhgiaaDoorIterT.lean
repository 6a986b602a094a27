/-
  A range over a function whose iterator keeps memory of its own between two rounds, and whose loop's body makes and keeps memory of its own, too: the caller's law, with the set of the blocks that the body has made. No statement of the program is proved here; there is no condition.
-/
import Derived.Test.YtnekbgeablhgiaaDoorIter
namespace Go.Proofs.YtnekbgeablhgiaaDoor
open Go.RowKit

/-- J says nothing of what lies from block B on, but for the blocks of T -/
def StaysT {β : Type} (B : Nat) (J : (Nat → Prop) → β → World → Prop) : Prop := ∀ T s A C, J T s A → Below B A C → (∀ k, T k → C.heap[k]? = A.heap[k]?) → J T s C
/-- the blocks of T lie there, from block B on -/
def LieT {β : Type} (B : Nat) (J : (Nat → Prop) → β → World → Prop) : Prop := ∀ T s A, J T s A → ∀ k, T k → B ≤ k ∧ k < A.heap.size

/-- the iterator's contract: it gives zs in order, if the loop's body keeps all blocks but those of X and those that it has made itself -/
def SeqCellsT {α : Type} (F : Fence) (n : Nat) (P : Program) (g : Nat) (lb : Array Value) (encs : α → Array Value) (X : Nat → Prop) (zs : List α) (w : World) : Prop :=
  ∀ (l : Nat) (J : (Nat → Prop) → List α → World → Prop) (Jx : List α → World → Prop) (W : World), Below w.heap.size w W → W.heap.size = w.heap.size + 2 → StaysT W.heap.size J → LieT W.heap.size J → Stays W.heap.size Jx →
    (∀ T pre x W1, J T pre W1 → (pre ++ [x]) <+: zs → YieldAt F (n - 1) P l (encs x) W1 fun e W' =>
      (e = .returned (.bool true) ∧ ∃ T', (∀ k, T' k → T k ∨ W1.heap.size ≤ k) ∧ J T' (pre ++ [x]) W' ∧ Kept (fun k => (X k ∨ (w.heap.size ≤ k ∧ k < W.heap.size)) ∨ T k) W1 W') ∨ (e = .returned (.bool false) ∧ Jx (pre ++ [x]) W')) →
    J (fun _ => False) [] W →
    CallsIn F n P g (#[.func (.yield l) #[] #[]] ++ lb) W fun e W' => (∃ v, e = .returned v) ∧ ((∃ T, J T zs W') ∨ ∃ pre, pre <+: zs ∧ Jx pre W')

/-- such a contract serves where the body makes nothing that it keeps -/
theorem SeqCellsT.plain {α : Type} {F : Fence} {n : Nat} {P : Program} {g : Nat} {lb : Array Value} {encs : α → Array Value} {X : Nat → Prop} {zs : List α} {w : World} (h : SeqCellsT F n P g lb encs X zs w) : SeqCells F n P g lb encs X zs w := by
  intro l J Jx W hb hsz hJ hJx hY h0
  refine (h l (fun T pre U => (∀ k, ¬ T k) ∧ J pre U) Jx W hb hsz (fun T s A C h1 h2 _ => ⟨h1.1, hJ _ _ _ h1.2 h2⟩) (fun T s A h1 k hk => absurd hk (h1.1 k)) hJx (fun T pre x W1 h1 hp => ?_) ⟨fun _ h => h, h0⟩).mono ?_
  · obtain ⟨fn, tmps, assign, body, hy, hR⟩ := hY pre x W1 h1.2 hp
    refine ⟨fn, tmps, assign, body, hy, hR.mono ?_⟩
    rintro e W' (⟨rfl, h3, h4⟩ | ⟨rfl, h3⟩)
    · exact .inl ⟨rfl, fun _ => False, fun _ h => h.elim, ⟨fun _ h => h, h3⟩, h4.1, fun k hk hx => h4.2 k hk (fun h => hx (.inl h))⟩
    · exact .inr ⟨rfl, h3⟩
  · rintro e W' ⟨h1, (⟨T, _, h2⟩ | h2)⟩
    · exact ⟨h1, .inl h2⟩
    · exact ⟨h1, .inr h2⟩

/-- how a round may be left: T are the blocks that the body had made ahead of it -/
def cellPostT {α : Type} (s : Nat) (X T : Nat → Prop) (I : (Nat → Prop) → List α → World → Prop) (Ix : List α → World → Prop) (xs : List α) (W : World) : Exit → Act → World → Prop
  | .normal, _, W' => ∃ T', (∀ k, T' k → T k ∨ W.heap.size ≤ k) ∧ Kept (fun k => X k ∨ T k) W W' ∧ I T' xs W'
  | .ret, _, W' => Kept (fun k => k < s ∨ T k) W W' ∧ Ix xs W'
  | _, _, _ => False

section
variable {F : Fence} {n : Nat} {P : Program} {α : Type}

/-- one round: s is the block of the deferred calls, s + 1 that of the loop's record -/
theorem cells_roundT {fn : FuncId} {r : Loop} {s : Nat} {assign body : Code} {encs : α → Array Value} {X T : Nat → Prop} {I : (Nat → Prop) → List α → World → Prop} {Ix : List α → World → Prop} (hF : F.fn fn) (hrf : r.fn = fn) (hra : r.assign = assign) (hrb : r.body = body) (hst : r.state = .ready) (hpe : r.pending = none)
    (hX : ∀ k, X k → k < s) (hI : StaysT s I) (hT : ∀ k, T k → s + 2 ≤ k) (hIx : Stays s Ix) (a₁ : α → Act) (pre : List α) (x : α) (W : World) (hps : (encs x).size = r.params.size)
    (hassign : ∀ (l : Nat) (W : World) (K : Act → World → Prop), K (a₁ x) W → assign.wpIn (F.inRound l) n P (Exit.then K (fun _ _ _ => False)) { tmps := (r.params.zip (encs x)).foldl (fun t (p, v) => t.setIfInBounds p v) r.tmps, defers := [] } W)
    (hbody : ∀ (l : Nat) (W : World), I T pre W → body.wpIn (F.inRound l) n P (cellPostT s X T I Ix (pre ++ [x]) W) (a₁ x) W)
    (hi : I T pre W) (hl : W.heap[s + 1]? = some (.loop r)) (hk : W.heap[s]? = some (.deferred (some []))) :
    YieldAt F n P (s + 1) (encs x) W fun e W' =>
      (e = .returned (.bool true) ∧ ∃ T', (∀ k, T' k → T k ∨ W.heap.size ≤ k) ∧ (I T' (pre ++ [x]) W' ∧ W'.heap[s + 1]? = some (.loop r) ∧ W'.heap[s]? = some (.deferred (some []))) ∧ Kept (fun k => (X k ∨ (s ≤ k ∧ k < s + 2)) ∨ T k) W W') ∨
      (e = .returned (.bool false) ∧ (Ix (pre ++ [x]) W' ∧ W'.heap[s + 1]? = some (.loop { r with state := .done, pending := some .ret }) ∧ W'.heap[s]? = some (.deferred (some [])))) := by
  have hlt := (Array.getElem?_eq_some_iff.1 hl).1
  have hy := run_yield (P := P) (args := encs x) hl hps
  obtain ⟨V, hV⟩ : ∃ V, V = W.putObj (s + 1) (.loop { r with state := .busy }) := ⟨_, rfl⟩
  have hVl : V.heap[s + 1]? = some (.loop { r with state := .busy }) := by rw [hV]; exact World.putObj_heap_same hlt
  have hVk : V.heap[s]? = some (.deferred (some [])) := by rw [hV]; exact (World.putObj_heap_other (by omega)).trans hk
  have hVs : V.heap.size = W.heap.size := by rw [hV]; simp
  have hVo : ∀ k, k ≠ s + 1 → V.heap[k]? = W.heap[k]? := fun k e => by rw [hV]; exact World.putObj_heap_other e
  have hVi : I T pre V := by rw [hV]; exact hI _ _ _ _ hi (below_put W _ _ (by omega)) (fun k hk => World.putObj_heap_other (by have := hT k hk; omega))
  have hbeg := run_beginRound (P := P) hl hst
  rw [← hV] at hbeg
  subst hrf hra hrb
  refine ⟨_, _, _, _, hy, roundIn_of_wpIn hF (hassign _ W _ ⟨V, hbeg, wpIn_mono (hbody _ V hVi) ?_⟩)⟩
  have key : ∀ (jump : Option Code) (U : World), Kept (fun k => k < s ∨ T k) V U →
      (Instr.endRound (s + 1) jump).run P U = .ok (.bool jump.isNone) (U.putObj (s + 1) (.loop { r with state := if jump.isNone then .ready else .done, pending := jump })) ∧
      (U.putObj (s + 1) (.loop { r with state := if jump.isNone then .ready else .done, pending := jump })).heap[s + 1]? = some (.loop { r with state := if jump.isNone then .ready else .done, pending := jump }) ∧
      (U.putObj (s + 1) (.loop { r with state := if jump.isNone then .ready else .done, pending := jump })).heap[s]? = some (.deferred (some [])) := by
    intro jump U hU
    have h1 := (hU.2 (s + 1) (by omega) (fun h => h.elim (fun h => by omega) (fun h => by have := hT _ h; omega))).trans hVl
    have h2 := (hU.2 s (by omega) (fun h => h.elim (fun h => by omega) (fun h => by have := hT _ h; omega))).trans hVk
    have h3 := run_endRound (P := P) jump h1
    refine ⟨h3, World.putObj_heap_same (Array.getElem?_eq_some_iff.1 h1).1, (World.putObj_heap_other (by omega)).trans h2⟩
  intro e a3 U hp
  match e, hp with
  | .normal, ⟨T', hT', hU, hi3⟩ =>
    obtain ⟨e1, e2, e3⟩ := key none U ⟨hU.1, fun k hk hx => hU.2 k hk (fun h => hx (h.elim (fun h => .inl (hX k h)) .inr))⟩
    refine ⟨_, _, e1, .inl ⟨rfl, T', fun k hk => by rw [← hVs]; exact hT' k hk, ⟨hI _ _ _ _ hi3 (below_put U _ _ (by omega)) (fun k hk => World.putObj_heap_other (by have := hT' k hk; rcases this with h | h; (have := hT k h; omega); omega)), ?_, e3⟩, ?_, fun k hk' hx => ?_⟩⟩
    · have er : ({ r with state := if (none : Option Code).isNone then .ready else .done, pending := none } : Loop) = r := by
        cases r
        simp only at hst hpe
        subst hst hpe
        rfl
      rw [er] at e2
      rw [er]
      exact e2
    · have := hU.1
      simp
      omega
    · rw [World.putObj_heap_other (fun e => hx (.inl (.inr (by omega)))), hU.2 k (by omega) (fun h => hx (h.elim (fun h => .inl (.inl h)) .inr)), hVo k (fun e => hx (.inl (.inr (by omega))))]
  | .ret, ⟨hU, hi3⟩ =>
    obtain ⟨e1, e2, e3⟩ := key (some .ret) U hU
    exact ⟨_, _, e1, .inr ⟨rfl, hIx _ _ _ hi3 (below_put U _ _ (by omega)), e2, e3⟩⟩

/-- the caller's law -/
theorem wpIn_range_cellsT {g : Operand} {ps : Array Tmp} {assign body : Code} {Q : Exit → Act → World → Prop} {a : Act} {w : World}
    (hro : F.round = none) (h1 : 1 ≤ n) {gf : Nat} {lb : Array Value} (hg : a.eval g = .func (.func gf) #[] lb) (hFg : F.fn gf) (eg : ∀ args w, (callFunc gf args).run P w = .ok (.enter gf args) w)
    {encs : α → Array Value} {X : Nat → Prop} {zs : List α} (hseq : SeqCellsT F (n - 1) P gf lb encs X zs w) (hX : ∀ k, X k → k < w.heap.size) (hps : ∀ x, (encs x).size = ps.size)
    (I : (Nat → Prop) → List α → World → Prop) (Ix : List α → World → Prop) (hI : StaysT w.heap.size I) (hIl : ∀ T xs W, I T xs W → ∀ k, T k → k < W.heap.size) (hIx : Stays w.heap.size Ix) (h0 : I (fun _ => False) [] w) (a₁ : α → Act)
    (hassign : ∀ (x : α) (l : Nat) (W : World) (K : Act → World → Prop), K (a₁ x) W → assign.wpIn (F.inRound l) (n - 1 - 1) P (Exit.then K (fun _ _ _ => False)) { tmps := (ps.zip (encs x)).foldl (fun t (p, v) => t.setIfInBounds p v) a.tmps, defers := [] } W)
    (hbody : ∀ (T : Nat → Prop) (pre : List α) (x : α), (pre ++ [x]) <+: zs → ∀ (l : Nat) (W : World), (∀ k, T k → w.heap.size + 2 ≤ k) → w.heap.size + 2 ≤ W.heap.size → I T pre W → body.wpIn (F.inRound l) (n - 1 - 1) P (cellPostT w.heap.size X T I Ix (pre ++ [x]) W) (a₁ x) W)
    (hdone : ∀ (D : Nat) (T : Nat → Prop) (W : World), w.heap.size ≤ D → (∀ k, T k → D < k) → I T zs W → W.heap[D]? = some (.deferred (some [])) → Q .normal { a with defers := { target := .collected D, args := #[] } :: a.defers } W)
    (hstop : ∀ (D : Nat) (pre : List α) (W : World), w.heap.size ≤ D → pre <+: zs → Ix pre W → W.heap[D]? = some (.deferred (some [])) → Code.ret.wpIn F n P Q { a with defers := { target := .collected D, args := #[] } :: a.defers } W) :
    (Code.rangeFunc g ps assign body).wpIn F n P Q a w := by
  refine wpIn_rangeFunc fun fn hfn => ?_
  rw [hro]
  obtain ⟨r, hr⟩ : ∃ r : Loop, r = { state := .ready, pending := none, fn, tmps := a.tmps, params := ps, assign, body, defers := w.heap.size } := ⟨_, rfl⟩
  obtain ⟨V, hV⟩ : ∃ V, V = (w.alloc (.deferred (some []))).alloc (.loop r) := ⟨_, rfl⟩
  have hVs : V.heap.size = w.heap.size + 2 := by rw [hV]; simp
  have hVb : Below w.heap.size w V := by rw [hV]; exact ((Below.refl _ w).alloc (Nat.le_refl _) _).alloc (by simp) _
  have hVl : V.heap[w.heap.size + 1]? = some (.loop r) := by
    have := World.alloc_heap_new (w.alloc (.deferred (some []))) (.loop r)
    rwa [World.size_alloc, ← hV] at this
  have hVk : V.heap[w.heap.size]? = some (.deferred (some [])) := by
    rw [hV]
    exact (Below.heap_alloc _ _ _ (by simp)).trans (World.alloc_heap_new w _)
  have hrun := run_enterLoop_outer (P := P) (w := w) fn a.tmps ps assign body
  rw [← hr, ← hV] at hrun
  refine ⟨w.heap.size + 1, _, V, { target := .fn (.func gf) lb, args := #[.func (.yield (w.heap.size + 1)) #[] #[]] }, V, gf, #[.func (.yield (w.heap.size + 1)) #[] #[]] ++ lb, V, hrun, ?_, ?_, ?_, fun _ => h1, ?_⟩
  · simp only [resolve, hg]
    simp [go_sem]
  · intro f' hf'
    simp [Target.leads] at hf'
    subst hf'
    exact hFg
  · simp [invoke, go_sem, eg]
  have look : ∀ {k : Nat} {o : Obj} {A C : World}, k < V.heap.size → Below V.heap.size A C → A.heap[k]? = some o → C.heap[k]? = some o := fun hk hb h => (hb.block _ hk).trans h
  refine (hseq (w.heap.size + 1)
    (fun T pre W => (I T pre W ∧ W.heap[w.heap.size + 1]? = some (.loop r) ∧ W.heap[w.heap.size]? = some (.deferred (some []))) ∧ ∀ k, T k → V.heap.size ≤ k)
    (fun pre W => Ix pre W ∧ W.heap[w.heap.size + 1]? = some (.loop { r with state := .done, pending := some .ret }) ∧ W.heap[w.heap.size]? = some (.deferred (some [])))
    V hVb hVs (fun T s A C h hb ht => ⟨⟨hI _ _ _ _ h.1.1 (hb.mono (by omega)) ht, look (by omega) hb h.1.2.1, look (by omega) hb h.1.2.2⟩, h.2⟩) (fun T s A h k hk => ⟨h.2 k hk, hIl _ _ _ h.1.1 k hk⟩) (fun s A C h hb => ⟨hIx _ _ _ h.1 (hb.mono (by omega)), look (by omega) hb h.2.1, look (by omega) hb h.2.2⟩)
    (fun T pre x W1 h hpx => ?_) ⟨⟨hI _ _ _ _ h0 hVb (fun _ h => h.elim), hVl, hVk⟩, fun _ h => h.elim⟩).mono ?_
  · have hW1 := (Array.getElem?_eq_some_iff.1 h.1.2.1).1
    have := cells_roundT (F := F) (n := n - 1 - 1) (P := P) (fn := fn) (r := r) (assign := assign) (body := body) (encs := encs) (X := X) (T := T) (I := fun T' xs U => I T' xs U ∧ w.heap.size + 2 ≤ U.heap.size) hfn (by rw [hr]) (by rw [hr]) (by rw [hr]) (by rw [hr]) (by rw [hr]) hX
      (fun T s A C h hb ht => ⟨hI _ _ _ _ h.1 hb ht, Nat.le_trans h.2 hb.size⟩) (fun k hk => by have := h.2 k hk; omega) hIx a₁ pre x W1 (by rw [hr]; exact hps x)
      (by rw [hr]; exact hassign x) (fun l W hI => wpIn_mono (hbody T pre x hpx l W (fun k hk => by have := h.2 k hk; omega) hI.2 hI.1) (by
        intro e a3 U hp
        match e, hp with
        | .normal, ⟨T', h1, h2, h3⟩ => exact ⟨T', h1, h2, h3, Nat.le_trans hI.2 h2.1⟩
        | .ret, hp => exact hp)) ⟨h.1.1, by omega⟩ h.1.2.1 h.1.2.2
    rw [hVs]
    obtain ⟨fn', tmps', assign', body', hy, hR⟩ := this
    refine ⟨fn', tmps', assign', body', hy, hR.mono ?_⟩
    rintro e W' (⟨rfl, T', h1, ⟨⟨h2, _⟩, h3⟩, h4⟩ | h2)
    · exact .inl ⟨rfl, T', h1, ⟨⟨h2, h3⟩, fun k hk => by rcases h1 k hk with h5 | h5; (have := h.2 k h5; omega); omega⟩, h4⟩
    · exact .inr h2
  · rintro e W2 ⟨⟨v, rfl⟩, (⟨T, ⟨hi, hl, hk⟩, hT⟩ | ⟨pre, hp, hi, hl, hk⟩)⟩
    · refine ⟨none, _, by have := run_endLoop (P := P) hl (by rw [hr]; simp); rw [show r.pending = none by rw [hr]] at this; exact this, ?_⟩
      exact hdone _ T _ (Nat.le_refl _) (fun k hk => by have := hT k hk; omega) (hI _ _ _ _ hi (below_put _ _ _ (by omega)) (fun k hk => World.putObj_heap_other (by have := hT k hk; omega))) ((World.putObj_heap_other (by omega)).trans hk)
    · refine ⟨some .ret, _, run_endLoop (P := P) hl (by simp), ?_⟩
      exact hstop _ _ _ (Nat.le_refl _) hp (hIx _ _ _ hi (below_put _ _ _ (by omega))) ((World.putObj_heap_other (by omega)).trans hk)
end

end Go.Proofs.YtnekbgeablhgiaaDoor
