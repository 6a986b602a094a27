/-
  A range over a function whose iterator writes memory from ahead of the loop (the blocks of Y), calls what came in with it, and whose loop's body makes and keeps memory of its own: the caller's law; G is what the iterator may know of the world whenever it goes on, E what it says of the world at its end. No statement of the program is proved here; there is no condition.
-/
import Derived.Test.YtnekbgeablhgiaaDoorIterT
namespace Go.Proofs.YtnekbgeablhgiaaDoor
open Go.RowKit

/-- J says nothing of the blocks of Y -/
def SetY {β : Type} (Y : Nat → Prop) (J : (Nat → Prop) → β → World → Prop) : Prop := ∀ T s A (p : Addr) v, Y p.block → J T s A → J T s (A.setCell p v)

/-- the iterator's contract: it gives zs in order, if the loop's body keeps all blocks but those of X and those that it has made itself -/
def SeqCellsY {α : Type} (F : Fence) (n : Nat) (P : Program) (g : Nat) (lb : Array Value) (encs : α → Array Value) (X Y : Nat → Prop) (G : List α → World → Prop) (E : World → Prop) (zs : List α) (w : World) : Prop :=
  ∀ (l : Nat) (J : (Nat → Prop) → List α → World → Prop) (Jx : List α → World → Prop) (W : World), Below w.heap.size w W → W.heap.size = w.heap.size + 2 → StaysT W.heap.size J → SetY Y J → LieT W.heap.size J → Stays W.heap.size Jx → (∀ T s A, J T s A → G s A) →
    (∀ T pre x W1, J T pre W1 → (pre ++ [x]) <+: zs → YieldAt F (n - 1) P l (encs x) W1 fun e W' =>
      (e = .returned (.bool true) ∧ ∃ T', (∀ k, T' k → T k ∨ W1.heap.size ≤ k) ∧ J T' (pre ++ [x]) W' ∧ Kept (fun k => (X k ∨ (w.heap.size ≤ k ∧ k < W.heap.size)) ∨ T k) W1 W') ∨ (e = .returned (.bool false) ∧ Jx (pre ++ [x]) W')) →
    J (fun _ => False) [] W →
    CallsIn F n P g (#[.func (.yield l) #[] #[]] ++ lb) W fun e W' => (∃ v, e = .returned v) ∧ ((∃ T, J T zs W' ∧ E W') ∨ ∃ pre, pre <+: zs ∧ Jx pre W')

section
variable {F : Fence} {n : Nat} {P : Program} {α : Type}

/-- the caller's law -/
theorem wpIn_range_cellsY {g : Operand} {ps : Array Tmp} {assign body : Code} {Q : Exit → Act → World → Prop} {a : Act} {w : World}
    (hro : F.round = none) (h1 : 1 ≤ n) {gf : Nat} {lb : Array Value} (hg : a.eval g = .func (.func gf) #[] lb) (hFg : F.fn gf) (eg : ∀ args w, (callFunc gf args).run P w = .ok (.enter gf args) w)
    {encs : α → Array Value} {X Y : Nat → Prop} {G : List α → World → Prop} {E : World → Prop} {zs : List α} (hseq : SeqCellsY F (n - 1) P gf lb encs X Y G E zs w) (hE : ∀ A C, E A → Below w.heap.size A C → E C) (hX : ∀ k, X k → k < w.heap.size) (hY : ∀ k, Y k → k < w.heap.size) (hps : ∀ x, (encs x).size = ps.size)
    (I : (Nat → Prop) → List α → World → Prop) (Ix : List α → World → Prop) (hI : StaysT w.heap.size I) (hIY : SetY Y I) (hIG : ∀ T xs W, I T xs W → G xs W) (hIl : ∀ T xs W, I T xs W → ∀ k, T k → k < W.heap.size) (hIx : Stays w.heap.size Ix) (h0 : I (fun _ => False) [] w) (a₁ : α → Act)
    (hassign : ∀ (x : α) (l : Nat) (W : World) (K : Act → World → Prop), K (a₁ x) W → assign.wpIn (F.inRound l) (n - 1 - 1) P (Exit.then K (fun _ _ _ => False)) { tmps := (ps.zip (encs x)).foldl (fun t (p, v) => t.setIfInBounds p v) a.tmps, defers := [] } W)
    (hbody : ∀ (T : Nat → Prop) (pre : List α) (x : α), (pre ++ [x]) <+: zs → ∀ (l : Nat) (W : World), (∀ k, T k → w.heap.size + 2 ≤ k) → w.heap.size + 2 ≤ W.heap.size → I T pre W → body.wpIn (F.inRound l) (n - 1 - 1) P (cellPostT w.heap.size X T I Ix (pre ++ [x]) W) (a₁ x) W)
    (hdone : ∀ (D : Nat) (T : Nat → Prop) (W : World), w.heap.size ≤ D → (∀ k, T k → D < k) → I T zs W → E W → W.heap[D]? = some (.deferred (some [])) → Q .normal { a with defers := { target := .collected D, args := #[] } :: a.defers } W)
    (hstop : ∀ (D : Nat) (pre : List α) (W : World), w.heap.size ≤ D → pre <+: zs → Ix pre W → W.heap[D]? = some (.deferred (some [])) → Code.ret.wpIn F n P Q { a with defers := { target := .collected D, args := #[] } :: a.defers } W) :
    (Code.rangeFunc g ps assign body).wpIn F n P Q a w := by
  refine wpIn_rangeFunc fun fn hfn => ?_
  rw [hro]
  obtain ⟨r, hr⟩ : ∃ r : Loop, r = { state := .ready, pending := none, fn, tmps := a.tmps, params := ps, assign, body, defers := w.heap.size } := ⟨_, rfl⟩
  obtain ⟨V, hV⟩ : ∃ V, V = (w.alloc (.deferred (some []))).alloc (.loop r) := ⟨_, rfl⟩
  have hVs : V.heap.size = w.heap.size + 2 := by rw [hV]; simp
  have hVb : Below w.heap.size w V := by rw [hV]; exact ((Below.refl _ w).alloc (Nat.le_refl _) _).alloc (by simp) _
  have hVl : V.heap[w.heap.size + 1]? = some (.loop r) := by
    have := World.alloc_heap_new (w.alloc (.deferred (some []))) (.loop r)
    rwa [World.size_alloc, ← hV] at this
  have hVk : V.heap[w.heap.size]? = some (.deferred (some [])) := by
    rw [hV]
    exact (Below.heap_alloc _ _ _ (by simp)).trans (World.alloc_heap_new w _)
  have hrun := run_enterLoop_outer (P := P) (w := w) fn a.tmps ps assign body
  rw [← hr, ← hV] at hrun
  refine ⟨w.heap.size + 1, _, V, { target := .fn (.func gf) lb, args := #[.func (.yield (w.heap.size + 1)) #[] #[]] }, V, gf, #[.func (.yield (w.heap.size + 1)) #[] #[]] ++ lb, V, hrun, ?_, ?_, ?_, fun _ => h1, ?_⟩
  · simp only [resolve, hg]
    simp [go_sem]
  · intro f' hf'
    simp [Target.leads] at hf'
    subst hf'
    exact hFg
  · simp [invoke, go_sem, eg]
  have look : ∀ {k : Nat} {o : Obj} {A C : World}, k < V.heap.size → Below V.heap.size A C → A.heap[k]? = some o → C.heap[k]? = some o := fun hk hb h => (hb.block _ hk).trans h
  refine (hseq (w.heap.size + 1)
    (fun T pre W => (I T pre W ∧ W.heap[w.heap.size + 1]? = some (.loop r) ∧ W.heap[w.heap.size]? = some (.deferred (some []))) ∧ ∀ k, T k → V.heap.size ≤ k)
    (fun pre W => Ix pre W ∧ W.heap[w.heap.size + 1]? = some (.loop { r with state := .done, pending := some .ret }) ∧ W.heap[w.heap.size]? = some (.deferred (some [])))
    V hVb hVs (fun T s A C h hb ht => ⟨⟨hI _ _ _ _ h.1.1 (hb.mono (by omega)) ht, look (by omega) hb h.1.2.1, look (by omega) hb h.1.2.2⟩, h.2⟩) (fun T s A p v hy h => ⟨⟨hIY _ _ _ _ _ hy h.1.1, (Below.heap_setCell A p v _ (by have := hY _ hy; omega)).trans h.1.2.1, (Below.heap_setCell A p v _ (by have := hY _ hy; omega)).trans h.1.2.2⟩, h.2⟩) (fun T s A h k hk => ⟨h.2 k hk, hIl _ _ _ h.1.1 k hk⟩) (fun s A C h hb => ⟨hIx _ _ _ h.1 (hb.mono (by omega)), look (by omega) hb h.2.1, look (by omega) hb h.2.2⟩) (fun T s A h => hIG _ _ _ h.1.1)
    (fun T pre x W1 h hpx => ?_) ⟨⟨hI _ _ _ _ h0 hVb (fun _ h => h.elim), hVl, hVk⟩, fun _ h => h.elim⟩).mono ?_
  · have hW1 := (Array.getElem?_eq_some_iff.1 h.1.2.1).1
    have := cells_roundT (F := F) (n := n - 1 - 1) (P := P) (fn := fn) (r := r) (assign := assign) (body := body) (encs := encs) (X := X) (T := T) (I := fun T' xs U => I T' xs U ∧ w.heap.size + 2 ≤ U.heap.size) hfn (by rw [hr]) (by rw [hr]) (by rw [hr]) (by rw [hr]) (by rw [hr]) hX
      (fun T s A C h hb ht => ⟨hI _ _ _ _ h.1 hb ht, Nat.le_trans h.2 hb.size⟩) (fun k hk => by have := h.2 k hk; omega) hIx a₁ pre x W1 (by rw [hr]; exact hps x)
      (by rw [hr]; exact hassign x) (fun l W hI => wpIn_mono (hbody T pre x hpx l W (fun k hk => by have := h.2 k hk; omega) hI.2 hI.1) (by
        intro e a3 U hp
        match e, hp with
        | .normal, ⟨T', h1, h2, h3⟩ => exact ⟨T', h1, h2, h3, Nat.le_trans hI.2 h2.1⟩
        | .ret, hp => exact hp)) ⟨h.1.1, by omega⟩ h.1.2.1 h.1.2.2
    rw [hVs]
    obtain ⟨fn', tmps', assign', body', hy, hR⟩ := this
    refine ⟨fn', tmps', assign', body', hy, hR.mono ?_⟩
    rintro e W' (⟨rfl, T', h1, ⟨⟨h2, _⟩, h3⟩, h4⟩ | h2)
    · exact .inl ⟨rfl, T', h1, ⟨⟨h2, h3⟩, fun k hk => by rcases h1 k hk with h5 | h5; (have := h.2 k h5; omega); omega⟩, h4⟩
    · exact .inr h2
  · rintro e W2 ⟨⟨v, rfl⟩, (⟨T, ⟨⟨hi, hl, hk⟩, hT⟩, hEW⟩ | ⟨pre, hp, hi, hl, hk⟩)⟩
    · refine ⟨none, _, by have := run_endLoop (P := P) hl (by rw [hr]; simp); rw [show r.pending = none by rw [hr]] at this; exact this, ?_⟩
      exact hdone _ T _ (Nat.le_refl _) (fun k hk => by have := hT k hk; omega) (hI _ _ _ _ hi (below_put _ _ _ (by omega)) (fun k hk => World.putObj_heap_other (by have := hT k hk; omega))) (hE _ _ hEW (below_put _ _ _ (by omega))) ((World.putObj_heap_other (by omega)).trans hk)
    · refine ⟨some .ret, _, run_endLoop (P := P) hl (by simp), ?_⟩
      exact hstop _ _ _ (Nat.le_refl _) hp (hIx _ _ _ hi (below_put _ _ _ (by omega))) ((World.putObj_heap_other (by omega)).trans hk)
end

end Go.Proofs.YtnekbgeablhgiaaDoor
