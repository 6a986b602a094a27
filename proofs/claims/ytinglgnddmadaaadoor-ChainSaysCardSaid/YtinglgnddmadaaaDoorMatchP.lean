/-
  The closure of largest of package match that places one of the left: it leaves a pairing that has it, or it has asked all that it and those in its way have lines to.
-/
import Derived.Test.YtinglgnddmadaaaDoorMatchA
namespace Go.Proofs.YtinglgnddmadaaaDoor
open Go.RowKit Go.Shelf

attribute [local go_sem] Oper.semAt_some
set_option linter.unusedSimpArgs false
set_option linter.unusedVariables false

theorem Kept.trans' {X : Nat → Prop} {W W' W'' : World} (h : Kept X W W') (h' : Kept X W' W'') : Kept X W W'' :=
  ⟨Nat.le_trans h.1 h'.1, fun k hk hx => (h'.2 k (Nat.lt_of_lt_of_le hk h.1) hx).trans (h.2 k hk hx)⟩
theorem Kept.mono' {X Y : Nat → Prop} {W W' : World} (h : Kept X W W') (hxy : ∀ k, X k → Y k) : Kept Y W W' := ⟨h.1, fun k hk hx => h.2 k hk (fun e => hx (hxy k e))⟩
theorem Kept.of_below {X : Nat → Prop} {W W' : World} (h : Below W.heap.size W W') : Kept X W W' := ⟨h.size, fun k hk _ => h.block k hk⟩
theorem Kept.and_below {X : Nat → Prop} {W W' W'' : World} {s : Nat} (h : Kept X W W') (hb : Below s W' W'') (hs : W.heap.size ≤ s) : Kept X W W'' :=
  ⟨Nat.le_trans h.1 hb.size, fun k hk hx => (hb.block k (by omega)).trans (h.2 k hk hx)⟩
theorem Kept.boxed' {X : Nat → Prop} {W W' : World} (h : Kept X W W') {B : Nat} {t : TypeId} {v : Value} (hb : Boxed W B t v) (hx : ¬ X B) : Boxed W' B t v := (h.2 B hb.lt hx).trans hb
theorem SeenAt.len {W : World} {s m : Nat} {seen : List Bool} (h : SeenAt W s m seen) : seen.length = m := by have := h.1; simpa using this

theorem results_cellB {P : Program} {fn : Func} {p : Tmp} {ty : TypeId} (h : fn.results = #[.cell p ty]) (tmps : Array Value) (w : World) (B : Nat) (v : Value) (hp : tmps.getD p undef = .pointer (some ⟨B, 0, none⟩)) (hc : w.cell? ⟨B, 0, none⟩ = some v) (ha : ∀ w, (isAgg ty).run P w = .ok false w) :
    (results fn tmps).run P w = .ok v w := by
  have hp' : tmps[p]?.getD undef = .pointer (some ⟨B, 0, none⟩) := by simpa using hp
  simp [results, h, hp', asAddr, loadVar, Sem.run_bind, ha, go_sem, hc]

/-- what stands still while one is placed -/
structure PlG (nB bl ba bp bf ga gp r : Nat) (A : Option Addr) (n c : Nat) (ls : List Gr.Ln) (W : World) : Prop where
  hn : nB ≤ W.heap.size
  rd : RdP W nB A n c ls
  cl : W.cell? ⟨bl, 0, none⟩ = some (.slice A n c)
  ca : W.cell? ⟨ba, 0, none⟩ = some (.slice (some ⟨ga, 0, none⟩) r r)
  cp : W.cell? ⟨bp, 0, none⟩ = some (.slice (some ⟨gp, 0, none⟩) r r)
  cf : W.cell? ⟨bf, 0, none⟩ = some (.func (.func 49) #[] #[.pointer (some ⟨bl, 0, none⟩), .pointer (some ⟨ba, 0, none⟩), .pointer (some ⟨bp, 0, none⟩), .pointer (some ⟨bf, 0, none⟩)])
/-- where all that lies -/
structure PlX (nB bl ba bp bf ga gp : Nat) : Prop where
  a : nB ≤ ga
  p : nB ≤ gp
  ne : ga ≠ gp
  l : bl ≠ ga ∧ bl ≠ gp
  ba' : ba ≠ ga ∧ ba ≠ gp
  bp' : bp ≠ ga ∧ bp ≠ gp
  bf' : bf ≠ ga ∧ bf ≠ gp
/-- what is written -/
def plW (ga gp : Nat) (k : Nat) : Prop := k = ga ∨ k = gp
section
variable {nB bl ba bp bf ga gp r : Nat} {A : Option Addr} {n c : Nat} {ls : List Gr.Ln} {W W' : World}
theorem PlG.kept (h : PlG nB bl ba bp bf ga gp r A n c ls W) (hx : PlX nB bl ba bp bf ga gp) (hb : Kept (plW ga gp) W W') : PlG nB bl ba bp bf ga gp r A n c ls W' := by
  have h1 := hx.l
  have h2 := hx.ba'
  have h3 := hx.bp'
  have h4 := hx.bf'
  exact ⟨Nat.le_trans h.hn hb.1, h.rd.kept hb (fun k hk => by have i1 := hx.a; have i2 := hx.p; rcases hk with e | e <;> omega) h.hn,
    hb.cell h.cl (fun e => by rcases e with e | e <;> simp only at e <;> omega), hb.cell h.ca (fun e => by rcases e with e | e <;> simp only at e <;> omega),
    hb.cell h.cp (fun e => by rcases e with e | e <;> simp only at e <;> omega), hb.cell h.cf (fun e => by rcases e with e | e <;> simp only at e <;> omega)⟩
end

theorem getD_lt {xs : List Bool} {k : Nat} (h : xs.getD k false = true) : k < xs.length := by
  rcases Nat.lt_or_ge k xs.length with h1 | h1
  · exact h1
  · simp [List.getD, List.getElem?_eq_none h1] at h
theorem getD_any (par : List Int) {b : Nat} (h : b < par.length) : par.getD b 0 = par.getD b (-1) := by simp [List.getD, h]

/-- behind the stores of a try that went well -/
theorem pl_put {nB ga gp r s b : Nat} (hnp : nB ≤ gp) {a : Int} {ask : List Bool} {par : List Int} {u : Value} {W W3 : World} (hne : ga ≠ gp) (hgs : ga < s) (hps : gp < s) (hS : SeenAt W ga r ask) (hO : Own W nB 3 (.slice (some ⟨gp, 0, none⟩) r r) par) (hb : Boxed W (s + 1) 4 u)
    (hW3 : W3 = (W.setCell ⟨gp, b, none⟩ (.int .i64 a)).setCell ⟨s + 1, 0, none⟩ (.bool true)) :
    SeenAt W3 ga r ask ∧ Own W3 nB 3 (.slice (some ⟨gp, 0, none⟩) r r) (par.set b a) ∧ Boxed W3 (s + 1) 4 (.bool true) ∧ Kept (fun k => plW ga gp k ∨ k = s + 1) W W3 ∧ Below nB W W3 := by
  subst hW3
  have h1 := (hO.store b a).1
  have h2 : Boxed (W.setCell ⟨gp, b, none⟩ (.int .i64 a)) (s + 1) 4 u := (Below.heap_setCell W _ _ (s + 1) (show s + 1 ≠ gp by omega)).trans hb
  refine ⟨hS.same ((Below.heap_setCell _ _ _ ga (show ga ≠ s + 1 by omega)).trans (Below.heap_setCell W _ _ ga (show ga ≠ gp from hne))), h1.same (fun k hk => by cases hk; exact Below.heap_setCell _ _ _ gp (show gp ≠ s + 1 by omega)), h2.set _, (Kept.set _ _ _ _ (.inl (.inr rfl))).trans' (Kept.set _ _ _ _ (.inr rfl)), ((Below.refl nB W).setCell (p := ⟨gp, b, none⟩) hnp _).setCell (p := ⟨s + 1, 0, none⟩) (show nB ≤ s + 1 by omega) _⟩
theorem Kept.but {X : Nat → Prop} {w W W' : World} {s : Nat} (h : Kept X w W) (h' : Kept (fun k => X k ∨ k = s + 1) W W') (hs : w.heap.size ≤ s) : Kept X w W' :=
  ⟨Nat.le_trans h.1 h'.1, fun k hk hx => (h'.2 k (Nat.lt_of_lt_of_le hk h.1) (fun e => e.elim hx (fun e => by omega))).trans (h.2 k hk hx)⟩

/-- how a try may end -/
def PlPost (nB ga gp l r : Nat) (ls : List Gr.Ln) (a : Int) (ask : List Bool) (par : List Int) (W : World) (e : Ending) (W' : World) : Prop :=
  Kept (plW ga gp) W W' ∧ Below nB W W' ∧ ∃ ask', SeenAt W' ga r ask' ∧
    ((e = .returned (.bool true) ∧ ∃ par', Own W' nB 3 (.slice (some ⟨gp, 0, none⟩) r r) par' ∧ Ma.Yes ls l r a ask par par') ∨
     (e = .returned (.bool false) ∧ Own W' nB 3 (.slice (some ⟨gp, 0, none⟩) r r) par ∧ Ma.No ls r a par ask ask'))

/-- within its lines: those of pre have been asked in vain -/
def PlI (nB ga gp r s : Nat) (ls : List Gr.Ln) (a : Int) (ask : List Bool) (par : List Int) (w : World) (pre : List Int) (U : World) : Prop :=
  ∃ askk, Ma.Mid ls r par ask askk ∧ (∀ x ∈ pre, askk.getD x.toNat false = true) ∧ SeenAt U ga r askk ∧ Own U nB 3 (.slice (some ⟨gp, 0, none⟩) r r) par ∧
    Boxed U s 3 (.int .i64 a) ∧ Boxed U (s + 1) 4 (.bool false) ∧ Kept (plW ga gp) w U ∧ Below nB w U
/-- one has been found -/
def PlIx (nB ga gp l r s : Nat) (ls : List Gr.Ln) (a : Int) (ask : List Bool) (par : List Int) (w : World) (U : World) : Prop :=
  ∃ ask' par', SeenAt U ga r ask' ∧ Own U nB 3 (.slice (some ⟨gp, 0, none⟩) r r) par' ∧ Ma.Yes ls l r a ask par par' ∧ Boxed U (s + 1) 4 (.bool true) ∧ Kept (plW ga gp) w U ∧ Below nB w U

set_option maxRecDepth 100000 in
set_option maxHeartbeats 4000000 in
theorem place_in (nB bl ba bp bf ga gp l r : Nat) (hx : PlX nB bl ba bp bf ga gp) (hl6 : l ≤ 6) (hr6 : r ≤ 6) (A : Option Addr) (n c : Nat) (ls : List Gr.Ln) (hg : ∀ p ∈ ls, Ma.Good (l : Int) (r : Int) p) :
    ∀ (f : Nat) (ask : List Bool) (par : List Int) (a : Int) (w : World), Ma.opn ask < f → Ma.Ok ls l r par → 0 ≤ a → a < (l : Int) → PlG nB bl ba bp bf ga gp r A n c ls w → SeenAt w ga r ask → Own w nB 3 (.slice (some ⟨gp, 0, none⟩) r r) par →
      CallsIn Fence.wide 10 Tryd.prog 49 #[.int .i64 a, .pointer (some ⟨bl, 0, none⟩), .pointer (some ⟨ba, 0, none⟩), .pointer (some ⟨bp, 0, none⟩), .pointer (some ⟨bf, 0, none⟩)] w (PlPost nB ga gp l r ls a ask par w) := by
  intro f
  induction f with
  | zero => intro ask par a w h; omega
  | succ f ih =>
  intro ask par a w hopn hok ha0 hal hG hS hO
  have hro : Fence.wide.round = none := rfl
  have hF1 : Fence.wide.fn 50 := trivial
  obtain ⟨s, hs⟩ : ∃ s, s = w.heap.size := ⟨_, rfl⟩
  have hgas := hS.lt
  have hgps := hO.lt gp rfl
  have hnxa := hx.a
  have hnxp := hx.p
  have hne := hx.ne
  have g1 := hG.cl
  obtain ⟨w2, hw2⟩ : ∃ w2, w2 = (w.alloc (.cells #[.int .i64 a] 3)).alloc (.cells #[.bool false] 4) := ⟨_, rfl⟩
  have hb2 : Below s w w2 := by rw [hw2, hs]; exact ((Below.refl _ _).alloc (Nat.le_refl _) _).alloc (by simp) _
  have hs2 : w2.heap.size = s + 2 := by rw [hw2, hs]; simp
  have bx1 : Boxed w2 s 3 (.int .i64 a) := by rw [hw2, hs]; exact (Boxed.new w _ _).alloc _
  have bx2 : Boxed w2 (s + 1) 4 (.bool false) := by
    have := Boxed.new (w.alloc (.cells #[.int .i64 a] 3)) 4 (.bool false)
    rw [World.size_alloc, ← hs] at this
    rw [hw2]
    exact this
  have g2 := (hb2.cell (p := ⟨bl, 0, none⟩) (by rw [hs]; exact World.block_lt_of_cell? w _ g1)).trans g1
  have g3 := bx1.cell
  obtain ⟨V, hV⟩ : ∃ V, V = (w2.alloc (.cells #[.slice A n c] 22)).alloc (.cells #[.int .i64 a] 3) := ⟨_, rfl⟩
  have hbV : Below (s + 2) w2 V := by rw [hV]; exact ((Below.refl _ _).alloc (by omega) _).alloc (by simp; omega) _
  have hsV : V.heap.size = s + 4 := by rw [hV]; simp [hs2]
  have hbwV : Below s w V := hb2.trans (hbV.mono (by omega))
  have hKV : Kept (plW ga gp) w V := Kept.of_below (by rw [← hs]; exact hbwV)
  have bV1 : Boxed V s 3 (.int .i64 a) := (hbV.block s (by omega)).trans bx1
  have bV2 : Boxed V (s + 1) 4 (.bool false) := (hbV.block (s + 1) (by omega)).trans bx2
  have hJV : JoG nB (s + 2) (s + 3) A n c ls a V := by
    refine ⟨by have := hG.hn; omega, hG.rd.below (hbwV.mono (by rw [hs]; exact hG.hn)), ?_, ?_⟩
    · have := (Boxed.new w2 22 (.slice A n c)).alloc (.cells #[.int .i64 a] 3)
      rw [hs2, ← hV] at this
      exact this.cell
    · have := Boxed.new (w2.alloc (.cells #[.slice A n c] 22)) 3 (.int .i64 a)
      rw [World.size_alloc, hs2, ← hV] at this
      exact this.cell
  have hSV : SeenAt V ga r ask := hS.same (hbwV.block ga (by omega))
  have hOV : Own V nB 3 (.slice (some ⟨gp, 0, none⟩) r r) par := hO.same (fun k hk => by cases hk; exact hbwV.block gp (by omega))
  have HI0 : PlI nB ga gp r s ls a ask par w [] V := ⟨ask, Ma.Mid.refl hS.len, fun x hx => by simp at hx, hSV, hOV, bV1, bV2, hKV, hbwV.mono (by rw [hs]; exact hG.hn)⟩
  have HIH := Lib.hid ih
  have HW2 := Lib.hid hw2
  have HV := Lib.hid hV
  have HS2 := Lib.hid hs2
  have HS := Lib.hid hs
  have HL := Lib.hid hS.len
  have HG := Lib.hid hG
  have HOk := Lib.hid hok
  have HGd := Lib.hid hg
  clear hw2 hV hs2 hs ih hG hok hS hO hSV hOV hKV bV1 bV2 bx2 bx1 hbV hb2 g1 hg
  rw [HW2.out] at g2 g3
  refine callsIn_of_wp_marks Tryd.func49 rfl trivial ?_ hro
  simp only [Tryd.ntmps49, List.size_toArray, List.length_cons, List.length_nil, Nat.reduceAdd, Nat.reduceSub, Array.replicate_succ, Array.replicate_zero, List.push_toArray, List.append_toArray, List.nil_append, List.cons_append]
  rw [HS.out] at g3
  gi_wp2_with (gi_at_call 50; rw [← HW2.out, ← HS.out]; refine (callsIn_wide.2 (joined_any _ _ _ _ _)).mono ?_; rintro e w5 ⟨rfl, rfl⟩; rw [← HV.out, HS2.out])
  have hgas' : ga < s := by rw [HS.out]; exact hgas
  have hgps' : gp < s := by rw [HS.out]; exact hgps
  have hX2 : ∀ k, plW ga gp k → k < s := fun k hk => by rcases hk with e | e <;> omega
  have hX1 : ∀ k, plW ga gp k → nB ≤ k := fun k hk => by rcases hk with e | e <;> omega
  have hXs : ∀ k, s ≤ k → ¬ plW ga gp k := fun k hk e => by have := hX2 k e; omega
  refine wpIn_range_cells hro (by omega) (gf := 57) (lb := #[.pointer (some ⟨s + 2, 0, none⟩), .pointer (some ⟨s + 3, 0, none⟩)]) rfl trivial (enters_of Tryd.func57 (by kernel_rfl) rfl) (X := plW ga gp) (zs := Ma.jl ls a)
    (joined1_seq nB (s + 2) (s + 3) A n c ls a _ V hJV hX1 (fun k hk => by have := hX2 k hk; omega) (hXs _ (by omega)) (hXs _ (by omega)))
    (fun k hk => by have := hX2 k hk; omega) (fun _ => rfl)
    (fun pre U => PlI nB ga gp r s ls a ask par w pre U)
    (fun _ U => PlIx nB ga gp l r s ls a ask par w U)
    (fun pre U U' h hb => by
      rw [hsV] at hb
      obtain ⟨askk, i1, i2, i3, i4, i5, i6, i7, i8⟩ := h
      exact ⟨askk, i1, i2, i3.same (hb.block ga (by omega)), i4.same (fun k hk => by cases hk; exact hb.block gp (by omega)), (hb.block s (by omega)).trans i5, (hb.block (s + 1) (by omega)).trans i6, i7.and_below hb (by rw [← HS.out]; omega), i8.trans (hb.mono (by omega))⟩)
    (fun pre U U' h hb => by
      rw [hsV] at hb
      obtain ⟨askk, par', i1, i2, i3, i4, i5, i6⟩ := h
      exact ⟨askk, par', i1.same (hb.block ga (by omega)), i2.same (fun k hk => by cases hk; exact hb.block gp (by omega)), i3, (hb.block (s + 1) (by omega)).trans i4, i5.and_below hb (by rw [← HS.out]; omega), i6.trans (hb.mono (by omega))⟩)
    HI0
    (fun x => { tmps := #[.int .i64 a, .pointer (some ⟨bl, 0, none⟩), .pointer (some ⟨ba, 0, none⟩), .pointer (some ⟨bp, 0, none⟩), .pointer (some ⟨bf, 0, none⟩), .pointer (some ⟨s, 0, none⟩), .pointer (some ⟨s + 1, 0, none⟩), .int .i64 x, .slice A n c, .int .i64 a, .func (.func 57) #[] #[.pointer (some ⟨s + 2, 0, none⟩), .pointer (some ⟨s + 3, 0, none⟩)], .int .i64 x,
      undef, undef, undef, undef, undef, undef, undef, undef, undef, undef, undef, undef, undef, undef, undef, undef, undef, undef, undef, undef, undef, undef, undef, undef], defers := [] }) ?assign ?body ?done ?stop
  case assign =>
    intro x l W K hK
    simp only [encI]
    gi_wp2
    exact hK
  case body =>
    rintro pre x hpre lr W ⟨askk, hmid, hpr, hSk, hOk, hba, hbr, hKw, hBw⟩
    clear HI0 hJV hbwV g2 g3
    have hhas := Ma.mem_jl.1 (show x ∈ Ma.jl ls a from hpre.subset (by simp))
    have hgd := HGd.out _ (Gr.has_iff.1 hhas)
    obtain ⟨b, hbx⟩ : ∃ b : Nat, x = (b : Int) := ⟨x.toNat, by have := hgd.2.2.1; simp only at this; omega⟩
    subst hbx
    have hbr' : b < r := by have := hgd.2.2.2; simp only at this; omega
    have hGW := HG.out.kept hx hKw
    have g4 := hGW.ca
    have g5 := hSk.cell hbr'
    have k1 : (0 : Int) ≤ (b : Int) := by omega
    have k2 : (b : Int) < (r : Int) := by omega
    clear hpre hgd
    cases ht : askk.getD b false with
    | true =>
      rw [ht] at g5
      have HT := Lib.hid ht
      clear ht
      gi_wp2
      refine ⟨Kept.refl _ _, askk, hmid, fun y hy => ?_, hSk, hOk, hba, hbr, hKw, hBw⟩
      rcases List.mem_append.1 hy with hy | hy
      · exact hpr y hy
      · obtain rfl : y = (b : Int) := by simpa using hy
        rw [Int.toNat_natCast]
        exact HT.out
    | false =>
      rw [ht] at g5
      have HT := Lib.hid ht
      clear ht
      have f5 := World.ownsRow.frozenAt hSk b
      have hpl : b < par.length := by rw [HOk.out.1]; exact hbr'
      have hpd : par.getD b 0 = par.getD b (-1) := by simp [List.getD, hpl]
      obtain ⟨W1, hW1⟩ : ∃ W1, W1 = W.setCell ⟨ga, b, none⟩ (.bool true) := ⟨_, rfl⟩
      have hK1W : Kept (plW ga gp) W W1 := by rw [hW1]; exact Kept.set _ _ _ _ (.inl rfl)
      have hB1 : Below nB w W1 := by rw [hW1]; exact hBw.setCell (p := ⟨ga, b, none⟩) hnxa _
      have hS1 : SeenAt W1 ga r (askk.set b true) := by rw [hW1]; exact (hSk.set b true).1
      have hO1 : Own W1 nB 3 (.slice (some ⟨gp, 0, none⟩) r r) par := hOk.same (fun k hk => by cases hk; rw [hW1]; exact Below.heap_setCell W _ _ gp (fun e => hne (show ga = gp from e.symm)))
      have hG1 := hGW.kept hx hK1W
      have hba1 := hK1W.boxed' hba (hXs s (Nat.le_refl _))
      have hbr1 := hK1W.boxed' hbr (hXs (s + 1) (by omega))
      have HW1 := Lib.hid hW1
      have SA : W1.drew.cell? ⟨bp, 0, none⟩ = some (.slice (some ⟨gp, 0, none⟩) r r) := hG1.cp
      have SB : W1.drew.cell? ⟨bf, 0, none⟩ = some (.func (.func 49) #[] #[.pointer (some ⟨bl, 0, none⟩), .pointer (some ⟨ba, 0, none⟩), .pointer (some ⟨bp, 0, none⟩), .pointer (some ⟨bf, 0, none⟩)]) := hG1.cf
      have SC : W1.drew.cell? ⟨gp, b, none⟩ = some (.int .i64 (par.getD b (-1))) := by rw [← hpd]; exact hO1.cell b hbr'
      have hokb := HOk.out.2 b hbr'
      have hk6 : ∀ k, plW ga gp k → k < V.heap.size := fun k hk => by have := hX2 k hk; omega
      clear hW1
      gi_wp2
      rename_i Q1 K1 hK1
      rw [← HW1.out]
      obtain ⟨x, hxp⟩ : ∃ x, x = par.getD b (-1) := ⟨_, rfl⟩
      rw [← hxp] at SC hokb
      refine wpIn_round_held (S := fun w' => w'.cell? ⟨bp, 0, none⟩ = some (.slice (some ⟨gp, 0, none⟩) r r) ∧ w'.cell? ⟨bf, 0, none⟩ = some (.func (.func 49) #[] #[.pointer (some ⟨bl, 0, none⟩), .pointer (some ⟨ba, 0, none⟩), .pointer (some ⟨bp, 0, none⟩), .pointer (some ⟨bf, 0, none⟩)]) ∧ w'.cell? ⟨gp, b, none⟩ = some (.int .i64 x)) (by kernel_rfl) ?hnd ?hno ⟨SA, SB, SC⟩ ?hgo
      case hnd =>
        intro j o ho c hd
        have hmem := Array.mem_of_getElem? ho
        simp only [List.mem_toArray, List.mem_cons, List.not_mem_nil, or_false] at hmem
        rcases hmem with rfl | rfl | rfl | rfl | rfl | rfl | rfl | rfl | rfl | rfl | rfl | rfl | rfl <;> cases hd
      case hno =>
        rintro ⟨_, _, h⟩
        exact h
      case hgo =>
        intro hSd
        obtain ⟨Wd, hWd⟩ : ∃ Wd, Wd = W1.drew := ⟨_, rfl⟩
        rw [← hWd] at hSd ⊢
        have hKd : Kept (plW ga gp) W Wd := by rw [hWd]; exact ⟨hK1W.1, hK1W.2⟩
        have hBd : Below nB w Wd := by rw [hWd]; exact hB1.drew
        have hSd1 : SeenAt Wd ga r (askk.set b true) := by rw [hWd]; exact hS1
        have hOd : Own Wd nB 3 (.slice (some ⟨gp, 0, none⟩) r r) par := by rw [hWd]; exact hO1
        have hGd : PlG nB bl ba bp bf ga gp r A n c ls Wd := hGW.kept hx hKd
        have hbad := hKd.boxed' hba (hXs s (Nat.le_refl _))
        have hbrd := hKd.boxed' hbr (hXs (s + 1) (by omega))
        have HXP := Lib.hid hxp
        have HOB := Lib.hid hokb
        have HHas := Lib.hid hhas
        have HMid := Lib.hid hmid
        clear hWd SA SB SC hG1 hS1 hO1 hba1 hbr1 hK1W HW1 hxp hhas hmid g4 g5 f5 hpd
        by_cases hfree : x = -1
        · subst hfree
          have d1 : ((-1 : Int) == -1) = true := by decide
          refine wpAnyH_take (i := 0) (v := .slice (some ⟨gp, 0, none⟩) r r) rfl (by kernel_rfl) (by kernel_rfl) (by kernel_rfl) (fun _ _ _ h => h) (Or.inl ⟨by kernel_rfl, ?_⟩) (by assumption) ?_
          · intro w hSw
            obtain ⟨hSa, hSb, hSc⟩ := hSw
            go_simp
          simp only [Act.put, List.getElem_toArray, List.getElem_cons_succ, List.getElem_cons_zero, List.setIfInBounds_toArray, List.set_cons_zero, List.set_cons_succ]
          refine wpAnyH_take (i := 1) (v := .int .i64 (b : Int)) rfl (by kernel_rfl) (by kernel_rfl) (by kernel_rfl) (fun _ _ _ h => h) (Or.inl ⟨by kernel_rfl, ?_⟩) (by assumption) ?_
          · intro w hSw
            obtain ⟨hSa, hSb, hSc⟩ := hSw
            go_simp
          simp only [Act.put, List.getElem_toArray, List.getElem_cons_succ, List.getElem_cons_zero, List.setIfInBounds_toArray, List.set_cons_zero, List.set_cons_succ]
          refine wpAnyH_take (i := 2) (v := .pointer (some ⟨gp, b, none⟩)) rfl (by kernel_rfl) (by kernel_rfl) (by kernel_rfl) (fun _ _ _ h => h) (Or.inl ⟨by kernel_rfl, ?_⟩) (by assumption) ?_
          · intro w hSw
            obtain ⟨hSa, hSb, hSc⟩ := hSw
            go_simp
          simp only [Act.put, List.getElem_toArray, List.getElem_cons_succ, List.getElem_cons_zero, List.setIfInBounds_toArray, List.set_cons_zero, List.set_cons_succ]
          refine wpAnyH_take (i := 3) (v := .int .i64 (-1)) rfl (by kernel_rfl) (by kernel_rfl) (by kernel_rfl) (fun _ _ _ h => h) (Or.inl ⟨by kernel_rfl, ?_⟩) (by assumption) ?_
          · intro w hSw
            obtain ⟨hSa, hSb, hSc⟩ := hSw
            go_simp
          simp only [Act.put, List.getElem_toArray, List.getElem_cons_succ, List.getElem_cons_zero, List.setIfInBounds_toArray, List.set_cons_zero, List.set_cons_succ]
          refine wpAnyH_take (i := 4) (v := .bool true) rfl (by kernel_rfl) (by kernel_rfl) (by kernel_rfl) (fun _ _ _ h => h) (Or.inl ⟨by kernel_rfl, ?_⟩) (by assumption) ?_
          · intro w hSw
            obtain ⟨hSa, hSb, hSc⟩ := hSw
            go_simp
          simp only [Act.put, List.getElem_toArray, List.getElem_cons_succ, List.getElem_cons_zero, List.setIfInBounds_toArray, List.set_cons_zero, List.set_cons_succ]
          refine wpAnyH_take (i := 5) (v := .bool true) rfl (by kernel_rfl) (by kernel_rfl) (by kernel_rfl) (fun _ _ _ h => h) (Or.inl ⟨by kernel_rfl, ?_⟩) (by assumption) ?_
          · intro w hSw
            obtain ⟨hSa, hSb, hSc⟩ := hSw
            go_simp
          simp only [Act.put, List.getElem_toArray, List.getElem_cons_succ, List.getElem_cons_zero, List.setIfInBounds_toArray, List.set_cons_zero, List.set_cons_succ]
          refine wpAnyH_take (i := 6) (v := undef) rfl (by kernel_rfl) (by kernel_rfl) (by kernel_rfl) (fun _ _ _ h => h) (Or.inr ⟨by kernel_rfl, rfl⟩) (by assumption) ?_
          simp only [Act.put, List.getElem_toArray, List.getElem_cons_succ, List.getElem_cons_zero, List.setIfInBounds_toArray, List.set_cons_zero, List.set_cons_succ]
          refine wpAnyH_take (i := 7) (v := undef) rfl (by kernel_rfl) (by kernel_rfl) (by kernel_rfl) (fun _ _ _ h => h) (Or.inr ⟨by kernel_rfl, rfl⟩) (by assumption) ?_
          simp only [Act.put, List.getElem_toArray, List.getElem_cons_succ, List.getElem_cons_zero, List.setIfInBounds_toArray, List.set_cons_zero, List.set_cons_succ]
          refine wpAnyH_take (i := 8) (v := undef) rfl (by kernel_rfl) (by kernel_rfl) (by kernel_rfl) (fun _ _ _ h => h) (Or.inr ⟨by kernel_rfl, rfl⟩) (by assumption) ?_
          simp only [Act.put, List.getElem_toArray, List.getElem_cons_succ, List.getElem_cons_zero, List.setIfInBounds_toArray, List.set_cons_zero, List.set_cons_succ]
          refine wpAnyH_take (i := 9) (v := undef) rfl (by kernel_rfl) (by kernel_rfl) (by kernel_rfl) (fun _ _ _ h => h) (Or.inr ⟨by kernel_rfl, rfl⟩) (by assumption) ?_
          simp only [Act.put, List.getElem_toArray, List.getElem_cons_succ, List.getElem_cons_zero, List.setIfInBounds_toArray, List.set_cons_zero, List.set_cons_succ]
          refine wpAnyH_take (i := 10) (v := undef) rfl (by kernel_rfl) (by kernel_rfl) (by kernel_rfl) (fun _ _ _ h => h) (Or.inr ⟨by kernel_rfl, rfl⟩) (by assumption) ?_
          simp only [Act.put, List.getElem_toArray, List.getElem_cons_succ, List.getElem_cons_zero, List.setIfInBounds_toArray, List.set_cons_zero, List.set_cons_succ]
          refine wpAnyH_take (i := 11) (v := undef) rfl (by kernel_rfl) (by kernel_rfl) (by kernel_rfl) (fun _ _ _ h => h) (Or.inr ⟨by kernel_rfl, rfl⟩) (by assumption) ?_
          simp only [Act.put, List.getElem_toArray, List.getElem_cons_succ, List.getElem_cons_zero, List.setIfInBounds_toArray, List.set_cons_zero, List.set_cons_succ]
          refine wpAnyH_take (i := 12) (v := .bool true) rfl (by kernel_rfl) (by kernel_rfl) (by kernel_rfl) (fun _ _ _ h => h) (Or.inl ⟨by kernel_rfl, ?_⟩) (by assumption) ?_
          · intro w hSw
            obtain ⟨hSa, hSb, hSc⟩ := hSw
            go_simp
          simp only [Act.put, List.getElem_toArray, List.getElem_cons_succ, List.getElem_cons_zero, List.setIfInBounds_toArray, List.set_cons_zero, List.set_cons_succ]
          refine wpAnyH_done (by kernel_rfl) ?_ _
          refine hK1 _ _ ?_
          have c1 := hGd.cp
          have c2 := hbad.cell
          have c3 := hOd.cell b hbr'
          have f3 := hOd.frozen b
          have hbr2 : Boxed (Wd.setCell ⟨gp, b, none⟩ (.int .i64 a)) (s + 1) 4 (.bool false) := (Below.heap_setCell Wd _ _ (s + 1) (show s + 1 ≠ gp by omega)).trans hbrd
          have c4 := hbr2.cell
          have f4 := hbr2.frozen
          have hP := pl_put (a := a) (b := b) hnxp hne hgas' hgps' hSd1 hOd hbrd rfl
          have hY := HMid.out.free HOk.out hbr' ha0 hal HHas.out HT.out HXP.out.symm
          have HP := Lib.hid hP
          have HY := Lib.hid hY
          have hsle : w.heap.size ≤ s := by rw [← HS.out]; exact Nat.le_refl _
          clear hP hY hbr2 hK1 hSd hOd hSd1 hbad hGd
          gi_wp2
          have hk7 : ∀ k, plW ga gp k → k < s + 4 := fun k hk => by have := hX2 k hk; omega
          exact ⟨(hKd.mono' hk7).trans' (HP.out.2.2.2.1.mono' (fun k hk => hk.elim (hk7 k) (fun e => by omega))), _, _, HP.out.1, HP.out.2.1, HY.out, HP.out.2.2.1, (hKw.trans' hKd).but HP.out.2.2.2.1 hsle, hBd.trans HP.out.2.2.2.2⟩
        · have d1 : (x == -1) = false := by simpa using hfree
          have hx0 : 0 ≤ x ∧ x < (l : Int) := by
            rcases HOB.out with h | h
            · exact absurd h hfree
            · exact ⟨h.1, h.2.1⟩
          refine wpAnyH_take (i := 0) (v := .slice (some ⟨gp, 0, none⟩) r r) rfl (by kernel_rfl) (by kernel_rfl) (by kernel_rfl) (fun _ _ _ h => h) (Or.inl ⟨by kernel_rfl, ?_⟩) (by assumption) ?_
          · intro w hSw
            obtain ⟨hSa, hSb, hSc⟩ := hSw
            go_simp
          simp only [Act.put, List.getElem_toArray, List.getElem_cons_succ, List.getElem_cons_zero, List.setIfInBounds_toArray, List.set_cons_zero, List.set_cons_succ]
          refine wpAnyH_take (i := 1) (v := .int .i64 (b : Int)) rfl (by kernel_rfl) (by kernel_rfl) (by kernel_rfl) (fun _ _ _ h => h) (Or.inl ⟨by kernel_rfl, ?_⟩) (by assumption) ?_
          · intro w hSw
            obtain ⟨hSa, hSb, hSc⟩ := hSw
            go_simp
          simp only [Act.put, List.getElem_toArray, List.getElem_cons_succ, List.getElem_cons_zero, List.setIfInBounds_toArray, List.set_cons_zero, List.set_cons_succ]
          refine wpAnyH_take (i := 2) (v := .pointer (some ⟨gp, b, none⟩)) rfl (by kernel_rfl) (by kernel_rfl) (by kernel_rfl) (fun _ _ _ h => h) (Or.inl ⟨by kernel_rfl, ?_⟩) (by assumption) ?_
          · intro w hSw
            obtain ⟨hSa, hSb, hSc⟩ := hSw
            go_simp
          simp only [Act.put, List.getElem_toArray, List.getElem_cons_succ, List.getElem_cons_zero, List.setIfInBounds_toArray, List.set_cons_zero, List.set_cons_succ]
          refine wpAnyH_take (i := 3) (v := .int .i64 x) rfl (by kernel_rfl) (by kernel_rfl) (by kernel_rfl) (fun _ _ _ h => h) (Or.inl ⟨by kernel_rfl, ?_⟩) (by assumption) ?_
          · intro w hSw
            obtain ⟨hSa, hSb, hSc⟩ := hSw
            go_simp
          simp only [Act.put, List.getElem_toArray, List.getElem_cons_succ, List.getElem_cons_zero, List.setIfInBounds_toArray, List.set_cons_zero, List.set_cons_succ]
          refine wpAnyH_take (i := 4) (v := .bool false) rfl (by kernel_rfl) (by kernel_rfl) (by kernel_rfl) (fun _ _ _ h => h) (Or.inl ⟨by kernel_rfl, ?_⟩) (by assumption) ?_
          · intro w hSw
            obtain ⟨hSa, hSb, hSc⟩ := hSw
            go_simp
          simp only [Act.put, List.getElem_toArray, List.getElem_cons_succ, List.getElem_cons_zero, List.setIfInBounds_toArray, List.set_cons_zero, List.set_cons_succ]
          refine wpAnyH_take (i := 5) (v := .bool false) rfl (by kernel_rfl) (by kernel_rfl) (by kernel_rfl) (fun _ _ _ h => h) (Or.inl ⟨by kernel_rfl, ?_⟩) (by assumption) ?_
          · intro w hSw
            obtain ⟨hSa, hSb, hSc⟩ := hSw
            go_simp
          simp only [Act.put, List.getElem_toArray, List.getElem_cons_succ, List.getElem_cons_zero, List.setIfInBounds_toArray, List.set_cons_zero, List.set_cons_succ]
          refine wpAnyH_take (i := 6) (v := .func (.func 49) #[] #[.pointer (some ⟨bl, 0, none⟩), .pointer (some ⟨ba, 0, none⟩), .pointer (some ⟨bp, 0, none⟩), .pointer (some ⟨bf, 0, none⟩)]) rfl (by kernel_rfl) (by kernel_rfl) (by kernel_rfl) (fun _ _ _ h => h) (Or.inl ⟨by kernel_rfl, ?_⟩) (by assumption) ?_
          · intro w hSw
            obtain ⟨hSa, hSb, hSc⟩ := hSw
            go_simp
          simp only [Act.put, List.getElem_toArray, List.getElem_cons_succ, List.getElem_cons_zero, List.setIfInBounds_toArray, List.set_cons_zero, List.set_cons_succ]
          refine wpAnyH_take (i := 7) (v := .slice (some ⟨gp, 0, none⟩) r r) rfl (by kernel_rfl) (by kernel_rfl) (by kernel_rfl) (fun _ _ _ h => h) (Or.inl ⟨by kernel_rfl, ?_⟩) (by assumption) ?_
          · intro w hSw
            obtain ⟨hSa, hSb, hSc⟩ := hSw
            go_simp
          simp only [Act.put, List.getElem_toArray, List.getElem_cons_succ, List.getElem_cons_zero, List.setIfInBounds_toArray, List.set_cons_zero, List.set_cons_succ]
          refine wpAnyH_take (i := 8) (v := .int .i64 (b : Int)) rfl (by kernel_rfl) (by kernel_rfl) (by kernel_rfl) (fun _ _ _ h => h) (Or.inl ⟨by kernel_rfl, ?_⟩) (by assumption) ?_
          · intro w hSw
            obtain ⟨hSa, hSb, hSc⟩ := hSw
            go_simp
          simp only [Act.put, List.getElem_toArray, List.getElem_cons_succ, List.getElem_cons_zero, List.setIfInBounds_toArray, List.set_cons_zero, List.set_cons_succ]
          refine wpAnyH_take (i := 9) (v := .pointer (some ⟨gp, b, none⟩)) rfl (by kernel_rfl) (by kernel_rfl) (by kernel_rfl) (fun _ _ _ h => h) (Or.inl ⟨by kernel_rfl, ?_⟩) (by assumption) ?_
          · intro w hSw
            obtain ⟨hSa, hSb, hSc⟩ := hSw
            go_simp
          simp only [Act.put, List.getElem_toArray, List.getElem_cons_succ, List.getElem_cons_zero, List.setIfInBounds_toArray, List.set_cons_zero, List.set_cons_succ]
          refine wpAnyH_take (i := 10) (v := .int .i64 x) rfl (by kernel_rfl) (by kernel_rfl) (by kernel_rfl) (fun _ _ _ h => h) (Or.inl ⟨by kernel_rfl, ?_⟩) (by assumption) ?_
          · intro w hSw
            obtain ⟨hSa, hSb, hSc⟩ := hSw
            go_simp
          simp only [Act.put, List.getElem_toArray, List.getElem_cons_succ, List.getElem_cons_zero, List.setIfInBounds_toArray, List.set_cons_zero, List.set_cons_succ]
          refine wpAnyH_ready (rs := [11]) (by kernel_rfl) (by simp) ?_
          refine AllReadyH.cons rfl (fun K hK => ?_) AllReadyH.nil
          have hba' : b < askk.length := by rw [HMid.out.len]; exact hbr'
          have hop : Ma.opn (askk.set b true) < f := by
            have i1 := Ma.opn_set askk b hba' HT.out
            have i2 := HMid.out.opn HL.out
            omega
          have HC := Lib.hid (callsIn_wide.1 (HIH.out (askk.set b true) par x Wd hop HOk.out hx0.1 hx0.2 hGd hSd1 hOd))
          have hsle : w.heap.size ≤ s := by rw [← HS.out]; exact Nat.le_refl _
          clear hop hba'
          go_simp
          refine HC.out.mono ?_
          rintro e W3 ⟨hK3, hB3, ask', hS3, (⟨rfl, par', hO3, hy⟩ | ⟨rfl, hO3, hno⟩)⟩
          · have hG3 := hGd.kept hx hK3
            have hbx : par'.getD b 0 = x := by
              rw [getD_any par' (by rw [hy.ok.1]; exact hbr'), hy.keep b hbr' (by rw [Ma.getD_set _ _ _ _ _ (by rw [HMid.out.len]; exact hbr'), if_pos rfl]), ← HXP.out]
            have c5 := hO3.cell b hbr'
            rw [hbx] at c5
            have hS3' : W3.cell? ⟨bp, 0, none⟩ = some (.slice (some ⟨gp, 0, none⟩) r r) ∧ W3.cell? ⟨bf, 0, none⟩ = some (.func (.func 49) #[] #[.pointer (some ⟨bl, 0, none⟩), .pointer (some ⟨ba, 0, none⟩), .pointer (some ⟨bp, 0, none⟩), .pointer (some ⟨bf, 0, none⟩)]) ∧ W3.cell? ⟨gp, b, none⟩ = some (.int .i64 x) := ⟨hG3.cp, hG3.cf, c5⟩
            refine hK.out _ _ hS3' (fun _ => ?_)
            clear hK K
            refine wpAnyH_take (i := 12) (v := .bool true) rfl (by kernel_rfl) (by kernel_rfl) (by kernel_rfl) (fun _ _ _ h => h) (Or.inl ⟨by kernel_rfl, ?_⟩) (by assumption) ?_
            · intro w hSw
              obtain ⟨hSa, hSb, hSc⟩ := hSw
              go_simp
            simp only [Act.put, List.getElem_toArray, List.getElem_cons_succ, List.getElem_cons_zero, List.setIfInBounds_toArray, List.set_cons_zero, List.set_cons_succ]
            refine wpAnyH_done (by kernel_rfl) ?_ _
            refine hK1 _ _ ?_
            have hba3 := hK3.boxed' hbad (hXs s (Nat.le_refl _))
            have hbr3 := hK3.boxed' hbrd (hXs (s + 1) (by omega))
            have c1 := hG3.cp
            have c2 := hba3.cell
            have f3 := hO3.frozen b
            have hbr2 : Boxed (W3.setCell ⟨gp, b, none⟩ (.int .i64 a)) (s + 1) 4 (.bool false) := (Below.heap_setCell W3 _ _ (s + 1) (show s + 1 ≠ gp by omega)).trans hbr3
            have c4 := hbr2.cell
            have f4 := hbr2.frozen
            have hP := pl_put (a := a) (b := b) hnxp hne hgas' hgps' hS3 hO3 hbr3 rfl
            have hY : Ma.Yes ls l r a ask par (par'.set b a) := HMid.out.swap HOk.out hbr' ha0 hal HHas.out HT.out (by rw [← HXP.out]; exact hx0.1) (by rw [← HXP.out]; exact hy)
            have HP := Lib.hid hP
            have HY := Lib.hid hY
            have hK03 := hKd.trans' hK3
            clear hP hY hbr2 hK1 hSd hOd hSd1 hbad hGd hy hbx hS3' hG3 hS3 hO3 HC
            gi_wp2
            exact ⟨(hK03.mono' hk6).trans' (HP.out.2.2.2.1.mono' (fun k hk => hk.elim (hk6 k) (fun e => by omega))), _, _, HP.out.1, HP.out.2.1, HY.out, HP.out.2.2.1, (hKw.trans' hK03).but HP.out.2.2.2.1 hsle, (hBd.trans hB3).trans HP.out.2.2.2.2⟩
          · have hG3 := hGd.kept hx hK3
            have c5 := hO3.cell b hbr'
            rw [getD_any par hpl, ← HXP.out] at c5
            have hS3' : W3.cell? ⟨bp, 0, none⟩ = some (.slice (some ⟨gp, 0, none⟩) r r) ∧ W3.cell? ⟨bf, 0, none⟩ = some (.func (.func 49) #[] #[.pointer (some ⟨bl, 0, none⟩), .pointer (some ⟨ba, 0, none⟩), .pointer (some ⟨bp, 0, none⟩), .pointer (some ⟨bf, 0, none⟩)]) ∧ W3.cell? ⟨gp, b, none⟩ = some (.int .i64 x) := ⟨hG3.cp, hG3.cf, c5⟩
            refine hK.out _ _ hS3' (fun _ => ?_)
            clear hK K
            refine wpAnyH_take (i := 12) (v := .bool false) rfl (by kernel_rfl) (by kernel_rfl) (by kernel_rfl) (fun _ _ _ h => h) (Or.inl ⟨by kernel_rfl, ?_⟩) (by assumption) ?_
            · intro w hSw
              obtain ⟨hSa, hSb, hSc⟩ := hSw
              go_simp
            simp only [Act.put, List.getElem_toArray, List.getElem_cons_succ, List.getElem_cons_zero, List.setIfInBounds_toArray, List.set_cons_zero, List.set_cons_succ]
            refine wpAnyH_done (by kernel_rfl) ?_ _
            refine hK1 _ _ ?_
            have hba3 := hK3.boxed' hbad (hXs s (Nat.le_refl _))
            have hbr3 := hK3.boxed' hbrd (hXs (s + 1) (by omega))
            obtain ⟨m1, m2, m3⟩ := HMid.out.fail hbr' (by rw [← HXP.out]; exact hx0.1) (by rw [← HXP.out]; exact hno)
            have hK03 := hKd.trans' hK3
            have hfin : PlI nB ga gp r s ls a ask par w (pre ++ [(b : Int)]) W3 := by
              refine ⟨ask', m1, fun y hy => ?_, hS3, hO3, hba3, hbr3, hKw.trans' hK03, hBd.trans hB3⟩
              rcases List.mem_append.1 hy with hy | hy
              · have h1 := hpr y hy
                exact m3 _ (by have := getD_lt h1; rwa [HMid.out.len] at this) h1
              · obtain rfl : y = (b : Int) := by simpa using hy
                rw [Int.toNat_natCast]
                exact m2
            clear hK1 hSd hOd hSd1 hbad hGd hS3' hG3 hS3 hO3 HC m1 m2 m3 hno hba3 hbr3
            gi_wp2
            exact ⟨hK03, hfin⟩
  case done =>
    rintro D W hD ⟨askk, hmid, hpr, hSk, hOk, hba, hbr, hKw, hBw⟩ hK
    have g4 := hbr.cell
    have g5 := hbr.frozen
    have hK' : (W.setCell ⟨s + 1, 0, none⟩ (.bool false)).heap[D]? = some (.deferred (some [])) := (KeepsOthers.setCell W _ _).same D _ hK rfl
    have hb' := hbr.set (.bool false)
    have hKw' : Kept (plW ga gp) w (W.setCell ⟨s + 1, 0, none⟩ (.bool false)) := hKw.and_below ((Below.refl (s + 1) W).setCell (p := ⟨s + 1, 0, none⟩) (Nat.le_refl _) _) (by rw [← HS.out]; omega)
    have hSk' : SeenAt (W.setCell ⟨s + 1, 0, none⟩ (.bool false)) ga r askk := hSk.same (Below.heap_setCell W _ _ ga (by simp; omega))
    have hOk' : Own (W.setCell ⟨s + 1, 0, none⟩ (.bool false)) nB 3 (.slice (some ⟨gp, 0, none⟩) r r) par := hOk.same (fun k hk => by cases hk; exact Below.heap_setCell W _ _ gp (by simp; omega))
    have hNo : Ma.No ls r a par ask askk := ⟨hmid, fun j hj hh => by have := hpr (j : Int) (Ma.mem_jl.2 hh); rwa [Int.toNat_natCast] at this⟩
    clear hbr hba hSk hOk hKw hmid hpr
    gi_wp2
    refine ⟨by simp, .inl ⟨_, _, rfl, run_takeDeferred hK', ?_⟩⟩
    have hcD : Boxed ((W.setCell ⟨s + 1, 0, none⟩ (.bool false)).putObj D (.deferred none)) (s + 1) 4 (.bool false) := (World.putObj_heap_other (by omega)).trans hb'
    refine ⟨_, results_cellB rfl _ _ (s + 1) _ rfl hcD.cell Tryd.isAgg4, hKw'.and_below (below_put (B := s) _ _ _ (by omega)) (by rw [← HS.out]; exact Nat.le_refl _), (hBw.setCell (p := ⟨s + 1, 0, none⟩) (show nB ≤ s + 1 by omega) _).trans (below_put _ _ _ (by omega)), askk, hSk'.same (World.putObj_heap_other (by omega)), .inr ⟨rfl, hOk'.same (fun k hk => by cases hk; exact World.putObj_heap_other (show gp ≠ D by omega)), hNo⟩⟩
  case stop =>
    rintro D pre W hD hpre ⟨ask', par', hSk, hOk, hy, hbr, hKw, hBw⟩ hK
    gi_wp2
    refine ⟨by simp, .inl ⟨_, _, rfl, run_takeDeferred hK, ?_⟩⟩
    have hcD : Boxed (W.putObj D (.deferred none)) (s + 1) 4 (.bool true) := (World.putObj_heap_other (by omega)).trans hbr
    refine ⟨_, results_cellB rfl _ _ (s + 1) _ rfl hcD.cell Tryd.isAgg4, hKw.and_below (below_put (B := s) _ _ _ (by omega)) (by rw [← HS.out]; exact Nat.le_refl _), hBw.trans (below_put _ _ _ (by omega)), ask', hSk.same (World.putObj_heap_other (by omega)), .inl ⟨rfl, par', hOk.same (fun k hk => by cases hk; exact World.putObj_heap_other (show gp ≠ D by omega)), hy⟩⟩

end Go.Proofs.YtinglgnddmadaaaDoor
