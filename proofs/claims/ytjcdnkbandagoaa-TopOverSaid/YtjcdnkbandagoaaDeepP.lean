/-
  Plain facts on what the search for the lowest times writes down, step by step. No statement of the program is proved here; there is no condition.
-/
import Derived.Test.YtjcdnkbandagoaaDeepO
set_option linter.unusedSimpArgs false
set_option linter.unusedVariables false
namespace Go.Proofs.Ytjcdnkbandagoaa.Dp

/-- two lists: when met, the lowest time so far -/
structure D2 where
  met : List Int
  low : List Int
/-- a point is left: it takes those beside it, and hands up -/
def fin1 (R : Nat → List Nat) (mt lo : List Int) (v : Nat) (p : Int) : List Int :=
  if p ≠ -1 then (lo.set v (rmin R (fun u => mt.getD u 0) p v (lo.getD v 0))).set p.toNat (min ((lo.set v (rmin R (fun u => mt.getD u 0) p v (lo.getD v 0))).getD p.toNat 0) ((lo.set v (rmin R (fun u => mt.getD u 0) p v (lo.getD v 0))).getD v 0))
  else lo.set v (rmin R (fun u => mt.getD u 0) p v (lo.getD v 0))
def lay2 (R : Nat → List Nat) (d : D2) (x : Stp) : D2 := if x.fin then ⟨d.met, fin1 R d.met d.low x.v x.p⟩ else ⟨d.met.set x.v (x.k : Int), d.low.set x.v (x.k : Int)⟩
def lays2 (R : Nat → List Nat) (d : D2) (l : List Stp) : D2 := l.foldl (lay2 R) d
theorem lays2_snoc (R : Nat → List Nat) (d : D2) (l : List Stp) (x : Stp) : lays2 R d (l ++ [x]) = lay2 R (lays2 R d l) x := by simp [lays2]
def D2.Len (m : Nat) (d : D2) : Prop := d.met.length = m ∧ d.low.length = m
theorem lay2_len {m : Nat} {R : Nat → List Nat} {d : D2} (h : d.Len m) (x : Stp) : (lay2 R d x).Len m := by
  obtain ⟨h1, h2⟩ := h
  unfold lay2
  split
  · refine ⟨h1, ?_⟩
    show (fin1 R d.met d.low x.v x.p).length = m
    unfold fin1
    split <;> simp [h2]
  · exact ⟨by simp [h1], by simp [h2]⟩
theorem lays2_len {m : Nat} {R : Nat → List Nat} {d : D2} (h : d.Len m) (l : List Stp) : (lays2 R d l).Len m := by
  induction l generalizing d with
  | nil => exact h
  | cons x l ih => exact ih (lay2_len h x)

theorem rmin_congr {R : Nat → List Nat} {M M' : Nat → Int} {p : Int} {v : Nat} {a : Int} (h : ∀ w ∈ R v, M w = M' w) : rmin R M p v a = rmin R M' p v a := by
  unfold rmin
  generalize R v = l at h
  induction l generalizing a with
  | nil => rfl
  | cons w l ih =>
    simp only [List.foldl_cons]
    rw [h w (by simp)]
    exact ih (fun x hx => h x (by simp [hx]))
theorem foldl_congr {f g : Nat → Int} : ∀ (l : List Nat) (a : Int), (∀ c ∈ l, f c = g c) → l.foldl (fun a c => min a (f c)) a = l.foldl (fun a c => min a (g c)) a
  | [], _, _ => rfl
  | c :: l, a, h => by
    simp only [List.foldl_cons]
    rw [h c (by simp)]
    exact foldl_congr l _ (fun x hx => h x (by simp [hx]))

theorem Dfs.lay2 {m : Nat} {R : Nat → List Nat} (hR : Wa.Ok m R) {M : Nat → Int} {s : List Bool} {ws : List Nat} {F : Fo} {s' : List Bool} (hd : Dfs R s ws F s') :
    ∀ (k : Nat) (p : Int) (d : D2), s.length = m → (∀ w ∈ ws, w < m) → d.Len m → (p = -1 ∨ ∃ q, q < m ∧ p = ((q : Nat) : Int)) → (∀ x ∈ F.pts, (x : Int) ≠ p) → (∀ u ∈ F.pts, M u = ((Dp.met F k u : Nat) : Int)) →
      (∀ u, u < m → s.getD u false = true → d.met.getD u 0 = M u) → ∀ u, u < m →
      ((lays2 R d (emit k F p)).met.getD u 0 = if u ∈ F.pts then M u else d.met.getD u 0) ∧
      ((lays2 R d (emit k F p)).low.getD u 0 = if u ∈ F.pts then lw R M F p u else if (u : Int) = p then F.roots.foldl (fun a c => min a (lw R M F p c)) (d.low.getD u 0) else d.low.getD u 0) := by
  induction hd with
  | nil s =>
    intro k p d _ _ _ _ _ _ _ u _
    simp [emit, lays2, Fo.pts, Fo.roots]
  | @skip s w ws F s' h h1 ih => exact fun k p d hl hw => ih k p d hl (fun x hx => hw x (by simp [hx]))
  | @go s v ws ch rest s1 s2 h h1 h2 ih1 ih2 =>
    intro k p d hl hw hlen hp hne hM hseen u hu
    have hvm : v < m := hw v (by simp)
    have hvs : v < s.length := by omega
    have q := (Dfs.go h h1 h2).spec hR hl hw
    have q1 := h1.spec hR (by simp [hl]) (hR v hvm)
    have q2 := h2.spec hR q1.len (fun y hy => hw y (by simp [hy]))
    obtain ⟨n1, n2, n3, n4, n5⟩ := Fo.nodup_pts.1 q.nodup
    have hvp : (v : Int) ≠ p := hne v (by simp [Fo.pts])
    have hMv : M v = (k : Int) := by rw [hM v (by simp [Fo.pts]), met_v]
    -- met
    obtain ⟨d1, hd1⟩ : ∃ d1, d1 = (⟨d.met.set v (k : Int), d.low.set v (k : Int)⟩ : D2) := ⟨_, rfl⟩
    have l1 : d1.Len m := by rw [hd1]; exact ⟨by simp [hlen.1], by simp [hlen.2]⟩
    have m1 : ∀ u, d1.met.getD u 0 = if u = v then (k : Int) else d.met.getD u 0 := fun u => by rw [hd1]; exact getD_setI _ _ _ _ (by rw [hlen.1]; exact hvm)
    have w1 : ∀ u, d1.low.getD u 0 = if u = v then (k : Int) else d.low.getD u 0 := fun u => by rw [hd1]; exact getD_setI _ _ _ _ (by rw [hlen.2]; exact hvm)
    have seen1 : ∀ u, u < m → (s.set v true).getD u false = true → d1.met.getD u 0 = M u := fun u hu hs => by
      rw [m1]
      by_cases e : u = v
      · rw [if_pos e, e, hMv]
      · rw [if_neg e]
        rw [Wa.getD_set s v u hvs] at hs
        simp [e] at hs
        exact hseen u hu (by simpa [List.getD] using hs)
    -- those met from it
    have cne : ∀ x, x ∈ ch.pts → x ≠ v := fun x hx e => n1 (e ▸ hx)
    have rne : ∀ x, x ∈ rest.pts → x ≠ v := fun x hx e => n2 (e ▸ hx)
    have rnc : ∀ x, x ∈ rest.pts → x ∉ ch.pts := fun x hx e => n5 x e hx
    have cni : ∀ x, x ∈ ch.pts → (x : Int) ≠ (v : Int) := fun x hx e => cne x hx (by omega)
    have r2 := ih1 (k + 1) (v : Int) d1 (by simp [hl]) (hR v hvm) l1 (.inr ⟨v, hvm, rfl⟩) cni (fun x hx => by rw [hM x (Fo.mem_pts.2 (.inr (.inl hx))), met_c (cne x hx) hx]) seen1
    obtain ⟨d2, hd2⟩ : ∃ d2, d2 = lays2 R d1 (emit (k + 1) ch (v : Int)) := ⟨_, rfl⟩
    rw [← hd2] at r2
    have l2 : d2.Len m := by rw [hd2]; exact lays2_len l1 _
    have seen2 : ∀ u, u < m → s1.getD u false = true → d2.met.getD u 0 = M u := fun u hu hs => by
      rw [(r2 u hu).1]
      by_cases e : u ∈ ch.pts
      · rw [if_pos e]
      · rw [if_neg e]
        exact seen1 u hu (((q1.seen u).1 hs).elim id (fun h => absurd h e))
    have a2 : rmin R (fun u => d2.met.getD u 0) p v (d2.low.getD v 0) = lw R M (.cons v ch rest) p v := by
      rw [lw_v, rmin_congr (M' := M) (fun w hw' => seen2 w (hR v hvm w hw') (q1.all w hw')), (r2 v hvm).2, if_neg n1, if_pos rfl, w1, if_pos rfl, hMv]
    -- left
    obtain ⟨d3, hd3⟩ : ∃ d3, d3 = (⟨d2.met, fin1 R d2.met d2.low v p⟩ : D2) := ⟨_, rfl⟩
    have l3 : d3.Len m := by rw [hd3]; exact ⟨l2.1, by show (fin1 R d2.met d2.low v p).length = m; unfold fin1; split <;> simp [l2.2]⟩
    have m3 : ∀ u, d3.met.getD u 0 = d2.met.getD u 0 := fun u => by rw [hd3]
    have base3 : ∀ u, (d2.low.set v (lw R M (.cons v ch rest) p v)).getD u 0 = if u = v then lw R M (.cons v ch rest) p v else d2.low.getD u 0 := fun u => getD_setI _ _ _ _ (by rw [l2.2]; exact hvm)
    have w3 : ∀ u, u < m → d3.low.getD u 0 = if u = v then lw R M (.cons v ch rest) p v else if u ∈ ch.pts then lw R M ch (v : Int) u else if (u : Int) = p then min (d.low.getD u 0) (lw R M (.cons v ch rest) p v) else d.low.getD u 0 := fun u hu => by
      have low2 : u ≠ v → d2.low.getD u 0 = if u ∈ ch.pts then lw R M ch (v : Int) u else d.low.getD u 0 := fun e => by
        rw [(r2 u hu).2, if_neg (fun h : (u : Int) = (v : Int) => e (by omega)), w1, if_neg e]
      rw [hd3]
      show (fin1 R d2.met d2.low v p).getD u 0 = _
      unfold fin1
      rw [a2]
      rcases hp with hp | ⟨x, hx, hp⟩
      · rw [if_neg (fun h => h hp), base3]
        by_cases e : u = v
        · rw [if_pos e, if_pos e]
        · rw [if_neg e, if_neg e, low2 e, if_neg (fun h : (u : Int) = p => by omega)]
      · have hxn : p.toNat = x := by omega
        have hxv : x ≠ v := fun e => hvp (by omega)
        have hxc : x ∉ ch.pts := fun e => hne x (Fo.mem_pts.2 (.inr (.inl e))) hp.symm
        rw [if_pos (show p ≠ -1 by omega), hxn, getD_setI _ _ _ _ (by simp [l2.2]; exact hx), base3, base3, base3, if_neg hxv, if_pos rfl]
        have lowx : d2.low.getD x 0 = d.low.getD x 0 := by
          rw [(r2 x hx).2, if_neg hxc, if_neg (fun h : (x : Int) = (v : Int) => hxv (by omega)), w1, if_neg hxv]
        by_cases e : u = x
        · subst e
          rw [if_pos rfl, if_neg hxv, if_neg hxc, if_pos hp.symm, lowx]
        · rw [if_neg e]
          by_cases e2 : u = v
          · rw [if_pos e2, if_pos e2]
          · rw [if_neg e2, if_neg e2, low2 e2, if_neg (fun h : (u : Int) = p => e (by omega))]
    have r4 := ih2 (k + 2 * ch.size + 2) p d3 q1.len (fun x hx => hw x (by simp [hx])) l3 hp (fun x hx => hne x (Fo.mem_pts.2 (.inr (.inr hx)))) (fun x hx => by rw [hM x (Fo.mem_pts.2 (.inr (.inr hx))), met_r (rne x hx) (rnc x hx)]) (fun u hu hs => by rw [m3]; exact seen2 u hu hs) u hu
    have hem : lays2 R d (emit k (.cons v ch rest) p) = lays2 R d3 (emit (k + 2 * ch.size + 2) rest p) := by
      rw [hd3, hd2, hd1]
      simp only [lays2, emit, List.foldl_cons, List.foldl_append]
      rfl
    rw [hem, r4.1, r4.2, m3, (r2 u hu).1, m1, w3 u hu]
    by_cases e1 : u ∈ rest.pts
    · have e2 : u ≠ v := fun e => n2 (e ▸ e1)
      have e3 : u ∉ ch.pts := fun e => n5 u e e1
      have e4 : u ∈ (Fo.cons v ch rest).pts := Fo.mem_pts.2 (.inr (.inr e1))
      simp only [if_pos e1, if_pos e4, lw_r e2 e3, and_self]
    · by_cases e2 : u = v
      · have e4 : u ∈ (Fo.cons v ch rest).pts := Fo.mem_pts.2 (.inl e2)
        have e5 : u ∉ ch.pts := fun e => n1 (e2 ▸ e)
        have e6 : (u : Int) ≠ p := by rw [e2]; exact hvp
        simp only [if_neg e1, if_pos e4, if_pos e2, if_neg e5, if_neg e6]
        rw [e2]
        exact ⟨hMv.symm, rfl⟩
      · by_cases e3 : u ∈ ch.pts
        · have e4 : u ∈ (Fo.cons v ch rest).pts := Fo.mem_pts.2 (.inr (.inl e3))
          have e6 : (u : Int) ≠ p := hne u e4
          simp only [if_neg e1, if_pos e4, if_neg e2, if_pos e3, if_neg e6, lw_c e2 e3, and_self]
        · have e4 : ¬ u ∈ (Fo.cons v ch rest).pts := fun h => (Fo.mem_pts.1 h).elim e2 (fun h => h.elim e3 e1)
          simp only [if_neg e1, if_neg e4, if_neg e2, if_neg e3]
          by_cases e6 : (u : Int) = p
          · simp only [if_pos e6, Fo.roots, List.foldl_cons, true_and]
            refine (foldl_congr rest.roots _ (fun c hc => ?_)).symm
            have hcr := Fo.roots_sub hc
            exact lw_r (fun e => n2 (e ▸ hcr)) (fun e => n5 c e hcr)
          · simp only [if_neg e6, and_self]

theorem Whole.lay2 {m : Nat} {R : Nat → List Nat} (hR : Wa.Ok m R) {F : Fo} (hF : Whole m R F) (d : D2) (hd : d.Len m) : lays2 R d (emit 0 F (-1)) = ⟨mets m F, lows m R F⟩ := by
  have hq := hF.spec hR
  obtain ⟨s', h⟩ := hF
  have hl := lays2_len (R := R) hd (emit 0 F (-1))
  have key := h.lay2 hR (M := fun u => ((Dp.met F 0 u : Nat) : Int)) 0 (-1) d (by simp) (by simp) hd (.inl rfl) (fun x _ => by omega) (fun _ _ => rfl) (fun u hu hs => by
    simp [List.getD, List.getElem?_replicate] at hs
    split at hs <;> simp_all)
  have e1 : (lays2 R d (emit 0 F (-1))).met = mets m F := eq_getD (by rw [hl.1, mets_len]) (fun i hi => by rw [hl.1] at hi; rw [(key i hi).1, if_pos ((hq.1 i).2 hi), mets_at F hi])
  have e2 : (lays2 R d (emit 0 F (-1))).low = lows m R F := eq_getD (by rw [hl.2, lows_len]) (fun i hi => by rw [hl.2] at hi; rw [(key i hi).2, if_pos ((hq.1 i).2 hi), lows_at R F hi])
  rw [← e1, ← e2]

/-- the first j of those beside v are taken -/
def accTo (R : Nat → List Nat) (M : Nat → Int) (p : Int) (v : Nat) (a : Int) (j : Nat) : Int := ((R v).take j).foldl (fun (a : Int) (w : Nat) => if ((w : Nat) : Int) ≠ p then min a (M w) else a) a
theorem accTo_zero (R : Nat → List Nat) (M : Nat → Int) (p : Int) (v : Nat) (a : Int) : accTo R M p v a 0 = a := by simp [accTo]
theorem accTo_all (R : Nat → List Nat) (M : Nat → Int) (p : Int) (v : Nat) (a : Int) : accTo R M p v a (R v).length = rmin R M p v a := by simp [accTo, rmin]
theorem accTo_succ {R : Nat → List Nat} {M : Nat → Int} {p : Int} {v : Nat} {a : Int} {j : Nat} (hj : j < (R v).length) : accTo R M p v a (j + 1) = if (((R v).getD j 0 : Nat) : Int) ≠ p then min (accTo R M p v a j) (M ((R v).getD j 0)) else accTo R M p v a j := by
  unfold accTo
  rw [List.take_succ_eq_append_getElem hj, List.foldl_append]
  simp [List.getD, hj]

/-- no point is met from itself -/
theorem emit_ne : ∀ {F : Fo} {k : Nat} {p : Int} {x : Stp}, F.pts.Nodup → (∀ u ∈ F.pts, (u : Int) ≠ p) → x ∈ emit k F p → (x.v : Int) ≠ x.p
  | .cons v ch rest, k, p, x, hn, hp, h => by
    obtain ⟨n1, n2, n3, n4, n5⟩ := Fo.nodup_pts.1 hn
    simp only [emit, List.mem_cons, List.mem_append] at h
    rcases h with rfl | h | rfl | h
    · exact hp v (by simp [Fo.pts])
    · exact emit_ne n3 (fun u hu e => by
        have e' : u = v := by omega
        exact n1 (e' ▸ hu)) h
    · exact hp v (by simp [Fo.pts])
    · exact emit_ne n4 (fun u hu => hp u (Fo.mem_pts.2 (.inr (.inr hu)))) h

end Go.Proofs.Ytjcdnkbandagoaa.Dp
