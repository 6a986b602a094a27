/-
  Plain facts on points and lines that hold parts together: two points never do, the ends of a line that does, and what a deep search says of lines. No statement of the program is proved here; there is no condition.
-/
import Derived.Test.YtehkkpkhpbbpnaaDoorDeepQ
import Derived.Test.YtehkkpkhpbbpnaaDoorWalkQ
set_option linter.unusedSimpArgs false
set_option linter.unusedVariables false
namespace Go.Proofs.YtehkkpkhpbbpnaaDoor.Dp

section
variable {m : Nat} {R : Nat → List Nat} {F : Fo}

/-! ### two points hold nothing together -/
/-- on the way from u one comes past no point that is as far -/
theorem reach_past (hR : Wa.Ok m R) {u v : Nat} (hu : u < m) (huv : u ≠ v) : ∀ (n : Nat) (x : Nat), x < m → x ≠ v → 0 ≤ Wa.dist m R u x → Wa.dist m R u x ≤ Wa.dist m R u v → Wa.dist m R u x ≤ (n : Int) → Wa.rch m (rmv R v) u x = true := by
  intro n
  induction n with
  | zero =>
    intro x hx hxv h0 h1 h2
    have := (Wa.dist_zero hR hu (v := x)).1 (by omega)
    rw [this]; exact Wa.rch_self (rmv_ok hR v) hu
  | succ n ih =>
    intro x hx hxv h0 h1 h2
    rcases Int.lt_or_le (Wa.dist m R u x) 1 with h | h
    · have := (Wa.dist_zero hR hu (v := x)).1 (by omega)
      rw [this]; exact Wa.rch_self (rmv_ok hR v) hu
    · obtain ⟨j, hj, h3, h4⟩ := Wa.dist_back hR hu h
      have hjv : j ≠ v := fun e => by rw [e] at h4; omega
      exact Wa.rch_trans (rmv_ok hR v) hu hj (ih j hj hjv (by omega) (by omega) (by omega)) (rmv_step hR hj hjv hxv h3)
/-- one that is farthest from u holds nothing together -/
theorem far_not_cut (hR : Wa.Ok m R) (hs : Wa.Sym m R) (hirr : ∀ a, a < m → a ∉ R a) {u v : Nat} (hu : u < m) (hv : v < m) (h0 : 0 ≤ Wa.dist m R u v) (hmax : ∀ x, x < m → Wa.dist m R u x ≤ Wa.dist m R u v) : ¬ Cut m R v := by
  refine not_cut hR hs hirr hv (fun x y hx hy => ?_)
  have hxm := hR v hv x hx
  have hym := hR v hv y hy
  have hxv : x ≠ v := fun e => hirr v hv (e ▸ hx)
  have hyv : y ≠ v := fun e => hirr v hv (e ▸ hy)
  by_cases e : u = v
  · subst e
    have h1 := (Wa.dist_step hR hu hv hx h0).1
    have h2 := hmax x hxm
    have h3 := (Wa.dist_zero hR hu (v := u)).2 rfl
    have h4 := (Wa.dist_zero hR hu (v := x)).1 (by omega)
    exact absurd h4 hxv
  · have ax := reach_past hR hu e _ x hxm hxv (Wa.dist_step hR hu hv hx h0).1 (hmax x hxm) (Int.self_le_toNat _)
    have ay := reach_past hR hu e _ y hym hyv (Wa.dist_step hR hu hv hy h0).1 (hmax y hym) (Int.self_le_toNat _)
    exact Wa.rch_trans (rmv_ok hR v) hxm hu (Wa.rch_sym (rmv_ok hR v) (rmv_sym hs v) hu hxm ax) ay
theorem far_exists (hR : Wa.Ok m R) {u : Nat} (hu : u < m) : ∃ v, v < m ∧ 0 ≤ Wa.dist m R u v ∧ ∀ x, x < m → Wa.dist m R u x ≤ Wa.dist m R u v := by
  have key : ∀ k, k ≤ m → ∃ v, v < m ∧ 0 ≤ Wa.dist m R u v ∧ ∀ x, x < k → Wa.dist m R u x ≤ Wa.dist m R u v := by
    intro k
    induction k with
    | zero => exact fun _ => ⟨u, hu, by rw [(Wa.dist_zero hR hu (v := u)).2 rfl]; exact Int.le_refl _, fun x hx => by omega⟩
    | succ k ih =>
      intro hk
      obtain ⟨v, hv, h0, h1⟩ := ih (by omega)
      rcases Int.lt_or_le (Wa.dist m R u v) (Wa.dist m R u k) with h | h
      · exact ⟨k, by omega, by omega, fun x hx => by
          rcases Nat.lt_or_ge x k with e | e
          · have := h1 x e; omega
          · have : x = k := by omega
            subst this; exact Int.le_refl _⟩
      · exact ⟨v, hv, h0, fun x hx => by
          rcases Nat.lt_or_ge x k with e | e
          · exact h1 x e
          · have : x = k := by omega
            subst this; exact h⟩
  exact key m (Nat.le_refl _)
theorem two_free (hR : Wa.Ok m R) (hs : Wa.Sym m R) (hirr : ∀ a, a < m → a ∉ R a) (hm : 2 ≤ m) : ∃ a b, a < m ∧ b < m ∧ a ≠ b ∧ ¬ Cut m R a ∧ ¬ Cut m R b := by
  obtain ⟨v, hv, h0, h1⟩ := far_exists hR (u := 0) (by omega)
  obtain ⟨x, hx, h2, h3⟩ := far_exists hR hv
  by_cases e : x = v
  · -- v stands alone: it is 0
    subst e
    have hd0 := (Wa.dist_zero hR hx (v := x)).2 rfl
    have hlone : ∀ y, y < m → y ≠ x → Wa.dist m R x y < 0 := fun y hy hne => by
      have h4 := h3 y hy
      rcases Int.lt_or_le (Wa.dist m R x y) 0 with h | h
      · exact h
      · exact absurd ((Wa.dist_zero hR hx (v := y)).1 (by omega)) hne
    have hx0 : x = 0 := by
      by_cases e0 : (0 : Nat) = x
      · exact e0.symm
      · have h4 := hlone 0 (by omega) e0
        rw [Wa.dist_sym hR hs hx (by omega)] at h4
        omega
    obtain ⟨y, hy, h5, h6⟩ := far_exists hR (u := 1) (by omega)
    refine ⟨x, y, hx, hy, fun e => ?_, far_not_cut hR hs hirr hx hx h2 h3, far_not_cut hR hs hirr (by omega) hy h5 h6⟩
    rw [← e] at h5
    have h7 := hlone 1 (by omega) (by omega)
    rw [Wa.dist_sym hR hs hx (by omega)] at h7
    omega
  · exact ⟨x, v, hx, hv, e, far_not_cut hR hs hirr hv hx h2 h3, far_not_cut hR hs hirr (by omega) hv h0 h1⟩

/-! ### lines -/
/-- the rows without the line between a and b -/
def rml (R : Nat → List Nat) (a b : Nat) : Nat → List Nat := fun u => (R u).filter fun w => !(decide (u = a ∧ w = b) || decide (u = b ∧ w = a))
theorem mem_rml {R : Nat → List Nat} {a b u w : Nat} : w ∈ rml R a b u ↔ w ∈ R u ∧ ¬ (u = a ∧ w = b) ∧ ¬ (u = b ∧ w = a) := by
  unfold rml
  rw [List.mem_filter]
  simp only [Bool.not_eq_true', Bool.or_eq_false_iff, decide_eq_false_iff_not]
theorem rml_ok (hR : Wa.Ok m R) (a b : Nat) : Wa.Ok m (rml R a b) := fun u hu w hw => hR u hu w (mem_rml.1 hw).1
theorem rml_sym (hs : Wa.Sym m R) (a b : Nat) : Wa.Sym m (rml R a b) := fun x y hx hy h => by
  obtain ⟨h1, h2, h3⟩ := mem_rml.1 h
  exact mem_rml.2 ⟨hs x y hx hy h1, fun h => h3 ⟨h.2, h.1⟩, fun h => h2 ⟨h.2, h.1⟩⟩
theorem rml_swap (R : Nat → List Nat) (a b : Nat) : rml R a b = rml R b a := by
  funext u
  unfold rml
  congr 1
  funext w
  rw [Bool.or_comm]
theorem rml_step (hR : Wa.Ok m R) {a b x y : Nat} (hx : x < m) (h : y ∈ R x) (h1 : ¬ (x = a ∧ y = b)) (h2 : ¬ (x = b ∧ y = a)) : Wa.rch m (rml R a b) x y = true :=
  (Wa.rch_iff (rml_ok hR a b) hx).2 ⟨1, Wa.wk_one hx (mem_rml.2 ⟨h, h1, h2⟩)⟩
/-- does the line between a and b hold them together? -/
def Bridge (m : Nat) (R : Nat → List Nat) (a b : Nat) : Prop := b ∈ R a ∧ Wa.rch m (rml R a b) a b = false
theorem Bridge.swap (hR : Wa.Ok m R) (hs : Wa.Sym m R) {a b : Nat} (ha : a < m) (h : Bridge m R a b) : Bridge m R b a := by
  have hb := hR a ha b h.1
  refine ⟨hs a b ha hb h.1, ?_⟩
  cases hr : Wa.rch m (rml R b a) b a with
  | false => rfl
  | true =>
    have := Wa.rch_sym (rml_ok hR b a) (rml_sym hs b a) hb ha hr
    rw [rml_swap] at this
    rw [h.2] at this
    cases this
/-- an end of such a line holds others together, if another one is beside it -/
theorem Bridge.ends (hR : Wa.Ok m R) (hs : Wa.Sym m R) (hirr : ∀ a, a < m → a ∉ R a) {a b c : Nat} (ha : a < m) (h : Bridge m R a b) (hc : c ∈ R a) (hne : c ≠ b) : Cut m R a := by
  have hb := hR a ha b h.1
  have hcm := hR a ha c hc
  have hca : c ≠ a := fun e => hirr a ha (e ▸ hc)
  have hba : b ≠ a := fun e => hirr a ha (e ▸ h.1)
  refine ⟨c, b, hcm, hb, hca, hba, ?_, ?_⟩
  · exact Wa.rch_trans hR hcm ha ((Wa.rch_iff hR hcm).2 ⟨1, Wa.wk_one hcm (hs a c ha hcm hc)⟩) ((Wa.rch_iff hR ha).2 ⟨1, Wa.wk_one ha h.1⟩)
  · cases hr : Wa.rch m (rmv R a) c b with
    | false => rfl
    | true =>
      obtain ⟨k, hk⟩ := (Wa.rch_iff (rmv_ok hR a) hcm).1 hr
      have hk2 := Wa.wk_mono (R' := rml R a b) (fun u hu w hw => by
        obtain ⟨h1, h2, h3⟩ := mem_rmv.1 hw
        exact mem_rml.2 ⟨h3, fun h => h1 h.1, fun h => h2 h.2⟩) hk
      have h3 := Wa.rch_trans (rml_ok hR a b) ha hcm (rml_step hR ha hc (fun h => hne h.2) (fun h => hca h.2)) ((Wa.rch_iff (rml_ok hR a b) hcm).2 ⟨k, hk2⟩)
      rw [h.2] at h3
      cases h3

/-- up a tree, not over the line -/
theorem Whole.climbL (hR : Wa.Ok m R) (hs : Wa.Sym m R) (hF : Whole m R F) {a b c : Nat} (hc : c < m) : ∀ (n u : Nat), met F 0 u ≤ n → u < m → Desc F u c → (∀ v q, v < m → q < m → Desc F u v → v ≠ c → Desc F v c → Dp.par F (-1) v = (q : Int) → ¬ (v = a ∧ q = b) ∧ ¬ (v = b ∧ q = a)) → Wa.rch m (rml R a b) u c = true := by
  intro n
  induction n with
  | zero =>
    intro u hn hu hd hav
    by_cases e : u = c
    · exact e ▸ Wa.rch_self (rml_ok hR a b) hu
    · have := hF.desc_lt hR hu hc e hd
      omega
  | succ n ih =>
    intro u hn hu hd hav
    by_cases e : u = c
    · exact e ▸ Wa.rch_self (rml_ok hR a b) hu
    · obtain ⟨q, hq, h1, h2, h3, h4, h5⟩ := hF.near hR hu hc e hd
      have hn1 := hav u q hu hq (Desc.refl F u) e hd h1
      exact Wa.rch_trans (rml_ok hR a b) hu hq (rml_step hR hu (hs q u hq hu h2) hn1.1 hn1.2) (ih q (by omega) hq h4 (fun v q' hv hq' h6 h7 h8 h9 => hav v q' hv hq' (h3.trans h6) h7 h8 h9))

/-- a line down to a point holds it if that one was met over it and comes back no higher than itself -/
theorem Whole.bridge (hR : Wa.Ok m R) (hs : Wa.Sym m R) (hirr : ∀ a, a < m → a ∉ R a) (hF : Whole m R F) {i c : Nat} (hi : i < m) (hc : c < m) (hic : c ∈ R i) (hlt : met F 0 i < met F 0 c) :
    Bridge m R i c ↔ Dp.par F (-1) c = (i : Int) ∧ ((met F 0 i : Nat) : Int) < (lows m R F).getD c 0 := by
  have hne : c ≠ i := fun e => hirr i hi (e ▸ hic)
  have hci : Desc F c i := by
    rcases hF.back hR hs hi hc (fun e => hne e.symm) hic with ⟨h1, h2⟩ | ⟨h1, h2⟩
    · exact ⟨Nat.le_of_lt h1, Nat.le_of_lt h2⟩
    · omega
  have hcl := hF.desc_lt hR hc hi hne hci
  constructor
  · intro hbr
    -- not i met from c
    have hpi : Dp.par F (-1) i ≠ (c : Int) := fun h => by
      have := (hF.kid hR hc hi h).2.2.1
      omega
    have hpc : Dp.par F (-1) c = (i : Int) := by
      by_cases e : Dp.par F (-1) c = (i : Int)
      · exact e
      · exfalso
        obtain ⟨d, hd, hpd, hcd⟩ := hF.child hR hi _ c (Nat.le_refl _) hc hne hci
        have hdc : d ≠ c := fun e' => e (e' ▸ hpd)
        obtain ⟨hdi, hddi, hd1, hd2⟩ := hF.kid hR hi hd hpd
        have r1 := hF.climbL hR hs (a := i) (b := c) hd _ c (Nat.le_refl _) hc hcd (fun v q hv hq h1 h2 h3 h4 => ⟨fun h => hpi (by rw [← h.1, h4, h.2]), fun h => e (by rw [← h.1, h4, h.2])⟩)
        have r2 := rml_step hR (a := i) (b := c) hi hdi (fun h => hdc h.2) (fun h => hne h.1.symm)
        have r3 := Wa.rch_trans (rml_ok hR i c) hi hd r2 (Wa.rch_sym (rml_ok hR i c) (rml_sym hs i c) hc hd r1)
        rw [hbr.2] at r3
        cases r3
    refine ⟨hpc, ?_⟩
    rcases Int.lt_or_le ((met F 0 i : Nat) : Int) ((lows m R F).getD c 0) with h | h
    · exact h
    · exfalso
      obtain ⟨x, hx, hxc, hlow⟩ := hF.low_is hR _ c (Nat.le_add_left _ _) hc
      rcases hlow with h3 | ⟨w, hwx, hwne, h3⟩
      · unfold Desc at hxc
        omega
      · have hw := hR x hx w hwx
        have hxw : x ≠ w := fun e => hirr x hx (by rw [← e] at hwx; exact hwx)
        have hxw' : Desc F x w := by
          rcases hF.back hR hs hx hw hxw hwx with ⟨h4, _⟩ | ⟨h4, h5⟩
          · unfold Desc at hxc; omega
          · exact ⟨Nat.le_of_lt h4, Nat.le_of_lt h5⟩
        have hiw : Desc F i w := by
          rcases hF.desc_two hR hx hw hi hxw' (hxc.trans hci) with h4 | h4
          · by_cases e : w = i
            · exact e ▸ Desc.refl F i
            · have := hF.desc_lt hR hw hi e h4
              omega
          · exact h4
        -- from x up to c, past no i
        have r1 := hF.climbL hR hs (a := i) (b := c) hc _ x (Nat.le_refl _) hx hxc (fun v q hv hq h1 h2 h4 h5 => ⟨fun h => by
            rw [h.1] at h4
            unfold Desc at h4
            omega, fun h => h2 h.1⟩)
        have r2 : Wa.rch m (rml R i c) x w = true := by
          refine rml_step hR hx hwx (fun h => ?_) (fun h => ?_)
          · rw [h.1] at hxc
            unfold Desc at hxc
            omega
          · rw [h.1, h.2] at hwne
            exact hwne hpc.symm
        have r3 := hF.climbL hR hs (a := i) (b := c) hw _ i (Nat.le_refl _) hi hiw (fun v q hv hq h1 h2 h4 h5 => ⟨fun h => hpi (by rw [← h.1, h5, h.2]), fun h => by
            rw [h.1] at h1
            unfold Desc at h1
            omega⟩)
        have r4 := Wa.rch_trans (rml_ok hR i c) hi hw r3 (Wa.rch_trans (rml_ok hR i c) hw hx (Wa.rch_sym (rml_ok hR i c) (rml_sym hs i c) hx hw r2) r1)
        rw [hbr.2] at r4
        cases r4
  · rintro ⟨hpc, hl⟩
    refine ⟨hic, ?_⟩
    cases hr : Wa.rch m (rml R i c) i c with
    | false => rfl
    | true =>
      exfalso
      have hr2 := Wa.rch_sym (rml_ok hR i c) (rml_sym hs i c) hi hc hr
      have := closed_reach (rml_ok hR i c) (S := fun x => Desc F x c) (fun x hx hxd w hw => by
        obtain ⟨h1, h2, h3⟩ := mem_rml.1 hw
        rcases hF.shut hR hs hirr hi hc hpc (Int.le_of_lt hl) hx hxd h1 with e | e
        · exfalso
          by_cases e2 : x = c
          · exact h3 ⟨e2, e⟩
          · obtain ⟨q, hq, h4, _, _, h5, _⟩ := hF.near hR hx hc e2 hxd
            have h6 := hF.low_beside hR hc hx hxd h1 (by
              rw [h4, e]
              intro e3
              have : q = i := by omega
              rw [this] at h5
              unfold Desc at h5
              omega)
            rw [e] at h6
            omega
        · exact e) hc (Desc.refl F c) hr2
      have hh : Desc F i c := this
      unfold Desc at hh
      omega
end

end Go.Proofs.YtehkkpkhpbbpnaaDoor.Dp
