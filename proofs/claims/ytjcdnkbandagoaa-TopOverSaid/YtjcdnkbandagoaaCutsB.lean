/-
  Plain facts on points and lines that hold parts together: two points never do, the ends of a line that does, and what a deep search says of lines. No statement of the program is proved here; there is no condition.
  Plain facts on how many parts there are without a line and without a point. No statement of the program is proved here; there is no condition.
  Plain facts on graphs without one of their points, with new numbers, and without one of their lines. No statement of the program is proved here; there is no condition.
  Plain facts on points and lines that hold parts together, as lists: what a deep search counts at each point and finds at each line are just those points and lines. No statement of the program is proved here; there is no condition.
-/
import Derived.Test.YtjcdnkbandagoaaDeepQ
import Derived.Test.YtjcdnkbandagoaaWalkF
import Derived.Test.YtjcdnkbandagoaaJoinN
import Derived.Test.YtjcdnkbandagoaaUpN
import Derived.Test.YtjcdnkbandagoaaWalkM
import Derived.Test.YtjcdnkbandagoaaLnLt
import Derived.Test.YtjcdnkbandagoaaGraphL
import Derived.Test.YtjcdnkbandagoaaDeepO
set_option linter.unusedSimpArgs false
set_option linter.unusedVariables false
namespace Go.Proofs.Ytjcdnkbandagoaa.Dp

section
variable {m : Nat} {R : Nat → List Nat} {F : Fo}

/-! ### two points hold nothing together -/
/-- on the way from u one comes past no point that is as far -/
theorem reach_past (hR : Wa.Ok m R) {u v : Nat} (hu : u < m) (huv : u ≠ v) : ∀ (n : Nat) (x : Nat), x < m → x ≠ v → 0 ≤ Wa.dist m R u x → Wa.dist m R u x ≤ Wa.dist m R u v → Wa.dist m R u x ≤ (n : Int) → Wa.rch m (rmv R v) u x = true := by
  intro n
  induction n with
  | zero =>
    intro x hx hxv h0 h1 h2
    have := (Wa.dist_zero hR hu (v := x)).1 (by omega)
    rw [this]; exact Wa.rch_self (rmv_ok hR v) hu
  | succ n ih =>
    intro x hx hxv h0 h1 h2
    rcases Int.lt_or_le (Wa.dist m R u x) 1 with h | h
    · have := (Wa.dist_zero hR hu (v := x)).1 (by omega)
      rw [this]; exact Wa.rch_self (rmv_ok hR v) hu
    · obtain ⟨j, hj, h3, h4⟩ := Wa.dist_back hR hu h
      have hjv : j ≠ v := fun e => by rw [e] at h4; omega
      exact Wa.rch_trans (rmv_ok hR v) hu hj (ih j hj hjv (by omega) (by omega) (by omega)) (rmv_step hR hj hjv hxv h3)
/-- one that is farthest from u holds nothing together -/
theorem far_not_cut (hR : Wa.Ok m R) (hs : Wa.Sym m R) (hirr : ∀ a, a < m → a ∉ R a) {u v : Nat} (hu : u < m) (hv : v < m) (h0 : 0 ≤ Wa.dist m R u v) (hmax : ∀ x, x < m → Wa.dist m R u x ≤ Wa.dist m R u v) : ¬ Cut m R v := by
  refine not_cut hR hs hirr hv (fun x y hx hy => ?_)
  have hxm := hR v hv x hx
  have hym := hR v hv y hy
  have hxv : x ≠ v := fun e => hirr v hv (e ▸ hx)
  have hyv : y ≠ v := fun e => hirr v hv (e ▸ hy)
  by_cases e : u = v
  · subst e
    have h1 := (Wa.dist_step hR hu hv hx h0).1
    have h2 := hmax x hxm
    have h3 := (Wa.dist_zero hR hu (v := u)).2 rfl
    have h4 := (Wa.dist_zero hR hu (v := x)).1 (by omega)
    exact absurd h4 hxv
  · have ax := reach_past hR hu e _ x hxm hxv (Wa.dist_step hR hu hv hx h0).1 (hmax x hxm) (Int.self_le_toNat _)
    have ay := reach_past hR hu e _ y hym hyv (Wa.dist_step hR hu hv hy h0).1 (hmax y hym) (Int.self_le_toNat _)
    exact Wa.rch_trans (rmv_ok hR v) hxm hu (Wa.rch_sym (rmv_ok hR v) (rmv_sym hs v) hu hxm ax) ay
theorem far_exists (hR : Wa.Ok m R) {u : Nat} (hu : u < m) : ∃ v, v < m ∧ 0 ≤ Wa.dist m R u v ∧ ∀ x, x < m → Wa.dist m R u x ≤ Wa.dist m R u v := by
  have key : ∀ k, k ≤ m → ∃ v, v < m ∧ 0 ≤ Wa.dist m R u v ∧ ∀ x, x < k → Wa.dist m R u x ≤ Wa.dist m R u v := by
    intro k
    induction k with
    | zero => exact fun _ => ⟨u, hu, by rw [(Wa.dist_zero hR hu (v := u)).2 rfl]; exact Int.le_refl _, fun x hx => by omega⟩
    | succ k ih =>
      intro hk
      obtain ⟨v, hv, h0, h1⟩ := ih (by omega)
      rcases Int.lt_or_le (Wa.dist m R u v) (Wa.dist m R u k) with h | h
      · exact ⟨k, by omega, by omega, fun x hx => by
          rcases Nat.lt_or_ge x k with e | e
          · have := h1 x e; omega
          · have : x = k := by omega
            subst this; exact Int.le_refl _⟩
      · exact ⟨v, hv, h0, fun x hx => by
          rcases Nat.lt_or_ge x k with e | e
          · exact h1 x e
          · have : x = k := by omega
            subst this; exact h⟩
  exact key m (Nat.le_refl _)
theorem two_free (hR : Wa.Ok m R) (hs : Wa.Sym m R) (hirr : ∀ a, a < m → a ∉ R a) (hm : 2 ≤ m) : ∃ a b, a < m ∧ b < m ∧ a ≠ b ∧ ¬ Cut m R a ∧ ¬ Cut m R b := by
  obtain ⟨v, hv, h0, h1⟩ := far_exists hR (u := 0) (by omega)
  obtain ⟨x, hx, h2, h3⟩ := far_exists hR hv
  by_cases e : x = v
  · -- v stands alone: it is 0
    subst e
    have hd0 := (Wa.dist_zero hR hx (v := x)).2 rfl
    have hlone : ∀ y, y < m → y ≠ x → Wa.dist m R x y < 0 := fun y hy hne => by
      have h4 := h3 y hy
      rcases Int.lt_or_le (Wa.dist m R x y) 0 with h | h
      · exact h
      · exact absurd ((Wa.dist_zero hR hx (v := y)).1 (by omega)) hne
    have hx0 : x = 0 := by
      by_cases e0 : (0 : Nat) = x
      · exact e0.symm
      · have h4 := hlone 0 (by omega) e0
        rw [Wa.dist_sym hR hs hx (by omega)] at h4
        omega
    obtain ⟨y, hy, h5, h6⟩ := far_exists hR (u := 1) (by omega)
    refine ⟨x, y, hx, hy, fun e => ?_, far_not_cut hR hs hirr hx hx h2 h3, far_not_cut hR hs hirr (by omega) hy h5 h6⟩
    rw [← e] at h5
    have h7 := hlone 1 (by omega) (by omega)
    rw [Wa.dist_sym hR hs hx (by omega)] at h7
    omega
  · exact ⟨x, v, hx, hv, e, far_not_cut hR hs hirr hv hx h2 h3, far_not_cut hR hs hirr (by omega) hv h0 h1⟩

/-! ### lines -/
/-- the rows without the line between a and b -/
def rml (R : Nat → List Nat) (a b : Nat) : Nat → List Nat := fun u => (R u).filter fun w => !(decide (u = a ∧ w = b) || decide (u = b ∧ w = a))
theorem mem_rml {R : Nat → List Nat} {a b u w : Nat} : w ∈ rml R a b u ↔ w ∈ R u ∧ ¬ (u = a ∧ w = b) ∧ ¬ (u = b ∧ w = a) := by
  unfold rml
  rw [List.mem_filter]
  simp only [Bool.not_eq_true', Bool.or_eq_false_iff, decide_eq_false_iff_not]
theorem rml_ok (hR : Wa.Ok m R) (a b : Nat) : Wa.Ok m (rml R a b) := fun u hu w hw => hR u hu w (mem_rml.1 hw).1
theorem rml_sym (hs : Wa.Sym m R) (a b : Nat) : Wa.Sym m (rml R a b) := fun x y hx hy h => by
  obtain ⟨h1, h2, h3⟩ := mem_rml.1 h
  exact mem_rml.2 ⟨hs x y hx hy h1, fun h => h3 ⟨h.2, h.1⟩, fun h => h2 ⟨h.2, h.1⟩⟩
theorem rml_swap (R : Nat → List Nat) (a b : Nat) : rml R a b = rml R b a := by
  funext u
  unfold rml
  congr 1
  funext w
  rw [Bool.or_comm]
theorem rml_step (hR : Wa.Ok m R) {a b x y : Nat} (hx : x < m) (h : y ∈ R x) (h1 : ¬ (x = a ∧ y = b)) (h2 : ¬ (x = b ∧ y = a)) : Wa.rch m (rml R a b) x y = true :=
  (Wa.rch_iff (rml_ok hR a b) hx).2 ⟨1, Wa.wk_one hx (mem_rml.2 ⟨h, h1, h2⟩)⟩
/-- does the line between a and b hold them together? -/
def Bridge (m : Nat) (R : Nat → List Nat) (a b : Nat) : Prop := b ∈ R a ∧ Wa.rch m (rml R a b) a b = false
theorem Bridge.swap (hR : Wa.Ok m R) (hs : Wa.Sym m R) {a b : Nat} (ha : a < m) (h : Bridge m R a b) : Bridge m R b a := by
  have hb := hR a ha b h.1
  refine ⟨hs a b ha hb h.1, ?_⟩
  cases hr : Wa.rch m (rml R b a) b a with
  | false => rfl
  | true =>
    have := Wa.rch_sym (rml_ok hR b a) (rml_sym hs b a) hb ha hr
    rw [rml_swap] at this
    rw [h.2] at this
    cases this
/-- an end of such a line holds others together, if another one is beside it -/
theorem Bridge.ends (hR : Wa.Ok m R) (hs : Wa.Sym m R) (hirr : ∀ a, a < m → a ∉ R a) {a b c : Nat} (ha : a < m) (h : Bridge m R a b) (hc : c ∈ R a) (hne : c ≠ b) : Cut m R a := by
  have hb := hR a ha b h.1
  have hcm := hR a ha c hc
  have hca : c ≠ a := fun e => hirr a ha (e ▸ hc)
  have hba : b ≠ a := fun e => hirr a ha (e ▸ h.1)
  refine ⟨c, b, hcm, hb, hca, hba, ?_, ?_⟩
  · exact Wa.rch_trans hR hcm ha ((Wa.rch_iff hR hcm).2 ⟨1, Wa.wk_one hcm (hs a c ha hcm hc)⟩) ((Wa.rch_iff hR ha).2 ⟨1, Wa.wk_one ha h.1⟩)
  · cases hr : Wa.rch m (rmv R a) c b with
    | false => rfl
    | true =>
      obtain ⟨k, hk⟩ := (Wa.rch_iff (rmv_ok hR a) hcm).1 hr
      have hk2 := Wa.wk_mono (R' := rml R a b) (fun u hu w hw => by
        obtain ⟨h1, h2, h3⟩ := mem_rmv.1 hw
        exact mem_rml.2 ⟨h3, fun h => h1 h.1, fun h => h2 h.2⟩) hk
      have h3 := Wa.rch_trans (rml_ok hR a b) ha hcm (rml_step hR ha hc (fun h => hne h.2) (fun h => hca h.2)) ((Wa.rch_iff (rml_ok hR a b) hcm).2 ⟨k, hk2⟩)
      rw [h.2] at h3
      cases h3

/-- up a tree, not over the line -/
theorem Whole.climbL (hR : Wa.Ok m R) (hs : Wa.Sym m R) (hF : Whole m R F) {a b c : Nat} (hc : c < m) : ∀ (n u : Nat), met F 0 u ≤ n → u < m → Desc F u c → (∀ v q, v < m → q < m → Desc F u v → v ≠ c → Desc F v c → Dp.par F (-1) v = (q : Int) → ¬ (v = a ∧ q = b) ∧ ¬ (v = b ∧ q = a)) → Wa.rch m (rml R a b) u c = true := by
  intro n
  induction n with
  | zero =>
    intro u hn hu hd hav
    by_cases e : u = c
    · exact e ▸ Wa.rch_self (rml_ok hR a b) hu
    · have := hF.desc_lt hR hu hc e hd
      omega
  | succ n ih =>
    intro u hn hu hd hav
    by_cases e : u = c
    · exact e ▸ Wa.rch_self (rml_ok hR a b) hu
    · obtain ⟨q, hq, h1, h2, h3, h4, h5⟩ := hF.near hR hu hc e hd
      have hn1 := hav u q hu hq (Desc.refl F u) e hd h1
      exact Wa.rch_trans (rml_ok hR a b) hu hq (rml_step hR hu (hs q u hq hu h2) hn1.1 hn1.2) (ih q (by omega) hq h4 (fun v q' hv hq' h6 h7 h8 h9 => hav v q' hv hq' (h3.trans h6) h7 h8 h9))

/-- a line down to a point holds it if that one was met over it and comes back no higher than itself -/
theorem Whole.bridge (hR : Wa.Ok m R) (hs : Wa.Sym m R) (hirr : ∀ a, a < m → a ∉ R a) (hF : Whole m R F) {i c : Nat} (hi : i < m) (hc : c < m) (hic : c ∈ R i) (hlt : met F 0 i < met F 0 c) :
    Bridge m R i c ↔ Dp.par F (-1) c = (i : Int) ∧ ((met F 0 i : Nat) : Int) < (lows m R F).getD c 0 := by
  have hne : c ≠ i := fun e => hirr i hi (e ▸ hic)
  have hci : Desc F c i := by
    rcases hF.back hR hs hi hc (fun e => hne e.symm) hic with ⟨h1, h2⟩ | ⟨h1, h2⟩
    · exact ⟨Nat.le_of_lt h1, Nat.le_of_lt h2⟩
    · omega
  have hcl := hF.desc_lt hR hc hi hne hci
  constructor
  · intro hbr
    -- not i met from c
    have hpi : Dp.par F (-1) i ≠ (c : Int) := fun h => by
      have := (hF.kid hR hc hi h).2.2.1
      omega
    have hpc : Dp.par F (-1) c = (i : Int) := by
      by_cases e : Dp.par F (-1) c = (i : Int)
      · exact e
      · exfalso
        obtain ⟨d, hd, hpd, hcd⟩ := hF.child hR hi _ c (Nat.le_refl _) hc hne hci
        have hdc : d ≠ c := fun e' => e (e' ▸ hpd)
        obtain ⟨hdi, hddi, hd1, hd2⟩ := hF.kid hR hi hd hpd
        have r1 := hF.climbL hR hs (a := i) (b := c) hd _ c (Nat.le_refl _) hc hcd (fun v q hv hq h1 h2 h3 h4 => ⟨fun h => hpi (by rw [← h.1, h4, h.2]), fun h => e (by rw [← h.1, h4, h.2])⟩)
        have r2 := rml_step hR (a := i) (b := c) hi hdi (fun h => hdc h.2) (fun h => hne h.1.symm)
        have r3 := Wa.rch_trans (rml_ok hR i c) hi hd r2 (Wa.rch_sym (rml_ok hR i c) (rml_sym hs i c) hc hd r1)
        rw [hbr.2] at r3
        cases r3
    refine ⟨hpc, ?_⟩
    rcases Int.lt_or_le ((met F 0 i : Nat) : Int) ((lows m R F).getD c 0) with h | h
    · exact h
    · exfalso
      obtain ⟨x, hx, hxc, hlow⟩ := hF.low_is hR _ c (Nat.le_add_left _ _) hc
      rcases hlow with h3 | ⟨w, hwx, hwne, h3⟩
      · unfold Desc at hxc
        omega
      · have hw := hR x hx w hwx
        have hxw : x ≠ w := fun e => hirr x hx (by rw [← e] at hwx; exact hwx)
        have hxw' : Desc F x w := by
          rcases hF.back hR hs hx hw hxw hwx with ⟨h4, _⟩ | ⟨h4, h5⟩
          · unfold Desc at hxc; omega
          · exact ⟨Nat.le_of_lt h4, Nat.le_of_lt h5⟩
        have hiw : Desc F i w := by
          rcases hF.desc_two hR hx hw hi hxw' (hxc.trans hci) with h4 | h4
          · by_cases e : w = i
            · exact e ▸ Desc.refl F i
            · have := hF.desc_lt hR hw hi e h4
              omega
          · exact h4
        -- from x up to c, past no i
        have r1 := hF.climbL hR hs (a := i) (b := c) hc _ x (Nat.le_refl _) hx hxc (fun v q hv hq h1 h2 h4 h5 => ⟨fun h => by
            rw [h.1] at h4
            unfold Desc at h4
            omega, fun h => h2 h.1⟩)
        have r2 : Wa.rch m (rml R i c) x w = true := by
          refine rml_step hR hx hwx (fun h => ?_) (fun h => ?_)
          · rw [h.1] at hxc
            unfold Desc at hxc
            omega
          · rw [h.1, h.2] at hwne
            exact hwne hpc.symm
        have r3 := hF.climbL hR hs (a := i) (b := c) hw _ i (Nat.le_refl _) hi hiw (fun v q hv hq h1 h2 h4 h5 => ⟨fun h => hpi (by rw [← h.1, h5, h.2]), fun h => by
            rw [h.1] at h1
            unfold Desc at h1
            omega⟩)
        have r4 := Wa.rch_trans (rml_ok hR i c) hi hw r3 (Wa.rch_trans (rml_ok hR i c) hw hx (Wa.rch_sym (rml_ok hR i c) (rml_sym hs i c) hx hw r2) r1)
        rw [hbr.2] at r4
        cases r4
  · rintro ⟨hpc, hl⟩
    refine ⟨hic, ?_⟩
    cases hr : Wa.rch m (rml R i c) i c with
    | false => rfl
    | true =>
      exfalso
      have hr2 := Wa.rch_sym (rml_ok hR i c) (rml_sym hs i c) hi hc hr
      have := closed_reach (rml_ok hR i c) (S := fun x => Desc F x c) (fun x hx hxd w hw => by
        obtain ⟨h1, h2, h3⟩ := mem_rml.1 hw
        rcases hF.shut hR hs hirr hi hc hpc (Int.le_of_lt hl) hx hxd h1 with e | e
        · exfalso
          by_cases e2 : x = c
          · exact h3 ⟨e2, e⟩
          · obtain ⟨q, hq, h4, _, _, h5, _⟩ := hF.near hR hx hc e2 hxd
            have h6 := hF.low_beside hR hc hx hxd h1 (by
              rw [h4, e]
              intro e3
              have : q = i := by omega
              rw [this] at h5
              unfold Desc at h5
              omega)
            rw [e] at h6
            omega
        · exact e) hc (Desc.refl F c) hr2
      have hh : Desc F i c := this
      unfold Desc at hh
      omega
end

end Go.Proofs.Ytjcdnkbandagoaa.Dp

set_option linter.unusedSimpArgs false
set_option linter.unusedVariables false
namespace Go.Proofs.Ytjcdnkbandagoaa.Dp
open Wr

section
variable {m : Nat} {R : Nat → List Nat}

/-! ### without a line -/
theorem parts_line (hR : Wa.Ok m R) (hs : Wa.Sym m R) {a b : Nat} (ha : a < m) (hab : b ∈ R a) : parts m (rml R a b) = parts m R + if Wa.rch m (rml R a b) a b = true then 0 else 1 := by
  have hb := hR a ha b hab
  have hR' := rml_ok hR a b
  have hs' := rml_sym hs a b
  rw [parts_cnt hR hs, parts_cnt hR' hs', cnt_cons (prR_lt hR') ha hb]
  have e1 : cnt ((a, b) :: prR m (rml R a b)) m = cnt (prR m R) m := by
    refine cnt_congr (fun u v => ⟨conn_mono (fun x y h => ?_), conn_mono (fun x y h => ?_)⟩) m
    · rcases h with h | h
      · rcases List.mem_cons.1 h with e | h
        · cases e; exact Conn.one (.inl (mem_prR.2 ⟨ha, hab⟩))
        · obtain ⟨h1, h2⟩ := mem_prR.1 h
          exact Conn.one (.inl (mem_prR.2 ⟨h1, (mem_rml.1 h2).1⟩))
      · rcases List.mem_cons.1 h with e | h
        · cases e; exact Conn.one (.inr (mem_prR.2 ⟨ha, hab⟩))
        · obtain ⟨h1, h2⟩ := mem_prR.1 h
          exact Conn.one (.inr (mem_prR.2 ⟨h1, (mem_rml.1 h2).1⟩))
    · have one : ∀ x y, (x, y) ∈ prR m R → Conn ((a, b) :: prR m (rml R a b)) x y := fun x y h => by
        obtain ⟨h1, h2⟩ := mem_prR.1 h
        by_cases e : (x = a ∧ y = b) ∨ (x = b ∧ y = a)
        · rcases e with ⟨rfl, rfl⟩ | ⟨rfl, rfl⟩
          · exact Conn.one (.inl (List.mem_cons_self ..))
          · exact Conn.one (.inr (List.mem_cons_self ..))
        · exact Conn.one (.inl (List.mem_cons_of_mem _ (mem_prR.2 ⟨h1, mem_rml.2 ⟨h2, fun h => e (.inl h), fun h => e (.inr h)⟩⟩)))
      rcases h with h | h
      · exact one x y h
      · exact (one y x h).symm
  rw [e1]
  congr 1
  by_cases e : Wa.rch m (rml R a b) a b = true
  · rw [if_pos e, if_pos ((fl_conn _ _ _).2 ((conn_rchR hR' hs' ha).2 e))]
  · rw [if_neg e, if_neg (fun h => e ((conn_rchR hR' hs' ha).1 ((fl_conn _ _ _).1 h)))]
/-- rows that hold the same points have as many parts -/
theorem parts_congr (hR : Wa.Ok m R) (hs : Wa.Sym m R) {R' : Nat → List Nat} (hR' : Wa.Ok m R') (hs' : Wa.Sym m R') (h : ∀ u v, u < m → (v ∈ R u ↔ v ∈ R' u)) : parts m R = parts m R' := by
  rw [parts_cnt hR hs, parts_cnt hR' hs']
  have one : ∀ {R1 R2 : Nat → List Nat}, (∀ u v, u < m → (v ∈ R1 u ↔ v ∈ R2 u)) → ∀ u v, Adj (prR m R1) u v → Conn (prR m R2) u v := fun {R1 R2} h u v ha => by
    rcases ha with ha | ha
    · obtain ⟨h1, h2⟩ := mem_prR.1 ha
      exact Conn.one (.inl (mem_prR.2 ⟨h1, (h _ _ h1).1 h2⟩))
    · obtain ⟨h1, h2⟩ := mem_prR.1 ha
      exact Conn.one (.inr (mem_prR.2 ⟨h1, (h _ _ h1).1 h2⟩))
  exact cnt_congr (fun u v => ⟨conn_mono (one h), conn_mono (one fun u v hu => (h u v hu).symm)⟩) m

/-! ### without a point -/
/-- nothing hangs together with i without i -/
theorem lone (hR : Wa.Ok m R) {i : Nat} (hi : i < m) {v : Nat} (h : Wa.rch m (rmv R i) i v = true) : v = i :=
  closed_reach (rmv_ok hR i) (S := fun x => x = i) (fun x _ hx w hw => absurd hx (mem_rmv.1 hw).1) hi rfl h
theorem cut_iff (hR : Wa.Ok m R) (hs : Wa.Sym m R) (hirr : ∀ a, a < m → a ∉ R a) {i : Nat} (hi : i < m) : Cut m R i ↔ ∃ x y, x ∈ R i ∧ y ∈ R i ∧ Wa.rch m (rmv R i) x y = false := by
  constructor
  · intro h
    by_cases hex : ∃ x y, x ∈ R i ∧ y ∈ R i ∧ Wa.rch m (rmv R i) x y = false
    · exact hex
    · refine absurd h (not_cut hR hs hirr hi (fun x y hx hy => ?_))
      cases hr : Wa.rch m (rmv R i) x y with
      | true => rfl
      | false => exact absurd ⟨x, y, hx, hy, hr⟩ hex
  · rintro ⟨x, y, hx, hy, h⟩
    have hxm := hR i hi x hx
    have hym := hR i hi y hy
    exact ⟨x, y, hxm, hym, fun e => hirr i hi (e ▸ hx), fun e => hirr i hi (e ▸ hy), Wa.rch_trans hR hxm hi ((Wa.rch_iff hR hxm).2 ⟨1, Wa.wk_one hxm (hs i x hi hxm hx)⟩) ((Wa.rch_iff hR hi).2 ⟨1, Wa.wk_one hi hy⟩), h⟩
theorem rmv_conn (hR : Wa.Ok m R) {i u v : Nat} (h : Conn (prR m (rmv R i)) u v) : Conn (prR m R) u v :=
  conn_mono (fun x y h => h.elim (fun h => by
    obtain ⟨h1, h2⟩ := mem_prR.1 h
    exact Conn.one (.inl (mem_prR.2 ⟨h1, (mem_rmv.1 h2).2.2⟩))) (fun h => by
    obtain ⟨h1, h2⟩ := mem_prR.1 h
    exact Conn.one (.inr (mem_prR.2 ⟨h1, (mem_rmv.1 h2).2.2⟩)))) h
theorem parts_point (hR : Wa.Ok m R) (hs : Wa.Sym m R) (hirr : ∀ a, a < m → a ∉ R a) {i : Nat} (hi : i < m) : Cut m R i ↔ parts m R + 2 ≤ parts m (rmv R i) := by
  have hR' := rmv_ok hR i
  have hs' := rmv_sym hs i
  rw [parts_cnt hR hs, parts_cnt hR' hs', cut_iff hR hs hirr hi]
  -- i hangs together with none of those beside it
  have apart : ∀ x, x ∈ R i → ¬ Conn (prR m (rmv R i)) i x := fun x hx h => hirr i hi (by
    have := lone hR hi ((conn_rchR hR' hs' hi).1 h)
    exact this ▸ hx)
  constructor
  · rintro ⟨x, y, hx, hy, hxy⟩
    have hxm := hR i hi x hx
    have hym := hR i hi y hy
    have hnc : ¬ Conn (prR m (rmv R i)) x y := fun h => by
      rw [(conn_rchR hR' hs' hxm).1 h] at hxy
      cases hxy
    have h1 := cnt_cons (prR_lt hR') hi hxm
    rw [if_neg (fun h => apart x hx ((fl_conn _ _ _).1 h))] at h1
    have h2 := cnt_cons (n := m) (E := (i, x) :: prR m (rmv R i)) (fun p hp => by
      rcases List.mem_cons.1 hp with rfl | hp
      · exact ⟨hi, hxm⟩
      · exact prR_lt hR' p hp) hi hym
    rw [if_neg (fun h => by
      rcases ((fl_conn _ _ _).1 h).split with h | ⟨_, h⟩ | ⟨h, _⟩
      · exact apart y hy h
      · exact hnc h
      · exact apart x hx h)] at h2
    have h3 : cnt (prR m R) m ≤ cnt ((i, y) :: (i, x) :: prR m (rmv R i)) m := cnt_anti (fun u v => conn_mono (fun a b h => by
      have one : ∀ a b, (a, b) ∈ (i, y) :: (i, x) :: prR m (rmv R i) → Conn (prR m R) a b := fun a b h => by
        rcases List.mem_cons.1 h with e | h
        · cases e; exact Conn.one (.inl (mem_prR.2 ⟨hi, hy⟩))
        · rcases List.mem_cons.1 h with e | h
          · cases e; exact Conn.one (.inl (mem_prR.2 ⟨hi, hx⟩))
          · exact rmv_conn hR (Conn.one (.inl h))
      rcases h with h | h
      · exact one a b h
      · exact (one b a h).symm))
    omega
  · intro h
    by_cases hex : ∃ x y, x ∈ R i ∧ y ∈ R i ∧ Wa.rch m (rmv R i) x y = false
    · exact hex
    · exfalso
      have hall : ∀ x y, x ∈ R i → y ∈ R i → Wa.rch m (rmv R i) x y = true := fun x y hx hy => by
        cases hr : Wa.rch m (rmv R i) x y with
        | true => rfl
        | false => exact absurd ⟨x, y, hx, hy, hr⟩ hex
      cases hrow : R i with
      | nil =>
        have : cnt (prR m (rmv R i)) m ≤ cnt (prR m R) m := cnt_anti (fun u v => conn_mono (fun a b h => by
          have one : ∀ a b, (a, b) ∈ prR m R → Conn (prR m (rmv R i)) a b := fun a b h => by
            obtain ⟨h1, h2⟩ := mem_prR.1 h
            have ea : a ≠ i := fun e => by rw [e, hrow] at h2; cases h2
            have eb : b ≠ i := fun e => by
              have := hs a b h1 (hR a h1 b h2) h2
              rw [e, hrow] at this
              cases this
            exact Conn.one (.inl (mem_prR.2 ⟨h1, mem_rmv.2 ⟨ea, eb, h2⟩⟩))
          rcases h with h | h
          · exact one a b h
          · exact (one b a h).symm))
        omega
      | cons x0 xs =>
        have hx0 : x0 ∈ R i := by rw [hrow]; simp
        have hxm := hR i hi x0 hx0
        have h1 := cnt_cons (prR_lt hR') hi hxm
        rw [if_neg (fun h => apart x0 hx0 ((fl_conn _ _ _).1 h))] at h1
        have h2 : cnt ((i, x0) :: prR m (rmv R i)) m ≤ cnt (prR m R) m := cnt_anti (fun u v => conn_mono (fun a b h => by
          have star : ∀ y, y ∈ R i → Conn ((i, x0) :: prR m (rmv R i)) i y := fun y hy =>
            (Conn.one (.inl (List.mem_cons_self ..))).trans (((conn_rchR hR' hs' hxm).2 (hall x0 y hx0 hy)).cons _)
          have one : ∀ a b, (a, b) ∈ prR m R → Conn ((i, x0) :: prR m (rmv R i)) a b := fun a b h => by
            obtain ⟨h1, h2⟩ := mem_prR.1 h
            by_cases ea : a = i
            · rw [ea] at h2 ⊢
              exact star b h2
            · by_cases eb : b = i
              · rw [eb] at h2 ⊢
                exact (star a (hs a i h1 hi h2)).symm
              · exact Conn.one (.inl (List.mem_cons_of_mem _ (mem_prR.2 ⟨h1, mem_rmv.2 ⟨ea, eb, h2⟩⟩)))
          rcases h with h | h
          · exact one a b h
          · exact (one b a h).symm))
        omega
end

end Go.Proofs.Ytjcdnkbandagoaa.Dp

set_option linter.unusedSimpArgs false
set_option linter.unusedVariables false
namespace Go.Proofs.Ytjcdnkbandagoaa.Dp

theorem filter_up (p : Nat → Bool) {m i : Nat} (hi : i < m) : ((List.range m).filter p).length = ((List.range (m - 1)).filter fun j => p (up i j)).length + if p i = true then 1 else 0 := by
  obtain ⟨r, rfl⟩ : ∃ r, m = i + 1 + r := ⟨m - (i + 1), by omega⟩
  induction r with
  | zero =>
    simp only [Nat.add_zero, Nat.add_sub_cancel]
    rw [List.range_succ, List.filter_append, List.length_append]
    have e : (List.range i).filter p = (List.range i).filter fun j => p (up i j) := List.filter_congr (fun j hj => by
      have : j < i := by simpa using hj
      simp [up, this])
    rw [e]
    congr 1
    cases h : p i <;> simp [h]
  | succ r ih =>
    have ih' := ih (by omega)
    rw [show i + 1 + (r + 1) = (i + 1 + r) + 1 by omega, List.range_succ, List.filter_append, List.length_append, ih']
    rw [show i + 1 + r + 1 - 1 = (i + 1 + r - 1) + 1 by omega, List.range_succ, List.filter_append, List.length_append]
    have e : up i (i + 1 + r - 1) = i + 1 + r := by unfold up; rw [if_neg (by omega)]; omega
    have e2 : ([i + 1 + r].filter p).length = ([i + 1 + r - 1].filter fun j => p (up i j)).length := by
      simp only [List.filter_cons, List.filter_nil, e]
      split <;> rfl
    rw [e2]
    omega

section
variable {m : Nat} {R R2 : Nat → List Nat}

theorem up_rch (hR : Wa.Ok m R) {i : Nat} (hi : i < m) (hR2 : Wa.Ok (m - 1) R2) (h : ∀ u v, u < m - 1 → v < m - 1 → (v ∈ R2 u ↔ up i v ∈ R (up i u))) {u v : Nat} (hu : u < m - 1) (hv : v < m - 1) :
    Wa.rch (m - 1) R2 u v = true ↔ Wa.rch m (rmv R i) (up i u) (up i v) = true := by
  have hR' := rmv_ok hR i
  constructor
  · intro hr
    exact closed_reach hR2 (S := fun x => x < m - 1 → Wa.rch m (rmv R i) (up i u) (up i x) = true) (fun x hx hxs w hw hwm =>
      Wa.rch_trans hR' (up_lt hu hi) (up_lt hx hi) (hxs hx) (rmv_step hR (up_lt hx hi) (up_ne i x) (up_ne i w) ((h x w hx hwm).1 hw))) hu (fun _ => Wa.rch_self hR' (up_lt hu hi)) hr hv
  · intro hr
    have := closed_reach hR' (S := fun x => ∃ y, y < m - 1 ∧ x = up i y ∧ Wa.rch (m - 1) R2 u y = true) (fun x hx hxs w hw => by
      obtain ⟨y, hy, rfl, hyr⟩ := hxs
      obtain ⟨h1, h2, h3⟩ := mem_rmv.1 hw
      obtain ⟨z, hz, rfl⟩ := up_of hi (hR _ (up_lt hy hi) w h3) h2
      exact ⟨z, hz, rfl, Wa.rch_trans hR2 hu hy hyr ((Wa.rch_iff hR2 hy).2 ⟨1, Wa.wk_one hy ((h y z hy hz).2 h3)⟩)⟩) (up_lt hu hi) ⟨u, hu, rfl, Wa.rch_self hR2 hu⟩ hr
    obtain ⟨y, hy, e, hyr⟩ := this
    have : y = v := by
      have h1 := up_mono (i := i) (a := y) (b := v)
      have h2 := up_mono (i := i) (a := v) (b := y)
      omega
    exact this ▸ hyr
/-- who is the least of its part -/
theorem lab_root (hR : Wa.Ok m R) {v : Nat} (hv : v < m) : Wa.lab m R m v = (v : Int) ↔ ∀ t, t < v → Wa.rch m R t v = false := by
  obtain ⟨u, h1, h2, h3, h4⟩ := Wa.lab_spec hR hv
  rw [h1]
  constructor
  · intro h
    have : u = v := by omega
    exact this ▸ h4
  · intro h
    rcases Nat.lt_or_ge u v with e | e
    · rw [h u e] at h3; cases h3
    · have : u = v := by omega
      rw [this]
theorem parts_up (hR : Wa.Ok m R) (hs : Wa.Sym m R) {i : Nat} (hi : i < m) (hR2 : Wa.Ok (m - 1) R2) (h : ∀ u v, u < m - 1 → v < m - 1 → (v ∈ R2 u ↔ up i v ∈ R (up i u))) : parts (m - 1) R2 + 1 = parts m (rmv R i) := by
  have hR' := rmv_ok hR i
  unfold parts
  rw [filter_up (fun v => decide (Wa.lab m (rmv R i) m v = (v : Int))) hi]
  have e1 : decide (Wa.lab m (rmv R i) m i = (i : Int)) = true := by
    rw [decide_eq_true_iff, lab_root hR' hi]
    intro t ht
    cases hr : Wa.rch m (rmv R i) t i with
    | false => rfl
    | true =>
      have := lone hR hi (Wa.rch_sym hR' (rmv_sym hs i) (by omega) hi hr)
      omega
  rw [if_pos e1]
  congr 2
  refine List.filter_congr (fun j hj => ?_)
  have hjm : j < m - 1 := by simpa using hj
  rw [decide_eq_decide, lab_root hR2 hjm, lab_root hR' (up_lt hjm hi)]
  constructor
  · intro hh t ht
    have htm : t < m := by have := up_lt hjm hi; omega
    by_cases e : t = i
    · cases hr : Wa.rch m (rmv R i) t (up i j) with
      | false => rfl
      | true =>
        rw [e] at hr
        exact absurd (lone hR hi hr) (up_ne i j)
    · obtain ⟨s, hs', rfl⟩ := up_of hi htm e
      cases hr : Wa.rch m (rmv R i) (up i s) (up i j) with
      | false => rfl
      | true =>
        have := (up_rch hR hi hR2 h hs' hjm).2 hr
        rw [hh s (up_mono.1 ht)] at this
        cases this
  · intro hh t ht
    have htm : t < m - 1 := by omega
    cases hr : Wa.rch (m - 1) R2 t j with
    | false => rfl
    | true =>
      have := (up_rch hR hi hR2 h htm hjm).1 hr
      rw [hh (up i t) (up_mono.2 ht)] at this
      cases this
end

/-! ### the program's own lists -/
theorem row_without {m : Nat} {ls : List Gr.Ln} {i u v : Nat} (hi : i < m) (hu : u < m - 1) (hv : v < m - 1) : v ∈ Wa.nrow (m - 1) (Gr.without (i : Int) ls) u ↔ up i v ∈ Wa.nrow m ls (up i u) := by
  rw [Wa.mem_nrow, Wa.mem_nrow]
  have := up_lt hv hi
  unfold Gr.adj
  rw [has_without, has_without]
  constructor
  · rintro ⟨_, h⟩; exact ⟨this, h⟩
  · rintro ⟨_, h⟩; exact ⟨hv, h⟩
/-- parts without a point, in the program's numbers: it holds others together if there are more -/
theorem without_parts {m : Nat} {ls : List Gr.Ln} (hirr : ∀ a, a < m → a ∉ Wa.nrow m ls a) {i : Nat} (hi : i < m) : Cut m (Wa.nrow m ls) i ↔ parts m (Wa.nrow m ls) < parts (m - 1) (Wa.nrow (m - 1) (Gr.without (i : Int) ls)) := by
  rw [parts_point (Wa.nrow_ok m ls) (Wa.nrow_sym m ls) hirr hi, ← parts_up (Wa.nrow_ok m ls) (Wa.nrow_sym m ls) hi (Wa.nrow_ok (m - 1) _) (fun u v hu hv => row_without hi hu hv)]
  omega

/-! ### all lines but one -/
/-- has another line the same ends? -/
def Twin (ls : List Gr.Ln) (k : Nat) : Prop := ∃ j, j < ls.length ∧ j ≠ k ∧ (ls.getD j (0, 0) = ls.getD k (0, 0) ∨ ls.getD j (0, 0) = ((ls.getD k (0, 0)).2, (ls.getD k (0, 0)).1))
theorem mem_but {ls : List Gr.Ln} {k : Nat} {p : Gr.Ln} : p ∈ ls.eraseIdx k ↔ ∃ j, j < ls.length ∧ j ≠ k ∧ ls.getD j (0, 0) = p := by
  rw [List.mem_eraseIdx_iff_getElem?]
  constructor
  · rintro ⟨j, hj, h⟩
    obtain ⟨h1, h2⟩ := List.getElem?_eq_some_iff.1 h
    exact ⟨j, h1, hj, by simp [List.getD, h]⟩
  · rintro ⟨j, h1, h2, h3⟩
    exact ⟨j, h2, by rw [← h3]; simp [List.getD, h1]⟩
theorem adj_but_twin {ls : List Gr.Ln} {k : Nat} (hk : k < ls.length) (ht : Twin ls k) (u v : Int) : Gr.adj (ls.eraseIdx k) u v = Gr.adj ls u v := by
  rw [Bool.eq_iff_iff, Gr.adj_iff, Gr.adj_iff]
  have sub : ∀ p, p ∈ ls.eraseIdx k → p ∈ ls := fun p hp => List.mem_of_mem_eraseIdx hp
  have sup : ∀ a b, (a, b) ∈ ls → (a, b) ∈ ls.eraseIdx k ∨ (b, a) ∈ ls.eraseIdx k := fun a b h => by
    obtain ⟨j, hj, e⟩ := List.getElem_of_mem h
    have e' : ls.getD j (0, 0) = (a, b) := by simp [List.getD, hj, e]
    by_cases hjk : j = k
    · subst hjk
      obtain ⟨t, h1, h2, h3⟩ := ht
      rw [e'] at h3
      exact h3.elim (fun h3 => .inl (mem_but.2 ⟨t, h1, h2, h3⟩)) (fun h3 => .inr (mem_but.2 ⟨t, h1, h2, h3⟩))
    · exact .inl (mem_but.2 ⟨j, hj, hjk, e'⟩)
  constructor
  · rintro (h | h)
    · exact .inl (sub _ h)
    · exact .inr (sub _ h)
  · rintro (h | h)
    · exact sup _ _ h
    · exact (sup _ _ h).symm
theorem adj_but_one {ls : List Gr.Ln} {k : Nat} {a b : Int} (hk : k < ls.length) (hab : ls.getD k (0, 0) = (a, b)) (ht : ¬ Twin ls k) (u v : Int) : Gr.adj (ls.eraseIdx k) u v = true ↔ Gr.adj ls u v = true ∧ ¬ (u = a ∧ v = b) ∧ ¬ (u = b ∧ v = a) := by
  have hno : ∀ p, p ∈ ls.eraseIdx k → p ≠ (a, b) ∧ p ≠ (b, a) := fun p hp => by
    obtain ⟨j, h1, h2, h3⟩ := mem_but.1 hp
    exact ⟨fun e => ht ⟨j, h1, h2, .inl (by rw [h3, hab, e])⟩, fun e => ht ⟨j, h1, h2, .inr (by rw [h3, hab, e])⟩⟩
  rw [Gr.adj_iff, Gr.adj_iff]
  constructor
  · rintro (h | h)
    · have := hno _ h
      exact ⟨.inl (List.mem_of_mem_eraseIdx h), fun e => this.1 (by rw [e.1, e.2]), fun e => this.2 (by rw [e.1, e.2])⟩
    · have := hno _ h
      exact ⟨.inr (List.mem_of_mem_eraseIdx h), fun e => this.2 (by rw [e.1, e.2]), fun e => this.1 (by rw [e.1, e.2])⟩
  · rintro ⟨h, n1, n2⟩
    have put : ∀ x y, (x, y) ∈ ls → ¬ (x = a ∧ y = b) → (x, y) ∈ ls.eraseIdx k := fun x y hm hn => by
      obtain ⟨j, hj, e⟩ := List.getElem_of_mem hm
      have e' : ls.getD j (0, 0) = (x, y) := by simp [List.getD, hj, e]
      by_cases hjk : j = k
      · subst hjk
        rw [hab] at e'
        cases e'
        exact absurd ⟨rfl, rfl⟩ hn
      · exact mem_but.2 ⟨j, hj, hjk, e'⟩
    rcases h with h | h
    · exact .inl (put _ _ h n1)
    · exact .inr (put _ _ h (fun e => n2 ⟨e.2, e.1⟩))
theorem row_but_twin {m : Nat} {ls : List Gr.Ln} {k : Nat} (hk : k < ls.length) (ht : Twin ls k) : Wa.nrow m (ls.eraseIdx k) = Wa.nrow m ls := by
  funext u
  unfold Wa.nrow
  exact List.filter_congr (fun v _ => by rw [adj_but_twin hk ht])
theorem row_but_one {m : Nat} {ls : List Gr.Ln} {k a b : Nat} (hk : k < ls.length) (hab : ls.getD k (0, 0) = ((a : Int), (b : Int))) (ht : ¬ Twin ls k) {u v : Nat} : v ∈ Wa.nrow m (ls.eraseIdx k) u ↔ v ∈ rml (Wa.nrow m ls) a b u := by
  rw [mem_rml, Wa.mem_nrow, Wa.mem_nrow, adj_but_one hk hab ht]
  constructor
  · rintro ⟨h1, h2, h3, h4⟩
    exact ⟨⟨h1, h2⟩, fun e => h3 ⟨by omega, by omega⟩, fun e => h4 ⟨by omega, by omega⟩⟩
  · rintro ⟨⟨h1, h2⟩, h3, h4⟩
    exact ⟨h1, h2, fun e => h3 ⟨by omega, by omega⟩, fun e => h4 ⟨by omega, by omega⟩⟩

end Go.Proofs.Ytjcdnkbandagoaa.Dp

set_option linter.unusedSimpArgs false
set_option linter.unusedVariables false
namespace Go.Proofs.Ytjcdnkbandagoaa.Dp

section
variable {m : Nat} {R : Nat → List Nat} {F : Fo}

/-! ### points -/
/-- does it hold others together? by trying all -/
def cutB (m : Nat) (R : Nat → List Nat) (v : Nat) : Bool := (List.range m).any fun a => (List.range m).any fun b => !decide (a = v) && (!decide (b = v) && (Wa.rch m R a b && !Wa.rch m (rmv R v) a b))
theorem cutB_iff {v : Nat} : cutB m R v = true ↔ Cut m R v := by
  unfold cutB Cut
  simp only [List.any_eq_true, List.mem_range, Bool.and_eq_true, Bool.not_eq_true', decide_eq_false_iff_not]
  constructor
  · rintro ⟨a, ha, b, hb, h1, h2, h3, h4⟩; exact ⟨a, b, ha, hb, h1, h2, h3, h4⟩
  · rintro ⟨a, b, ha, hb, h1, h2, h3, h4⟩; exact ⟨a, ha, b, hb, h1, h2, h3, h4⟩
def cpts (m : Nat) (R : Nat → List Nat) : List Nat := (List.range m).filter (cutB m R)
theorem mem_cpts {v : Nat} : v ∈ cpts m R ↔ v < m ∧ Cut m R v := by
  unfold cpts
  rw [List.mem_filter, List.mem_range, cutB_iff]

/-- a child that comes back no higher than its parent -/
def shuts (m : Nat) (R : Nat → List Nat) (F : Fo) (v c : Nat) : Bool := decide (Dp.par F (-1) c = (v : Int)) && decide (((met F 0 v : Nat) : Int) ≤ (lows m R F).getD c 0)
/-- what is counted at v once the points below j were looked at -/
def pcs (m : Nat) (R : Nat → List Nat) (F : Fo) (j v : Nat) : Nat := (if v < j ∧ Dp.par F (-1) v ≠ -1 then 1 else 0) + (List.range j).countP (shuts m R F v)
theorem pcs_zero (v : Nat) : pcs m R F 0 v = 0 := by simp [pcs]
theorem pcs_succ (j v : Nat) : pcs m R F (j + 1) v = pcs m R F j v + (if v = j ∧ Dp.par F (-1) j ≠ -1 then 1 else 0) + (if shuts m R F v j = true then 1 else 0) := by
  unfold pcs
  rw [List.range_succ, List.countP_append, List.countP_singleton]
  by_cases e : v = j
  · subst e
    simp
    split <;> split <;> omega
  · have : (v < j + 1 ∧ Dp.par F (-1) v ≠ -1) ↔ (v < j ∧ Dp.par F (-1) v ≠ -1) := by constructor <;> rintro ⟨h1, h2⟩ <;> exact ⟨by omega, h2⟩
    simp only [this, e, false_and, if_false]
    omega
theorem pcs_le (j v : Nat) : pcs m R F j v ≤ j + 1 := by
  unfold pcs
  have := List.countP_le_length (p := shuts m R F v) (l := List.range j)
  simp at this
  split <;> omega

theorem two_of {α : Type} {p : α → Bool} : ∀ {l : List α}, l.Nodup → (2 ≤ l.countP p ↔ ∃ c d, c ∈ l ∧ d ∈ l ∧ c ≠ d ∧ p c = true ∧ p d = true)
  | [], _ => by simp
  | a :: l, h => by
    obtain ⟨h1, h2⟩ := List.nodup_cons.1 h
    have ih := two_of (p := p) h2
    rw [List.countP_cons]
    by_cases hp : p a = true
    · rw [if_pos hp]
      constructor
      · intro hc
        obtain ⟨d, hd, hpd⟩ := List.countP_pos_iff.1 (show 0 < l.countP p by omega)
        exact ⟨a, d, List.mem_cons_self, List.mem_cons_of_mem _ hd, fun e => h1 (e ▸ hd), hp, hpd⟩
      · rintro ⟨c, d, hc, hd, hne, hpc, hpd⟩
        have : ∃ x, x ∈ l ∧ p x = true := by
          rcases List.mem_cons.1 hc with rfl | hc
          · rcases List.mem_cons.1 hd with rfl | hd
            · exact absurd rfl hne
            · exact ⟨d, hd, hpd⟩
          · exact ⟨c, hc, hpc⟩
        have := List.countP_pos_iff.2 this
        omega
    · rw [if_neg hp, Nat.add_zero, ih]
      constructor
      · rintro ⟨c, d, hc, hd, r⟩; exact ⟨c, d, List.mem_cons_of_mem _ hc, List.mem_cons_of_mem _ hd, r⟩
      · rintro ⟨c, d, hc, hd, hne, hpc, hpd⟩
        refine ⟨c, d, ?_, ?_, hne, hpc, hpd⟩
        · rcases List.mem_cons.1 hc with rfl | hc
          · exact absurd hpc hp
          · exact hc
        · rcases List.mem_cons.1 hd with rfl | hd
          · exact absurd hpd hp
          · exact hd

/-- nothing that is met from a root comes back above it -/
theorem Whole.root_low (hR : Wa.Ok m R) (hs : Wa.Sym m R) (hirr : ∀ a, a < m → a ∉ R a) (hF : Whole m R F) {i c : Nat} (hi : i < m) (hc : c < m) (hpi : Dp.par F (-1) i = -1) (hpc : Dp.par F (-1) c = (i : Int)) : ((met F 0 i : Nat) : Int) ≤ (lows m R F).getD c 0 := by
  have top : ∀ w, w < m → Desc F i w → w = i := by
    intro w hw hd
    by_cases e : w = i
    · exact e
    · obtain ⟨q, hq, h1, _⟩ := hF.near hR hi hw (fun e' => e e'.symm) hd
      omega
  have hk := hF.kid hR hi hc hpc
  obtain ⟨x, hx, hd, h⟩ := hF.low_is hR (2 * m) c (by omega) hc
  have hxi : Desc F x i := hd.trans hk.2.1
  rcases h with h | ⟨w, hw, _, h⟩
  · rw [h]; have := hxi.1; omega
  · have hwm := hR x hx w hw
    have hne : x ≠ w := fun e => hirr x hx (e ▸ hw)
    rw [h]
    rcases hF.back hR hs hx hwm hne hw with ⟨h1, h2⟩ | ⟨h1, h2⟩
    · have := hxi.1; omega
    · have hxw : Desc F x w := ⟨by omega, by omega⟩
      rcases hF.desc_two hR hx hwm hi hxw hxi with h3 | h3
      · have := h3.1; omega
      · have := top w hwm h3
        rw [this]; omega

/-- what is counted says which points hold others together -/
theorem Whole.pcs (hR : Wa.Ok m R) (hs : Wa.Sym m R) (hirr : ∀ a, a < m → a ∉ R a) (hF : Whole m R F) {v : Nat} (hv : v < m) : 1 < Dp.pcs m R F m v ↔ Cut m R v := by
  unfold Dp.pcs
  by_cases hp : Dp.par F (-1) v = -1
  · rw [if_neg (by rintro ⟨_, h⟩; exact h hp), hF.cut_root hR hs hirr hv hp, Nat.zero_add]
    rw [show (1 < (List.range m).countP (shuts m R F v)) ↔ 2 ≤ (List.range m).countP (shuts m R F v) from Iff.rfl, two_of List.nodup_range]
    unfold shuts
    simp only [List.mem_range, Bool.and_eq_true, decide_eq_true_eq]
    constructor
    · rintro ⟨c, d, h1, h2, h3, h4, h5⟩; exact ⟨c, d, h1, h2, h3, h4.1, h5.1⟩
    · rintro ⟨c, d, h1, h2, h3, h4, h5⟩
      exact ⟨c, d, h1, h2, h3, ⟨h4, hF.root_low hR hs hirr hv h1 hp h4⟩, ⟨h5, hF.root_low hR hs hirr hv h2 hp h5⟩⟩
  · rw [if_pos ⟨hv, hp⟩, hF.cut_inner hR hs hirr hv hp]
    rw [show (1 < 1 + (List.range m).countP (shuts m R F v)) ↔ 0 < (List.range m).countP (shuts m R F v) by omega, List.countP_pos_iff]
    unfold shuts
    simp only [List.mem_range, Bool.and_eq_true, decide_eq_true_eq]

theorem Whole.cpts (hR : Wa.Ok m R) (hs : Wa.Sym m R) (hirr : ∀ a, a < m → a ∉ R a) (hF : Whole m R F) : (List.range m).filter (fun v => decide (1 < Dp.pcs m R F m v)) = Dp.cpts m R := by
  unfold Dp.cpts
  refine List.filter_congr (fun v hv => ?_)
  rw [Bool.eq_iff_iff, decide_eq_true_eq, cutB_iff]
  exact hF.pcs hR hs hirr (List.mem_range.1 hv)
end

theorem nrow_irr {m : Nat} {ls : List Gr.Ln} (h : Gr.code (m : Int) ls = 0) : ∀ a, a < m → a ∉ Wa.nrow m ls a := fun a _ hm => Gr.adj_ne h (Wa.mem_nrow.1 hm).2 rfl

/-! ### lines -/
/-- joins it the two? -/
def jn (a b : Int) (q : Gr.Ln) : Bool := decide (q = (a, b)) || decide (q = (b, a))
theorem jn_swap (a b : Int) : jn a b = jn b a := by funext q; simp [jn, Bool.or_comm]
/-- is there one line between the two, and no other way? -/
def brB (m : Nat) (ls : List Gr.Ln) (i j : Nat) : Bool := decide (ls.countP (jn (i : Int) (j : Int)) = 1) && !Wa.rch m (rml (Wa.nrow m ls) i j) i j
theorem jn_adj {m : Nat} {ls : List Gr.Ln} {i j : Nat} (hj : j < m) : 0 < ls.countP (jn (i : Int) (j : Int)) ↔ j ∈ Wa.nrow m ls i := by
  rw [List.countP_pos_iff, Wa.mem_nrow, Gr.adj_iff]
  unfold jn
  simp only [Bool.or_eq_true, decide_eq_true_eq]
  constructor
  · rintro ⟨p, hp, rfl | rfl⟩
    · exact ⟨hj, .inl hp⟩
    · exact ⟨hj, .inr hp⟩
  · rintro ⟨_, h | h⟩
    · exact ⟨_, h, .inl rfl⟩
    · exact ⟨_, h, .inr rfl⟩
theorem brB_iff {m : Nat} {ls : List Gr.Ln} {i j : Nat} (hj : j < m) : brB m ls i j = true ↔ ls.countP (jn (i : Int) (j : Int)) = 1 ∧ Bridge m (Wa.nrow m ls) i j := by
  unfold brB Bridge
  simp only [Bool.and_eq_true, decide_eq_true_eq, Bool.not_eq_true']
  constructor
  · rintro ⟨h1, h2⟩; exact ⟨h1, (jn_adj hj).1 (by omega), h2⟩
  · rintro ⟨h1, _, h2⟩; exact ⟨h1, h2⟩
/-- all of them, in order -/
def brl (m : Nat) (ls : List Gr.Ln) : List Gr.Ln := (Gr.full m fun i j => decide (i < j) && brB m ls i j).map fun p => ((p.1 : Int), (p.2 : Int))
theorem mem_brl {m : Nat} {ls : List Gr.Ln} {i j : Nat} : ((i : Int), (j : Int)) ∈ brl m ls ↔ i < j ∧ j < m ∧ brB m ls i j = true := by
  unfold brl
  rw [List.mem_map]
  constructor
  · rintro ⟨⟨a, b⟩, hp, e⟩
    have := Gr.mem_full.1 hp
    simp only [Prod.mk.injEq] at e
    obtain ⟨rfl, rfl⟩ : a = i ∧ b = j := ⟨by omega, by omega⟩
    simp at this
    exact ⟨this.2.2.1, this.2.1, this.2.2.2⟩
  · rintro ⟨h1, h2, h3⟩
    exact ⟨(i, j), Gr.mem_full.2 ⟨by show i < m; omega, h2, by simp [h1, h3]⟩, rfl⟩
theorem of_brl {m : Nat} {ls : List Gr.Ln} {p : Gr.Ln} (h : p ∈ brl m ls) : ∃ i j : Nat, p = ((i : Int), (j : Int)) ∧ i < j ∧ j < m ∧ brB m ls i j = true := by
  have h' := h
  unfold brl at h
  rw [List.mem_map] at h
  obtain ⟨⟨a, b⟩, hp, e⟩ := h
  subst e
  exact ⟨a, b, rfl, mem_brl.1 h'⟩
theorem brl_pw (m : Nat) (ls : List Gr.Ln) : (brl m ls).Pairwise lnLt := by
  unfold brl Gr.full
  rw [List.pairwise_map]
  refine (full_pw _ m m).imp ?_
  intro p q h
  unfold lnLt
  show (p.1 : Int) < (q.1 : Int) ∨ ((p.1 : Int) = (q.1 : Int) ∧ (p.2 : Int) < (q.2 : Int))
  omega
theorem brl_len (m : Nat) (ls : List Gr.Ln) : (brl m ls).length ≤ m * m := by simpa [brl] using Gr.full_len m _

/-- the line that is found at a point -/
def brAt (m : Nat) (ls : List Gr.Ln) (F : Fo) (c : Nat) : List Gr.Ln :=
  if Dp.par F (-1) c ≠ -1 ∧ ((met F 0 (Dp.par F (-1) c).toNat : Nat) : Int) < (lows m (Wa.nrow m ls) F).getD c 0 ∧ ls.countP (jn (Dp.par F (-1) c) (c : Int)) = 1 then [(min (Dp.par F (-1) c) (c : Int), max (Dp.par F (-1) c) (c : Int))] else []
def brs (m : Nat) (ls : List Gr.Ln) (F : Fo) (j : Nat) : List Gr.Ln := (List.range j).flatMap (brAt m ls F)
theorem brs_zero (m : Nat) (ls : List Gr.Ln) (F : Fo) : brs m ls F 0 = [] := rfl
theorem brs_succ (m : Nat) (ls : List Gr.Ln) (F : Fo) (j : Nat) : brs m ls F (j + 1) = brs m ls F j ++ brAt m ls F j := by
  simp [brs, List.range_succ, List.flatMap_append]
theorem brAt_len (m : Nat) (ls : List Gr.Ln) (F : Fo) (j : Nat) : (brAt m ls F j).length ≤ 1 := by unfold brAt; split <;> simp
theorem brs_len (m : Nat) (ls : List Gr.Ln) (F : Fo) : ∀ j, (brs m ls F j).length ≤ j
  | 0 => by simp [brs]
  | j + 1 => by
    rw [brs_succ, List.length_append]
    have := brs_len m ls F j
    have := brAt_len m ls F j
    omega
theorem mem_brAt {m : Nat} {ls : List Gr.Ln} {F : Fo} (hF : Whole m (Wa.nrow m ls) F) {c : Nat} (hc : c < m) {p : Gr.Ln} : p ∈ brAt m ls F c ↔ ∃ q : Nat, q < m ∧ Dp.par F (-1) c = (q : Int) ∧ met F 0 q < met F 0 c ∧ c ∈ Wa.nrow m ls q ∧ ((met F 0 q : Nat) : Int) < (lows m (Wa.nrow m ls) F).getD c 0 ∧ ls.countP (jn (q : Int) (c : Int)) = 1 ∧ p = (min (q : Int) (c : Int), max (q : Int) (c : Int)) := by
  unfold brAt
  rcases hF.par (Wa.nrow_ok m ls) hc with h | ⟨q, hq, h1, h2, h3, h4⟩
  · rw [if_neg (by rintro ⟨h', _⟩; exact h' h)]
    constructor
    · intro h'; cases h'
    · rintro ⟨q, _, h', _⟩; omega
  · rw [h1]
    constructor
    · split
      · rename_i hh
        intro hp
        exact ⟨q, hq, rfl, h3, h2, by simpa using hh.2.1, hh.2.2, by simpa using hp⟩
      · intro hp; cases hp
    · rintro ⟨q', _, e, _, _, h5, h6, h7⟩
      obtain rfl : q = q' := by omega
      rw [if_pos ⟨by omega, by simpa using h5, h6⟩]
      simp [h7]
theorem mem_brs {m : Nat} {ls : List Gr.Ln} {F : Fo} {j : Nat} {p : Gr.Ln} : p ∈ brs m ls F j ↔ ∃ c, c < j ∧ p ∈ brAt m ls F c := by simp [brs]
theorem brs_nodup {m : Nat} {ls : List Gr.Ln} {F : Fo} (hF : Whole m (Wa.nrow m ls) F) : ∀ j, j ≤ m → (brs m ls F j).Nodup
  | 0, _ => by simp [brs]
  | j + 1, hj => by
    rw [brs_succ]
    refine List.nodup_append.2 ⟨brs_nodup hF j (by omega), ?_, ?_⟩
    · unfold brAt; split <;> simp
    · intro p hp q hq e
      subst e
      obtain ⟨c, hc, hp⟩ := mem_brs.1 hp
      obtain ⟨a, ha, h1, h2, _, _, _, h3⟩ := (mem_brAt hF (by omega)).1 hp
      obtain ⟨b, hb, h4, h5, _, _, _, h6⟩ := (mem_brAt hF (by omega)).1 hq
      rw [h3] at h6
      simp only [Prod.mk.injEq] at h6
      have : (a = b ∧ c = j) ∨ (a = j ∧ c = b) := by omega
      rcases this with ⟨_, e⟩ | ⟨e1, e2⟩
      · omega
      · subst e1 e2; omega
/-- the lines that are found are the lines that hold -/
theorem Whole.mem_brs {m : Nat} {ls : List Gr.Ln} {F : Fo} (h0 : Gr.code (m : Int) ls = 0) (hF : Whole m (Wa.nrow m ls) F) {p : Gr.Ln} : p ∈ brs m ls F m ↔ p ∈ brl m ls := by
  have hR := Wa.nrow_ok m ls
  have hs := Wa.nrow_sym m ls
  have hirr := nrow_irr h0
  rw [Dp.mem_brs]
  constructor
  · rintro ⟨c, hc, hp⟩
    obtain ⟨q, hq, h1, h2, h3, h4, h5, rfl⟩ := (mem_brAt hF hc).1 hp
    have hb := (hF.bridge hR hs hirr hq hc h3 h2).2 ⟨h1, h4⟩
    have hne : q ≠ c := fun e => by subst e; omega
    by_cases hlt : q < c
    · rw [show min (q : Int) (c : Int) = (q : Int) by omega, show max (q : Int) (c : Int) = (c : Int) by omega]
      exact mem_brl.2 ⟨hlt, hc, (brB_iff hc).2 ⟨h5, hb⟩⟩
    · rw [show min (q : Int) (c : Int) = (c : Int) by omega, show max (q : Int) (c : Int) = (q : Int) by omega]
      exact mem_brl.2 ⟨by omega, hq, (brB_iff hq).2 ⟨by rw [jn_swap]; exact h5, hb.swap hR hs hq⟩⟩
  · intro hp
    obtain ⟨i, j, rfl, hij, hj, hb⟩ := of_brl hp
    obtain ⟨h5, hb⟩ := (brB_iff hj).1 hb
    have hi : i < m := by omega
    have hnm : met F 0 i ≠ met F 0 j := by
      have := hF.part hR hi hj (by omega)
      have h1 := hF.times hR hi
      have h2 := hF.times hR hj
      unfold Part at this
      omega
    by_cases hm : met F 0 i < met F 0 j
    · obtain ⟨h1, h2⟩ := (hF.bridge hR hs hirr hi hj hb.1 hm).1 hb
      refine ⟨j, hj, (mem_brAt hF hj).2 ⟨i, hi, h1, hm, hb.1, h2, h5, ?_⟩⟩
      rw [show min (i : Int) (j : Int) = (i : Int) by omega, show max (i : Int) (j : Int) = (j : Int) by omega]
    · have hb' := hb.swap hR hs hi
      obtain ⟨h1, h2⟩ := (hF.bridge hR hs hirr hj hi hb'.1 (by omega)).1 hb'
      refine ⟨i, hi, (mem_brAt hF hi).2 ⟨j, hj, h1, by omega, hb'.1, h2, by rw [jn_swap]; exact h5, ?_⟩⟩
      rw [show min (j : Int) (i : Int) = (i : Int) by omega, show max (j : Int) (i : Int) = (j : Int) by omega]

/-- what is sorted of the lines that are found is the list -/
theorem brl_of {m : Nat} {ls : List Gr.Ln} {F : Fo} (h0 : Gr.code (m : Int) ls = 0) (hF : Whole m (Wa.nrow m ls) F) {os : List Gr.Ln} (hp : os.Perm (brs m ls F m)) (hs : os.Pairwise (fun p q => ¬ lnLt q p)) : os = brl m ls := by
  have hnd : os.Nodup := hp.nodup_iff.2 (brs_nodup hF m (Nat.le_refl _))
  have hlt : os.Pairwise lnLt := by
    refine (hs.and hnd).imp ?_
    rintro p q ⟨h1, h2⟩
    by_cases h : lnLt p q
    · exact h
    · exact absurd (lnLt_tri h h1) h2
  have hnd2 : (brl m ls).Nodup := List.Pairwise.imp (R := lnLt) (S := fun p q => p ≠ q) (fun {p q} h (e : p = q) => lnLt_irr p (by rw [← e] at h; exact h)) (brl_pw m ls)
  have hperm : os.Perm (brl m ls) := (List.perm_ext_iff_of_nodup hnd hnd2).2 (fun p => by rw [hp.mem_iff, hF.mem_brs h0])
  exact hperm.eq_of_pairwise (le := lnLt) (fun a b _ _ h h' => absurd h' (lnLt_not h)) hlt (brl_pw m ls)

/-! ### one line left out -/
theorem jn_twin {ls : List Gr.Ln} {k : Nat} {a b : Int} (hk : k < ls.length) (hab : ls.getD k (0, 0) = (a, b)) : ls.countP (jn a b) = 1 ↔ ¬ Twin ls k := by
  have hsplit : ls = ls.take k ++ (a, b) :: ls.drop (k + 1) := by
    have e : ls[k] = (a, b) := by simpa [List.getD, hk] using hab
    rw [← e]; simp
  have hc : ls.countP (jn a b) = (ls.eraseIdx k).countP (jn a b) + 1 := by
    rw [List.eraseIdx_eq_take_drop_succ]
    conv => lhs; rw [hsplit]
    simp [List.countP_append, List.countP_cons, jn]
    omega
  rw [hc]
  constructor
  · intro h ht
    have h1 : (ls.eraseIdx k).countP (jn a b) = 0 := by omega
    obtain ⟨j, hj, hne, e⟩ := ht
    rw [hab] at e
    have hm : ls.getD j (0, 0) ∈ ls.eraseIdx k := mem_but.2 ⟨j, hj, hne, rfl⟩
    have := List.countP_eq_zero.1 h1 _ hm
    rcases e with e | e <;> rw [e] at this <;> simp [jn] at this
  · intro h
    have : (ls.eraseIdx k).countP (jn a b) = 0 := by
      rw [List.countP_eq_zero]
      intro p hp hq
      obtain ⟨j, hj, hne, e⟩ := mem_but.1 hp
      refine h ⟨j, hj, hne, ?_⟩
      rw [hab, e]
      simpa [jn] using hq
    omega
theorem rch_congr {m : Nat} {R R' : Nat → List Nat} (hR : Wa.Ok m R) (hR' : Wa.Ok m R') (h : ∀ u v, u < m → (v ∈ R u ↔ v ∈ R' u)) {a b : Nat} (ha : a < m) : Wa.rch m R a b = Wa.rch m R' a b := by
  rw [Bool.eq_iff_iff, Wa.rch_iff hR ha, Wa.rch_iff hR' ha]
  exact ⟨fun ⟨k, hk⟩ => ⟨k, Wa.wk_mono (fun u hu v hv => (h u v hu).1 hv) hk⟩, fun ⟨k, hk⟩ => ⟨k, Wa.wk_mono (fun u hu v hv => (h u v hu).2 hv) hk⟩⟩
/-- does the line k alone join the two? -/
theorem but_rch {m : Nat} {ls : List Gr.Ln} (h0 : Gr.code (m : Int) ls = 0) {i j k : Nat} (hi : i < m) (hj : j < m) (hk : k < ls.length) (hjn : jn (i : Int) (j : Int) (ls.getD k (0, 0)) = true) : (!Wa.rch m (Wa.nrow m (ls.eraseIdx k)) i j) = brB m ls i j := by
  have hR := Wa.nrow_ok m ls
  have hR2 := Wa.nrow_ok m (ls.eraseIdx k)
  have hadj : j ∈ Wa.nrow m ls i := (jn_adj hj).1 (List.countP_pos_iff.2 ⟨_, by simp [List.getD, hk], hjn⟩)
  unfold brB
  have hab : ls.getD k (0, 0) = ((i : Int), (j : Int)) ∨ ls.getD k (0, 0) = ((j : Int), (i : Int)) := by simpa [jn] using hjn
  have hc : ls.countP (jn (i : Int) (j : Int)) = 1 ↔ ¬ Twin ls k := by
    rcases hab with h | h
    · exact jn_twin hk h
    · rw [jn_swap]; exact jn_twin hk h
  by_cases ht : Twin ls k
  · rw [row_but_twin hk ht]
    have h1 : Wa.rch m (Wa.nrow m ls) i j = true := (Wa.rch_iff hR hi).2 ⟨1, Wa.wk_one hi hadj⟩
    have h2 : ¬ ls.countP (jn (i : Int) (j : Int)) = 1 := fun e => hc.1 e ht
    simp [h1, h2]
  · have h2 : ls.countP (jn (i : Int) (j : Int)) = 1 := hc.2 ht
    have h1 : Wa.rch m (Wa.nrow m (ls.eraseIdx k)) i j = Wa.rch m (rml (Wa.nrow m ls) i j) i j := by
      rcases hab with h | h
      · exact rch_congr hR2 (rml_ok hR i j) (fun u v _ => row_but_one hk h ht) hi
      · rw [rml_swap]
        exact rch_congr hR2 (rml_ok hR j i) (fun u v _ => row_but_one hk h ht) hi
    simp [h1, h2]

/-- the lines that hold, as the law finds them -/
def lawTo (m : Nat) (ls : List Gr.Ln) (i j : Nat) : List Gr.Ln := (Gr.upTo m (fun i j => decide (i < j) && brB m ls i j) i j).map fun p => ((p.1 : Int), (p.2 : Int))
def lawAt (m : Nat) (ls : List Gr.Ln) (i j k : Nat) : List Gr.Ln := lawTo m ls i j ++ if brB m ls i j = true then List.replicate ((ls.take k).countP (jn (i : Int) (j : Int))) ((i : Int), (j : Int)) else []
theorem lawAt_zero (m : Nat) (ls : List Gr.Ln) (i j : Nat) : lawAt m ls i j 0 = lawTo m ls i j := by simp [lawAt]
theorem lawAt_hit {m : Nat} {ls : List Gr.Ln} {i j k : Nat} (hk : k < ls.length) (h1 : jn (i : Int) (j : Int) (ls.getD k (0, 0)) = true) (h2 : brB m ls i j = true) : lawAt m ls i j (k + 1) = lawAt m ls i j k ++ [((i : Int), (j : Int))] := by
  have e : jn (i : Int) (j : Int) ls[k] = true := by simpa [List.getD, hk] using h1
  unfold lawAt
  rw [if_pos h2, if_pos h2, List.take_succ_eq_append_getElem hk, List.countP_append, List.countP_singleton, if_pos e, List.append_assoc, List.replicate_succ']
theorem lawAt_miss {m : Nat} {ls : List Gr.Ln} {i j k : Nat} (hk : k < ls.length) (h : jn (i : Int) (j : Int) (ls.getD k (0, 0)) = false ∨ brB m ls i j = false) : lawAt m ls i j (k + 1) = lawAt m ls i j k := by
  unfold lawAt
  rcases h with h | h
  · have e : jn (i : Int) (j : Int) ls[k] = false := by simpa [List.getD, hk] using h
    rw [List.take_succ_eq_append_getElem hk, List.countP_append, List.countP_singleton, e]
    simp
  · rw [if_neg (by rw [h]; simp), if_neg (by rw [h]; simp)]
theorem lawAt_end {m : Nat} {ls : List Gr.Ln} {i j : Nat} (hij : i < j) : lawAt m ls i j ls.length = lawTo m ls i (j + 1) := by
  unfold lawAt lawTo
  rw [List.take_length]
  by_cases h : brB m ls i j = true
  · rw [if_pos h, Gr.upTo_hit (by simp [hij, h])]
    unfold brB at h
    simp only [Bool.and_eq_true, decide_eq_true_eq] at h
    rw [h.1]
    simp
  · rw [if_neg h, Gr.upTo_miss (by simp only [Bool.not_eq_true] at h; simp [h])]
    simp
theorem lawTo_row (m : Nat) (ls : List Gr.Ln) (i : Nat) : lawTo m ls i m = lawTo m ls (i + 1) (i + 2) := by
  unfold lawTo
  rw [Gr.upTo_row]
  congr 1
  have : ∀ t, t ≤ i + 2 → Gr.upTo m (fun i j => decide (i < j) && brB m ls i j) (i + 1) 0 = Gr.upTo m (fun i j => decide (i < j) && brB m ls i j) (i + 1) t := by
    intro t
    induction t with
    | zero => intro _; rfl
    | succ t ih =>
      intro ht
      rw [ih (by omega)]
      exact (Gr.upTo_miss (by simp; intro h; omega)).symm
  exact this _ (Nat.le_refl _)
theorem lawTo_start (m : Nat) (ls : List Gr.Ln) : lawTo m ls 0 1 = [] := by
  unfold lawTo
  rw [Gr.upTo_miss (by simp)]
  simp [Gr.upTo]
theorem lawTo_done (m : Nat) (ls : List Gr.Ln) (h1 : 1 ≤ m) : lawTo m ls (m - 1) m = brl m ls := by
  unfold lawTo brl
  rw [Gr.upTo_row, show m - 1 + 1 = m by omega, Gr.upTo_done]
theorem lawAt_len {m : Nat} {ls : List Gr.Ln} {i j k : Nat} (hi : i < m) (hj : j < m) : (lawAt m ls i j k).length ≤ m * m + ls.length := by
  unfold lawAt lawTo
  rw [List.length_append, List.length_map]
  have h1 := Gr.upTo_small (m := m) (r := fun i j => decide (i < j) && brB m ls i j) hi hj
  have h2 : (ls.take k).countP (jn (i : Int) (j : Int)) ≤ ls.length := Nat.le_trans List.countP_le_length (by simp; omega)
  split <;> simp <;> omega

/-! ### how many parts -/
theorem but_parts {m : Nat} {ls : List Gr.Ln} (h0 : Gr.code (m : Int) ls = 0) {i j k : Nat} (hi : i < m) (hj : j < m) (hk : k < ls.length) (h : ls.getD k (0, 0) = ((i : Int), (j : Int))) : parts m (Wa.nrow m (ls.eraseIdx k)) = parts m (Wa.nrow m ls) + if brB m ls i j = true then 1 else 0 := by
  have hR := Wa.nrow_ok m ls
  have hs := Wa.nrow_sym m ls
  have hjn : jn (i : Int) (j : Int) (ls.getD k (0, 0)) = true := by rw [h]; simp [jn]
  have hadj : j ∈ Wa.nrow m ls i := (jn_adj hj).1 (List.countP_pos_iff.2 ⟨_, by simp [List.getD, hk], hjn⟩)
  have hc := jn_twin hk h
  by_cases ht : Twin ls k
  · rw [row_but_twin hk ht, if_neg]
    · rfl
    · unfold brB
      simp only [Bool.and_eq_true, decide_eq_true_eq]
      rintro ⟨h1, _⟩
      exact hc.1 h1 ht
  · rw [parts_congr (Wa.nrow_ok m (ls.eraseIdx k)) (Wa.nrow_sym m _) (rml_ok hR i j) (rml_sym hs i j) (fun u v _ => row_but_one hk h ht), parts_line hR hs hi hadj]
    congr 1
    unfold brB
    rw [hc.2 ht]
    cases Wa.rch m (rml (Wa.nrow m ls) i j) i j <;> simp
theorem brB_swap {m : Nat} {ls : List Gr.Ln} {i j : Nat} (hi : i < m) (hj : j < m) : brB m ls i j = brB m ls j i := by
  have key : ∀ i j : Nat, i < m → j < m → brB m ls i j = true → brB m ls j i = true := fun i j hi hj h => by
    have h' := (brB_iff hj).1 h
    exact (brB_iff hi).2 ⟨by rw [jn_swap]; exact h'.1, h'.2.swap (Wa.nrow_ok m ls) (Wa.nrow_sym m ls) hi⟩
  rw [Bool.eq_iff_iff]
  exact ⟨key i j hi hj, key j i hj hi⟩
/-- beside each other by the lines that hold -/
theorem adj_brl {m : Nat} {ls : List Gr.Ln} {i j : Nat} (hi : i < m) (hj : j < m) (hne : i ≠ j) : Gr.adj (brl m ls) (i : Int) (j : Int) = brB m ls i j := by
  rw [Bool.eq_iff_iff, Gr.adj_iff, mem_brl, mem_brl, brB_swap hj hi]
  constructor
  · rintro (⟨_, _, h⟩ | ⟨_, _, h⟩) <;> exact h
  · intro h
    rcases Nat.lt_or_ge i j with hlt | hge
    · exact .inl ⟨hlt, hj, h⟩
    · exact .inr ⟨by omega, hi, h⟩
/-- an end of a line that holds and that has another beside it holds others together -/
theorem brl_ends {m : Nat} {ls : List Gr.Ln} (h0 : Gr.code (m : Int) ls = 0) {i j c : Nat} (hi : i < m) (hj : j < m) (hb : brB m ls i j = true) (hc : c ∈ Wa.nrow m ls i) (hne : c ≠ j) : i ∈ cpts m (Wa.nrow m ls) :=
  mem_cpts.2 ⟨hi, ((brB_iff hj).1 hb).2.ends (Wa.nrow_ok m ls) (Wa.nrow_sym m ls) (nrow_irr h0) hi hc hne⟩
theorem cpts_two {m : Nat} {ls : List Gr.Ln} (h0 : Gr.code (m : Int) ls = 0) (hm : 2 ≤ m) : (cpts m (Wa.nrow m ls)).length ≤ m - 2 := by
  obtain ⟨a, b, ha, hb, hab, hca, hcb⟩ := two_free (Wa.nrow_ok m ls) (Wa.nrow_sym m ls) (nrow_irr h0) hm
  unfold cpts
  rw [← List.countP_eq_length_filter]
  have hl := List.length_eq_countP_add_countP (l := List.range m) (cutB m (Wa.nrow m ls))
  have h2 : 2 ≤ (List.range m).countP (fun v => decide (¬ cutB m (Wa.nrow m ls) v = true)) :=
    (two_of List.nodup_range).2 ⟨a, b, List.mem_range.2 ha, List.mem_range.2 hb, hab, by simpa using fun h => hca (cutB_iff.1 h), by simpa using fun h => hcb (cutB_iff.1 h)⟩
  simp only [List.length_range] at hl
  omega

end Go.Proofs.Ytjcdnkbandagoaa.Dp
