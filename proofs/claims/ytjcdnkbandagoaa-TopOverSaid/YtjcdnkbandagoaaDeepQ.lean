/-
  Plain facts on what a deep search says of the points that hold others together. No statement of the program is proved here; there is no condition.
-/
import Derived.Test.YtjcdnkbandagoaaDeepO
set_option linter.unusedSimpArgs false
set_option linter.unusedVariables false
namespace Go.Proofs.Ytjcdnkbandagoaa.Dp

/-! ### without a point -/
/-- the rows without point i -/
def rmv (R : Nat → List Nat) (i : Nat) : Nat → List Nat := fun u => if u = i then [] else (R u).filter fun w => !decide (w = i)
theorem mem_rmv {R : Nat → List Nat} {i u w : Nat} : w ∈ rmv R i u ↔ u ≠ i ∧ w ≠ i ∧ w ∈ R u := by
  unfold rmv
  by_cases e : u = i
  · simp [e]
  · simp [e, and_comm]
theorem rmv_ok {m : Nat} {R : Nat → List Nat} (hR : Wa.Ok m R) (i : Nat) : Wa.Ok m (rmv R i) := fun u hu w hw => hR u hu w (mem_rmv.1 hw).2.2
theorem rmv_sym {m : Nat} {R : Nat → List Nat} (hs : Wa.Sym m R) (i : Nat) : Wa.Sym m (rmv R i) := fun a b ha hb h => by
  obtain ⟨h1, h2, h3⟩ := mem_rmv.1 h
  exact mem_rmv.2 ⟨h2, h1, hs a b ha hb h3⟩
/-- does point i hold two others together? -/
def Cut (m : Nat) (R : Nat → List Nat) (i : Nat) : Prop := ∃ a b, a < m ∧ b < m ∧ a ≠ i ∧ b ≠ i ∧ Wa.rch m R a b = true ∧ Wa.rch m (rmv R i) a b = false
theorem rmv_step {m : Nat} {R : Nat → List Nat} (hR : Wa.Ok m R) {i a b : Nat} (ha : a < m) (h1 : a ≠ i) (h2 : b ≠ i) (h : b ∈ R a) : Wa.rch m (rmv R i) a b = true :=
  (Wa.rch_iff (rmv_ok hR i) ha).2 ⟨1, Wa.wk_one ha (mem_rmv.2 ⟨h1, h2, h⟩)⟩
/-- if all that are beside it hang together without it, it holds nothing together -/
theorem not_cut {m : Nat} {R : Nat → List Nat} (hR : Wa.Ok m R) (hs : Wa.Sym m R) (hirr : ∀ a, a < m → a ∉ R a) {i : Nat} (hi : i < m) (h : ∀ x y, x ∈ R i → y ∈ R i → Wa.rch m (rmv R i) x y = true) : ¬ Cut m R i := by
  have key : ∀ k a b, a < m → a ≠ i → b ≠ i → Wa.wk m R k a b = true → Wa.rch m (rmv R i) a b = true := by
    intro k
    induction k using Nat.strongRecOn with
    | _ k ih =>
      intro a b ha h1 h2 hw
      match k, ih, hw with
      | 0, ih, hw =>
        rw [Wa.wk_zero] at hw
        exact hw ▸ Wa.rch_self (rmv_ok hR i) ha
      | k + 1, ih, hw =>
        obtain ⟨c, hc, h3, h4⟩ := Wa.wk_succ.1 hw
        by_cases e : c = i
        · subst e
          match k, ih, h3 with
          | 0, ih, h3 => rw [Wa.wk_zero] at h3; exact absurd h3 h1
          | k + 1, ih, h3 =>
            obtain ⟨d, hd, h5, h6⟩ := Wa.wk_succ.1 h3
            have hdc : d ≠ c := fun e => hirr c hc (by rw [e] at h6; exact h6)
            exact Wa.rch_trans (rmv_ok hR c) ha hd (ih k (by omega) a d ha h1 hdc h5) (h d b (hs d c hd hc h6) h4)
        · exact Wa.rch_trans (rmv_ok hR i) ha hc (ih k (by omega) a c ha h1 e h3) (rmv_step hR hc e h2 h4)
  rintro ⟨a, b, ha, hb, h1, h2, h3, h4⟩
  obtain ⟨k, hk⟩ := (Wa.rch_iff hR ha).1 h3
  rw [key k a b ha h1 h2 hk] at h4
  cases h4

/-! ### above and below in the trees -/
theorem near : ∀ {F : Fo} {k : Nat} {p : Int} {u w : Nat}, F.pts.Nodup → u ∈ F.pts → w ∈ F.pts → met F k w < met F k u → left F k u < left F k w → ∃ q ∈ F.pts, par F p u = (q : Int) ∧ (w = q ∨ (met F k w < met F k q ∧ left F k q < left F k w))
  | .cons v ch rest, k, p, u, w, hn, hu, hw, h1, h2 => by
    obtain ⟨n1, n2, n3, n4, n5⟩ := Fo.nodup_pts.1 hn
    have cne : ∀ x, x ∈ ch.pts → x ≠ v := fun x hx e => n1 (e ▸ hx)
    have rne : ∀ x, x ∈ rest.pts → x ≠ v := fun x hx e => n2 (e ▸ hx)
    have rnc : ∀ x, x ∈ rest.pts → x ∉ ch.pts := fun x hx e => n5 x e hx
    have tw := times_in (k := k) hw
    have tu := times_in (k := k) hu
    rcases Fo.mem_pts.1 hu with e0 | hu1 | hu1
    · -- nothing lies around a root
      subst e0
      rw [met_v] at h1
      omega
    · have tc := times_in (k := k + 1) hu1
      rcases Fo.mem_pts.1 hw with e1 | hw1 | hw1
      · subst e1
        rcases par_root.par_in (p := (w : Int)) hu1 with h3 | ⟨q, hq, h3⟩
        · exact ⟨w, by simp [Fo.pts], by rw [par_c (cne u hu1) hu1]; exact h3, .inl rfl⟩
        · have tq := times_in (k := k + 1) hq
          exact ⟨q, Fo.mem_pts.2 (.inr (.inl hq)), by rw [par_c (cne u hu1) hu1]; exact h3, .inr ⟨by rw [met_v, met_c (cne q hq) hq]; omega, by rw [left_v, left_c (cne q hq) hq]; omega⟩⟩
      · rw [met_c (cne u hu1) hu1, met_c (cne w hw1) hw1] at h1
        rw [left_c (cne u hu1) hu1, left_c (cne w hw1) hw1] at h2
        obtain ⟨q, hq, h3, h4⟩ := near (p := (v : Int)) n3 hu1 hw1 h1 h2
        exact ⟨q, Fo.mem_pts.2 (.inr (.inl hq)), by rw [par_c (cne u hu1) hu1]; exact h3, h4.elim .inl (fun h4 => .inr ⟨by rw [met_c (cne w hw1) hw1, met_c (cne q hq) hq]; exact h4.1, by rw [left_c (cne w hw1) hw1, left_c (cne q hq) hq]; exact h4.2⟩)⟩
      · have tr := times_in (k := k + 2 * ch.size + 2) hw1
        rw [met_c (cne u hu1) hu1, met_r (rne w hw1) (rnc w hw1)] at h1
        omega
    · have tr := times_in (k := k + 2 * ch.size + 2) hu1
      rcases Fo.mem_pts.1 hw with e1 | hw1 | hw1
      · subst e1
        rw [left_v, left_r (rne u hu1) (rnc u hu1)] at h2
        omega
      · have tc := times_in (k := k + 1) hw1
        rw [left_c (cne w hw1) hw1, left_r (rne u hu1) (rnc u hu1)] at h2
        omega
      · rw [met_r (rne u hu1) (rnc u hu1), met_r (rne w hw1) (rnc w hw1)] at h1
        rw [left_r (rne u hu1) (rnc u hu1), left_r (rne w hw1) (rnc w hw1)] at h2
        obtain ⟨q, hq, h3, h4⟩ := near (p := p) n4 hu1 hw1 h1 h2
        exact ⟨q, Fo.mem_pts.2 (.inr (.inr hq)), by rw [par_r (rne u hu1) (rnc u hu1)]; exact h3, h4.elim .inl (fun h4 => .inr ⟨by rw [met_r (rne w hw1) (rnc w hw1), met_r (rne q hq) (rnc q hq)]; exact h4.1, by rw [left_r (rne w hw1) (rnc w hw1), left_r (rne q hq) (rnc q hq)]; exact h4.2⟩)⟩

/-- u lies below c, or is c -/
def Desc (F : Fo) (u c : Nat) : Prop := met F 0 c ≤ met F 0 u ∧ left F 0 u ≤ left F 0 c
theorem Desc.refl (F : Fo) (u : Nat) : Desc F u u := ⟨Nat.le_refl _, Nat.le_refl _⟩
theorem Desc.trans {F : Fo} {a b c : Nat} (h : Desc F a b) (h' : Desc F b c) : Desc F a c := ⟨Nat.le_trans h'.1 h.1, Nat.le_trans h.2 h'.2⟩

section
variable {m : Nat} {R : Nat → List Nat} {F : Fo}

theorem Whole.desc_lt (hR : Wa.Ok m R) (hF : Whole m R F) {u c : Nat} (hu : u < m) (hc : c < m) (hne : u ≠ c) (h : Desc F u c) : met F 0 c < met F 0 u ∧ left F 0 u < left F 0 c := by
  have h1 := hF.part hR hu hc hne
  have h2 := hF.times hR hu
  have h3 := hF.times hR hc
  unfold Part at h1
  unfold Desc at h
  omega
/-- two that lie above one lie above each other -/
theorem Whole.desc_two (hR : Wa.Ok m R) (hF : Whole m R F) {u a b : Nat} (hu : u < m) (ha : a < m) (hb : b < m) (h1 : Desc F u a) (h2 : Desc F u b) : Desc F a b ∨ Desc F b a := by
  by_cases e : a = b
  · exact .inl (e ▸ Desc.refl F a)
  · have h3 := hF.part hR ha hb e
    have h4 := hF.times hR hu
    unfold Part at h3
    unfold Desc at *
    omega
/-- whoever lies below another one was met from one that does too, or from that one -/
theorem Whole.near (hR : Wa.Ok m R) (hF : Whole m R F) {u c : Nat} (hu : u < m) (hc : c < m) (hne : u ≠ c) (h : Desc F u c) : ∃ q, q < m ∧ Dp.par F (-1) u = (q : Int) ∧ u ∈ R q ∧ Desc F u q ∧ Desc F q c ∧ met F 0 q < met F 0 u := by
  have hq := hF.spec hR
  have h1 := hF.desc_lt hR hu hc hne h
  obtain ⟨q, hqF, h2, h3⟩ := Dp.near (p := -1) hq.2 ((hq.1 u).2 hu) ((hq.1 c).2 hc) h1.1 h1.2
  have hqm := (hq.1 q).1 hqF
  rcases hF.par hR hu with h4 | ⟨q', hq', h4, h5, h6, h7⟩
  · omega
  · have : q' = q := by omega
    subst this
    refine ⟨q', hqm, h2, h5, ⟨by omega, by omega⟩, ?_, h6⟩
    rcases h3 with rfl | ⟨h8, h9⟩
    · exact Desc.refl F _
    · exact ⟨by omega, by omega⟩

/-- up a tree, past no i -/
theorem Whole.climb (hR : Wa.Ok m R) (hs : Wa.Sym m R) (hF : Whole m R F) {i c : Nat} (hc : c < m) : ∀ (n u : Nat), met F 0 u ≤ n → u < m → Desc F u c → (∀ w, w < m → Desc F u w → Desc F w c → w ≠ i) → Wa.rch m (rmv R i) u c = true := by
  intro n
  induction n with
  | zero =>
    intro u hn hu hd hav
    by_cases e : u = c
    · exact e ▸ Wa.rch_self (rmv_ok hR i) hu
    · have := hF.desc_lt hR hu hc e hd
      omega
  | succ n ih =>
    intro u hn hu hd hav
    by_cases e : u = c
    · exact e ▸ Wa.rch_self (rmv_ok hR i) hu
    · obtain ⟨q, hq, h1, h2, h3, h4, h5⟩ := hF.near hR hu hc e hd
      have hui := hav u hu (Desc.refl F u) hd
      have hqi := hav q hq h3 h4
      exact Wa.rch_trans (rmv_ok hR i) hu hq (rmv_step hR hu hui hqi (hs q u hq hu h2)) (ih q (by omega) hq h4 (fun w hw h6 h7 => hav w hw (h3.trans h6) h7))
/-- whoever lies below i lies below one that was met from i, or is it -/
theorem Whole.child (hR : Wa.Ok m R) (hF : Whole m R F) {i : Nat} (hi : i < m) : ∀ (n x : Nat), met F 0 x ≤ n → x < m → x ≠ i → Desc F x i → ∃ c, c < m ∧ Dp.par F (-1) c = (i : Int) ∧ Desc F x c := by
  intro n
  induction n with
  | zero =>
    intro x hn hx hne hd
    have := hF.desc_lt hR hx hi hne hd
    omega
  | succ n ih =>
    intro x hn hx hne hd
    obtain ⟨q, hq, h1, h2, h3, h4, h5⟩ := hF.near hR hx hi hne hd
    by_cases e : q = i
    · exact ⟨x, hx, by rw [h1, e], Desc.refl F x⟩
    · obtain ⟨c, hc, h6, h7⟩ := ih q (by omega) hq e h4
      exact ⟨c, hc, h6, h3.trans h7⟩
/-- one that was met from i lies strictly below it -/
theorem Whole.kid (hR : Wa.Ok m R) (hF : Whole m R F) {i c : Nat} (hi : i < m) (hc : c < m) (h : Dp.par F (-1) c = (i : Int)) : c ∈ R i ∧ Desc F c i ∧ met F 0 i < met F 0 c ∧ left F 0 c < left F 0 i := by
  rcases hF.par hR hc with h1 | ⟨q, hq, h1, h2, h3, h4⟩
  · omega
  · have : q = i := by omega
    subst this
    exact ⟨h2, ⟨by omega, by omega⟩, h3, h4⟩

/-! ### the lowest times, all at once -/
theorem Whole.low_le (hR : Wa.Ok m R) (hF : Whole m R F) {c : Nat} (hc : c < m) : ∀ (n x : Nat), met F 0 x ≤ n → x < m → Desc F x c → (lows m R F).getD c 0 ≤ (lows m R F).getD x 0 := by
  have hq := hF.spec hR
  have hneg : ∀ x ∈ F.pts, (x : Int) ≠ -1 := fun x _ => by omega
  intro n
  induction n with
  | zero =>
    intro x hn hx hd
    by_cases e : x = c
    · rw [e]; exact Int.le_refl _
    · have := hF.desc_lt hR hx hc e hd
      omega
  | succ n ih =>
    intro x hn hx hd
    by_cases e : x = c
    · rw [e]; exact Int.le_refl _
    · obtain ⟨q, hqm, h1, h2, h3, h4, h5⟩ := hF.near hR hx hc e hd
      have h6 := ih q (by omega) hqm h4
      have h7 := (lw_min (R := R) (M := fun u => ((Dp.met F 0 u : Nat) : Int)) hq.2 hneg q ((hq.1 q).2 hqm)).2 _ (.inl (.inr ⟨x, (hq.1 x).2 hx, h1, rfl⟩))
      rw [lows_at R F hqm] at h6
      rw [lows_at R F hx]
      omega
theorem Whole.low_beside (hR : Wa.Ok m R) (hF : Whole m R F) {c x w : Nat} (hc : c < m) (hx : x < m) (hd : Desc F x c) (hw : w ∈ R x) (hne : (w : Int) ≠ Dp.par F (-1) x) : (lows m R F).getD c 0 ≤ ((met F 0 w : Nat) : Int) := by
  have hq := hF.spec hR
  have hneg : ∀ x ∈ F.pts, (x : Int) ≠ -1 := fun x _ => by omega
  have h1 := hF.low_le hR hc _ x (Nat.le_refl _) hx hd
  have h2 := (lw_min (R := R) (M := fun u => ((Dp.met F 0 u : Nat) : Int)) hq.2 hneg x ((hq.1 x).2 hx)).2 _ (.inr ⟨w, hw, hne, rfl⟩)
  rw [lows_at R F hx] at h1
  exact Int.le_trans h1 h2
theorem Whole.low_is (hR : Wa.Ok m R) (hF : Whole m R F) : ∀ (n c : Nat), 2 * m ≤ met F 0 c + n → c < m → ∃ x, x < m ∧ Desc F x c ∧ ((lows m R F).getD c 0 = ((met F 0 x : Nat) : Int) ∨ ∃ w ∈ R x, (w : Int) ≠ Dp.par F (-1) x ∧ (lows m R F).getD c 0 = ((met F 0 w : Nat) : Int)) := by
  have hq := hF.spec hR
  have hneg : ∀ x ∈ F.pts, (x : Int) ≠ -1 := fun x _ => by omega
  intro n
  induction n with
  | zero => intro c hn hc; have := hF.times hR hc; omega
  | succ n ih =>
    intro c hn hc
    have h1 := (lw_min (R := R) (M := fun u => ((Dp.met F 0 u : Nat) : Int)) hq.2 hneg c ((hq.1 c).2 hc)).1
    rw [lows_at R F hc]
    rcases h1 with (h1 | ⟨d, hd, h2, h1⟩) | ⟨w, hw, h2, h1⟩
    · exact ⟨c, hc, Desc.refl F c, .inl h1⟩
    · have hdm := (hq.1 d).1 hd
      obtain ⟨_, h4, h5, _⟩ := hF.kid hR hc hdm h2
      obtain ⟨x, hx, h6, h7⟩ := ih d (by omega) hdm
      rw [lows_at R F hdm] at h7
      exact ⟨x, hx, h6.trans h4, by rw [h1]; exact h7⟩
    · exact ⟨c, hc, Desc.refl F c, .inr ⟨w, hw, h2, h1⟩⟩

/-! ### what a search says -/
/-- from below c one comes out only over i, if c comes back no higher -/
theorem Whole.shut (hR : Wa.Ok m R) (hs : Wa.Sym m R) (hirr : ∀ a, a < m → a ∉ R a) (hF : Whole m R F) {i c : Nat} (hi : i < m) (hc : c < m) (hp : Dp.par F (-1) c = (i : Int)) (hl : ((met F 0 i : Nat) : Int) ≤ (lows m R F).getD c 0) {x w : Nat} (hx : x < m) (hd : Desc F x c) (hw : w ∈ R x) : w = i ∨ Desc F w c := by
  have hwm := hR x hx w hw
  obtain ⟨_, hci, hm1, hm2⟩ := hF.kid hR hi hc hp
  have hxw : x ≠ w := fun e => hirr x hx (by rw [← e] at hw; exact hw)
  by_cases e : w = i
  · exact .inl e
  · refine .inr ?_
    rcases hF.back hR hs hx hwm hxw hw with ⟨h1, h2⟩ | ⟨h1, h2⟩
    · exact Desc.trans ⟨Nat.le_of_lt h1, Nat.le_of_lt h2⟩ hd
    · -- w lies above x
      have hxw' : Desc F x w := ⟨Nat.le_of_lt h1, Nat.le_of_lt h2⟩
      rcases hF.desc_two hR hx hwm hc hxw' hd with h3 | h3
      · exact h3
      · by_cases e2 : w = c
        · exact e2 ▸ Desc.refl F c
        · have h4 := hF.desc_lt hR hc hwm (fun e => e2 e.symm) h3
          -- w lies above c, and is not i: so above i
          have h5 : Desc F i w := by
            obtain ⟨q, hq, h6, _, _, h7, _⟩ := hF.near hR hc hwm (fun e => e2 e.symm) h3
            have : q = i := by omega
            exact this ▸ h7
          have h8 := hF.desc_lt hR hi hwm (fun e' => e e'.symm) h5
          have hne : (w : Int) ≠ Dp.par F (-1) x := by
            by_cases e3 : x = c
            · rw [e3, hp]; omega
            · obtain ⟨q, hq, h9, _, _, h10, _⟩ := hF.near hR hx hc e3 hd
              rw [h9]
              intro e4
              have : q = w := by omega
              subst this
              have h11 := hF.desc_lt hR hc hq (fun e => e2 e.symm) h3
              unfold Desc at h10
              omega
          have h12 := hF.low_beside hR hc hx hd hw hne
          omega

theorem Whole.held (hR : Wa.Ok m R) (hs : Wa.Sym m R) (hirr : ∀ a, a < m → a ∉ R a) (hF : Whole m R F) {i c b : Nat} (hi : i < m) (hc : c < m) (hb : b < m) (hp : Dp.par F (-1) c = (i : Int)) (hl : ((met F 0 i : Nat) : Int) ≤ (lows m R F).getD c 0)
    (hbi : b ∈ R i) (hbc : ¬ Desc F b c) : Cut m R i := by
  obtain ⟨hci, hd, hm1, _⟩ := hF.kid hR hi hc hp
  have hne : c ≠ i := fun e => by rw [e] at hm1; omega
  have hbne : b ≠ i := fun e => hirr i hi (by rw [e] at hbi; exact hbi)
  refine ⟨c, b, hc, hb, hne, hbne, ?_, ?_⟩
  · exact Wa.rch_trans hR hc hi ((Wa.rch_iff hR hc).2 ⟨1, Wa.wk_one hc (hs i c hi hc hci)⟩) ((Wa.rch_iff hR hi).2 ⟨1, Wa.wk_one hi hbi⟩)
  · cases hr : Wa.rch m (rmv R i) c b with
    | false => rfl
    | true =>
      exact absurd (closed_reach (rmv_ok hR i) (S := fun x => Desc F x c) (fun x hx hxd w hw => by
        obtain ⟨_, h2, h3⟩ := mem_rmv.1 hw
        exact (hF.shut hR hs hirr hi hc hp hl hx hxd h3).elim (fun e => absurd e h2) id) hc (Desc.refl F c) hr) hbc

/-- a point that was met from another one holds others together if one that was met from it comes back no higher -/
theorem Whole.cut_inner (hR : Wa.Ok m R) (hs : Wa.Sym m R) (hirr : ∀ a, a < m → a ∉ R a) (hF : Whole m R F) {i : Nat} (hi : i < m) (hpi : Dp.par F (-1) i ≠ -1) :
    Cut m R i ↔ ∃ c, c < m ∧ Dp.par F (-1) c = (i : Int) ∧ ((met F 0 i : Nat) : Int) ≤ (lows m R F).getD c 0 := by
  obtain ⟨p, hp, hpe, hip, hpm, hpl⟩ : ∃ q, q < m ∧ Dp.par F (-1) i = (q : Int) ∧ i ∈ R q ∧ met F 0 q < met F 0 i ∧ left F 0 i < left F 0 q := (hF.par hR hi).elim (fun h => absurd h hpi) id
  have hdip : Desc F i p := ⟨by omega, by omega⟩
  have hpne : p ≠ i := fun e => by rw [e] at hpm; omega
  constructor
  · intro hcut
    by_cases hex : ∃ c, c < m ∧ Dp.par F (-1) c = (i : Int) ∧ ((met F 0 i : Nat) : Int) ≤ (lows m R F).getD c 0
    · exact hex
    · exfalso
      refine not_cut hR hs hirr hi ?_ hcut
      -- each one beside i hangs together with p
      have up : ∀ w, w < m → w ≠ i → Desc F i w → Wa.rch m (rmv R i) p w = true := by
        intro w hw hwi hd
        have hpw : Desc F p w := by
          obtain ⟨q, hq, h1, _, _, h2, _⟩ := hF.near hR hi hw (fun e => hwi e.symm) hd
          have : q = p := by omega
          exact this ▸ h2
        exact hF.climb hR hs hw _ p (Nat.le_refl _) hp hpw (fun y hy h1 _ e => by
          rw [e] at h1
          unfold Desc at h1
          omega)
      have all : ∀ x, x ∈ R i → Wa.rch m (rmv R i) x p = true := by
        intro x hxi
        have hx := hR i hi x hxi
        have hxne : x ≠ i := fun e => hirr i hi (by rw [e] at hxi; exact hxi)
        rcases hF.back hR hs hi hx (fun e => hxne e.symm) hxi with ⟨h1, h2⟩ | ⟨h1, h2⟩
        · obtain ⟨c, hc, hpc, hxc⟩ := hF.child hR hi _ x (Nat.le_refl _) hx hxne ⟨Nat.le_of_lt h1, Nat.le_of_lt h2⟩
          obtain ⟨_, hci, hm1, hm2⟩ := hF.kid hR hi hc hpc
          have hlow : (lows m R F).getD c 0 < ((met F 0 i : Nat) : Int) := by
            rcases Int.lt_or_le ((lows m R F).getD c 0) ((met F 0 i : Nat) : Int) with h | h
            · exact h
            · exact absurd ⟨c, hc, hpc, h⟩ hex
          have av : ∀ y, y < m → Desc F y c → y ≠ i := fun y hy hyc e => by
            rw [e] at hyc
            unfold Desc at hyc
            omega
          have toc : ∀ y, y < m → Desc F y c → Wa.rch m (rmv R i) y c = true := fun y hy hyc => hF.climb hR hs hc _ y (Nat.le_refl _) hy hyc (fun z hz _ h => av z hz h)
          obtain ⟨y, hy, hyc, hlow2⟩ := hF.low_is hR _ c (Nat.le_add_left _ _) hc
          rcases hlow2 with h3 | ⟨w, hwy, hwne, h3⟩
          · unfold Desc at hyc
            omega
          · have hw := hR y hy w hwy
            have hyw : y ≠ w := fun e => hirr y hy (by rw [← e] at hwy; exact hwy)
            have hyi := av y hy hyc
            have hwi : w ≠ i := fun e => by rw [e] at h3; omega
            have hiw : Desc F i w := by
              have hyw' : Desc F y w := by
                rcases hF.back hR hs hy hw hyw hwy with ⟨h4, _⟩ | ⟨h4, h5⟩
                · unfold Desc at hyc; omega
                · exact ⟨Nat.le_of_lt h4, Nat.le_of_lt h5⟩
              rcases hF.desc_two hR hy hw hi hyw' (hyc.trans hci) with h4 | h4
              · unfold Desc at h4; omega
              · exact h4
            have r1 := toc x hx hxc
            have r2 := Wa.rch_sym (rmv_ok hR i) (rmv_sym hs i) hy hc (toc y hy hyc)
            have r3 := rmv_step hR hy hyi hwi hwy
            have r4 := Wa.rch_sym (rmv_ok hR i) (rmv_sym hs i) hp hw (up w hw hwi hiw)
            exact Wa.rch_trans (rmv_ok hR i) hx hc r1 (Wa.rch_trans (rmv_ok hR i) hc hy r2 (Wa.rch_trans (rmv_ok hR i) hy hw r3 r4))
        · exact Wa.rch_sym (rmv_ok hR i) (rmv_sym hs i) hp hx (up x hx hxne ⟨Nat.le_of_lt h1, Nat.le_of_lt h2⟩)
      intro x y hx hy
      have hxm := hR i hi x hx
      have hym := hR i hi y hy
      exact Wa.rch_trans (rmv_ok hR i) hxm hp (all x hx) (Wa.rch_sym (rmv_ok hR i) (rmv_sym hs i) hym hp (all y hy))
  · rintro ⟨c, hc, hpc, hl⟩
    obtain ⟨_, hci, hm1, hm2⟩ := hF.kid hR hi hc hpc
    exact hF.held hR hs hirr hi hc hp hpc hl (hs p i hp hi hip) (fun h => by unfold Desc at h; omega)

/-- one that was met from none holds others together if two were met from it -/
theorem Whole.cut_root (hR : Wa.Ok m R) (hs : Wa.Sym m R) (hirr : ∀ a, a < m → a ∉ R a) (hF : Whole m R F) {i : Nat} (hi : i < m) (hpi : Dp.par F (-1) i = -1) :
    Cut m R i ↔ ∃ c d, c < m ∧ d < m ∧ c ≠ d ∧ Dp.par F (-1) c = (i : Int) ∧ Dp.par F (-1) d = (i : Int) := by
  -- nothing lies above i
  have top : ∀ w, w < m → Desc F i w → w = i := by
    intro w hw hd
    by_cases e : w = i
    · exact e
    · obtain ⟨q, hq, h1, _⟩ := hF.near hR hi hw (fun e' => e e'.symm) hd
      omega
  constructor
  · intro hcut
    by_cases hex : ∃ c d, c < m ∧ d < m ∧ c ≠ d ∧ Dp.par F (-1) c = (i : Int) ∧ Dp.par F (-1) d = (i : Int)
    · exact hex
    · exfalso
      refine not_cut hR hs hirr hi ?_ hcut
      have kids : ∀ x, x ∈ R i → ∃ c, c < m ∧ Dp.par F (-1) c = (i : Int) ∧ Wa.rch m (rmv R i) x c = true := by
        intro x hxi
        have hx := hR i hi x hxi
        have hxne : x ≠ i := fun e => hirr i hi (by rw [e] at hxi; exact hxi)
        rcases hF.back hR hs hi hx (fun e => hxne e.symm) hxi with ⟨h1, h2⟩ | ⟨h1, h2⟩
        · obtain ⟨c, hc, hpc, hxc⟩ := hF.child hR hi _ x (Nat.le_refl _) hx hxne ⟨Nat.le_of_lt h1, Nat.le_of_lt h2⟩
          obtain ⟨_, hci, hm1, hm2⟩ := hF.kid hR hi hc hpc
          exact ⟨c, hc, hpc, hF.climb hR hs hc _ x (Nat.le_refl _) hx hxc (fun z hz _ h e => by
            rw [e] at h
            unfold Desc at h
            omega)⟩
        · exact absurd (top x hx ⟨Nat.le_of_lt h1, Nat.le_of_lt h2⟩) hxne
      intro x y hx hy
      have hxm := hR i hi x hx
      have hym := hR i hi y hy
      obtain ⟨c, hc, hpc, r1⟩ := kids x hx
      obtain ⟨d, hd, hpd, r2⟩ := kids y hy
      by_cases e : c = d
      · subst e
        exact Wa.rch_trans (rmv_ok hR i) hxm hc r1 (Wa.rch_sym (rmv_ok hR i) (rmv_sym hs i) hym hc r2)
      · exact absurd ⟨c, d, hc, hd, e, hpc, hpd⟩ hex
  · rintro ⟨c, d, hc, hd, hne, hpc, hpd⟩
    obtain ⟨_, hci, hm1, hm2⟩ := hF.kid hR hi hc hpc
    obtain ⟨hdi, hdd, hm3, hm4⟩ := hF.kid hR hi hd hpd
    have hl : ((met F 0 i : Nat) : Int) ≤ (lows m R F).getD c 0 := by
      obtain ⟨x, hx, hxc, h⟩ := hF.low_is hR _ c (Nat.le_add_left _ _) hc
      have hxi := hxc.trans hci
      rcases h with h | ⟨w, hwx, _, h⟩
      · rw [h]
        have := hxi.1
        omega
      · have hw := hR x hx w hwx
        have hxw : x ≠ w := fun e => hirr x hx (by rw [← e] at hwx; exact hwx)
        rw [h]
        rcases hF.back hR hs hx hw hxw hwx with ⟨h4, _⟩ | ⟨h4, h5⟩
        · have := hxi.1
          omega
        · rcases hF.desc_two hR hx hw hi ⟨Nat.le_of_lt h4, Nat.le_of_lt h5⟩ hxi with h6 | h6
          · have := h6.1; omega
          · rw [top w hw h6]; exact Int.le_refl _
    refine hF.held hR hs hirr hi hc hd hpc hl hdi (fun h => ?_)
    -- d does not lie below c
    obtain ⟨q, hq, h1, _, _, h2, _⟩ := hF.near hR hd hc (fun e => hne e.symm) h
    have : q = i := by omega
    subst this
    unfold Desc at h2
    omega
end

end Go.Proofs.Ytjcdnkbandagoaa.Dp
