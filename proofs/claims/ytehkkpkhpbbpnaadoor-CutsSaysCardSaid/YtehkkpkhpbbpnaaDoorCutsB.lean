/-
  Plain facts on points and lines that hold parts together, as lists: what a deep search counts at each point and finds at each line are just those points and lines. No statement of the program is proved here; there is no condition.
-/
import Derived.Test.YtehkkpkhpbbpnaaDoorCutsW
import Derived.Test.YtehkkpkhpbbpnaaDoorDeepK
set_option linter.unusedSimpArgs false
set_option linter.unusedVariables false
namespace Go.Proofs.YtehkkpkhpbbpnaaDoor.Dp

section
variable {m : Nat} {R : Nat → List Nat} {F : Fo}

/-! ### points -/
/-- does it hold others together? by trying all -/
def cutB (m : Nat) (R : Nat → List Nat) (v : Nat) : Bool := (List.range m).any fun a => (List.range m).any fun b => !decide (a = v) && (!decide (b = v) && (Wa.rch m R a b && !Wa.rch m (rmv R v) a b))
theorem cutB_iff {v : Nat} : cutB m R v = true ↔ Cut m R v := by
  unfold cutB Cut
  simp only [List.any_eq_true, List.mem_range, Bool.and_eq_true, Bool.not_eq_true', decide_eq_false_iff_not]
  constructor
  · rintro ⟨a, ha, b, hb, h1, h2, h3, h4⟩; exact ⟨a, b, ha, hb, h1, h2, h3, h4⟩
  · rintro ⟨a, b, ha, hb, h1, h2, h3, h4⟩; exact ⟨a, ha, b, hb, h1, h2, h3, h4⟩
def cpts (m : Nat) (R : Nat → List Nat) : List Nat := (List.range m).filter (cutB m R)
theorem mem_cpts {v : Nat} : v ∈ cpts m R ↔ v < m ∧ Cut m R v := by
  unfold cpts
  rw [List.mem_filter, List.mem_range, cutB_iff]

/-- a child that comes back no higher than its parent -/
def shuts (m : Nat) (R : Nat → List Nat) (F : Fo) (v c : Nat) : Bool := decide (Dp.par F (-1) c = (v : Int)) && decide (((met F 0 v : Nat) : Int) ≤ (lows m R F).getD c 0)
/-- what is counted at v once the points below j were looked at -/
def pcs (m : Nat) (R : Nat → List Nat) (F : Fo) (j v : Nat) : Nat := (if v < j ∧ Dp.par F (-1) v ≠ -1 then 1 else 0) + (List.range j).countP (shuts m R F v)
theorem pcs_zero (v : Nat) : pcs m R F 0 v = 0 := by simp [pcs]
theorem pcs_succ (j v : Nat) : pcs m R F (j + 1) v = pcs m R F j v + (if v = j ∧ Dp.par F (-1) j ≠ -1 then 1 else 0) + (if shuts m R F v j = true then 1 else 0) := by
  unfold pcs
  rw [List.range_succ, List.countP_append, List.countP_singleton]
  by_cases e : v = j
  · subst e
    simp
    split <;> split <;> omega
  · have : (v < j + 1 ∧ Dp.par F (-1) v ≠ -1) ↔ (v < j ∧ Dp.par F (-1) v ≠ -1) := by constructor <;> rintro ⟨h1, h2⟩ <;> exact ⟨by omega, h2⟩
    simp only [this, e, false_and, if_false]
    omega
theorem pcs_le (j v : Nat) : pcs m R F j v ≤ j + 1 := by
  unfold pcs
  have := List.countP_le_length (p := shuts m R F v) (l := List.range j)
  simp at this
  split <;> omega

theorem two_of {α : Type} {p : α → Bool} : ∀ {l : List α}, l.Nodup → (2 ≤ l.countP p ↔ ∃ c d, c ∈ l ∧ d ∈ l ∧ c ≠ d ∧ p c = true ∧ p d = true)
  | [], _ => by simp
  | a :: l, h => by
    obtain ⟨h1, h2⟩ := List.nodup_cons.1 h
    have ih := two_of (p := p) h2
    rw [List.countP_cons]
    by_cases hp : p a = true
    · rw [if_pos hp]
      constructor
      · intro hc
        obtain ⟨d, hd, hpd⟩ := List.countP_pos_iff.1 (show 0 < l.countP p by omega)
        exact ⟨a, d, List.mem_cons_self, List.mem_cons_of_mem _ hd, fun e => h1 (e ▸ hd), hp, hpd⟩
      · rintro ⟨c, d, hc, hd, hne, hpc, hpd⟩
        have : ∃ x, x ∈ l ∧ p x = true := by
          rcases List.mem_cons.1 hc with rfl | hc
          · rcases List.mem_cons.1 hd with rfl | hd
            · exact absurd rfl hne
            · exact ⟨d, hd, hpd⟩
          · exact ⟨c, hc, hpc⟩
        have := List.countP_pos_iff.2 this
        omega
    · rw [if_neg hp, Nat.add_zero, ih]
      constructor
      · rintro ⟨c, d, hc, hd, r⟩; exact ⟨c, d, List.mem_cons_of_mem _ hc, List.mem_cons_of_mem _ hd, r⟩
      · rintro ⟨c, d, hc, hd, hne, hpc, hpd⟩
        refine ⟨c, d, ?_, ?_, hne, hpc, hpd⟩
        · rcases List.mem_cons.1 hc with rfl | hc
          · exact absurd hpc hp
          · exact hc
        · rcases List.mem_cons.1 hd with rfl | hd
          · exact absurd hpd hp
          · exact hd

/-- nothing that is met from a root comes back above it -/
theorem Whole.root_low (hR : Wa.Ok m R) (hs : Wa.Sym m R) (hirr : ∀ a, a < m → a ∉ R a) (hF : Whole m R F) {i c : Nat} (hi : i < m) (hc : c < m) (hpi : Dp.par F (-1) i = -1) (hpc : Dp.par F (-1) c = (i : Int)) : ((met F 0 i : Nat) : Int) ≤ (lows m R F).getD c 0 := by
  have top : ∀ w, w < m → Desc F i w → w = i := by
    intro w hw hd
    by_cases e : w = i
    · exact e
    · obtain ⟨q, hq, h1, _⟩ := hF.near hR hi hw (fun e' => e e'.symm) hd
      omega
  have hk := hF.kid hR hi hc hpc
  obtain ⟨x, hx, hd, h⟩ := hF.low_is hR (2 * m) c (by omega) hc
  have hxi : Desc F x i := hd.trans hk.2.1
  rcases h with h | ⟨w, hw, _, h⟩
  · rw [h]; have := hxi.1; omega
  · have hwm := hR x hx w hw
    have hne : x ≠ w := fun e => hirr x hx (e ▸ hw)
    rw [h]
    rcases hF.back hR hs hx hwm hne hw with ⟨h1, h2⟩ | ⟨h1, h2⟩
    · have := hxi.1; omega
    · have hxw : Desc F x w := ⟨by omega, by omega⟩
      rcases hF.desc_two hR hx hwm hi hxw hxi with h3 | h3
      · have := h3.1; omega
      · have := top w hwm h3
        rw [this]; omega

/-- what is counted says which points hold others together -/
theorem Whole.pcs (hR : Wa.Ok m R) (hs : Wa.Sym m R) (hirr : ∀ a, a < m → a ∉ R a) (hF : Whole m R F) {v : Nat} (hv : v < m) : 1 < Dp.pcs m R F m v ↔ Cut m R v := by
  unfold Dp.pcs
  by_cases hp : Dp.par F (-1) v = -1
  · rw [if_neg (by rintro ⟨_, h⟩; exact h hp), hF.cut_root hR hs hirr hv hp, Nat.zero_add]
    rw [show (1 < (List.range m).countP (shuts m R F v)) ↔ 2 ≤ (List.range m).countP (shuts m R F v) from Iff.rfl, two_of List.nodup_range]
    unfold shuts
    simp only [List.mem_range, Bool.and_eq_true, decide_eq_true_eq]
    constructor
    · rintro ⟨c, d, h1, h2, h3, h4, h5⟩; exact ⟨c, d, h1, h2, h3, h4.1, h5.1⟩
    · rintro ⟨c, d, h1, h2, h3, h4, h5⟩
      exact ⟨c, d, h1, h2, h3, ⟨h4, hF.root_low hR hs hirr hv h1 hp h4⟩, ⟨h5, hF.root_low hR hs hirr hv h2 hp h5⟩⟩
  · rw [if_pos ⟨hv, hp⟩, hF.cut_inner hR hs hirr hv hp]
    rw [show (1 < 1 + (List.range m).countP (shuts m R F v)) ↔ 0 < (List.range m).countP (shuts m R F v) by omega, List.countP_pos_iff]
    unfold shuts
    simp only [List.mem_range, Bool.and_eq_true, decide_eq_true_eq]

theorem Whole.cpts (hR : Wa.Ok m R) (hs : Wa.Sym m R) (hirr : ∀ a, a < m → a ∉ R a) (hF : Whole m R F) : (List.range m).filter (fun v => decide (1 < Dp.pcs m R F m v)) = Dp.cpts m R := by
  unfold Dp.cpts
  refine List.filter_congr (fun v hv => ?_)
  rw [Bool.eq_iff_iff, decide_eq_true_eq, cutB_iff]
  exact hF.pcs hR hs hirr (List.mem_range.1 hv)
end

theorem nrow_irr {m : Nat} {ls : List Gr.Ln} (h : Gr.code (m : Int) ls = 0) : ∀ a, a < m → a ∉ Wa.nrow m ls a := fun a _ hm => Gr.adj_ne h (Wa.mem_nrow.1 hm).2 rfl

/-! ### lines -/
/-- joins it the two? -/
def jn (a b : Int) (q : Gr.Ln) : Bool := decide (q = (a, b)) || decide (q = (b, a))
theorem jn_swap (a b : Int) : jn a b = jn b a := by funext q; simp [jn, Bool.or_comm]
/-- is there one line between the two, and no other way? -/
def brB (m : Nat) (ls : List Gr.Ln) (i j : Nat) : Bool := decide (ls.countP (jn (i : Int) (j : Int)) = 1) && !Wa.rch m (rml (Wa.nrow m ls) i j) i j
theorem jn_adj {m : Nat} {ls : List Gr.Ln} {i j : Nat} (hj : j < m) : 0 < ls.countP (jn (i : Int) (j : Int)) ↔ j ∈ Wa.nrow m ls i := by
  rw [List.countP_pos_iff, Wa.mem_nrow, Gr.adj_iff]
  unfold jn
  simp only [Bool.or_eq_true, decide_eq_true_eq]
  constructor
  · rintro ⟨p, hp, rfl | rfl⟩
    · exact ⟨hj, .inl hp⟩
    · exact ⟨hj, .inr hp⟩
  · rintro ⟨_, h | h⟩
    · exact ⟨_, h, .inl rfl⟩
    · exact ⟨_, h, .inr rfl⟩
theorem brB_iff {m : Nat} {ls : List Gr.Ln} {i j : Nat} (hj : j < m) : brB m ls i j = true ↔ ls.countP (jn (i : Int) (j : Int)) = 1 ∧ Bridge m (Wa.nrow m ls) i j := by
  unfold brB Bridge
  simp only [Bool.and_eq_true, decide_eq_true_eq, Bool.not_eq_true']
  constructor
  · rintro ⟨h1, h2⟩; exact ⟨h1, (jn_adj hj).1 (by omega), h2⟩
  · rintro ⟨h1, _, h2⟩; exact ⟨h1, h2⟩
/-- all of them, in order -/
def brl (m : Nat) (ls : List Gr.Ln) : List Gr.Ln := (Gr.full m fun i j => decide (i < j) && brB m ls i j).map fun p => ((p.1 : Int), (p.2 : Int))
theorem mem_brl {m : Nat} {ls : List Gr.Ln} {i j : Nat} : ((i : Int), (j : Int)) ∈ brl m ls ↔ i < j ∧ j < m ∧ brB m ls i j = true := by
  unfold brl
  rw [List.mem_map]
  constructor
  · rintro ⟨⟨a, b⟩, hp, e⟩
    have := Gr.mem_full.1 hp
    simp only [Prod.mk.injEq] at e
    obtain ⟨rfl, rfl⟩ : a = i ∧ b = j := ⟨by omega, by omega⟩
    simp at this
    exact ⟨this.2.2.1, this.2.1, this.2.2.2⟩
  · rintro ⟨h1, h2, h3⟩
    exact ⟨(i, j), Gr.mem_full.2 ⟨by show i < m; omega, h2, by simp [h1, h3]⟩, rfl⟩
theorem of_brl {m : Nat} {ls : List Gr.Ln} {p : Gr.Ln} (h : p ∈ brl m ls) : ∃ i j : Nat, p = ((i : Int), (j : Int)) ∧ i < j ∧ j < m ∧ brB m ls i j = true := by
  have h' := h
  unfold brl at h
  rw [List.mem_map] at h
  obtain ⟨⟨a, b⟩, hp, e⟩ := h
  subst e
  exact ⟨a, b, rfl, mem_brl.1 h'⟩
/-- ahead of another line -/
def lnLt (p q : Gr.Ln) : Prop := p.1 < q.1 ∨ (p.1 = q.1 ∧ p.2 < q.2)
theorem full_pw (r : Nat → Nat → Bool) (m : Nat) : ∀ n, ((List.range n).flatMap fun a => ((List.range m).filter (r a)).map fun b => (a, b)).Pairwise (fun p q : Nat × Nat => p.1 < q.1 ∨ (p.1 = q.1 ∧ p.2 < q.2))
  | 0 => by simp
  | n + 1 => by
    rw [List.range_succ, List.flatMap_append]
    refine List.pairwise_append.2 ⟨full_pw r m n, ?_, ?_⟩
    · simp only [List.flatMap_cons, List.flatMap_nil, List.append_nil]
      rw [List.pairwise_map]
      refine (List.Pairwise.filter _ List.pairwise_lt_range).imp ?_
      intro a b h
      exact .inr ⟨rfl, h⟩
    · intro p hp q hq
      simp only [List.mem_flatMap, List.mem_map, List.mem_filter, List.mem_range, List.mem_singleton] at hp hq
      obtain ⟨a, ha, b, _, rfl⟩ := hp
      obtain ⟨a', rfl, b', _, rfl⟩ := hq
      exact .inl ha
theorem brl_pw (m : Nat) (ls : List Gr.Ln) : (brl m ls).Pairwise lnLt := by
  unfold brl Gr.full
  rw [List.pairwise_map]
  refine (full_pw _ m m).imp ?_
  intro p q h
  unfold lnLt
  show (p.1 : Int) < (q.1 : Int) ∨ ((p.1 : Int) = (q.1 : Int) ∧ (p.2 : Int) < (q.2 : Int))
  omega
theorem lnLt_irr (p : Gr.Ln) : ¬ lnLt p p := by unfold lnLt; omega
theorem lnLt_not {p q : Gr.Ln} (h : lnLt p q) : ¬ lnLt q p := by unfold lnLt at *; omega
theorem lnLt_tri {p q : Gr.Ln} (h : ¬ lnLt p q) (h' : ¬ lnLt q p) : p = q := by
  unfold lnLt at *
  exact Prod.ext (by omega) (by omega)
theorem brl_len (m : Nat) (ls : List Gr.Ln) : (brl m ls).length ≤ m * m := by simpa [brl] using Gr.full_len m _

/-- the line that is found at a point -/
def brAt (m : Nat) (ls : List Gr.Ln) (F : Fo) (c : Nat) : List Gr.Ln :=
  if Dp.par F (-1) c ≠ -1 ∧ ((met F 0 (Dp.par F (-1) c).toNat : Nat) : Int) < (lows m (Wa.nrow m ls) F).getD c 0 ∧ ls.countP (jn (Dp.par F (-1) c) (c : Int)) = 1 then [(min (Dp.par F (-1) c) (c : Int), max (Dp.par F (-1) c) (c : Int))] else []
def brs (m : Nat) (ls : List Gr.Ln) (F : Fo) (j : Nat) : List Gr.Ln := (List.range j).flatMap (brAt m ls F)
theorem brs_zero (m : Nat) (ls : List Gr.Ln) (F : Fo) : brs m ls F 0 = [] := rfl
theorem brs_succ (m : Nat) (ls : List Gr.Ln) (F : Fo) (j : Nat) : brs m ls F (j + 1) = brs m ls F j ++ brAt m ls F j := by
  simp [brs, List.range_succ, List.flatMap_append]
theorem brAt_len (m : Nat) (ls : List Gr.Ln) (F : Fo) (j : Nat) : (brAt m ls F j).length ≤ 1 := by unfold brAt; split <;> simp
theorem brs_len (m : Nat) (ls : List Gr.Ln) (F : Fo) : ∀ j, (brs m ls F j).length ≤ j
  | 0 => by simp [brs]
  | j + 1 => by
    rw [brs_succ, List.length_append]
    have := brs_len m ls F j
    have := brAt_len m ls F j
    omega
theorem mem_brAt {m : Nat} {ls : List Gr.Ln} {F : Fo} (hF : Whole m (Wa.nrow m ls) F) {c : Nat} (hc : c < m) {p : Gr.Ln} : p ∈ brAt m ls F c ↔ ∃ q : Nat, q < m ∧ Dp.par F (-1) c = (q : Int) ∧ met F 0 q < met F 0 c ∧ c ∈ Wa.nrow m ls q ∧ ((met F 0 q : Nat) : Int) < (lows m (Wa.nrow m ls) F).getD c 0 ∧ ls.countP (jn (q : Int) (c : Int)) = 1 ∧ p = (min (q : Int) (c : Int), max (q : Int) (c : Int)) := by
  unfold brAt
  rcases hF.par (Wa.nrow_ok m ls) hc with h | ⟨q, hq, h1, h2, h3, h4⟩
  · rw [if_neg (by rintro ⟨h', _⟩; exact h' h)]
    constructor
    · intro h'; cases h'
    · rintro ⟨q, _, h', _⟩; omega
  · rw [h1]
    constructor
    · split
      · rename_i hh
        intro hp
        exact ⟨q, hq, rfl, h3, h2, by simpa using hh.2.1, hh.2.2, by simpa using hp⟩
      · intro hp; cases hp
    · rintro ⟨q', _, e, _, _, h5, h6, h7⟩
      obtain rfl : q = q' := by omega
      rw [if_pos ⟨by omega, by simpa using h5, h6⟩]
      simp [h7]
theorem mem_brs {m : Nat} {ls : List Gr.Ln} {F : Fo} {j : Nat} {p : Gr.Ln} : p ∈ brs m ls F j ↔ ∃ c, c < j ∧ p ∈ brAt m ls F c := by simp [brs]
theorem brs_nodup {m : Nat} {ls : List Gr.Ln} {F : Fo} (hF : Whole m (Wa.nrow m ls) F) : ∀ j, j ≤ m → (brs m ls F j).Nodup
  | 0, _ => by simp [brs]
  | j + 1, hj => by
    rw [brs_succ]
    refine List.nodup_append.2 ⟨brs_nodup hF j (by omega), ?_, ?_⟩
    · unfold brAt; split <;> simp
    · intro p hp q hq e
      subst e
      obtain ⟨c, hc, hp⟩ := mem_brs.1 hp
      obtain ⟨a, ha, h1, h2, _, _, _, h3⟩ := (mem_brAt hF (by omega)).1 hp
      obtain ⟨b, hb, h4, h5, _, _, _, h6⟩ := (mem_brAt hF (by omega)).1 hq
      rw [h3] at h6
      simp only [Prod.mk.injEq] at h6
      have : (a = b ∧ c = j) ∨ (a = j ∧ c = b) := by omega
      rcases this with ⟨_, e⟩ | ⟨e1, e2⟩
      · omega
      · subst e1 e2; omega
/-- the lines that are found are the lines that hold -/
theorem Whole.mem_brs {m : Nat} {ls : List Gr.Ln} {F : Fo} (h0 : Gr.code (m : Int) ls = 0) (hF : Whole m (Wa.nrow m ls) F) {p : Gr.Ln} : p ∈ brs m ls F m ↔ p ∈ brl m ls := by
  have hR := Wa.nrow_ok m ls
  have hs := Wa.nrow_sym m ls
  have hirr := nrow_irr h0
  rw [Dp.mem_brs]
  constructor
  · rintro ⟨c, hc, hp⟩
    obtain ⟨q, hq, h1, h2, h3, h4, h5, rfl⟩ := (mem_brAt hF hc).1 hp
    have hb := (hF.bridge hR hs hirr hq hc h3 h2).2 ⟨h1, h4⟩
    have hne : q ≠ c := fun e => by subst e; omega
    by_cases hlt : q < c
    · rw [show min (q : Int) (c : Int) = (q : Int) by omega, show max (q : Int) (c : Int) = (c : Int) by omega]
      exact mem_brl.2 ⟨hlt, hc, (brB_iff hc).2 ⟨h5, hb⟩⟩
    · rw [show min (q : Int) (c : Int) = (c : Int) by omega, show max (q : Int) (c : Int) = (q : Int) by omega]
      exact mem_brl.2 ⟨by omega, hq, (brB_iff hq).2 ⟨by rw [jn_swap]; exact h5, hb.swap hR hs hq⟩⟩
  · intro hp
    obtain ⟨i, j, rfl, hij, hj, hb⟩ := of_brl hp
    obtain ⟨h5, hb⟩ := (brB_iff hj).1 hb
    have hi : i < m := by omega
    have hnm : met F 0 i ≠ met F 0 j := by
      have := hF.part hR hi hj (by omega)
      have h1 := hF.times hR hi
      have h2 := hF.times hR hj
      unfold Part at this
      omega
    by_cases hm : met F 0 i < met F 0 j
    · obtain ⟨h1, h2⟩ := (hF.bridge hR hs hirr hi hj hb.1 hm).1 hb
      refine ⟨j, hj, (mem_brAt hF hj).2 ⟨i, hi, h1, hm, hb.1, h2, h5, ?_⟩⟩
      rw [show min (i : Int) (j : Int) = (i : Int) by omega, show max (i : Int) (j : Int) = (j : Int) by omega]
    · have hb' := hb.swap hR hs hi
      obtain ⟨h1, h2⟩ := (hF.bridge hR hs hirr hj hi hb'.1 (by omega)).1 hb'
      refine ⟨i, hi, (mem_brAt hF hi).2 ⟨j, hj, h1, by omega, hb'.1, h2, by rw [jn_swap]; exact h5, ?_⟩⟩
      rw [show min (j : Int) (i : Int) = (i : Int) by omega, show max (j : Int) (i : Int) = (j : Int) by omega]

/-- what is sorted of the lines that are found is the list -/
theorem brl_of {m : Nat} {ls : List Gr.Ln} {F : Fo} (h0 : Gr.code (m : Int) ls = 0) (hF : Whole m (Wa.nrow m ls) F) {os : List Gr.Ln} (hp : os.Perm (brs m ls F m)) (hs : os.Pairwise (fun p q => ¬ lnLt q p)) : os = brl m ls := by
  have hnd : os.Nodup := hp.nodup_iff.2 (brs_nodup hF m (Nat.le_refl _))
  have hlt : os.Pairwise lnLt := by
    refine (hs.and hnd).imp ?_
    rintro p q ⟨h1, h2⟩
    by_cases h : lnLt p q
    · exact h
    · exact absurd (lnLt_tri h h1) h2
  have hnd2 : (brl m ls).Nodup := List.Pairwise.imp (R := lnLt) (S := fun p q => p ≠ q) (fun {p q} h (e : p = q) => lnLt_irr p (by rw [← e] at h; exact h)) (brl_pw m ls)
  have hperm : os.Perm (brl m ls) := (List.perm_ext_iff_of_nodup hnd hnd2).2 (fun p => by rw [hp.mem_iff, hF.mem_brs h0])
  exact hperm.eq_of_pairwise (le := lnLt) (fun a b _ _ h h' => absurd h' (lnLt_not h)) hlt (brl_pw m ls)

/-! ### one line left out -/
theorem jn_twin {ls : List Gr.Ln} {k : Nat} {a b : Int} (hk : k < ls.length) (hab : ls.getD k (0, 0) = (a, b)) : ls.countP (jn a b) = 1 ↔ ¬ Twin ls k := by
  have hsplit : ls = ls.take k ++ (a, b) :: ls.drop (k + 1) := by
    have e : ls[k] = (a, b) := by simpa [List.getD, hk] using hab
    rw [← e]; simp
  have hc : ls.countP (jn a b) = (ls.eraseIdx k).countP (jn a b) + 1 := by
    rw [List.eraseIdx_eq_take_drop_succ]
    conv => lhs; rw [hsplit]
    simp [List.countP_append, List.countP_cons, jn]
    omega
  rw [hc]
  constructor
  · intro h ht
    have h1 : (ls.eraseIdx k).countP (jn a b) = 0 := by omega
    obtain ⟨j, hj, hne, e⟩ := ht
    rw [hab] at e
    have hm : ls.getD j (0, 0) ∈ ls.eraseIdx k := mem_but.2 ⟨j, hj, hne, rfl⟩
    have := List.countP_eq_zero.1 h1 _ hm
    rcases e with e | e <;> rw [e] at this <;> simp [jn] at this
  · intro h
    have : (ls.eraseIdx k).countP (jn a b) = 0 := by
      rw [List.countP_eq_zero]
      intro p hp hq
      obtain ⟨j, hj, hne, e⟩ := mem_but.1 hp
      refine h ⟨j, hj, hne, ?_⟩
      rw [hab, e]
      simpa [jn] using hq
    omega
theorem rch_congr {m : Nat} {R R' : Nat → List Nat} (hR : Wa.Ok m R) (hR' : Wa.Ok m R') (h : ∀ u v, u < m → (v ∈ R u ↔ v ∈ R' u)) {a b : Nat} (ha : a < m) : Wa.rch m R a b = Wa.rch m R' a b := by
  rw [Bool.eq_iff_iff, Wa.rch_iff hR ha, Wa.rch_iff hR' ha]
  exact ⟨fun ⟨k, hk⟩ => ⟨k, Wa.wk_mono (fun u hu v hv => (h u v hu).1 hv) hk⟩, fun ⟨k, hk⟩ => ⟨k, Wa.wk_mono (fun u hu v hv => (h u v hu).2 hv) hk⟩⟩
/-- does the line k alone join the two? -/
theorem but_rch {m : Nat} {ls : List Gr.Ln} (h0 : Gr.code (m : Int) ls = 0) {i j k : Nat} (hi : i < m) (hj : j < m) (hk : k < ls.length) (hjn : jn (i : Int) (j : Int) (ls.getD k (0, 0)) = true) : (!Wa.rch m (Wa.nrow m (ls.eraseIdx k)) i j) = brB m ls i j := by
  have hR := Wa.nrow_ok m ls
  have hR2 := Wa.nrow_ok m (ls.eraseIdx k)
  have hadj : j ∈ Wa.nrow m ls i := (jn_adj hj).1 (List.countP_pos_iff.2 ⟨_, by simp [List.getD, hk], hjn⟩)
  unfold brB
  have hab : ls.getD k (0, 0) = ((i : Int), (j : Int)) ∨ ls.getD k (0, 0) = ((j : Int), (i : Int)) := by simpa [jn] using hjn
  have hc : ls.countP (jn (i : Int) (j : Int)) = 1 ↔ ¬ Twin ls k := by
    rcases hab with h | h
    · exact jn_twin hk h
    · rw [jn_swap]; exact jn_twin hk h
  by_cases ht : Twin ls k
  · rw [row_but_twin hk ht]
    have h1 : Wa.rch m (Wa.nrow m ls) i j = true := (Wa.rch_iff hR hi).2 ⟨1, Wa.wk_one hi hadj⟩
    have h2 : ¬ ls.countP (jn (i : Int) (j : Int)) = 1 := fun e => hc.1 e ht
    simp [h1, h2]
  · have h2 : ls.countP (jn (i : Int) (j : Int)) = 1 := hc.2 ht
    have h1 : Wa.rch m (Wa.nrow m (ls.eraseIdx k)) i j = Wa.rch m (rml (Wa.nrow m ls) i j) i j := by
      rcases hab with h | h
      · exact rch_congr hR2 (rml_ok hR i j) (fun u v _ => row_but_one hk h ht) hi
      · rw [rml_swap]
        exact rch_congr hR2 (rml_ok hR j i) (fun u v _ => row_but_one hk h ht) hi
    simp [h1, h2]

/-- the lines that hold, as the law finds them -/
def lawTo (m : Nat) (ls : List Gr.Ln) (i j : Nat) : List Gr.Ln := (Gr.upTo m (fun i j => decide (i < j) && brB m ls i j) i j).map fun p => ((p.1 : Int), (p.2 : Int))
def lawAt (m : Nat) (ls : List Gr.Ln) (i j k : Nat) : List Gr.Ln := lawTo m ls i j ++ if brB m ls i j = true then List.replicate ((ls.take k).countP (jn (i : Int) (j : Int))) ((i : Int), (j : Int)) else []
theorem lawAt_zero (m : Nat) (ls : List Gr.Ln) (i j : Nat) : lawAt m ls i j 0 = lawTo m ls i j := by simp [lawAt]
theorem lawAt_hit {m : Nat} {ls : List Gr.Ln} {i j k : Nat} (hk : k < ls.length) (h1 : jn (i : Int) (j : Int) (ls.getD k (0, 0)) = true) (h2 : brB m ls i j = true) : lawAt m ls i j (k + 1) = lawAt m ls i j k ++ [((i : Int), (j : Int))] := by
  have e : jn (i : Int) (j : Int) ls[k] = true := by simpa [List.getD, hk] using h1
  unfold lawAt
  rw [if_pos h2, if_pos h2, List.take_succ_eq_append_getElem hk, List.countP_append, List.countP_singleton, if_pos e, List.append_assoc, List.replicate_succ']
theorem lawAt_miss {m : Nat} {ls : List Gr.Ln} {i j k : Nat} (hk : k < ls.length) (h : jn (i : Int) (j : Int) (ls.getD k (0, 0)) = false ∨ brB m ls i j = false) : lawAt m ls i j (k + 1) = lawAt m ls i j k := by
  unfold lawAt
  rcases h with h | h
  · have e : jn (i : Int) (j : Int) ls[k] = false := by simpa [List.getD, hk] using h
    rw [List.take_succ_eq_append_getElem hk, List.countP_append, List.countP_singleton, e]
    simp
  · rw [if_neg (by rw [h]; simp), if_neg (by rw [h]; simp)]
theorem lawAt_end {m : Nat} {ls : List Gr.Ln} {i j : Nat} (hij : i < j) : lawAt m ls i j ls.length = lawTo m ls i (j + 1) := by
  unfold lawAt lawTo
  rw [List.take_length]
  by_cases h : brB m ls i j = true
  · rw [if_pos h, Gr.upTo_hit (by simp [hij, h])]
    unfold brB at h
    simp only [Bool.and_eq_true, decide_eq_true_eq] at h
    rw [h.1]
    simp
  · rw [if_neg h, Gr.upTo_miss (by simp only [Bool.not_eq_true] at h; simp [h])]
    simp
theorem lawTo_row (m : Nat) (ls : List Gr.Ln) (i : Nat) : lawTo m ls i m = lawTo m ls (i + 1) (i + 2) := by
  unfold lawTo
  rw [Gr.upTo_row]
  congr 1
  have : ∀ t, t ≤ i + 2 → Gr.upTo m (fun i j => decide (i < j) && brB m ls i j) (i + 1) 0 = Gr.upTo m (fun i j => decide (i < j) && brB m ls i j) (i + 1) t := by
    intro t
    induction t with
    | zero => intro _; rfl
    | succ t ih =>
      intro ht
      rw [ih (by omega)]
      exact (Gr.upTo_miss (by simp; intro h; omega)).symm
  exact this _ (Nat.le_refl _)
theorem lawTo_start (m : Nat) (ls : List Gr.Ln) : lawTo m ls 0 1 = [] := by
  unfold lawTo
  rw [Gr.upTo_miss (by simp)]
  simp [Gr.upTo]
theorem lawTo_done (m : Nat) (ls : List Gr.Ln) (h1 : 1 ≤ m) : lawTo m ls (m - 1) m = brl m ls := by
  unfold lawTo brl
  rw [Gr.upTo_row, show m - 1 + 1 = m by omega, Gr.upTo_done]
theorem lawAt_len {m : Nat} {ls : List Gr.Ln} {i j k : Nat} (hi : i < m) (hj : j < m) : (lawAt m ls i j k).length ≤ m * m + ls.length := by
  unfold lawAt lawTo
  rw [List.length_append, List.length_map]
  have h1 := Gr.upTo_small (m := m) (r := fun i j => decide (i < j) && brB m ls i j) hi hj
  have h2 : (ls.take k).countP (jn (i : Int) (j : Int)) ≤ ls.length := Nat.le_trans List.countP_le_length (by simp; omega)
  split <;> simp <;> omega

/-! ### how many parts -/
theorem but_parts {m : Nat} {ls : List Gr.Ln} (h0 : Gr.code (m : Int) ls = 0) {i j k : Nat} (hi : i < m) (hj : j < m) (hk : k < ls.length) (h : ls.getD k (0, 0) = ((i : Int), (j : Int))) : parts m (Wa.nrow m (ls.eraseIdx k)) = parts m (Wa.nrow m ls) + if brB m ls i j = true then 1 else 0 := by
  have hR := Wa.nrow_ok m ls
  have hs := Wa.nrow_sym m ls
  have hjn : jn (i : Int) (j : Int) (ls.getD k (0, 0)) = true := by rw [h]; simp [jn]
  have hadj : j ∈ Wa.nrow m ls i := (jn_adj hj).1 (List.countP_pos_iff.2 ⟨_, by simp [List.getD, hk], hjn⟩)
  have hc := jn_twin hk h
  by_cases ht : Twin ls k
  · rw [row_but_twin hk ht, if_neg]
    · rfl
    · unfold brB
      simp only [Bool.and_eq_true, decide_eq_true_eq]
      rintro ⟨h1, _⟩
      exact hc.1 h1 ht
  · rw [parts_congr (Wa.nrow_ok m (ls.eraseIdx k)) (Wa.nrow_sym m _) (rml_ok hR i j) (rml_sym hs i j) (fun u v _ => row_but_one hk h ht), parts_line hR hs hi hadj]
    congr 1
    unfold brB
    rw [hc.2 ht]
    cases Wa.rch m (rml (Wa.nrow m ls) i j) i j <;> simp
theorem brB_swap {m : Nat} {ls : List Gr.Ln} {i j : Nat} (hi : i < m) (hj : j < m) : brB m ls i j = brB m ls j i := by
  have key : ∀ i j : Nat, i < m → j < m → brB m ls i j = true → brB m ls j i = true := fun i j hi hj h => by
    have h' := (brB_iff hj).1 h
    exact (brB_iff hi).2 ⟨by rw [jn_swap]; exact h'.1, h'.2.swap (Wa.nrow_ok m ls) (Wa.nrow_sym m ls) hi⟩
  rw [Bool.eq_iff_iff]
  exact ⟨key i j hi hj, key j i hj hi⟩
/-- beside each other by the lines that hold -/
theorem adj_brl {m : Nat} {ls : List Gr.Ln} {i j : Nat} (hi : i < m) (hj : j < m) (hne : i ≠ j) : Gr.adj (brl m ls) (i : Int) (j : Int) = brB m ls i j := by
  rw [Bool.eq_iff_iff, Gr.adj_iff, mem_brl, mem_brl, brB_swap hj hi]
  constructor
  · rintro (⟨_, _, h⟩ | ⟨_, _, h⟩) <;> exact h
  · intro h
    rcases Nat.lt_or_ge i j with hlt | hge
    · exact .inl ⟨hlt, hj, h⟩
    · exact .inr ⟨by omega, hi, h⟩
/-- an end of a line that holds and that has another beside it holds others together -/
theorem brl_ends {m : Nat} {ls : List Gr.Ln} (h0 : Gr.code (m : Int) ls = 0) {i j c : Nat} (hi : i < m) (hj : j < m) (hb : brB m ls i j = true) (hc : c ∈ Wa.nrow m ls i) (hne : c ≠ j) : i ∈ cpts m (Wa.nrow m ls) :=
  mem_cpts.2 ⟨hi, ((brB_iff hj).1 hb).2.ends (Wa.nrow_ok m ls) (Wa.nrow_sym m ls) (nrow_irr h0) hi hc hne⟩
theorem cpts_two {m : Nat} {ls : List Gr.Ln} (h0 : Gr.code (m : Int) ls = 0) (hm : 2 ≤ m) : (cpts m (Wa.nrow m ls)).length ≤ m - 2 := by
  obtain ⟨a, b, ha, hb, hab, hca, hcb⟩ := two_free (Wa.nrow_ok m ls) (Wa.nrow_sym m ls) (nrow_irr h0) hm
  unfold cpts
  rw [← List.countP_eq_length_filter]
  have hl := List.length_eq_countP_add_countP (l := List.range m) (cutB m (Wa.nrow m ls))
  have h2 : 2 ≤ (List.range m).countP (fun v => decide (¬ cutB m (Wa.nrow m ls) v = true)) :=
    (two_of List.nodup_range).2 ⟨a, b, List.mem_range.2 ha, List.mem_range.2 hb, hab, by simpa using fun h => hca (cutB_iff.1 h), by simpa using fun h => hcb (cutB_iff.1 h)⟩
  simp only [List.length_range] at hl
  omega

end Go.Proofs.YtehkkpkhpbbpnaaDoor.Dp
