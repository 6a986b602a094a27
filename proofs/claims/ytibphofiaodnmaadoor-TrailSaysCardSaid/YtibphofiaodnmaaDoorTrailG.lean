/-
  Plain facts that join lines as they are handed over and ways that use every line once: where odd numbers of lines end, from where one starts, when there is a way, and the first one, found step by step. No statement of the program is proved here; there is no condition.
-/
import Derived.Test.YtibphofiaodnmaaDoorTrailN
import Derived.Test.YtibphofiaodnmaaDoorWalkQ
import Derived.Test.YtibphofiaodnmaaDoorWalkG
set_option linter.unusedSimpArgs false
set_option linter.unusedVariables false
theorem Go.Proofs.YtibphofiaodnmaaDoor.Tl.code_erase {n : Int} {ls : List Go.Proofs.YtibphofiaodnmaaDoor.Gr.Ln} (h : Go.Proofs.YtibphofiaodnmaaDoor.Gr.code n ls = 0) (k : Nat) : Go.Proofs.YtibphofiaodnmaaDoor.Gr.code n (ls.eraseIdx k) = 0 := by
  have := Go.Proofs.YtibphofiaodnmaaDoor.Gr.code_zero.1 h
  exact Go.Proofs.YtibphofiaodnmaaDoor.Gr.code_zero.2 ⟨this.1, this.2.1, Nat.le_trans (List.length_eraseIdx_le ls k) this.2.2.1, fun p hp => this.2.2.2 p (List.mem_of_mem_eraseIdx hp)⟩
namespace Go.Proofs.YtibphofiaodnmaaDoor.Tl
open Wr

/-- the lines with the lesser point first -/
def nm (ls : List Gr.Ln) : List (Nat × Nat) := ls.map fun p => sg p.1.toNat p.2.toNat
theorem nm_len (ls : List Gr.Ln) : (nm ls).length = ls.length := by simp [nm]
theorem nm_good {m : Nat} {ls : List Gr.Ln} (h : Gr.code (m : Int) ls = 0) : Good m (nm ls) := fun p hp => by
  obtain ⟨q, hq, rfl⟩ := List.mem_map.1 hp
  obtain ⟨h1, h2, h3, h4, h5⟩ := (Gr.code_zero.1 h).2.2.2 q hq
  unfold sg
  simp only
  omega
theorem nm_erase : ∀ (ls : List Gr.Ln) (k : Nat), nm (ls.eraseIdx k) = (nm ls).eraseIdx k
  | [], _ => by simp [nm]
  | p :: ls, 0 => by simp [nm]
  | p :: ls, k + 1 => by
    have := nm_erase ls k
    simp only [nm, List.eraseIdx_cons_succ, List.map_cons] at this ⊢
    rw [this]
theorem erase_perm {α : Type} : ∀ {l : List α} {k : Nat} (hk : k < l.length), l.Perm (l[k] :: l.eraseIdx k)
  | a :: l, 0, _ => List.Perm.refl _
  | a :: l, k + 1, hk => by
    have ih := erase_perm (l := l) (k := k) (by simpa using hk)
    exact (ih.cons a).trans (List.Perm.swap ..)
theorem nm_perm {ls : List Gr.Ln} {k : Nat} {x y : Nat} (hk : k < ls.length) (h : ls.getD k (0, 0) = ((x : Int), (y : Int))) : (nm ls).Perm (sg x y :: nm (ls.eraseIdx k)) := by
  have hk' : k < (nm ls).length := by rw [nm_len]; exact hk
  have e : (nm ls)[k] = sg x y := by
    have : ls[k] = ((x : Int), (y : Int)) := by simpa [List.getD, hk] using h
    simp [nm, this]
  have := erase_perm hk'
  rw [e, ← nm_erase] at this
  exact this
theorem nm_adj {m : Nat} {ls : List Gr.Ln} (h : Gr.code (m : Int) ls = 0) {u v : Nat} : Adj (nm ls) u v ↔ v ∈ Wa.nrow m ls u := by
  have hg := (Gr.code_zero.1 h).2.2.2
  rw [Wa.mem_nrow, Gr.adj_iff]
  constructor
  · intro ha
    obtain ⟨hm, _, _, hv⟩ := adj_sg (nm_good h) ha
    refine ⟨hv, ?_⟩
    obtain ⟨q, hq, e⟩ := List.mem_map.1 hm
    obtain ⟨h1, h2, h3, h4, h5⟩ := hg q hq
    unfold sg at e
    simp only [Prod.mk.injEq] at e
    by_cases e1 : q.1 = (u : Int)
    · have e2 : q.2 = (v : Int) := by omega
      exact .inl (by rw [← e1, ← e2]; exact hq)
    · have e2 : q.1 = (v : Int) := by omega
      have e3 : q.2 = (u : Int) := by omega
      exact .inr (by rw [← e2, ← e3]; exact hq)
  · rintro ⟨_, hm | hm⟩
    · have : sg u v ∈ nm ls := List.mem_map.2 ⟨_, hm, by simp⟩
      exact sg_adj this
    · have : sg v u ∈ nm ls := List.mem_map.2 ⟨_, hm, by simp⟩
      rw [sg_comm] at this
      exact sg_adj this
theorem nm_conn {m : Nat} {ls : List Gr.Ln} (h : Gr.code (m : Int) ls = 0) {u v : Nat} (hu : u < m) : Conn (nm ls) u v ↔ Wa.rch m (Wa.nrow m ls) u v = true := by
  have hR := Wa.nrow_ok m ls
  constructor
  · intro hc
    induction hc with
    | refl => exact Wa.rch_self hR hu
    | @step x y hc hxy ih =>
      have hx : x < m := Wa.rch_lt hR hu ih
      exact Wa.rch_trans hR hu hx ih ((Wa.rch_iff hR hx).2 ⟨1, Wa.wk_one hx ((nm_adj h).1 hxy)⟩)
  · intro h'
    obtain ⟨k, hk⟩ := (Wa.rch_iff hR hu).1 h'
    clear h'
    induction k generalizing v with
    | zero => rw [Wa.wk_zero] at hk; subst hk; exact Conn.refl _
    | succ k ih =>
      obtain ⟨c, hc, h1, h2⟩ := Wa.wk_succ.1 hk
      exact (ih h1).step ((nm_adj h).2 h2)
theorem line_of {m : Nat} {ls : List Gr.Ln} (h : Gr.code (m : Int) ls = 0) {i : Nat} (hi : i < ls.length) : ∃ x y : Nat, ls.getD i (0, 0) = ((x : Int), (y : Int)) ∧ x < m ∧ y < m ∧ x ≠ y := by
  have hmem : ls.getD i (0, 0) ∈ ls := by simp [List.getD, hi]
  obtain ⟨h1, h2, h3, h4, h5⟩ := (Gr.code_zero.1 h).2.2.2 _ hmem
  refine ⟨(ls.getD i (0, 0)).1.toNat, (ls.getD i (0, 0)).2.toNat, ?_, by omega, by omega, by omega⟩
  rw [Int.toNat_of_nonneg h1, Int.toNat_of_nonneg h3]

/-- do all lines hang together with v? as the reference asks it -/
def linedB (m : Nat) (ls : List Gr.Ln) (v : Nat) : Bool := ls.all fun p => decide (0 ≤ Wa.dist m (Wa.nrow m ls) v p.1.toNat)
theorem linedB_iff {m : Nat} {ls : List Gr.Ln} (h : Gr.code (m : Int) ls = 0) {v : Nat} (hv : v < m) : linedB m ls v = true ↔ Lined (nm ls) v := by
  unfold linedB Lined
  rw [List.all_eq_true]
  have key : ∀ p ∈ ls, (Conn (nm ls) v (sg p.1.toNat p.2.toNat).1 ↔ Conn (nm ls) v p.1.toNat) := fun p hp => by
    have hm : sg p.1.toNat p.2.toNat ∈ nm ls := List.mem_map.2 ⟨p, hp, rfl⟩
    have ha := sg_adj hm
    have : (sg p.1.toNat p.2.toNat).1 = p.1.toNat ∨ (sg p.1.toNat p.2.toNat).1 = p.2.toNat := by unfold sg; simp only; omega
    rcases this with e | e
    · rw [e]
    · rw [e]; exact ⟨fun h => h.step (Or.symm ha), fun h => h.step ha⟩
  constructor
  · intro hh q hq
    obtain ⟨p, hp, rfl⟩ := List.mem_map.1 hq
    exact (key p hp).2 ((nm_conn h hv).2 (hh p hp))
  · intro hh p hp
    exact (nm_conn h hv).1 ((key p hp).1 (hh _ (List.mem_map.2 ⟨p, hp, rfl⟩)))

/-! ### where an odd number of lines ends -/
def touch (i : Int) (p : Gr.Ln) : Bool := decide (p.1 = i) || decide (p.2 = i)
theorem nm_dg {m : Nat} {ls : List Gr.Ln} (h : ∀ p ∈ ls, Gr.Good (m : Int) p) (i : Nat) : dg (nm ls) i = ls.countP (touch (i : Int)) := by
  unfold dg nm
  rw [List.countP_map]
  refine List.countP_congr (fun p hp => ?_)
  obtain ⟨h1, h2, h3, h4, h5⟩ := h p hp
  show inc i (sg p.1.toNat p.2.toNat) = true ↔ touch (i : Int) p = true
  rw [inc_sg]
  unfold touch
  simp only [Bool.or_eq_true, decide_eq_true_eq]
  constructor <;> rintro (e | e) <;> omega
def endsTo (ls : List Gr.Ln) (j : Nat) : List Nat := (List.range j).filter fun i => decide (ls.countP (touch (i : Int)) % 2 = 1)
def ends (m : Nat) (ls : List Gr.Ln) : List Nat := endsTo ls m
theorem endsTo_yes {ls : List Gr.Ln} {j : Nat} (h : ls.countP (touch (j : Int)) % 2 = 1) : endsTo ls (j + 1) = endsTo ls j ++ [j] := by
  unfold endsTo; rw [List.range_succ, List.filter_append]; simp [h]
theorem endsTo_no {ls : List Gr.Ln} {j : Nat} (h : ¬ ls.countP (touch (j : Int)) % 2 = 1) : endsTo ls (j + 1) = endsTo ls j := by
  unfold endsTo; rw [List.range_succ, List.filter_append]; simp [h]
theorem endsTo_len (ls : List Gr.Ln) (j : Nat) : (endsTo ls j).length ≤ j := by
  have := List.length_filter_le (fun i : Nat => decide (ls.countP (touch (i : Int)) % 2 = 1)) (List.range j)
  simpa [endsTo] using this
theorem mem_ends {m : Nat} {ls : List Gr.Ln} (h : Gr.code (m : Int) ls = 0) {i : Nat} : i ∈ ends m ls ↔ Odd (nm ls) i := by
  unfold ends endsTo Odd
  rw [List.mem_filter, List.mem_range, decide_eq_true_eq, nm_dg (Gr.code_zero.1 h).2.2.2]
  constructor
  · exact fun h => h.2
  · intro ho
    refine ⟨?_, ho⟩
    have : 0 < ls.countP (touch (i : Int)) := by omega
    obtain ⟨p, hp, ht⟩ := List.countP_pos_iff.1 this
    obtain ⟨h1, h2, h3, h4, h5⟩ := (Gr.code_zero.1 h).2.2.2 p hp
    unfold touch at ht
    simp only [Bool.or_eq_true, decide_eq_true_eq] at ht
    omega
theorem ends_nodup (m : Nat) (ls : List Gr.Ln) : (ends m ls).Nodup := List.Pairwise.filter _ List.nodup_range
theorem ends_even {m : Nat} {ls : List Gr.Ln} (h : Gr.code (m : Int) ls = 0) : (ends m ls).length % 2 = 0 := by
  have := hands_odd (fun _ => true) (nm_good h) (fun _ _ => rfl)
  simp only [Bool.true_and] at this
  unfold ends endsTo
  rw [← List.countP_eq_length_filter, ← this]
  congr 1
  refine List.countP_congr (fun i _ => ?_)
  rw [nm_dg (Gr.code_zero.1 h).2.2.2]
theorem par_none {m : Nat} {ls : List Gr.Ln} (h : Gr.code (m : Int) ls = 0) (he : ends m ls = []) (v : Nat) : Par (nm ls) v v := fun x => by
  rw [← mem_ends h, he]
  simp
theorem par_two {m : Nat} {ls : List Gr.Ln} (h : Gr.code (m : Int) ls = 0) {a b : Nat} (he : ends m ls = [a, b]) : Par (nm ls) a b := fun x => by
  rw [← mem_ends h, he]
  have hn := ends_nodup m ls
  rw [he] at hn
  have hab : a ≠ b := by simpa using hn
  simp [hab]
/-- none or two -/
theorem ends_two {m : Nat} {ls : List Gr.Ln} (h : Gr.code (m : Int) ls = 0) (h2 : (ends m ls).length ≤ 2) : ends m ls = [] ∨ ∃ a b, ends m ls = [a, b] := by
  have := ends_even h
  match hm : ends m ls with
  | [] => exact .inl rfl
  | [a] => rw [hm] at this; simp at this
  | [a, b] => exact .inr ⟨a, b, rfl⟩
  | a :: b :: c :: r => rw [hm] at h2; simp at h2

/-! ### from where one starts -/
/-- the least point with a line, or k -/
def leastTo (ls : List Gr.Ln) (k : Int) : Int := ls.foldl (fun a p => min (min a p.1) p.2) k
/-- the start -/
def start (m : Nat) (ls : List Gr.Ln) : Nat := match ends m ls with
  | a :: _ => a
  | [] => (leastTo ls (m : Int)).toNat
theorem leastTo_le : ∀ (ls : List Gr.Ln) (k : Int), leastTo ls k ≤ k ∧ (∀ p ∈ ls, leastTo ls k ≤ p.1 ∧ leastTo ls k ≤ p.2) ∧ (leastTo ls k = k ∨ ∃ p ∈ ls, leastTo ls k = p.1 ∨ leastTo ls k = p.2)
  | [], k => ⟨Int.le_refl _, fun p hp => (by cases hp), .inl rfl⟩
  | p :: ls, k => by
    obtain ⟨h1, h2, h3⟩ := leastTo_le ls (min (min k p.1) p.2)
    have e : leastTo (p :: ls) k = leastTo ls (min (min k p.1) p.2) := rfl
    rw [e]
    refine ⟨by clear h3; omega, fun q hq => ?_, ?_⟩
    · rcases List.mem_cons.1 hq with rfl | hq
      · clear h3; omega
      · exact h2 q hq
    · rcases h3 with h3 | ⟨q, hq, h3⟩
      · have : min (min k p.1) p.2 = k ∨ min (min k p.1) p.2 = p.1 ∨ min (min k p.1) p.2 = p.2 := by omega
        rcases this with h | h | h
        · exact .inl (h3.trans h)
        · exact .inr ⟨p, List.mem_cons_self, .inl (h3.trans h)⟩
        · exact .inr ⟨p, List.mem_cons_self, .inr (h3.trans h)⟩
      · exact .inr ⟨q, List.mem_cons_of_mem _ hq, h3⟩
/-- a line ends at the start -/
theorem start_touch {m : Nat} {ls : List Gr.Ln} (h : Gr.code (m : Int) ls = 0) (hne : ls ≠ []) : start m ls < m ∧ ∃ x, Adj (nm ls) (start m ls) x := by
  have touchy : ∀ v : Nat, 0 < dg (nm ls) v → v < m ∧ ∃ x, Adj (nm ls) v x := fun v hv => by
    obtain ⟨p, hp, hi⟩ := List.countP_pos_iff.1 hv
    have hg := nm_good h p hp
    unfold inc at hi
    simp only [Bool.or_eq_true, decide_eq_true_eq] at hi
    rcases hi with e | e
    · exact ⟨by omega, p.2, .inl (by rw [← e]; exact hp)⟩
    · exact ⟨by omega, p.1, .inr (by rw [← e]; exact hp)⟩
  unfold start
  match he : ends m ls with
  | a :: r =>
    simp only
    have : Odd (nm ls) a := (mem_ends h).1 (by rw [he]; simp)
    exact touchy a (by unfold Odd at this; omega)
  | [] =>
    simp only
    obtain ⟨h1, h2, h3⟩ := leastTo_le ls (m : Int)
    obtain ⟨p, hp⟩ := List.exists_mem_of_ne_nil ls hne
    obtain ⟨g1, g2, g3, g4, g5⟩ := (Gr.code_zero.1 h).2.2.2 p hp
    have hlt := (h2 p hp).1
    rcases h3 with h3 | ⟨q, hq, h3⟩
    · omega
    · obtain ⟨f1, f2, f3, f4, f5⟩ := (Gr.code_zero.1 h).2.2.2 q hq
      refine touchy _ ?_
      rw [nm_dg (Gr.code_zero.1 h).2.2.2]
      refine List.countP_pos_iff.2 ⟨q, hq, ?_⟩
      unfold touch
      simp only [Bool.or_eq_true, decide_eq_true_eq]
      rcases h3 with h3 | h3
      · exact .inl (by omega)
      · exact .inr (by omega)
/-- the end -/
def stop (m : Nat) (ls : List Gr.Ln) : Nat := match ends m ls with
  | [_, b] => b
  | _ => start m ls
theorem par_start {m : Nat} {ls : List Gr.Ln} (h : Gr.code (m : Int) ls = 0) (h2 : (ends m ls).length ≤ 2) : Par (nm ls) (start m ls) (stop m ls) := by
  rcases ends_two h h2 with he | ⟨a, b, he⟩
  · have e : stop m ls = start m ls := by unfold stop; rw [he]
    rw [e]
    exact par_none h he _
  · have e1 : start m ls = a := by unfold start; rw [he]
    have e2 : stop m ls = b := by unfold stop; rw [he]
    rw [e1, e2]
    exact par_two h he

/-- is there a way? -/
def canB (m : Nat) (ls : List Gr.Ln) : Bool := !ls.isEmpty && (decide ((ends m ls).length ≤ 2) && linedB m ls (start m ls))
theorem can_way {m : Nat} {ls : List Gr.Ln} (h : Gr.code (m : Int) ls = 0) (hne : ls ≠ []) : canB m ls = true ↔ ∃ w, Way (start m ls) (nm ls) w := by
  have hs := start_touch h hne
  unfold canB
  have hem : ls.isEmpty = false := by cases ls with
    | nil => exact absurd rfl hne
    | cons a l => rfl
  simp only [hem, Bool.not_false, Bool.true_and, Bool.and_eq_true, decide_eq_true_eq]
  rw [linedB_iff h hs.1]
  constructor
  · rintro ⟨h2, hL⟩
    exact exist _ rfl (nm_good h) hL (par_start h h2)
  · rintro ⟨w, hw⟩
    obtain ⟨hL, hP, _⟩ := hw.says (nm_good h)
    refine ⟨?_, hL⟩
    have hsub : ∀ x ∈ ends m ls, x ∈ [start m ls, w.getLastD 0] := fun x hx => by
      have := ((hP x).1 ((mem_ends h).1 hx)).1
      simpa using this
    exact (List.Nodup.length_le_of_subset (ends_nodup m ls) hsub)

/-! ### step by step -/
/-- where a line leads from v -/
def oth (p : Gr.Ln) (v : Nat) : Option Nat := if p.2 = (v : Int) then some p.1.toNat else if p.1 = (v : Int) then some p.2.toNat else none
/-- where one may go on to over the line i -/
def okAt (m : Nat) (ls : List Gr.Ln) (v i : Nat) : Option Nat := match oth (ls.getD i (0, 0)) v with
  | some j => if linedB m (ls.eraseIdx i) j = true then some j else none
  | none => none
/-- the best of the first k lines: its number and where it leads -/
def best (m : Nat) (ls : List Gr.Ln) (v : Nat) : Nat → Option Nat × Nat
  | 0 => (none, m)
  | k + 1 => match okAt m ls v k with
    | some j => if j < (best m ls v k).2 then (some k, j) else best m ls v k
    | none => best m ls v k
theorem best_spec (m : Nat) (ls : List Gr.Ln) (v : Nat) : ∀ k, (best m ls v k = (none, m) ∧ ∀ i j, i < k → okAt m ls v i = some j → m ≤ j) ∨ ∃ i j, i < k ∧ best m ls v k = (some i, j) ∧ okAt m ls v i = some j ∧ j < m ∧ ∀ i' j', i' < k → okAt m ls v i' = some j' → j ≤ j'
  | 0 => .inl ⟨rfl, fun i j h => (by omega)⟩
  | k + 1 => by
    have ih := best_spec m ls v k
    unfold best
    cases hk : okAt m ls v k with
    | none =>
      simp only
      rcases ih with ⟨h1, h2⟩ | ⟨i, j, h1, h2, h3, h4, h5⟩
      · refine .inl ⟨h1, fun i j hi ho => ?_⟩
        rcases Nat.lt_or_ge i k with h | h
        · exact h2 i j h ho
        · have : i = k := by omega
          subst this; rw [hk] at ho; cases ho
      · refine .inr ⟨i, j, by omega, h2, h3, h4, fun i' j' hi ho => ?_⟩
        rcases Nat.lt_or_ge i' k with h | h
        · exact h5 i' j' h ho
        · have : i' = k := by omega
          subst this; rw [hk] at ho; cases ho
    | some y =>
      simp only
      rcases ih with ⟨h1, h2⟩ | ⟨i, j, h1, h2, h3, h4, h5⟩
      · rw [h1]
        simp only
        split
        · rename_i hlt
          refine .inr ⟨k, y, by omega, rfl, hk, hlt, fun i' j' hi ho => ?_⟩
          rcases Nat.lt_or_ge i' k with h | h
          · have := h2 i' j' h ho; omega
          · have : i' = k := by omega
            subst this; rw [hk] at ho; cases ho; exact Nat.le_refl _
        · refine .inl ⟨rfl, fun i' j' hi ho => ?_⟩
          rcases Nat.lt_or_ge i' k with h | h
          · exact h2 i' j' h ho
          · have : i' = k := by omega
            subst this; rw [hk] at ho; cases ho; omega
      · rw [h2]
        simp only
        split
        · rename_i hlt
          refine .inr ⟨k, y, by omega, rfl, hk, by omega, fun i' j' hi ho => ?_⟩
          rcases Nat.lt_or_ge i' k with h | h
          · have := h5 i' j' h ho; omega
          · have : i' = k := by omega
            subst this; rw [hk] at ho; cases ho; exact Nat.le_refl _
        · refine .inr ⟨i, j, by omega, rfl, h3, h4, fun i' j' hi ho => ?_⟩
          rcases Nat.lt_or_ge i' k with h | h
          · exact h5 i' j' h ho
          · have : i' = k := by omega
            subst this; rw [hk] at ho; cases ho; omega
/-- the way, step by step -/
def goes (m : Nat) : Nat → List Gr.Ln → Nat → List Nat
  | 0, _, v => [v]
  | f + 1, ls, v => v :: goes m f (ls.eraseIdx ((best m ls v ls.length).1.getD 0)) (best m ls v ls.length).2

theorem oth_line {m : Nat} {ls : List Gr.Ln} (h : Gr.code (m : Int) ls = 0) {v i j : Nat} (hi : i < ls.length) (ho : oth (ls.getD i (0, 0)) v = some j) : (nm ls).Perm (sg v j :: nm (ls.eraseIdx i)) ∧ j < m := by
  obtain ⟨x, y, hxy, hx, hy, hne⟩ := line_of h hi
  rw [hxy] at ho
  unfold oth at ho
  simp only [Int.toNat_natCast] at ho
  have hp := nm_perm hi hxy
  by_cases e1 : (y : Int) = (v : Int)
  · rw [if_pos e1] at ho
    cases ho
    have : y = v := by omega
    subst this
    rw [sg_comm] at hp
    exact ⟨hp, hx⟩
  · rw [if_neg e1] at ho
    by_cases e2 : (x : Int) = (v : Int)
    · rw [if_pos e2] at ho
      cases ho
      have : x = v := by omega
      subst this
      exact ⟨hp, hy⟩
    · rw [if_neg e2] at ho; cases ho
theorem line_oth {m : Nat} {ls : List Gr.Ln} (h : Gr.code (m : Int) ls = 0) {v x : Nat} {Ex : List (Nat × Nat)} (hp : (nm ls).Perm (sg v x :: Ex)) : ∃ i, i < ls.length ∧ oth (ls.getD i (0, 0)) v = some x ∧ (nm (ls.eraseIdx i)).Perm Ex := by
  have hm : sg v x ∈ nm ls := hp.mem_iff.2 List.mem_cons_self
  obtain ⟨i, hi, e⟩ := List.getElem_of_mem hm
  rw [nm_len] at hi
  obtain ⟨a, b, hab, ha, hb, hne⟩ := line_of h hi
  have hpi := nm_perm hi hab
  have e' : sg a b = sg v x := by
    rw [← e]
    have : ls[i] = ((a : Int), (b : Int)) := by simpa [List.getD, hi] using hab
    simp [nm, this]
  rw [e'] at hpi
  refine ⟨i, hi, ?_, List.Perm.cons_inv (hpi.symm.trans hp)⟩
  rw [hab]
  unfold oth
  simp only [Int.toNat_natCast]
  unfold sg at e'
  simp only [Prod.mk.injEq] at e'
  by_cases e1 : b = v
  · rw [if_pos (by omega)]; congr 1; omega
  · rw [if_neg (by omega), if_pos (by omega)]; congr 1; omega
/-- going on to the least one finds the first way -/
theorem goes_first {m : Nat} : ∀ (n : Nat) {ls : List Gr.Ln} {v t : Nat}, ls.length = n → Gr.code (m : Int) ls = 0 → v < m → Lined (nm ls) v → Par (nm ls) v t → First v (nm ls) (goes m n ls v) ∧ (0 < n → ∃ i j, best m ls v n = (some i, j) ∧ i < n ∧ j < m ∧ oth (ls.getD i (0, 0)) v = some j ∧ Lined (nm (ls.eraseIdx i)) j ∧ Par (nm (ls.eraseIdx i)) j t)
  | 0, ls, v, t, hn, h, hv, hL, hP => by
    rw [List.eq_nil_of_length_eq_zero hn]
    exact ⟨First.nil v, fun h => (by omega)⟩
  | n + 1, ls, v, t, hn, h, hv, hL, hP => by
    have hne : nm ls ≠ [] := fun e => by have := nm_len ls; rw [e] at this; simp at this; omega
    have hb : ∃ i j, best m ls v (n + 1) = (some i, j) ∧ i < n + 1 ∧ j < m ∧ oth (ls.getD i (0, 0)) v = some j ∧ Lined (nm (ls.eraseIdx i)) j ∧ Par (nm (ls.eraseIdx i)) j t ∧ ∀ i' j', i' < n + 1 → okAt m ls v i' = some j' → j ≤ j' := by
      have okd : ∀ i j, i < n + 1 → okAt m ls v i = some j → oth (ls.getD i (0, 0)) v = some j ∧ Lined (nm (ls.eraseIdx i)) j ∧ j < m := fun i j hi ho => by
        unfold okAt at ho
        cases hoth : oth (ls.getD i (0, 0)) v with
        | none => rw [hoth] at ho; cases ho
        | some y =>
          rw [hoth] at ho
          simp only at ho
          split at ho
          · rename_i hl
            cases ho
            have := oth_line h (by omega) hoth
            exact ⟨rfl, (linedB_iff (code_erase h i) this.2).1 hl, this.2⟩
          · cases ho
      rcases best_spec m ls v (n + 1) with ⟨h1, h2⟩ | ⟨i, j, h1, h2, h3, h4, h5⟩
      · exfalso
        obtain ⟨u, E', hp, hLu, _⟩ := step (nm_good h) hL hP hne
        obtain ⟨i, hi, hoth, hpe⟩ := line_oth h hp
        have hum := (oth_line h hi hoth).2
        have : okAt m ls v i = some u := by
          unfold okAt
          rw [hoth]
          simp only
          rw [if_pos ((linedB_iff (code_erase h i) hum).2 (hLu.perm hpe))]
        have := h2 i u (by omega) this
        omega
      · obtain ⟨k1, k2, k3⟩ := okd i j h1 h3
        have hl := oth_line h (by omega) k1
        have hvj : v ≠ j := by
          have := (nm_good h).perm hl.1 _ List.mem_cons_self
          unfold sg at this; simp only at this; omega
        exact ⟨i, j, h2, h1, h4, k1, k2, par_on hvj (hP.perm hl.1.symm), h5⟩
    obtain ⟨i, j, b1, b2, b3, b4, b5, b6, b7⟩ := hb
    refine ⟨?_, fun _ => ⟨i, j, b1, b2, b3, b4, b5, b6⟩⟩
    have hl := oth_line h (by omega) b4
    have hlen : (ls.eraseIdx i).length = n := by rw [List.length_eraseIdx]; split <;> omega
    have ih := (goes_first n hlen (code_erase h i) b3 b5 b6).1
    unfold goes
    rw [hn, b1]
    simp only [Option.getD_some]
    refine First.go (nm_good h) hl.1 ih (fun x Ex hp hLx => ?_)
    obtain ⟨i', hi', hoth, hpe⟩ := line_oth h hp
    have hxm := (oth_line h hi' hoth).2
    refine b7 i' x (by omega) ?_
    unfold okAt
    rw [hoth]
    simp only
    rw [if_pos ((linedB_iff (code_erase h i') hxm).2 (hLx.perm hpe))]

end Go.Proofs.YtibphofiaodnmaaDoor.Tl
