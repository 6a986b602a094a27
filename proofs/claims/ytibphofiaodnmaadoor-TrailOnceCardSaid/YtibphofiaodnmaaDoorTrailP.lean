/-
  Plain facts for the laws on package trail: there is a way just if all lines are in one part and at most two points are odd; the way goes over each line once, and where it ends; one more line between its ends closes it. No statement of the program is proved here; there is no condition.
-/
import Derived.Test.YtibphofiaodnmaaDoorTrailF
set_option linter.unusedSimpArgs false
set_option linter.unusedVariables false
namespace Go.Proofs.YtibphofiaodnmaaDoor.Tl
open Wr

theorem conn_line {ls : List Gr.Ln} {p : Gr.Ln} (hp : p ∈ ls) {v x : Nat} (h : sg p.1.toNat p.2.toNat = sg v x) (ha : Adj (nm ls) v x) : Conn (nm ls) v p.1.toNat := by
  unfold sg at h
  simp only [Prod.mk.injEq] at h
  by_cases e : p.1.toNat = v
  · rw [e]; exact Conn.refl _
  · have : p.1.toNat = x := by omega
    rw [this]; exact Conn.one ha

/-! ### when there is a way -/
theorem lined_labs {m : Nat} {ls : List Gr.Ln} (h : Gr.code (m : Int) ls = 0) (hne : ls ≠ []) : linedB m ls (start m ls) = true ↔ ∀ i, i < ls.length → Wa.lab m (Wa.nrow m ls) m (ls.getD i (0, 0)).1.toNat = Wa.lab m (Wa.nrow m ls) m (ls.getD 0 (0, 0)).1.toNat := by
  have hR := Wa.nrow_ok m ls
  have hS := Wa.nrow_sym m ls
  have hg := (Gr.code_zero.1 h).2.2.2
  obtain ⟨hs, x, hx⟩ := start_touch h hne
  have h0 : 0 < ls.length := List.length_pos_iff.2 hne
  have hm : ∀ i, i < ls.length → ls.getD i (0, 0) ∈ ls := fun i hi => by simp [List.getD, hi]
  have hlt : ∀ i, i < ls.length → (ls.getD i (0, 0)).1.toNat < m := fun i hi => by
    obtain ⟨g1, g2, g3, g4, g5⟩ := hg _ (hm i hi)
    omega
  constructor
  · intro hl i hi
    unfold linedB at hl
    rw [List.all_eq_true] at hl
    have r1 : Wa.rch m (Wa.nrow m ls) (start m ls) (ls.getD i (0, 0)).1.toNat = true := hl _ (hm i hi)
    have r2 : Wa.rch m (Wa.nrow m ls) (start m ls) (ls.getD 0 (0, 0)).1.toNat = true := hl _ (hm 0 h0)
    rw [Wa.lab_eq hR hS (hlt i hi) (hlt 0 h0)]
    exact Wa.rch_trans hR (hlt i hi) hs (Wa.rch_sym hR hS hs (hlt i hi) r1) r2
  · intro hl
    obtain ⟨hm', _, _, _⟩ := adj_sg (nm_good h) hx
    obtain ⟨p, hp, e⟩ := List.mem_map.1 hm'
    have hc := (nm_conn h hs).1 (conn_line hp e hx)
    obtain ⟨k, hk, rfl⟩ := List.getElem_of_mem hp
    have ek : ls.getD k (0, 0) = ls[k] := by simp [List.getD, hk]
    rw [← ek] at hc
    unfold linedB
    rw [List.all_eq_true]
    intro q hq
    obtain ⟨i, hi, rfl⟩ := List.getElem_of_mem hq
    have ei : ls.getD i (0, 0) = ls[i] := by simp [List.getD, hi]
    rw [← ei]
    have h1 := (Wa.lab_eq hR hS (hlt k hk) (hlt i hi)).1 ((hl k hk).trans (hl i hi).symm)
    exact Wa.rch_trans hR hs (hlt k hk) hc h1
/-- the first j lines are in one part -/
def tog (m : Nat) (ls : List Gr.Ln) (j : Nat) : Bool := (List.range j).all fun i => Wa.lab m (Wa.nrow m ls) m (ls.getD i (0, 0)).1.toNat == Wa.lab m (Wa.nrow m ls) m (ls.getD 0 (0, 0)).1.toNat
theorem tog_step (m : Nat) (ls : List Gr.Ln) (j : Nat) : tog m ls (j + 1) = (tog m ls j && (Wa.lab m (Wa.nrow m ls) m (ls.getD j (0, 0)).1.toNat == Wa.lab m (Wa.nrow m ls) m (ls.getD 0 (0, 0)).1.toNat)) := by
  unfold tog
  rw [List.range_succ, List.all_append]
  simp
theorem can_tog {m : Nat} {ls : List Gr.Ln} (h : Gr.code (m : Int) ls = 0) (hne : ls ≠ []) : canB m ls = (tog m ls ls.length && decide ((ends m ls).length ≤ 2)) := by
  have hem : ls.isEmpty = false := by cases ls with
    | nil => exact absurd rfl hne
    | cons a l => rfl
  unfold canB
  rw [hem, Bool.not_false, Bool.true_and, Bool.and_comm]
  congr 1
  rw [Bool.eq_iff_iff, lined_labs h hne]
  unfold tog
  rw [List.all_eq_true]
  constructor
  · intro hh i hi
    rw [List.mem_range] at hi
    simpa using hh i hi
  · intro hh i hi
    have := hh i (List.mem_range.2 hi)
    simpa using this
theorem can_nil (m : Nat) : canB m [] = false := rfl

/-! ### the way goes over each line once -/
def goneTo (w : List Nat) (i : Nat) : List Gr.Ln := (List.range i).map fun k => (((w.getD k 0 : Nat) : Int), ((w.getD (k + 1) 0 : Nat) : Int))
theorem goneTo_len (w : List Nat) (i : Nat) : (goneTo w i).length = i := by simp [goneTo]
theorem goneTo_step (w : List Nat) (i : Nat) : goneTo w (i + 1) = goneTo w i ++ [(((w.getD i 0 : Nat) : Int), ((w.getD (i + 1) 0 : Nat) : Int))] := by
  unfold goneTo; rw [List.range_succ, List.map_append]; rfl
theorem goneTo_steps : ∀ w : List Nat, nm (goneTo w (w.length - 1)) = steps w
  | [] => rfl
  | [a] => rfl
  | a :: b :: r => by
    have ih := goneTo_steps (b :: r)
    have e : goneTo (a :: b :: r) ((a :: b :: r).length - 1) = ((a : Int), (b : Int)) :: goneTo (b :: r) ((b :: r).length - 1) := by
      unfold goneTo
      simp only [List.length_cons, Nat.add_sub_cancel]
      rw [List.range_succ_eq_map, List.map_cons, List.map_map]
      rfl
    rw [e]
    show sg (a : Int).toNat (b : Int).toNat :: nm _ = _
    rw [ih]
    rfl
theorem cnt_jn {ls : List Gr.Ln} (hn : ∀ p ∈ ls, 0 ≤ p.1 ∧ 0 ≤ p.2) (a b : Nat) : ls.countP (jn (a : Int) (b : Int)) = (nm ls).countP fun q => decide (q = sg a b) := by
  unfold nm
  rw [List.countP_map]
  refine List.countP_congr fun p hp => ?_
  obtain ⟨h1, h2⟩ := hn p hp
  show jn (a : Int) (b : Int) p = true ↔ decide (sg p.1.toNat p.2.toNat = sg a b) = true
  rw [jn_iff, decide_eq_true_eq]
  unfold sg
  simp only [Prod.mk.injEq]
  constructor
  · rintro (⟨e1, e2⟩ | ⟨e1, e2⟩) <;> omega
  · intro h
    by_cases e1 : p.1 = (a : Int)
    · exact .inl ⟨e1, by omega⟩
    · exact .inr ⟨by omega, by omega⟩
theorem way_between {m : Nat} {ls : List Gr.Ln} (h : Gr.code (m : Int) ls = 0) (hc : canB m ls = true) (a b : Nat) : (goneTo (way m ls) ls.length).countP (jn (a : Int) (b : Int)) = ls.countP (jn (a : Int) (b : Int)) := by
  have hw := (way_first h hc).1
  have hl := way_len h hc
  have e := goneTo_steps (way m ls)
  rw [hl, Nat.add_sub_cancel] at e
  rw [cnt_jn (ls := ls) (fun p hp => by obtain ⟨g1, _, g3, _⟩ := (Gr.code_zero.1 h).2.2.2 p hp; exact ⟨g1, g3⟩),
    cnt_jn (ls := goneTo (way m ls) ls.length) (fun p hp => by obtain ⟨k, _, rfl⟩ := List.mem_map.1 hp; exact ⟨Int.natCast_nonneg _, Int.natCast_nonneg _⟩), e]
  exact hw.lines.1.symm.countP_eq _
theorem Way.lt {m v : Nat} {E : List (Nat × Nat)} {w : List Nat} (h : Way v E w) : Good m E → v < m → ∀ x ∈ w, x < m := by
  induction h with
  | nil v => intro _ hv x hx; rw [List.mem_singleton] at hx; omega
  | @go v u E E' w hp hw ih =>
    intro hE hv x hx
    have hE' := hE.perm hp
    have hu : u < m := by
      have := hE' (sg v u) List.mem_cons_self
      unfold sg at this; simp only at this; omega
    rcases List.mem_cons.1 hx with rfl | hx
    · exact hv
    · exact ih hE'.tail hu x hx
theorem can_ne {m : Nat} {ls : List Gr.Ln} (hc : canB m ls = true) : ls ≠ [] := fun e => by subst e; simp [canB] at hc
theorem way_lt {m : Nat} {ls : List Gr.Ln} (h : Gr.code (m : Int) ls = 0) (hc : canB m ls = true) : ∀ x ∈ way m ls, x < m :=
  (way_first h hc).1.lt (nm_good h) (start_touch h (can_ne hc)).1
theorem way_head {m : Nat} {ls : List Gr.Ln} (h : Gr.code (m : Int) ls = 0) (hc : canB m ls = true) : (way m ls).getD 0 0 = start m ls := by
  obtain ⟨r, hr⟩ := (way_first h hc).1.lines.2
  rw [hr]; rfl
theorem way_last {m : Nat} {ls : List Gr.Ln} (h : Gr.code (m : Int) ls = 0) (hc : canB m ls = true) : Par (nm ls) ((way m ls).getD 0 0) ((way m ls).getD ls.length 0) := by
  have hP := ((way_first h hc).1.says (nm_good h)).2.1
  have hl := way_len h hc
  have e : (way m ls).getLastD 0 = (way m ls).getD ls.length 0 := by
    rw [List.getLastD_eq_getLast?, List.getLast?_eq_getElem?, hl, Nat.add_sub_cancel]
    rfl
  rw [e] at hP
  rw [way_head h hc]
  exact hP
theorem once_none {m : Nat} {ls : List Gr.Ln} (h : Gr.code (m : Int) ls = 0) (hc : canB m ls = true) (he : ends m ls = []) : (way m ls).getD 0 0 = (way m ls).getD ls.length 0 := by
  have hP := way_last h hc
  by_cases e : (way m ls).getD 0 0 = (way m ls).getD ls.length 0
  · exact e
  · have := (mem_ends h).2 ((hP _).2 ⟨.inl rfl, e⟩)
    rw [he] at this
    cases this
theorem once_two {m : Nat} {ls : List Gr.Ln} (h : Gr.code (m : Int) ls = 0) (hc : canB m ls = true) (he : ends m ls ≠ []) : (way m ls).getD 0 0 ≠ (way m ls).getD ls.length 0 ∧ (way m ls).getD 0 0 = (ends m ls).getD 0 0 ∧ (way m ls).getD ls.length 0 ∈ ends m ls := by
  have hP := way_last h hc
  obtain ⟨x, hx⟩ := List.exists_mem_of_ne_nil _ he
  have hne := ((hP x).1 ((mem_ends h).1 hx)).2
  refine ⟨hne, ?_, (mem_ends h).2 ((hP _).2 ⟨.inr rfl, hne⟩)⟩
  rw [way_head h hc]
  unfold start
  match hm : ends m ls with
  | [] => exact absurd hm he
  | a :: r => rfl

/-! ### one more line closes the way -/
theorem getD_memN {l : List Nat} {i : Nat} (hi : i < l.length) : l.getD i 0 ∈ l := by simp [List.getD, hi]
theorem more_all {m : Nat} {ls : List Gr.Ln} (h : Gr.code (m : Int) ls = 0) (hc : canB m ls = true) (hl : ls.length < 24) {a b : Nat} (ha : (way m ls).getD 0 0 = a) (hb : (way m ls).getD ls.length 0 = b) (hne : a ≠ b) :
    Gr.code (m : Int) (ls ++ [((a : Int), (b : Int))]) = 0 ∧ ends m (ls ++ [((a : Int), (b : Int))]) = [] ∧ canB m (ls ++ [((a : Int), (b : Int))]) = true := by
  have hP := way_last h hc
  have hwl := way_len h hc
  have hf := way_lt h hc _ (getD_memN (l := way m ls) (i := 0) (by omega))
  have ht := way_lt h hc _ (getD_memN (l := way m ls) (i := ls.length) (by omega))
  have hL : Lined (nm ls) ((way m ls).getD 0 0) := by rw [way_head h hc]; exact ((way_first h hc).1.says (nm_good h)).1
  rw [ha] at hP hf hL
  rw [hb] at hP ht
  have hz := Gr.code_zero.1 h
  have hcode : Gr.code (m : Int) (ls ++ [((a : Int), (b : Int))]) = 0 := by
    refine Gr.code_zero.2 ⟨hz.1, hz.2.1, by simp; omega, fun p hp => ?_⟩
    rcases List.mem_append.1 hp with hp | hp
    · exact hz.2.2.2 p hp
    · rw [List.mem_singleton] at hp
      subst hp
      exact ⟨Int.natCast_nonneg _, by simp only; omega, Int.natCast_nonneg _, by simp only; omega, by simp only; omega⟩
  have hnm : nm (ls ++ [((a : Int), (b : Int))]) = nm ls ++ [sg a b] := by simp [nm]
  have hperm : (nm (ls ++ [((a : Int), (b : Int))])).Perm (sg b a :: nm ls) := by
    rw [hnm, sg_comm b a]
    exact List.perm_append_comm
  have hends : ends m (ls ++ [((a : Int), (b : Int))]) = [] := by
    refine List.eq_nil_iff_forall_not_mem.2 fun x hx => ?_
    have ho := (mem_ends hcode).1 hx
    have := (((par_back (Ne.symm hne) hP).perm hperm x).1 ho).2
    exact this rfl
  refine ⟨hcode, hends, ?_⟩
  have hne2 : ls ++ [((a : Int), (b : Int))] ≠ [] := by simp
  obtain ⟨hs, x, hx⟩ := start_touch hcode hne2
  have hsub : ∀ p ∈ nm ls, p ∈ nm (ls ++ [((a : Int), (b : Int))]) := fun p hp => by rw [hnm]; exact List.mem_append.2 (.inl hp)
  have hab : Adj (nm (ls ++ [((a : Int), (b : Int))])) a b := sg_adj (by rw [hnm]; simp)
  have hall : ∀ p ∈ nm (ls ++ [((a : Int), (b : Int))]), Conn (nm (ls ++ [((a : Int), (b : Int))])) a p.1 := fun p hp => by
    rw [hnm] at hp
    rcases List.mem_append.1 hp with hp | hp
    · exact (hL p hp).mono hsub
    · rw [List.mem_singleton] at hp
      subst hp
      have : (sg a b).1 = a ∨ (sg a b).1 = b := by unfold sg; simp only; omega
      rcases this with e | e
      · rw [e]; exact Conn.refl _
      · rw [e]; exact Conn.one hab
  have hsa : Conn (nm (ls ++ [((a : Int), (b : Int))])) (start m (ls ++ [((a : Int), (b : Int))])) a := by
    rcases hx with hx | hx
    · exact (hall _ hx).symm
    · exact ((hall _ hx).step (.inl hx)).symm
  unfold canB
  simp only [Bool.and_eq_true, decide_eq_true_eq]
  refine ⟨by simp, by rw [hends]; simp, (linedB_iff hcode hs).2 fun p hp => hsa.trans (hall p hp)⟩

end Go.Proofs.YtibphofiaodnmaaDoor.Tl
