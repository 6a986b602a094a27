/-
  Plain facts on searches that go deep, with no program in them: the trees of a search, when each point is met and left and from which, the lowest times that points come back to. No statement of the program is proved here; there is no condition.
-/
import Derived.Test.YtehkkpkhpbbpnaaDoorWalkP
set_option linter.unusedSimpArgs false
set_option linter.unusedVariables false
namespace Go.Proofs.YtehkkpkhpbbpnaaDoor.Dp

/-- the trees of a search: a point, the trees of those met from it, and the trees behind it -/
inductive Fo where
  | nil : Fo
  | cons : Nat → Fo → Fo → Fo

namespace Fo
def size : Fo → Nat
  | nil => 0
  | cons _ ch rest => ch.size + rest.size + 1
def depth : Fo → Nat
  | nil => 0
  | cons _ ch rest => max (ch.depth + 1) rest.depth
def pts : Fo → List Nat
  | nil => []
  | cons v ch rest => v :: (ch.pts ++ rest.pts)
def roots : Fo → List Nat
  | nil => []
  | cons v _ rest => v :: rest.roots
theorem pts_len : ∀ F : Fo, F.pts.length = F.size
  | nil => rfl
  | cons v ch rest => by simp [pts, size, pts_len ch, pts_len rest]
theorem depth_le : ∀ F : Fo, F.depth ≤ F.size
  | nil => Nat.le_refl _
  | cons v ch rest => by have := depth_le ch; have := depth_le rest; simp only [depth, size]; omega
theorem roots_sub : ∀ {F : Fo} {u : Nat}, u ∈ F.roots → u ∈ F.pts
  | cons v ch rest, u, h => by
    simp only [roots, List.mem_cons] at h
    simp only [pts, List.mem_cons, List.mem_append]
    rcases h with h | h
    · exact .inl h
    · exact .inr (.inr (roots_sub h))
theorem mem_pts {v : Nat} {ch rest : Fo} {u : Nat} : u ∈ (cons v ch rest).pts ↔ u = v ∨ u ∈ ch.pts ∨ u ∈ rest.pts := by simp [pts]
theorem nodup_pts {v : Nat} {ch rest : Fo} : (cons v ch rest).pts.Nodup ↔ v ∉ ch.pts ∧ v ∉ rest.pts ∧ ch.pts.Nodup ∧ rest.pts.Nodup ∧ ∀ u, u ∈ ch.pts → u ∉ rest.pts := by
  simp only [pts, List.nodup_cons, List.mem_append, not_or, List.nodup_append]
  constructor
  · rintro ⟨⟨h1, h2⟩, h3, h4, h5⟩
    exact ⟨h1, h2, h3, h4, fun u hu hr => h5 u hu u hr rfl⟩
  · rintro ⟨h1, h2, h3, h4, h5⟩
    exact ⟨⟨h1, h2⟩, h3, h4, fun u hu w hw e => h5 u hu (e ▸ hw)⟩
end Fo

/-- when a point is met, if the clock stands at k at first -/
def met : Fo → Nat → Nat → Nat
  | .nil, _, _ => 0
  | .cons v ch rest, k, u => if u = v then k else if u ∈ ch.pts then met ch (k + 1) u else met rest (k + 2 * ch.size + 2) u
/-- when it is left -/
def left : Fo → Nat → Nat → Nat
  | .nil, _, _ => 0
  | .cons v ch rest, k, u => if u = v then k + 2 * ch.size + 1 else if u ∈ ch.pts then left ch (k + 1) u else left rest (k + 2 * ch.size + 2) u
/-- from which it is met -/
def par : Fo → Int → Nat → Int
  | .nil, _, _ => -1
  | .cons v ch rest, p, u => if u = v then p else if u ∈ ch.pts then par ch (v : Int) u else par rest p u

theorem met_v {v : Nat} {ch rest : Fo} {k : Nat} : met (.cons v ch rest) k v = k := by simp [met]
theorem met_c {v : Nat} {ch rest : Fo} {k u : Nat} (e : u ≠ v) (h : u ∈ ch.pts) : met (.cons v ch rest) k u = met ch (k + 1) u := by simp [met, e, h]
theorem met_r {v : Nat} {ch rest : Fo} {k u : Nat} (e : u ≠ v) (h : u ∉ ch.pts) : met (.cons v ch rest) k u = met rest (k + 2 * ch.size + 2) u := by simp [met, e, h]
theorem left_v {v : Nat} {ch rest : Fo} {k : Nat} : left (.cons v ch rest) k v = k + 2 * ch.size + 1 := by simp [left]
theorem left_c {v : Nat} {ch rest : Fo} {k u : Nat} (e : u ≠ v) (h : u ∈ ch.pts) : left (.cons v ch rest) k u = left ch (k + 1) u := by simp [left, e, h]
theorem left_r {v : Nat} {ch rest : Fo} {k u : Nat} (e : u ≠ v) (h : u ∉ ch.pts) : left (.cons v ch rest) k u = left rest (k + 2 * ch.size + 2) u := by simp [left, e, h]
theorem par_v {v : Nat} {ch rest : Fo} {p : Int} : par (.cons v ch rest) p v = p := by simp [par]
theorem par_c {v : Nat} {ch rest : Fo} {p : Int} {u : Nat} (e : u ≠ v) (h : u ∈ ch.pts) : par (.cons v ch rest) p u = par ch (v : Int) u := by simp [par, e, h]
theorem par_r {v : Nat} {ch rest : Fo} {p : Int} {u : Nat} (e : u ≠ v) (h : u ∉ ch.pts) : par (.cons v ch rest) p u = par rest p u := by simp [par, e, h]

/-- a step of the search: the clock, the point, from which it was met, is it left? -/
structure Stp where
  k : Nat
  v : Nat
  p : Int
  fin : Bool
/-- all steps -/
def emit : Nat → Fo → Int → List Stp
  | _, .nil, _ => []
  | k, .cons v ch rest, p => ⟨k, v, p, false⟩ :: (emit (k + 1) ch (v : Int) ++ ⟨k + 2 * ch.size + 1, v, p, true⟩ :: emit (k + 2 * ch.size + 2) rest p)
theorem emit_len : ∀ (k : Nat) (F : Fo) (p : Int), (emit k F p).length = 2 * F.size
  | _, .nil, _ => rfl
  | k, .cons v ch rest, p => by simp only [emit, List.length_cons, List.length_append, emit_len, Fo.size]; omega

/-- the search itself: which points have been met, the points that are looked at in turn, the trees, which have been met then -/
inductive Dfs (R : Nat → List Nat) : List Bool → List Nat → Fo → List Bool → Prop
  | nil (s : List Bool) : Dfs R s [] .nil s
  | skip {s : List Bool} {w : Nat} {ws : List Nat} {F : Fo} {s' : List Bool} (h : s.getD w false = true) (h1 : Dfs R s ws F s') : Dfs R s (w :: ws) F s'
  | go {s : List Bool} {w : Nat} {ws : List Nat} {ch rest : Fo} {s1 s2 : List Bool} (h : s.getD w false = false) (h1 : Dfs R (s.set w true) (R w) ch s1) (h2 : Dfs R s1 ws rest s2) : Dfs R s (w :: ws) (.cons w ch rest) s2

theorem Dfs.hit {R : Nat → List Nat} {s : List Bool} {w : Nat} {ws : List Nat} {F : Fo} {s' : List Bool} (hd : Dfs R s (w :: ws) F s') (h : s.getD w false = true) : Dfs R s ws F s' := by
  cases hd with
  | skip _ h1 => exact h1
  | go h0 _ _ => rw [h] at h0; cases h0
theorem Dfs.miss {R : Nat → List Nat} {s : List Bool} {w : Nat} {ws : List Nat} {F : Fo} {s' : List Bool} (hd : Dfs R s (w :: ws) F s') (h : s.getD w false = false) : ∃ ch rest s1, F = .cons w ch rest ∧ Dfs R (s.set w true) (R w) ch s1 ∧ Dfs R s1 ws rest s' := by
  cases hd with
  | skip h0 _ => rw [h] at h0; cases h0
  | go h0 h1 h2 => exact ⟨_, _, _, rfl, h1, h2⟩
theorem Dfs.done {R : Nat → List Nat} {s : List Bool} {F : Fo} {s' : List Bool} (hd : Dfs R s [] F s') : F = .nil ∧ s' = s := by
  cases hd
  exact ⟨rfl, rfl⟩

theorem Dfs.exist {m : Nat} {R : Nat → List Nat} (hR : Wa.Ok m R) : ∀ (c : Nat) (ws : List Nat) (s : List Bool), s.length = m → s.count false ≤ c → (∀ w ∈ ws, w < m) → ∃ F s', Dfs R s ws F s' ∧ s'.length = m ∧ s'.count false ≤ s.count false
  | c, [], s, hl, _, _ => ⟨_, _, .nil s, hl, Nat.le_refl _⟩
  | c, w :: ws, s, hl, hc, hw => by
    cases h : s.getD w false with
    | true =>
      obtain ⟨F, s', hd, h1, h2⟩ := Dfs.exist hR c ws s hl hc (fun x hx => hw x (by simp [hx]))
      exact ⟨F, s', .skip h hd, h1, h2⟩
    | false =>
      have hwm : w < s.length := by rw [hl]; exact hw w (by simp)
      have hget : s[w] = false := by simpa [List.getD, hwm] using h
      have hcs : (s.set w true).count false = s.count false - 1 := by rw [List.count_set hwm]; simp [hget]
      have hpos : 0 < s.count false := List.count_pos_iff.2 (by rw [← hget]; exact List.getElem_mem hwm)
      match c, hc with
      | 0, hc => omega
      | c + 1, hc =>
        obtain ⟨ch, s1, hd1, h1, h2⟩ := Dfs.exist hR c (R w) (s.set w true) (by simp [hl]) (by omega) (hR w (by omega))
        obtain ⟨F, s2, hd2, h3, h4⟩ := Dfs.exist hR (c + 1) ws s1 h1 (by omega) (fun x hx => hw x (by simp [hx]))
        exact ⟨_, s2, .go h hd1 hd2, h3, by omega⟩
  termination_by c ws => (c, ws.length)

/-- what a search leaves behind -/
structure Dfs.Spec (m : Nat) (R : Nat → List Nat) (s : List Bool) (ws : List Nat) (F : Fo) (s' : List Bool) : Prop where
  len : s'.length = m
  seen : ∀ u, s'.getD u false = true ↔ s.getD u false = true ∨ u ∈ F.pts
  new : ∀ u ∈ F.pts, s.getD u false = false ∧ u < m
  nodup : F.pts.Nodup
  all : ∀ w ∈ ws, s'.getD w false = true
  closed : ∀ u ∈ F.pts, ∀ w ∈ R u, s'.getD w false = true

theorem Dfs.spec {m : Nat} {R : Nat → List Nat} (hR : Wa.Ok m R) {s : List Bool} {ws : List Nat} {F : Fo} {s' : List Bool} (hd : Dfs R s ws F s') : s.length = m → (∀ w ∈ ws, w < m) → Dfs.Spec m R s ws F s' := by
  induction hd with
  | nil s => exact fun hl _ => ⟨hl, by simp [Fo.pts], by simp [Fo.pts], by simp [Fo.pts], by simp, by simp [Fo.pts]⟩
  | @skip s w ws F s' h h1 ih =>
    intro hl hw
    have q := ih hl (fun x hx => hw x (by simp [hx]))
    refine ⟨q.len, q.seen, q.new, q.nodup, fun x hx => ?_, q.closed⟩
    rcases List.mem_cons.1 hx with rfl | hx
    · exact (q.seen x).2 (.inl h)
    · exact q.all x hx
  | @go s w ws ch rest s1 s2 h h1 h2 ih1 ih2 =>
    intro hl hw
    have hwm : w < s.length := by rw [hl]; exact hw w (by simp)
    have q1 := ih1 (by simp [hl]) (hR w (by omega))
    have q2 := ih2 q1.len (fun x hx => hw x (by simp [hx]))
    have hs1 : ∀ u, s1.getD u false = true ↔ u = w ∨ s.getD u false = true ∨ u ∈ ch.pts := fun u => by
      rw [q1.seen, Wa.getD_set s w u hwm]
      simp [or_assoc]
    have hw1 : s1.getD w false = true := (hs1 w).2 (.inl rfl)
    have hch : ∀ u ∈ ch.pts, u ≠ w ∧ s.getD u false = false ∧ u < m := fun u hu => by
      have := q1.new u hu
      rw [Wa.getD_set s w u hwm] at this
      simp only [Bool.or_eq_false_iff, decide_eq_false_iff_not] at this
      exact ⟨this.1.1, this.1.2, this.2⟩
    have hre : ∀ u ∈ rest.pts, u ≠ w ∧ s.getD u false = false ∧ u < m ∧ u ∉ ch.pts := fun u hu => by
      have := q2.new u hu
      have hn : ¬ s1.getD u false = true := by rw [this.1]; simp
      rw [hs1] at hn
      simp only [not_or] at hn
      exact ⟨hn.1, by simpa using hn.2.1, this.2, hn.2.2⟩
    refine ⟨q2.len, fun u => ?_, fun u hu => ?_, ?_, fun x hx => ?_, fun u hu x hx => ?_⟩
    · rw [q2.seen, hs1, Fo.mem_pts]
      constructor
      · rintro ((h | h | h) | h)
        · exact .inr (.inl h)
        · exact .inl h
        · exact .inr (.inr (.inl h))
        · exact .inr (.inr (.inr h))
      · rintro (h | h | h | h)
        · exact .inl (.inr (.inl h))
        · exact .inl (.inl h)
        · exact .inl (.inr (.inr h))
        · exact .inr h
    · rcases Fo.mem_pts.1 hu with rfl | hu | hu
      · exact ⟨h, by omega⟩
      · exact ⟨(hch u hu).2.1, (hch u hu).2.2⟩
      · exact ⟨(hre u hu).2.1, (hre u hu).2.2.1⟩
    · exact Fo.nodup_pts.2 ⟨fun hx => (hch _ hx).1 rfl, fun hx => (hre _ hx).1 rfl, q1.nodup, q2.nodup, fun u hu hr => (hre u hr).2.2.2 hu⟩
    · rcases List.mem_cons.1 hx with rfl | hx
      · exact (q2.seen x).2 (.inl hw1)
      · exact q2.all x hx
    · rcases Fo.mem_pts.1 hu with rfl | hu | hu
      · exact (q2.seen x).2 (.inl (q1.all x hx))
      · exact (q2.seen x).2 (.inl (q1.closed u hu x hx))
      · exact q2.closed u hu x hx

/-! ### the search over all points -/
/-- F are the trees of the search over all points -/
def Whole (m : Nat) (R : Nat → List Nat) (F : Fo) : Prop := ∃ s', Dfs R (List.replicate m false) (List.range m) F s'
theorem whole_exist {m : Nat} {R : Nat → List Nat} (hR : Wa.Ok m R) : ∃ F, Whole m R F := by
  obtain ⟨F, s', h, _⟩ := Dfs.exist hR _ (List.range m) (List.replicate m false) (by simp) (Nat.le_refl _) (by simp)
  exact ⟨F, s', h⟩
theorem Whole.spec {m : Nat} {R : Nat → List Nat} (hR : Wa.Ok m R) {F : Fo} (h : Whole m R F) : (∀ u, u ∈ F.pts ↔ u < m) ∧ F.pts.Nodup := by
  obtain ⟨s', h⟩ := h
  have q := h.spec hR (by simp) (by simp)
  refine ⟨fun u => ⟨fun hu => (q.new u hu).2, fun hu => ?_⟩, q.nodup⟩
  rcases (q.seen u).1 (q.all u (by simpa using hu)) with h1 | h1
  · simp [List.getD, List.getElem?_replicate] at h1
    split at h1 <;> simp_all
  · exact h1
theorem Whole.size {m : Nat} {R : Nat → List Nat} (hR : Wa.Ok m R) {F : Fo} (h : Whole m R F) : F.size = m := by
  have hq := h.spec hR
  have hp : F.pts.Perm (List.range m) := (List.perm_ext_iff_of_nodup hq.2 List.nodup_range).2 (fun a => by rw [hq.1]; simp)
  rw [← Fo.pts_len, hp.length_eq, List.length_range]

/-! ### times -/
theorem times_in : ∀ {F : Fo} {k u : Nat}, u ∈ F.pts → k ≤ met F k u ∧ met F k u < left F k u ∧ left F k u < k + 2 * F.size
  | .cons v ch rest, k, u, h => by
    simp only [met, left, Fo.size]
    by_cases h1 : u = v
    · rw [if_pos h1, if_pos h1]; omega
    · rw [if_neg h1, if_neg h1]
      by_cases h2 : u ∈ ch.pts
      · rw [if_pos h2, if_pos h2]
        have := times_in (k := k + 1) h2
        omega
      · rw [if_neg h2, if_neg h2]
        have := times_in (F := rest) (k := k + 2 * ch.size + 2) ((Fo.mem_pts.1 h).elim (fun h => absurd h h1) (fun h => h.elim (fun h => absurd h h2) id))
        omega
/-- two points: apart, or the one within the other one -/
def Part (a b a' b' : Nat) : Prop := b < a' ∨ b' < a ∨ (a < a' ∧ b' < b) ∨ (a' < a ∧ b < b')
theorem times_part : ∀ {F : Fo} {k u w : Nat}, F.pts.Nodup → u ∈ F.pts → w ∈ F.pts → u ≠ w → Part (met F k u) (left F k u) (met F k w) (left F k w)
  | .cons v ch rest, k, u, w, hn, hu, hw, hne => by
    obtain ⟨n1, n2, n3, n4, n5⟩ := Fo.nodup_pts.1 hn
    have side : ∀ x, x ∈ (Fo.cons v ch rest).pts →
        (x = v ∧ met (.cons v ch rest) k x = k ∧ left (.cons v ch rest) k x = k + 2 * ch.size + 1) ∨
        (x ∈ ch.pts ∧ met (.cons v ch rest) k x = met ch (k + 1) x ∧ left (.cons v ch rest) k x = left ch (k + 1) x ∧ k + 1 ≤ met ch (k + 1) x ∧ left ch (k + 1) x < k + 1 + 2 * ch.size) ∨
        (x ∈ rest.pts ∧ met (.cons v ch rest) k x = met rest (k + 2 * ch.size + 2) x ∧ left (.cons v ch rest) k x = left rest (k + 2 * ch.size + 2) x ∧ k + 2 * ch.size + 2 ≤ met rest (k + 2 * ch.size + 2) x) := by
      intro x hx
      rcases Fo.mem_pts.1 hx with rfl | hx | hx
      · exact .inl ⟨rfl, by simp [met], by simp [left]⟩
      · have e : x ≠ v := fun e => n1 (e ▸ hx)
        have := times_in (k := k + 1) hx
        exact .inr (.inl ⟨hx, by simp [met, e, hx], by simp [left, e, hx], this.1, this.2.2⟩)
      · have e : x ≠ v := fun e => n2 (e ▸ hx)
        have e2 : x ∉ ch.pts := fun h => n5 x h hx
        have := times_in (k := k + 2 * ch.size + 2) hx
        exact .inr (.inr ⟨hx, by simp [met, e, e2], by simp [left, e, e2], this.1⟩)
    have lu := times_in (k := k) hu
    have lw := times_in (k := k) hw
    unfold Part
    rcases side u hu with ⟨a1, a2, a3⟩ | ⟨a1, a2, a3, a4, a5⟩ | ⟨a1, a2, a3, a4⟩ <;> rcases side w hw with ⟨b1, b2, b3⟩ | ⟨b1, b2, b3, b4, b5⟩ | ⟨b1, b2, b3, b4⟩
    · exact absurd (a1.trans b1.symm) hne
    · omega
    · omega
    · omega
    · have := times_part (k := k + 1) n3 a1 b1 hne
      unfold Part at this
      omega
    · omega
    · omega
    · omega
    · have := times_part (k := k + 2 * ch.size + 2) n4 a1 b1 hne
      unfold Part at this
      omega

/-! ### from which -/
theorem par_root : ∀ {F : Fo} {p : Int} {u : Nat}, F.pts.Nodup → (∀ x ∈ F.pts, (x : Int) ≠ p) → u ∈ F.pts → (par F p u = p ↔ u ∈ F.roots)
  | .cons v ch rest, p, u, hn, hp, hu => by
    obtain ⟨n1, n2, n3, n4, n5⟩ := Fo.nodup_pts.1 hn
    simp only [par, Fo.roots, List.mem_cons]
    rcases Fo.mem_pts.1 hu with rfl | hu | hu
    · simp
    · have e : u ≠ v := fun e => n1 (e ▸ hu)
      have e2 : u ∉ rest.roots := fun h => n5 u hu (Fo.roots_sub h)
      rw [if_neg e, if_pos hu]
      have hv : par ch (v : Int) u ≠ p := by
        intro hx
        have hex : par ch (v : Int) u = (v : Int) ∨ ∃ q ∈ ch.pts, par ch (v : Int) u = (q : Int) := par_in hu
        rcases hex with h | ⟨q, hq, h⟩
        · exact hp v (by simp [Fo.pts]) (h.symm.trans hx)
        · exact hp q (by simp [Fo.pts, hq]) (h.symm.trans hx)
      simp [e, e2, hv]
    · have e : u ≠ v := fun e => n2 (e ▸ hu)
      have e2 : u ∉ ch.pts := fun h => n5 u h hu
      rw [if_neg e, if_neg e2]
      rw [par_root n4 (fun x hx => hp x (Fo.mem_pts.2 (.inr (.inr hx)))) hu]
      simp [e]
where
  par_in : ∀ {F : Fo} {p : Int} {u : Nat}, u ∈ F.pts → par F p u = p ∨ ∃ q ∈ F.pts, par F p u = (q : Int)
  | .cons v ch rest, p, u, hu => by
    simp only [par]
    by_cases h1 : u = v
    · exact .inl (by rw [if_pos h1])
    · rw [if_neg h1]
      by_cases h2 : u ∈ ch.pts
      · rw [if_pos h2]
        rcases par_in (F := ch) (p := (v : Int)) h2 with h | ⟨q, hq, h⟩
        · exact .inr ⟨v, by simp [Fo.pts], h⟩
        · exact .inr ⟨q, by simp [Fo.pts, hq], h⟩
      · rw [if_neg h2]
        rcases par_in (F := rest) (p := p) ((Fo.mem_pts.1 hu).elim (fun h => absurd h h1) (fun h => h.elim (fun h => absurd h h2) id)) with h | ⟨q, hq, h⟩
        · exact .inl h
        · exact .inr ⟨q, by simp [Fo.pts, hq], h⟩

/-- each point is met from none of these trees, or from a point that it is beside, and within that one's time -/
theorem Dfs.par_of {R : Nat → List Nat} {s : List Bool} {ws : List Nat} {F : Fo} {s' : List Bool} (hd : Dfs R s ws F s') :
    F.pts.Nodup → ∀ (k : Nat) (p : Int) (u : Nat), u ∈ F.pts → (u ∈ F.roots ∧ u ∈ ws ∧ par F p u = p) ∨ ∃ q, q ∈ F.pts ∧ par F p u = (q : Int) ∧ u ∈ R q ∧ met F k q < met F k u ∧ left F k u < left F k q := by
  induction hd with
  | nil s => intro _ _ _ u hu; simp [Fo.pts] at hu
  | @skip s w ws F s' h h1 ih =>
    intro hn k p u hu
    rcases ih hn k p u hu with ⟨a, b, c⟩ | h
    · exact .inl ⟨a, by simp [b], c⟩
    · exact .inr h
  | @go s v ws ch rest s1 s2 h h1 h2 ih1 ih2 =>
    intro hn k p u hu0
    obtain ⟨n1, n2, n3, n4, n5⟩ := Fo.nodup_pts.1 hn
    rcases Fo.mem_pts.1 hu0 with e0 | hu | hu
    · subst e0
      exact .inl ⟨by simp [Fo.roots], by simp, par_v⟩
    · have e : u ≠ v := fun e => n1 (e ▸ hu)
      have tu := times_in (k := k + 1) hu
      refine .inr ?_
      rcases ih1 n3 (k + 1) (v : Int) u hu with ⟨a, b, c⟩ | ⟨q, hq, hq1, hq2, hq3, hq4⟩
      · refine ⟨v, by simp [Fo.pts], by rw [par_c e hu]; exact c, b, ?_, ?_⟩
        · rw [met_v, met_c e hu]; omega
        · rw [left_v, left_c e hu]; omega
      · have eq : q ≠ v := fun e => n1 (e ▸ hq)
        refine ⟨q, by simp [Fo.pts, hq], by rw [par_c e hu]; exact hq1, hq2, ?_, ?_⟩
        · rw [met_c eq hq, met_c e hu]; exact hq3
        · rw [left_c eq hq, left_c e hu]; exact hq4
    · have e : u ≠ v := fun e => n2 (e ▸ hu)
      have e2 : u ∉ ch.pts := fun h => n5 u h hu
      rcases ih2 n4 (k + 2 * ch.size + 2) p u hu with ⟨a, b, c⟩ | ⟨q, hq, hq1, hq2, hq3, hq4⟩
      · exact .inl ⟨by simp [Fo.roots, a], by simp [b], by rw [par_r e e2]; exact c⟩
      · have eq : q ≠ v := fun e => n2 (e ▸ hq)
        have eq2 : q ∉ ch.pts := fun h => n5 q h hq
        refine .inr ⟨q, by simp [Fo.pts, hq], by rw [par_r e e2]; exact hq1, hq2, ?_, ?_⟩
        · rw [met_r eq eq2, met_r e e2]; exact hq3
        · rw [left_r eq eq2, left_r e e2]; exact hq4

/-! ### points beside each other are within each other -/
theorem Dfs.back {m : Nat} {R : Nat → List Nat} (hR : Wa.Ok m R) (hs : Wa.Sym m R) {s : List Bool} {ws : List Nat} {F : Fo} {s' : List Bool} (hd : Dfs R s ws F s') :
    s.length = m → (∀ w ∈ ws, w < m) → ∀ (k u w : Nat), u ∈ F.pts → w ∈ F.pts → u ≠ w → w ∈ R u → (met F k u < met F k w ∧ left F k w < left F k u) ∨ (met F k w < met F k u ∧ left F k u < left F k w) := by
  induction hd with
  | nil s => intro _ _ _ u _ hu; simp [Fo.pts] at hu
  | @skip s w ws F s' h h1 ih => exact fun hl hw => ih hl (fun x hx => hw x (by simp [hx]))
  | @go s v ws ch rest s1 s2 h h1 h2 ih1 ih2 =>
    intro hl hw k u x hu hx hne hux
    have hwm : v < s.length := by rw [hl]; exact hw v (by simp)
    have hl1 : (s.set v true).length = m := by simp [hl]
    have q := (Dfs.go h h1 h2).spec hR hl hw
    have q1 := h1.spec hR hl1 (hR v (by omega))
    have q2 := h2.spec hR q1.len (fun y hy => hw y (by simp [hy]))
    obtain ⟨n1, n2, n3, n4, n5⟩ := Fo.nodup_pts.1 q.nodup
    have hum := (q.new u hu).2
    have hxm := (q.new x hx).2
    have hxu : u ∈ R x := hs u x hum hxm hux
    have clash : ∀ y, y ∈ rest.pts → ∀ z, (z = v ∨ z ∈ ch.pts) → y ∈ R z → False := by
      intro y hy z hz hzy
      have h3 := (q2.new y hy).1
      have h4 : s1.getD y false = true := by
        rcases hz with rfl | hz
        · exact q1.all y hzy
        · exact q1.closed z hz y hzy
      rw [h3] at h4
      cases h4
    rcases Fo.mem_pts.1 hu with e0 | hu1 | hu1
    · subst e0
      rcases Fo.mem_pts.1 hx with e1 | hx1 | hx1
      · exact absurd e1.symm hne
      · have tx := times_in (k := k + 1) hx1
        have e : x ≠ u := fun e => hne e.symm
        refine .inl ⟨?_, ?_⟩
        · rw [met_v, met_c e hx1]; omega
        · rw [left_v, left_c e hx1]; omega
      · exact (clash x hx1 u (.inl rfl) hux).elim
    · have e : u ≠ v := fun e => n1 (e ▸ hu1)
      have tu := times_in (k := k + 1) hu1
      rcases Fo.mem_pts.1 hx with e1 | hx1 | hx1
      · subst e1
        refine .inr ⟨?_, ?_⟩
        · rw [met_v, met_c e hu1]; omega
        · rw [left_v, left_c e hu1]; omega
      · have e' : x ≠ v := fun e => n1 (e ▸ hx1)
        rw [met_c e hu1, met_c e' hx1, left_c e hu1, left_c e' hx1]
        exact ih1 hl1 (hR v (by omega)) (k + 1) u x hu1 hx1 hne hux
      · exact (clash x hx1 u (.inr hu1) hux).elim
    · have e : u ≠ v := fun e => n2 (e ▸ hu1)
      have e2 : u ∉ ch.pts := fun h => n5 u h hu1
      rcases Fo.mem_pts.1 hx with e1 | hx1 | hx1
      · exact (clash u hu1 x (.inl e1) hxu).elim
      · exact (clash u hu1 x (.inr hx1) hxu).elim
      · have e' : x ≠ v := fun e => n2 (e ▸ hx1)
        have e2' : x ∉ ch.pts := fun h => n5 x h hx1
        rw [met_r e e2, met_r e' e2', left_r e e2, left_r e' e2']
        exact ih2 q1.len (fun y hy => hw y (by simp [hy])) (k + 2 * ch.size + 2) u x hu1 hx1 hne hux

/-! ### the roots are the least points of those that hang together -/
theorem Dfs.reach {m : Nat} {R : Nat → List Nat} (hR : Wa.Ok m R) {s : List Bool} {ws : List Nat} {F : Fo} {s' : List Bool} (hd : Dfs R s ws F s') : (∀ w ∈ ws, w < m) → ∀ u ∈ F.pts, ∃ w ∈ ws, Wa.rch m R w u = true := by
  induction hd with
  | nil s => intro _ u hu; simp [Fo.pts] at hu
  | @skip s w ws F s' h h1 ih =>
    intro hw u hu
    obtain ⟨x, hx, h2⟩ := ih (fun x hx => hw x (by simp [hx])) u hu
    exact ⟨x, by simp [hx], h2⟩
  | @go s v ws ch rest s1 s2 h h1 h2 ih1 ih2 =>
    intro hw u hu
    have hv : v < m := hw v (by simp)
    rcases Fo.mem_pts.1 hu with rfl | hu | hu
    · exact ⟨u, by simp, Wa.rch_self hR hv⟩
    · obtain ⟨x, hx, h3⟩ := ih1 (hR v hv) u hu
      exact ⟨v, by simp, Wa.rch_trans hR hv (hR v hv x hx) ((Wa.rch_iff hR hv).2 ⟨1, Wa.wk_one hv hx⟩) h3⟩
    · obtain ⟨x, hx, h3⟩ := ih2 (fun x hx => hw x (by simp [hx])) u hu
      exact ⟨x, by simp [hx], h3⟩

/-- a set that is closed holds all that can be reached from it -/
theorem closed_reach {m : Nat} {R : Nat → List Nat} (hR : Wa.Ok m R) {S : Nat → Prop} (hS : ∀ u, u < m → S u → ∀ w ∈ R u, S w) {a b : Nat} (ha : a < m) (h : S a) (hr : Wa.rch m R a b = true) : S b := by
  obtain ⟨k, hk⟩ := (Wa.rch_iff hR ha).1 hr
  clear hr
  induction k generalizing b with
  | zero => rw [Wa.wk_zero] at hk; exact hk ▸ h
  | succ k ih =>
    obtain ⟨c, hc, h1, h2⟩ := Wa.wk_succ.1 hk
    exact hS c hc (ih h1) b h2

theorem Dfs.roots {m : Nat} {R : Nat → List Nat} (hR : Wa.Ok m R) {s : List Bool} {ws : List Nat} {F : Fo} {s' : List Bool} (hd : Dfs R s ws F s') :
    ∀ i, ws = List.range' i (m - i) → s.length = m → i ≤ m → (∀ u, u < m → (s.getD u false = true ↔ ∃ t, t < i ∧ Wa.rch m R t u = true)) → (∀ u, s.getD u false = true → ∀ w ∈ R u, s.getD w false = true) →
      ∀ v, v ∈ F.roots ↔ i ≤ v ∧ v < m ∧ ∀ t, t < v → Wa.rch m R t v = false := by
  induction hd with
  | nil s =>
    intro i hws _ him _ _ v
    have : m - i = 0 := by
      have := congrArg List.length hws
      simpa using this.symm
    simp only [Fo.roots, List.not_mem_nil, false_iff]
    omega
  | @skip s w ws F s' h h1 ih =>
    intro i hws hl him hsn hcl v
    have hpos : 0 < m - i := by
      have := congrArg List.length hws
      simp at this
      omega
    obtain ⟨j, hj⟩ : ∃ j, m - i = j + 1 := ⟨m - i - 1, by omega⟩
    rw [hj, List.range'_succ] at hws
    obtain ⟨rfl, hws2⟩ := List.cons.inj hws
    obtain ⟨t0, ht0, hr0⟩ := (hsn w (by omega)).1 h
    rw [ih (w + 1) (by rw [hws2, show m - (w + 1) = j by omega]) hl (by omega) (fun u hu => ?_) hcl v]
    · constructor
      · rintro ⟨h2, h3, h4⟩
        exact ⟨by omega, h3, h4⟩
      · rintro ⟨h2, h3, h4⟩
        refine ⟨?_, h3, h4⟩
        rcases Nat.lt_or_ge w v with h5 | h5
        · exact h5
        · obtain rfl : v = w := by omega
          rw [h4 t0 ht0] at hr0
          cases hr0
    · rw [hsn u hu]
      constructor
      · rintro ⟨t, h2, h3⟩
        exact ⟨t, by omega, h3⟩
      · rintro ⟨t, h2, h3⟩
        rcases Nat.lt_or_ge t w with h5 | h5
        · exact ⟨t, h5, h3⟩
        · obtain rfl : t = w := by omega
          exact ⟨t0, ht0, Wa.rch_trans hR (by omega) (by omega) hr0 h3⟩
  | @go s w ws ch rest s1 s2 h h1 h2 ih1 ih2 =>
    intro i hws hl him hsn hcl v
    have hpos : 0 < m - i := by
      have := congrArg List.length hws
      simp at this
      omega
    obtain ⟨j, hj⟩ : ∃ j, m - i = j + 1 := ⟨m - i - 1, by omega⟩
    rw [hj, List.range'_succ] at hws
    obtain ⟨rfl, hws2⟩ := List.cons.inj hws
    have hwm : w < s.length := by omega
    have q1 := h1.spec hR (by simp [hl]) (hR w (by omega))
    have hs1 : ∀ u, s1.getD u false = true ↔ u = w ∨ s.getD u false = true ∨ u ∈ ch.pts := fun u => by
      rw [q1.seen, Wa.getD_set s w u hwm]
      simp [or_assoc]
    have hcl1 : ∀ u, s1.getD u false = true → ∀ x ∈ R u, s1.getD x false = true := by
      intro u hu x hx
      rcases (hs1 u).1 hu with rfl | hu | hu
      · exact q1.all x hx
      · exact (hs1 x).2 (.inr (.inl (hcl u hu x hx)))
      · exact q1.closed u hu x hx
    have hno : ∀ t, t < w → Wa.rch m R t w = false := by
      intro t ht
      cases hr : Wa.rch m R t w with
      | false => rfl
      | true =>
        rw [(hsn w (by omega)).2 ⟨t, ht, hr⟩] at h
        cases h
    simp only [Fo.roots, List.mem_cons]
    rw [ih2 (w + 1) (by rw [hws2, show m - (w + 1) = j by omega]) q1.len (by omega) (fun u hu => ?_) hcl1 v]
    · constructor
      · rintro (rfl | ⟨h3, h4, h5⟩)
        · exact ⟨Nat.le_refl _, by omega, hno⟩
        · exact ⟨by omega, h4, h5⟩
      · rintro ⟨h3, h4, h5⟩
        rcases Nat.lt_or_ge w v with h6 | h6
        · exact .inr ⟨h6, h4, h5⟩
        · exact .inl (by omega)
    · constructor
      · intro hu1
        rcases (hs1 u).1 hu1 with rfl | hu1 | hu1
        · exact ⟨u, by omega, Wa.rch_self hR hu⟩
        · obtain ⟨t, h3, h4⟩ := (hsn u hu).1 hu1
          exact ⟨t, by omega, h4⟩
        · obtain ⟨x, hx, h3⟩ := h1.reach hR (hR w (by omega)) u hu1
          exact ⟨w, by omega, Wa.rch_trans hR (by omega) (hR w (by omega) x hx) ((Wa.rch_iff hR (by omega)).2 ⟨1, Wa.wk_one (by omega) hx⟩) h3⟩
      · rintro ⟨t, h3, h4⟩
        rcases Nat.lt_or_ge t w with h5 | h5
        · exact (hs1 u).2 (.inr (.inl ((hsn u hu).2 ⟨t, h5, h4⟩)))
        · obtain rfl : t = w := by omega
          exact closed_reach hR (S := fun u => s1.getD u false = true) (fun u _ hu => hcl1 u hu) (by omega) ((hs1 t).2 (.inl rfl)) h4

end Go.Proofs.YtehkkpkhpbbpnaaDoor.Dp
