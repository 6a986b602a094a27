/-
  Plain facts on searches that go deep, with no program in them: the trees of a search, when each point is met and left and from which, the lowest times that points come back to. No statement of the program is proved here; there is no condition.
  Plain facts on what a search writes down: lists of times, of points, and the lowest times. No statement of the program is proved here; there is no condition.
  Plain facts on a search over all points of a graph: points of one line lie within each other, the roots are the least points of those that hang together. No statement of the program is proved here; there is no condition.
  Plain facts on the lowest times that points come back to: as they are handed up during a search, and as they are asked for afterwards. No statement of the program is proved here; there is no condition.
-/
import Derived.Test.YtjcdnkbandagoaaWalkF
import Derived.Test.YtjcdnkbandagoaaWalkM
set_option linter.unusedSimpArgs false
set_option linter.unusedVariables false
namespace Go.Proofs.Ytjcdnkbandagoaa.Dp

/-- the trees of a search: a point, the trees of those met from it, and the trees behind it -/
inductive Fo where
  | nil : Fo
  | cons : Nat → Fo → Fo → Fo

namespace Fo
def size : Fo → Nat
  | nil => 0
  | cons _ ch rest => ch.size + rest.size + 1
def depth : Fo → Nat
  | nil => 0
  | cons _ ch rest => max (ch.depth + 1) rest.depth
def pts : Fo → List Nat
  | nil => []
  | cons v ch rest => v :: (ch.pts ++ rest.pts)
def roots : Fo → List Nat
  | nil => []
  | cons v _ rest => v :: rest.roots
theorem pts_len : ∀ F : Fo, F.pts.length = F.size
  | nil => rfl
  | cons v ch rest => by simp [pts, size, pts_len ch, pts_len rest]
theorem depth_le : ∀ F : Fo, F.depth ≤ F.size
  | nil => Nat.le_refl _
  | cons v ch rest => by have := depth_le ch; have := depth_le rest; simp only [depth, size]; omega
theorem roots_sub : ∀ {F : Fo} {u : Nat}, u ∈ F.roots → u ∈ F.pts
  | cons v ch rest, u, h => by
    simp only [roots, List.mem_cons] at h
    simp only [pts, List.mem_cons, List.mem_append]
    rcases h with h | h
    · exact .inl h
    · exact .inr (.inr (roots_sub h))
theorem mem_pts {v : Nat} {ch rest : Fo} {u : Nat} : u ∈ (cons v ch rest).pts ↔ u = v ∨ u ∈ ch.pts ∨ u ∈ rest.pts := by simp [pts]
theorem nodup_pts {v : Nat} {ch rest : Fo} : (cons v ch rest).pts.Nodup ↔ v ∉ ch.pts ∧ v ∉ rest.pts ∧ ch.pts.Nodup ∧ rest.pts.Nodup ∧ ∀ u, u ∈ ch.pts → u ∉ rest.pts := by
  simp only [pts, List.nodup_cons, List.mem_append, not_or, List.nodup_append]
  constructor
  · rintro ⟨⟨h1, h2⟩, h3, h4, h5⟩
    exact ⟨h1, h2, h3, h4, fun u hu hr => h5 u hu u hr rfl⟩
  · rintro ⟨h1, h2, h3, h4, h5⟩
    exact ⟨⟨h1, h2⟩, h3, h4, fun u hu w hw e => h5 u hu (e ▸ hw)⟩
end Fo

/-- when a point is met, if the clock stands at k at first -/
def met : Fo → Nat → Nat → Nat
  | .nil, _, _ => 0
  | .cons v ch rest, k, u => if u = v then k else if u ∈ ch.pts then met ch (k + 1) u else met rest (k + 2 * ch.size + 2) u
/-- when it is left -/
def left : Fo → Nat → Nat → Nat
  | .nil, _, _ => 0
  | .cons v ch rest, k, u => if u = v then k + 2 * ch.size + 1 else if u ∈ ch.pts then left ch (k + 1) u else left rest (k + 2 * ch.size + 2) u
/-- from which it is met -/
def par : Fo → Int → Nat → Int
  | .nil, _, _ => -1
  | .cons v ch rest, p, u => if u = v then p else if u ∈ ch.pts then par ch (v : Int) u else par rest p u

theorem met_v {v : Nat} {ch rest : Fo} {k : Nat} : met (.cons v ch rest) k v = k := by simp [met]
theorem met_c {v : Nat} {ch rest : Fo} {k u : Nat} (e : u ≠ v) (h : u ∈ ch.pts) : met (.cons v ch rest) k u = met ch (k + 1) u := by simp [met, e, h]
theorem met_r {v : Nat} {ch rest : Fo} {k u : Nat} (e : u ≠ v) (h : u ∉ ch.pts) : met (.cons v ch rest) k u = met rest (k + 2 * ch.size + 2) u := by simp [met, e, h]
theorem left_v {v : Nat} {ch rest : Fo} {k : Nat} : left (.cons v ch rest) k v = k + 2 * ch.size + 1 := by simp [left]
theorem left_c {v : Nat} {ch rest : Fo} {k u : Nat} (e : u ≠ v) (h : u ∈ ch.pts) : left (.cons v ch rest) k u = left ch (k + 1) u := by simp [left, e, h]
theorem left_r {v : Nat} {ch rest : Fo} {k u : Nat} (e : u ≠ v) (h : u ∉ ch.pts) : left (.cons v ch rest) k u = left rest (k + 2 * ch.size + 2) u := by simp [left, e, h]
theorem par_v {v : Nat} {ch rest : Fo} {p : Int} : par (.cons v ch rest) p v = p := by simp [par]
theorem par_c {v : Nat} {ch rest : Fo} {p : Int} {u : Nat} (e : u ≠ v) (h : u ∈ ch.pts) : par (.cons v ch rest) p u = par ch (v : Int) u := by simp [par, e, h]
theorem par_r {v : Nat} {ch rest : Fo} {p : Int} {u : Nat} (e : u ≠ v) (h : u ∉ ch.pts) : par (.cons v ch rest) p u = par rest p u := by simp [par, e, h]

/-- a step of the search: the clock, the point, from which it was met, is it left? -/
structure Stp where
  k : Nat
  v : Nat
  p : Int
  fin : Bool
/-- all steps -/
def emit : Nat → Fo → Int → List Stp
  | _, .nil, _ => []
  | k, .cons v ch rest, p => ⟨k, v, p, false⟩ :: (emit (k + 1) ch (v : Int) ++ ⟨k + 2 * ch.size + 1, v, p, true⟩ :: emit (k + 2 * ch.size + 2) rest p)
theorem emit_len : ∀ (k : Nat) (F : Fo) (p : Int), (emit k F p).length = 2 * F.size
  | _, .nil, _ => rfl
  | k, .cons v ch rest, p => by simp only [emit, List.length_cons, List.length_append, emit_len, Fo.size]; omega

/-- the search itself: which points have been met, the points that are looked at in turn, the trees, which have been met then -/
inductive Dfs (R : Nat → List Nat) : List Bool → List Nat → Fo → List Bool → Prop
  | nil (s : List Bool) : Dfs R s [] .nil s
  | skip {s : List Bool} {w : Nat} {ws : List Nat} {F : Fo} {s' : List Bool} (h : s.getD w false = true) (h1 : Dfs R s ws F s') : Dfs R s (w :: ws) F s'
  | go {s : List Bool} {w : Nat} {ws : List Nat} {ch rest : Fo} {s1 s2 : List Bool} (h : s.getD w false = false) (h1 : Dfs R (s.set w true) (R w) ch s1) (h2 : Dfs R s1 ws rest s2) : Dfs R s (w :: ws) (.cons w ch rest) s2

theorem Dfs.hit {R : Nat → List Nat} {s : List Bool} {w : Nat} {ws : List Nat} {F : Fo} {s' : List Bool} (hd : Dfs R s (w :: ws) F s') (h : s.getD w false = true) : Dfs R s ws F s' := by
  cases hd with
  | skip _ h1 => exact h1
  | go h0 _ _ => rw [h] at h0; cases h0
theorem Dfs.miss {R : Nat → List Nat} {s : List Bool} {w : Nat} {ws : List Nat} {F : Fo} {s' : List Bool} (hd : Dfs R s (w :: ws) F s') (h : s.getD w false = false) : ∃ ch rest s1, F = .cons w ch rest ∧ Dfs R (s.set w true) (R w) ch s1 ∧ Dfs R s1 ws rest s' := by
  cases hd with
  | skip h0 _ => rw [h] at h0; cases h0
  | go h0 h1 h2 => exact ⟨_, _, _, rfl, h1, h2⟩
theorem Dfs.done {R : Nat → List Nat} {s : List Bool} {F : Fo} {s' : List Bool} (hd : Dfs R s [] F s') : F = .nil ∧ s' = s := by
  cases hd
  exact ⟨rfl, rfl⟩

theorem Dfs.exist {m : Nat} {R : Nat → List Nat} (hR : Wa.Ok m R) : ∀ (c : Nat) (ws : List Nat) (s : List Bool), s.length = m → s.count false ≤ c → (∀ w ∈ ws, w < m) → ∃ F s', Dfs R s ws F s' ∧ s'.length = m ∧ s'.count false ≤ s.count false
  | c, [], s, hl, _, _ => ⟨_, _, .nil s, hl, Nat.le_refl _⟩
  | c, w :: ws, s, hl, hc, hw => by
    cases h : s.getD w false with
    | true =>
      obtain ⟨F, s', hd, h1, h2⟩ := Dfs.exist hR c ws s hl hc (fun x hx => hw x (by simp [hx]))
      exact ⟨F, s', .skip h hd, h1, h2⟩
    | false =>
      have hwm : w < s.length := by rw [hl]; exact hw w (by simp)
      have hget : s[w] = false := by simpa [List.getD, hwm] using h
      have hcs : (s.set w true).count false = s.count false - 1 := by rw [List.count_set hwm]; simp [hget]
      have hpos : 0 < s.count false := List.count_pos_iff.2 (by rw [← hget]; exact List.getElem_mem hwm)
      match c, hc with
      | 0, hc => omega
      | c + 1, hc =>
        obtain ⟨ch, s1, hd1, h1, h2⟩ := Dfs.exist hR c (R w) (s.set w true) (by simp [hl]) (by omega) (hR w (by omega))
        obtain ⟨F, s2, hd2, h3, h4⟩ := Dfs.exist hR (c + 1) ws s1 h1 (by omega) (fun x hx => hw x (by simp [hx]))
        exact ⟨_, s2, .go h hd1 hd2, h3, by omega⟩
  termination_by c ws => (c, ws.length)

/-- what a search leaves behind -/
structure Dfs.Spec (m : Nat) (R : Nat → List Nat) (s : List Bool) (ws : List Nat) (F : Fo) (s' : List Bool) : Prop where
  len : s'.length = m
  seen : ∀ u, s'.getD u false = true ↔ s.getD u false = true ∨ u ∈ F.pts
  new : ∀ u ∈ F.pts, s.getD u false = false ∧ u < m
  nodup : F.pts.Nodup
  all : ∀ w ∈ ws, s'.getD w false = true
  closed : ∀ u ∈ F.pts, ∀ w ∈ R u, s'.getD w false = true

theorem Dfs.spec {m : Nat} {R : Nat → List Nat} (hR : Wa.Ok m R) {s : List Bool} {ws : List Nat} {F : Fo} {s' : List Bool} (hd : Dfs R s ws F s') : s.length = m → (∀ w ∈ ws, w < m) → Dfs.Spec m R s ws F s' := by
  induction hd with
  | nil s => exact fun hl _ => ⟨hl, by simp [Fo.pts], by simp [Fo.pts], by simp [Fo.pts], by simp, by simp [Fo.pts]⟩
  | @skip s w ws F s' h h1 ih =>
    intro hl hw
    have q := ih hl (fun x hx => hw x (by simp [hx]))
    refine ⟨q.len, q.seen, q.new, q.nodup, fun x hx => ?_, q.closed⟩
    rcases List.mem_cons.1 hx with rfl | hx
    · exact (q.seen x).2 (.inl h)
    · exact q.all x hx
  | @go s w ws ch rest s1 s2 h h1 h2 ih1 ih2 =>
    intro hl hw
    have hwm : w < s.length := by rw [hl]; exact hw w (by simp)
    have q1 := ih1 (by simp [hl]) (hR w (by omega))
    have q2 := ih2 q1.len (fun x hx => hw x (by simp [hx]))
    have hs1 : ∀ u, s1.getD u false = true ↔ u = w ∨ s.getD u false = true ∨ u ∈ ch.pts := fun u => by
      rw [q1.seen, Wa.getD_set s w u hwm]
      simp [or_assoc]
    have hw1 : s1.getD w false = true := (hs1 w).2 (.inl rfl)
    have hch : ∀ u ∈ ch.pts, u ≠ w ∧ s.getD u false = false ∧ u < m := fun u hu => by
      have := q1.new u hu
      rw [Wa.getD_set s w u hwm] at this
      simp only [Bool.or_eq_false_iff, decide_eq_false_iff_not] at this
      exact ⟨this.1.1, this.1.2, this.2⟩
    have hre : ∀ u ∈ rest.pts, u ≠ w ∧ s.getD u false = false ∧ u < m ∧ u ∉ ch.pts := fun u hu => by
      have := q2.new u hu
      have hn : ¬ s1.getD u false = true := by rw [this.1]; simp
      rw [hs1] at hn
      simp only [not_or] at hn
      exact ⟨hn.1, by simpa using hn.2.1, this.2, hn.2.2⟩
    refine ⟨q2.len, fun u => ?_, fun u hu => ?_, ?_, fun x hx => ?_, fun u hu x hx => ?_⟩
    · rw [q2.seen, hs1, Fo.mem_pts]
      constructor
      · rintro ((h | h | h) | h)
        · exact .inr (.inl h)
        · exact .inl h
        · exact .inr (.inr (.inl h))
        · exact .inr (.inr (.inr h))
      · rintro (h | h | h | h)
        · exact .inl (.inr (.inl h))
        · exact .inl (.inl h)
        · exact .inl (.inr (.inr h))
        · exact .inr h
    · rcases Fo.mem_pts.1 hu with rfl | hu | hu
      · exact ⟨h, by omega⟩
      · exact ⟨(hch u hu).2.1, (hch u hu).2.2⟩
      · exact ⟨(hre u hu).2.1, (hre u hu).2.2.1⟩
    · exact Fo.nodup_pts.2 ⟨fun hx => (hch _ hx).1 rfl, fun hx => (hre _ hx).1 rfl, q1.nodup, q2.nodup, fun u hu hr => (hre u hr).2.2.2 hu⟩
    · rcases List.mem_cons.1 hx with rfl | hx
      · exact (q2.seen x).2 (.inl hw1)
      · exact q2.all x hx
    · rcases Fo.mem_pts.1 hu with rfl | hu | hu
      · exact (q2.seen x).2 (.inl (q1.all x hx))
      · exact (q2.seen x).2 (.inl (q1.closed u hu x hx))
      · exact q2.closed u hu x hx

/-! ### the search over all points -/
/-- F are the trees of the search over all points -/
def Whole (m : Nat) (R : Nat → List Nat) (F : Fo) : Prop := ∃ s', Dfs R (List.replicate m false) (List.range m) F s'
theorem whole_exist {m : Nat} {R : Nat → List Nat} (hR : Wa.Ok m R) : ∃ F, Whole m R F := by
  obtain ⟨F, s', h, _⟩ := Dfs.exist hR _ (List.range m) (List.replicate m false) (by simp) (Nat.le_refl _) (by simp)
  exact ⟨F, s', h⟩
theorem Whole.spec {m : Nat} {R : Nat → List Nat} (hR : Wa.Ok m R) {F : Fo} (h : Whole m R F) : (∀ u, u ∈ F.pts ↔ u < m) ∧ F.pts.Nodup := by
  obtain ⟨s', h⟩ := h
  have q := h.spec hR (by simp) (by simp)
  refine ⟨fun u => ⟨fun hu => (q.new u hu).2, fun hu => ?_⟩, q.nodup⟩
  rcases (q.seen u).1 (q.all u (by simpa using hu)) with h1 | h1
  · simp [List.getD, List.getElem?_replicate] at h1
    split at h1 <;> simp_all
  · exact h1
theorem Whole.size {m : Nat} {R : Nat → List Nat} (hR : Wa.Ok m R) {F : Fo} (h : Whole m R F) : F.size = m := by
  have hq := h.spec hR
  have hp : F.pts.Perm (List.range m) := (List.perm_ext_iff_of_nodup hq.2 List.nodup_range).2 (fun a => by rw [hq.1]; simp)
  rw [← Fo.pts_len, hp.length_eq, List.length_range]

/-! ### times -/
theorem times_in : ∀ {F : Fo} {k u : Nat}, u ∈ F.pts → k ≤ met F k u ∧ met F k u < left F k u ∧ left F k u < k + 2 * F.size
  | .cons v ch rest, k, u, h => by
    simp only [met, left, Fo.size]
    by_cases h1 : u = v
    · rw [if_pos h1, if_pos h1]; omega
    · rw [if_neg h1, if_neg h1]
      by_cases h2 : u ∈ ch.pts
      · rw [if_pos h2, if_pos h2]
        have := times_in (k := k + 1) h2
        omega
      · rw [if_neg h2, if_neg h2]
        have := times_in (F := rest) (k := k + 2 * ch.size + 2) ((Fo.mem_pts.1 h).elim (fun h => absurd h h1) (fun h => h.elim (fun h => absurd h h2) id))
        omega
/-- two points: apart, or the one within the other one -/
def Part (a b a' b' : Nat) : Prop := b < a' ∨ b' < a ∨ (a < a' ∧ b' < b) ∨ (a' < a ∧ b < b')
theorem times_part : ∀ {F : Fo} {k u w : Nat}, F.pts.Nodup → u ∈ F.pts → w ∈ F.pts → u ≠ w → Part (met F k u) (left F k u) (met F k w) (left F k w)
  | .cons v ch rest, k, u, w, hn, hu, hw, hne => by
    obtain ⟨n1, n2, n3, n4, n5⟩ := Fo.nodup_pts.1 hn
    have side : ∀ x, x ∈ (Fo.cons v ch rest).pts →
        (x = v ∧ met (.cons v ch rest) k x = k ∧ left (.cons v ch rest) k x = k + 2 * ch.size + 1) ∨
        (x ∈ ch.pts ∧ met (.cons v ch rest) k x = met ch (k + 1) x ∧ left (.cons v ch rest) k x = left ch (k + 1) x ∧ k + 1 ≤ met ch (k + 1) x ∧ left ch (k + 1) x < k + 1 + 2 * ch.size) ∨
        (x ∈ rest.pts ∧ met (.cons v ch rest) k x = met rest (k + 2 * ch.size + 2) x ∧ left (.cons v ch rest) k x = left rest (k + 2 * ch.size + 2) x ∧ k + 2 * ch.size + 2 ≤ met rest (k + 2 * ch.size + 2) x) := by
      intro x hx
      rcases Fo.mem_pts.1 hx with rfl | hx | hx
      · exact .inl ⟨rfl, by simp [met], by simp [left]⟩
      · have e : x ≠ v := fun e => n1 (e ▸ hx)
        have := times_in (k := k + 1) hx
        exact .inr (.inl ⟨hx, by simp [met, e, hx], by simp [left, e, hx], this.1, this.2.2⟩)
      · have e : x ≠ v := fun e => n2 (e ▸ hx)
        have e2 : x ∉ ch.pts := fun h => n5 x h hx
        have := times_in (k := k + 2 * ch.size + 2) hx
        exact .inr (.inr ⟨hx, by simp [met, e, e2], by simp [left, e, e2], this.1⟩)
    have lu := times_in (k := k) hu
    have lw := times_in (k := k) hw
    unfold Part
    rcases side u hu with ⟨a1, a2, a3⟩ | ⟨a1, a2, a3, a4, a5⟩ | ⟨a1, a2, a3, a4⟩ <;> rcases side w hw with ⟨b1, b2, b3⟩ | ⟨b1, b2, b3, b4, b5⟩ | ⟨b1, b2, b3, b4⟩
    · exact absurd (a1.trans b1.symm) hne
    · omega
    · omega
    · omega
    · have := times_part (k := k + 1) n3 a1 b1 hne
      unfold Part at this
      omega
    · omega
    · omega
    · omega
    · have := times_part (k := k + 2 * ch.size + 2) n4 a1 b1 hne
      unfold Part at this
      omega

/-! ### from which -/
theorem par_root : ∀ {F : Fo} {p : Int} {u : Nat}, F.pts.Nodup → (∀ x ∈ F.pts, (x : Int) ≠ p) → u ∈ F.pts → (par F p u = p ↔ u ∈ F.roots)
  | .cons v ch rest, p, u, hn, hp, hu => by
    obtain ⟨n1, n2, n3, n4, n5⟩ := Fo.nodup_pts.1 hn
    simp only [par, Fo.roots, List.mem_cons]
    rcases Fo.mem_pts.1 hu with rfl | hu | hu
    · simp
    · have e : u ≠ v := fun e => n1 (e ▸ hu)
      have e2 : u ∉ rest.roots := fun h => n5 u hu (Fo.roots_sub h)
      rw [if_neg e, if_pos hu]
      have hv : par ch (v : Int) u ≠ p := by
        intro hx
        have hex : par ch (v : Int) u = (v : Int) ∨ ∃ q ∈ ch.pts, par ch (v : Int) u = (q : Int) := par_in hu
        rcases hex with h | ⟨q, hq, h⟩
        · exact hp v (by simp [Fo.pts]) (h.symm.trans hx)
        · exact hp q (by simp [Fo.pts, hq]) (h.symm.trans hx)
      simp [e, e2, hv]
    · have e : u ≠ v := fun e => n2 (e ▸ hu)
      have e2 : u ∉ ch.pts := fun h => n5 u h hu
      rw [if_neg e, if_neg e2]
      rw [par_root n4 (fun x hx => hp x (Fo.mem_pts.2 (.inr (.inr hx)))) hu]
      simp [e]
where
  par_in : ∀ {F : Fo} {p : Int} {u : Nat}, u ∈ F.pts → par F p u = p ∨ ∃ q ∈ F.pts, par F p u = (q : Int)
  | .cons v ch rest, p, u, hu => by
    simp only [par]
    by_cases h1 : u = v
    · exact .inl (by rw [if_pos h1])
    · rw [if_neg h1]
      by_cases h2 : u ∈ ch.pts
      · rw [if_pos h2]
        rcases par_in (F := ch) (p := (v : Int)) h2 with h | ⟨q, hq, h⟩
        · exact .inr ⟨v, by simp [Fo.pts], h⟩
        · exact .inr ⟨q, by simp [Fo.pts, hq], h⟩
      · rw [if_neg h2]
        rcases par_in (F := rest) (p := p) ((Fo.mem_pts.1 hu).elim (fun h => absurd h h1) (fun h => h.elim (fun h => absurd h h2) id)) with h | ⟨q, hq, h⟩
        · exact .inl h
        · exact .inr ⟨q, by simp [Fo.pts, hq], h⟩

/-- each point is met from none of these trees, or from a point that it is beside, and within that one's time -/
theorem Dfs.par_of {R : Nat → List Nat} {s : List Bool} {ws : List Nat} {F : Fo} {s' : List Bool} (hd : Dfs R s ws F s') :
    F.pts.Nodup → ∀ (k : Nat) (p : Int) (u : Nat), u ∈ F.pts → (u ∈ F.roots ∧ u ∈ ws ∧ par F p u = p) ∨ ∃ q, q ∈ F.pts ∧ par F p u = (q : Int) ∧ u ∈ R q ∧ met F k q < met F k u ∧ left F k u < left F k q := by
  induction hd with
  | nil s => intro _ _ _ u hu; simp [Fo.pts] at hu
  | @skip s w ws F s' h h1 ih =>
    intro hn k p u hu
    rcases ih hn k p u hu with ⟨a, b, c⟩ | h
    · exact .inl ⟨a, by simp [b], c⟩
    · exact .inr h
  | @go s v ws ch rest s1 s2 h h1 h2 ih1 ih2 =>
    intro hn k p u hu0
    obtain ⟨n1, n2, n3, n4, n5⟩ := Fo.nodup_pts.1 hn
    rcases Fo.mem_pts.1 hu0 with e0 | hu | hu
    · subst e0
      exact .inl ⟨by simp [Fo.roots], by simp, par_v⟩
    · have e : u ≠ v := fun e => n1 (e ▸ hu)
      have tu := times_in (k := k + 1) hu
      refine .inr ?_
      rcases ih1 n3 (k + 1) (v : Int) u hu with ⟨a, b, c⟩ | ⟨q, hq, hq1, hq2, hq3, hq4⟩
      · refine ⟨v, by simp [Fo.pts], by rw [par_c e hu]; exact c, b, ?_, ?_⟩
        · rw [met_v, met_c e hu]; omega
        · rw [left_v, left_c e hu]; omega
      · have eq : q ≠ v := fun e => n1 (e ▸ hq)
        refine ⟨q, by simp [Fo.pts, hq], by rw [par_c e hu]; exact hq1, hq2, ?_, ?_⟩
        · rw [met_c eq hq, met_c e hu]; exact hq3
        · rw [left_c eq hq, left_c e hu]; exact hq4
    · have e : u ≠ v := fun e => n2 (e ▸ hu)
      have e2 : u ∉ ch.pts := fun h => n5 u h hu
      rcases ih2 n4 (k + 2 * ch.size + 2) p u hu with ⟨a, b, c⟩ | ⟨q, hq, hq1, hq2, hq3, hq4⟩
      · exact .inl ⟨by simp [Fo.roots, a], by simp [b], by rw [par_r e e2]; exact c⟩
      · have eq : q ≠ v := fun e => n2 (e ▸ hq)
        have eq2 : q ∉ ch.pts := fun h => n5 q h hq
        refine .inr ⟨q, by simp [Fo.pts, hq], by rw [par_r e e2]; exact hq1, hq2, ?_, ?_⟩
        · rw [met_r eq eq2, met_r e e2]; exact hq3
        · rw [left_r eq eq2, left_r e e2]; exact hq4

/-! ### points beside each other are within each other -/
theorem Dfs.back {m : Nat} {R : Nat → List Nat} (hR : Wa.Ok m R) (hs : Wa.Sym m R) {s : List Bool} {ws : List Nat} {F : Fo} {s' : List Bool} (hd : Dfs R s ws F s') :
    s.length = m → (∀ w ∈ ws, w < m) → ∀ (k u w : Nat), u ∈ F.pts → w ∈ F.pts → u ≠ w → w ∈ R u → (met F k u < met F k w ∧ left F k w < left F k u) ∨ (met F k w < met F k u ∧ left F k u < left F k w) := by
  induction hd with
  | nil s => intro _ _ _ u _ hu; simp [Fo.pts] at hu
  | @skip s w ws F s' h h1 ih => exact fun hl hw => ih hl (fun x hx => hw x (by simp [hx]))
  | @go s v ws ch rest s1 s2 h h1 h2 ih1 ih2 =>
    intro hl hw k u x hu hx hne hux
    have hwm : v < s.length := by rw [hl]; exact hw v (by simp)
    have hl1 : (s.set v true).length = m := by simp [hl]
    have q := (Dfs.go h h1 h2).spec hR hl hw
    have q1 := h1.spec hR hl1 (hR v (by omega))
    have q2 := h2.spec hR q1.len (fun y hy => hw y (by simp [hy]))
    obtain ⟨n1, n2, n3, n4, n5⟩ := Fo.nodup_pts.1 q.nodup
    have hum := (q.new u hu).2
    have hxm := (q.new x hx).2
    have hxu : u ∈ R x := hs u x hum hxm hux
    have clash : ∀ y, y ∈ rest.pts → ∀ z, (z = v ∨ z ∈ ch.pts) → y ∈ R z → False := by
      intro y hy z hz hzy
      have h3 := (q2.new y hy).1
      have h4 : s1.getD y false = true := by
        rcases hz with rfl | hz
        · exact q1.all y hzy
        · exact q1.closed z hz y hzy
      rw [h3] at h4
      cases h4
    rcases Fo.mem_pts.1 hu with e0 | hu1 | hu1
    · subst e0
      rcases Fo.mem_pts.1 hx with e1 | hx1 | hx1
      · exact absurd e1.symm hne
      · have tx := times_in (k := k + 1) hx1
        have e : x ≠ u := fun e => hne e.symm
        refine .inl ⟨?_, ?_⟩
        · rw [met_v, met_c e hx1]; omega
        · rw [left_v, left_c e hx1]; omega
      · exact (clash x hx1 u (.inl rfl) hux).elim
    · have e : u ≠ v := fun e => n1 (e ▸ hu1)
      have tu := times_in (k := k + 1) hu1
      rcases Fo.mem_pts.1 hx with e1 | hx1 | hx1
      · subst e1
        refine .inr ⟨?_, ?_⟩
        · rw [met_v, met_c e hu1]; omega
        · rw [left_v, left_c e hu1]; omega
      · have e' : x ≠ v := fun e => n1 (e ▸ hx1)
        rw [met_c e hu1, met_c e' hx1, left_c e hu1, left_c e' hx1]
        exact ih1 hl1 (hR v (by omega)) (k + 1) u x hu1 hx1 hne hux
      · exact (clash x hx1 u (.inr hu1) hux).elim
    · have e : u ≠ v := fun e => n2 (e ▸ hu1)
      have e2 : u ∉ ch.pts := fun h => n5 u h hu1
      rcases Fo.mem_pts.1 hx with e1 | hx1 | hx1
      · exact (clash u hu1 x (.inl e1) hxu).elim
      · exact (clash u hu1 x (.inr hx1) hxu).elim
      · have e' : x ≠ v := fun e => n2 (e ▸ hx1)
        have e2' : x ∉ ch.pts := fun h => n5 x h hx1
        rw [met_r e e2, met_r e' e2', left_r e e2, left_r e' e2']
        exact ih2 q1.len (fun y hy => hw y (by simp [hy])) (k + 2 * ch.size + 2) u x hu1 hx1 hne hux

/-! ### the roots are the least points of those that hang together -/
theorem Dfs.reach {m : Nat} {R : Nat → List Nat} (hR : Wa.Ok m R) {s : List Bool} {ws : List Nat} {F : Fo} {s' : List Bool} (hd : Dfs R s ws F s') : (∀ w ∈ ws, w < m) → ∀ u ∈ F.pts, ∃ w ∈ ws, Wa.rch m R w u = true := by
  induction hd with
  | nil s => intro _ u hu; simp [Fo.pts] at hu
  | @skip s w ws F s' h h1 ih =>
    intro hw u hu
    obtain ⟨x, hx, h2⟩ := ih (fun x hx => hw x (by simp [hx])) u hu
    exact ⟨x, by simp [hx], h2⟩
  | @go s v ws ch rest s1 s2 h h1 h2 ih1 ih2 =>
    intro hw u hu
    have hv : v < m := hw v (by simp)
    rcases Fo.mem_pts.1 hu with rfl | hu | hu
    · exact ⟨u, by simp, Wa.rch_self hR hv⟩
    · obtain ⟨x, hx, h3⟩ := ih1 (hR v hv) u hu
      exact ⟨v, by simp, Wa.rch_trans hR hv (hR v hv x hx) ((Wa.rch_iff hR hv).2 ⟨1, Wa.wk_one hv hx⟩) h3⟩
    · obtain ⟨x, hx, h3⟩ := ih2 (fun x hx => hw x (by simp [hx])) u hu
      exact ⟨x, by simp [hx], h3⟩

/-- a set that is closed holds all that can be reached from it -/
theorem closed_reach {m : Nat} {R : Nat → List Nat} (hR : Wa.Ok m R) {S : Nat → Prop} (hS : ∀ u, u < m → S u → ∀ w ∈ R u, S w) {a b : Nat} (ha : a < m) (h : S a) (hr : Wa.rch m R a b = true) : S b := by
  obtain ⟨k, hk⟩ := (Wa.rch_iff hR ha).1 hr
  clear hr
  induction k generalizing b with
  | zero => rw [Wa.wk_zero] at hk; exact hk ▸ h
  | succ k ih =>
    obtain ⟨c, hc, h1, h2⟩ := Wa.wk_succ.1 hk
    exact hS c hc (ih h1) b h2

theorem Dfs.roots {m : Nat} {R : Nat → List Nat} (hR : Wa.Ok m R) {s : List Bool} {ws : List Nat} {F : Fo} {s' : List Bool} (hd : Dfs R s ws F s') :
    ∀ i, ws = List.range' i (m - i) → s.length = m → i ≤ m → (∀ u, u < m → (s.getD u false = true ↔ ∃ t, t < i ∧ Wa.rch m R t u = true)) → (∀ u, s.getD u false = true → ∀ w ∈ R u, s.getD w false = true) →
      ∀ v, v ∈ F.roots ↔ i ≤ v ∧ v < m ∧ ∀ t, t < v → Wa.rch m R t v = false := by
  induction hd with
  | nil s =>
    intro i hws _ him _ _ v
    have : m - i = 0 := by
      have := congrArg List.length hws
      simpa using this.symm
    simp only [Fo.roots, List.not_mem_nil, false_iff]
    omega
  | @skip s w ws F s' h h1 ih =>
    intro i hws hl him hsn hcl v
    have hpos : 0 < m - i := by
      have := congrArg List.length hws
      simp at this
      omega
    obtain ⟨j, hj⟩ : ∃ j, m - i = j + 1 := ⟨m - i - 1, by omega⟩
    rw [hj, List.range'_succ] at hws
    obtain ⟨rfl, hws2⟩ := List.cons.inj hws
    obtain ⟨t0, ht0, hr0⟩ := (hsn w (by omega)).1 h
    rw [ih (w + 1) (by rw [hws2, show m - (w + 1) = j by omega]) hl (by omega) (fun u hu => ?_) hcl v]
    · constructor
      · rintro ⟨h2, h3, h4⟩
        exact ⟨by omega, h3, h4⟩
      · rintro ⟨h2, h3, h4⟩
        refine ⟨?_, h3, h4⟩
        rcases Nat.lt_or_ge w v with h5 | h5
        · exact h5
        · obtain rfl : v = w := by omega
          rw [h4 t0 ht0] at hr0
          cases hr0
    · rw [hsn u hu]
      constructor
      · rintro ⟨t, h2, h3⟩
        exact ⟨t, by omega, h3⟩
      · rintro ⟨t, h2, h3⟩
        rcases Nat.lt_or_ge t w with h5 | h5
        · exact ⟨t, h5, h3⟩
        · obtain rfl : t = w := by omega
          exact ⟨t0, ht0, Wa.rch_trans hR (by omega) (by omega) hr0 h3⟩
  | @go s w ws ch rest s1 s2 h h1 h2 ih1 ih2 =>
    intro i hws hl him hsn hcl v
    have hpos : 0 < m - i := by
      have := congrArg List.length hws
      simp at this
      omega
    obtain ⟨j, hj⟩ : ∃ j, m - i = j + 1 := ⟨m - i - 1, by omega⟩
    rw [hj, List.range'_succ] at hws
    obtain ⟨rfl, hws2⟩ := List.cons.inj hws
    have hwm : w < s.length := by omega
    have q1 := h1.spec hR (by simp [hl]) (hR w (by omega))
    have hs1 : ∀ u, s1.getD u false = true ↔ u = w ∨ s.getD u false = true ∨ u ∈ ch.pts := fun u => by
      rw [q1.seen, Wa.getD_set s w u hwm]
      simp [or_assoc]
    have hcl1 : ∀ u, s1.getD u false = true → ∀ x ∈ R u, s1.getD x false = true := by
      intro u hu x hx
      rcases (hs1 u).1 hu with rfl | hu | hu
      · exact q1.all x hx
      · exact (hs1 x).2 (.inr (.inl (hcl u hu x hx)))
      · exact q1.closed u hu x hx
    have hno : ∀ t, t < w → Wa.rch m R t w = false := by
      intro t ht
      cases hr : Wa.rch m R t w with
      | false => rfl
      | true =>
        rw [(hsn w (by omega)).2 ⟨t, ht, hr⟩] at h
        cases h
    simp only [Fo.roots, List.mem_cons]
    rw [ih2 (w + 1) (by rw [hws2, show m - (w + 1) = j by omega]) q1.len (by omega) (fun u hu => ?_) hcl1 v]
    · constructor
      · rintro (rfl | ⟨h3, h4, h5⟩)
        · exact ⟨Nat.le_refl _, by omega, hno⟩
        · exact ⟨by omega, h4, h5⟩
      · rintro ⟨h3, h4, h5⟩
        rcases Nat.lt_or_ge w v with h6 | h6
        · exact .inr ⟨h6, h4, h5⟩
        · exact .inl (by omega)
    · constructor
      · intro hu1
        rcases (hs1 u).1 hu1 with rfl | hu1 | hu1
        · exact ⟨u, by omega, Wa.rch_self hR hu⟩
        · obtain ⟨t, h3, h4⟩ := (hsn u hu).1 hu1
          exact ⟨t, by omega, h4⟩
        · obtain ⟨x, hx, h3⟩ := h1.reach hR (hR w (by omega)) u hu1
          exact ⟨w, by omega, Wa.rch_trans hR (by omega) (hR w (by omega) x hx) ((Wa.rch_iff hR (by omega)).2 ⟨1, Wa.wk_one (by omega) hx⟩) h3⟩
      · rintro ⟨t, h3, h4⟩
        rcases Nat.lt_or_ge t w with h5 | h5
        · exact (hs1 u).2 (.inr (.inl ((hsn u hu).2 ⟨t, h5, h4⟩)))
        · obtain rfl : t = w := by omega
          exact closed_reach hR (S := fun u => s1.getD u false = true) (fun u _ hu => hcl1 u hu) (by omega) ((hs1 t).2 (.inl rfl)) h4

end Go.Proofs.Ytjcdnkbandagoaa.Dp

set_option linter.unusedSimpArgs false
set_option linter.unusedVariables false
namespace Go.Proofs.Ytjcdnkbandagoaa.Dp

/-- lists of equal length that agree everywhere -/
theorem eq_getD {a b : List Int} (h : a.length = b.length) (hg : ∀ i, i < a.length → a.getD i 0 = b.getD i 0) : a = b := by
  refine List.ext_getElem h (fun i h1 h2 => ?_)
  have := hg i h1
  simpa [List.getD, h1, h2] using this
theorem getD_setI (l : List Int) (w v : Nat) (x : Int) (hw : w < l.length) : (l.set w x).getD v 0 = if v = w then x else l.getD v 0 := by
  by_cases h : v = w
  · subst h; simp [List.getD, hw]
  · have : w ≠ v := fun e => h e.symm
    simp [List.getD, List.getElem?_set, this, h]

/-- three lists: when met, when left, from which -/
structure Dt where
  met : List Int
  left : List Int
  par : List Int
def lay1 (d : Dt) (x : Stp) : Dt := if x.fin then { d with left := d.left.set x.v (x.k : Int) } else { d with met := d.met.set x.v (x.k : Int), par := d.par.set x.v x.p }
def lay (d : Dt) (l : List Stp) : Dt := l.foldl lay1 d
theorem lay_snoc (d : Dt) (l : List Stp) (x : Stp) : lay d (l ++ [x]) = lay1 (lay d l) x := by simp [lay]
theorem lay_append (d : Dt) (l l' : List Stp) : lay d (l ++ l') = lay (lay d l) l' := by simp [lay]
theorem lay_cons (d : Dt) (x : Stp) (l : List Stp) : lay d (x :: l) = lay (lay1 d x) l := rfl
/-- all three lists are m long -/
def Dt.Len (m : Nat) (d : Dt) : Prop := d.met.length = m ∧ d.left.length = m ∧ d.par.length = m
theorem lay1_len {m : Nat} {d : Dt} (h : d.Len m) (x : Stp) : (lay1 d x).Len m := by
  obtain ⟨h1, h2, h3⟩ := h
  unfold lay1
  split
  · exact ⟨h1, by simp [h2], h3⟩
  · exact ⟨by simp [h1], h2, by simp [h3]⟩
theorem lay_len {m : Nat} {d : Dt} (h : d.Len m) (l : List Stp) : (lay d l).Len m := by
  induction l generalizing d with
  | nil => exact h
  | cons x l ih => exact ih (lay1_len h x)

theorem lay_emit {m : Nat} : ∀ (F : Fo) (k : Nat) (p : Int) (d : Dt), d.Len m → F.pts.Nodup → (∀ u ∈ F.pts, u < m) → ∀ u,
    (lay d (emit k F p)).met.getD u 0 = (if u ∈ F.pts then ((met F k u : Nat) : Int) else d.met.getD u 0) ∧
    (lay d (emit k F p)).left.getD u 0 = (if u ∈ F.pts then ((left F k u : Nat) : Int) else d.left.getD u 0) ∧
    (lay d (emit k F p)).par.getD u 0 = (if u ∈ F.pts then par F p u else d.par.getD u 0)
  | .nil, k, p, d, _, _, _, u => by simp [emit, lay, Fo.pts]
  | .cons v ch rest, k, p, d, hl, hn, hm, u => by
    obtain ⟨n1, n2, n3, n4, n5⟩ := Fo.nodup_pts.1 hn
    have hv : v < m := hm v (by simp [Fo.pts])
    have hlt : ∀ x, x ∈ ch.pts → x < m := fun x hx => hm x (by simp [Fo.pts, hx])
    have hlr : ∀ x, x ∈ rest.pts → x < m := fun x hx => hm x (by simp [Fo.pts, hx])
    have l1 := lay1_len hl ⟨k, v, p, false⟩
    have l2 := lay_len l1 (emit (k + 1) ch (v : Int))
    have l3 := lay1_len l2 ⟨k + 2 * ch.size + 1, v, p, true⟩
    have a1 := lay_emit ch (k + 1) (v : Int) _ l1 n3 hlt u
    have a2 := lay_emit rest (k + 2 * ch.size + 2) p _ l3 n4 hlr u
    have e : lay d (emit k (.cons v ch rest) p) = lay (lay1 (lay (lay1 d ⟨k, v, p, false⟩) (emit (k + 1) ch (v : Int))) ⟨k + 2 * ch.size + 1, v, p, true⟩) (emit (k + 2 * ch.size + 2) rest p) := by
      simp only [emit, lay_cons, lay_append]
    rw [e]
    have b1 : ∀ d : Dt, d.Len m → (lay1 d ⟨k, v, p, false⟩).met.getD u 0 = (if u = v then (k : Int) else d.met.getD u 0) := fun d h => by
      simp only [lay1]; exact getD_setI _ _ _ _ (by rw [h.1]; exact hv)
    have b2 : ∀ d : Dt, d.Len m → (lay1 d ⟨k, v, p, false⟩).par.getD u 0 = (if u = v then p else d.par.getD u 0) := fun d h => by
      simp only [lay1]; exact getD_setI _ _ _ _ (by rw [h.2.2]; exact hv)
    have b3 : ∀ d : Dt, d.Len m → (lay1 d ⟨k + 2 * ch.size + 1, v, p, true⟩).left.getD u 0 = (if u = v then ((k + 2 * ch.size + 1 : Nat) : Int) else d.left.getD u 0) := fun d h => by
      simp only [lay1]; exact getD_setI _ _ _ _ (by rw [h.2.1]; exact hv)
    have c1 : ∀ d : Dt, (lay1 d ⟨k, v, p, false⟩).left = d.left := fun d => by simp [lay1]
    have c2 : ∀ d : Dt, (lay1 d ⟨k + 2 * ch.size + 1, v, p, true⟩).met = d.met := fun d => by simp [lay1]
    have c3 : ∀ d : Dt, (lay1 d ⟨k + 2 * ch.size + 1, v, p, true⟩).par = d.par := fun d => by simp [lay1]
    rw [a2.1, a2.2.1, a2.2.2, c2, c3, b3 _ l2, a1.1, a1.2.1, a1.2.2, b1 _ hl, b2 _ hl, c1]
    by_cases e1 : u = v
    · subst e1
      simp [n1, n2, Fo.pts, met_v, left_v, par_v]
    · by_cases e2 : u ∈ ch.pts
      · have e3 := n5 u e2
        have e4 : u ∈ (Fo.cons v ch rest).pts := by simp [Fo.pts, e2]
        rw [met_c e1 e2, left_c e1 e2, par_c e1 e2]
        simp only [if_pos e4, if_neg e3, if_neg e1, if_pos e2, and_self]
      · rw [met_r e1 e2, left_r e1 e2, par_r e1 e2]
        by_cases e3 : u ∈ rest.pts
        · have e4 : u ∈ (Fo.cons v ch rest).pts := by simp [Fo.pts, e3]
          simp only [if_pos e4, if_pos e3, and_self]
        · have e4 : ¬ u ∈ (Fo.cons v ch rest).pts := by simp [Fo.pts, e1, e2, e3]
          simp only [if_neg e4, if_neg e3, if_neg e1, if_neg e2, and_self]

/-- the three lists of a search over m points -/
def mets (m : Nat) (F : Fo) : List Int := (List.range m).map fun v => ((met F 0 v : Nat) : Int)
def lefts (m : Nat) (F : Fo) : List Int := (List.range m).map fun v => ((left F 0 v : Nat) : Int)
def pars (m : Nat) (F : Fo) : List Int := (List.range m).map fun v => par F (-1) v
theorem mets_len (m : Nat) (F : Fo) : (mets m F).length = m := by simp [mets]
theorem lefts_len (m : Nat) (F : Fo) : (lefts m F).length = m := by simp [lefts]
theorem pars_len (m : Nat) (F : Fo) : (pars m F).length = m := by simp [pars]
theorem mets_at {m : Nat} (F : Fo) {v : Nat} (hv : v < m) : (mets m F).getD v 0 = ((met F 0 v : Nat) : Int) := by simp [mets, List.getD, hv]
theorem lefts_at {m : Nat} (F : Fo) {v : Nat} (hv : v < m) : (lefts m F).getD v 0 = ((left F 0 v : Nat) : Int) := by simp [lefts, List.getD, hv]
theorem pars_at {m : Nat} (F : Fo) {v : Nat} (hv : v < m) : (pars m F).getD v 0 = par F (-1) v := by simp [pars, List.getD, hv]

theorem lay_whole {m : Nat} {R : Nat → List Nat} (hR : Wa.Ok m R) {F : Fo} (hF : Whole m R F) (d : Dt) (hd : d.Len m) : lay d (emit 0 F (-1)) = ⟨mets m F, lefts m F, pars m F⟩ := by
  have hq := hF.spec hR
  have hl := lay_len hd (emit 0 F (-1))
  have key := lay_emit F 0 (-1) d hd hq.2 (fun u hu => (hq.1 u).1 hu)
  have e1 : (lay d (emit 0 F (-1))).met = mets m F := eq_getD (by rw [hl.1, mets_len]) (fun i hi => by rw [hl.1] at hi; rw [(key i).1, if_pos ((hq.1 i).2 hi), mets_at F hi])
  have e2 : (lay d (emit 0 F (-1))).left = lefts m F := eq_getD (by rw [hl.2.1, lefts_len]) (fun i hi => by rw [hl.2.1] at hi; rw [(key i).2.1, if_pos ((hq.1 i).2 hi), lefts_at F hi])
  have e3 : (lay d (emit 0 F (-1))).par = pars m F := eq_getD (by rw [hl.2.2, pars_len]) (fun i hi => by rw [hl.2.2] at hi; rw [(key i).2.2, if_pos ((hq.1 i).2 hi), pars_at F hi])
  rw [← e1, ← e2, ← e3]

/-- the points of a search lie among the points -/
theorem mem_emit : ∀ {F : Fo} {k : Nat} {p : Int} {x : Stp}, x ∈ emit k F p → x.v ∈ F.pts ∧ (x.p = p ∨ ∃ q ∈ F.pts, x.p = (q : Int)) ∧ x.k < k + 2 * F.size
  | .cons v ch rest, k, p, x, h => by
    simp only [emit, List.mem_cons, List.mem_append, Fo.size] at h ⊢
    rcases h with rfl | h | rfl | h
    · exact ⟨by simp [Fo.pts], .inl rfl, by show k < _; omega⟩
    · obtain ⟨a, b, c⟩ := mem_emit h
      refine ⟨by simp [Fo.pts, a], .inr ?_, by omega⟩
      rcases b with b | ⟨q, hq, b⟩
      · exact ⟨v, by simp [Fo.pts], b⟩
      · exact ⟨q, by simp [Fo.pts, hq], b⟩
    · exact ⟨by simp [Fo.pts], .inl rfl, by show k + 2 * ch.size + 1 < _; omega⟩
    · obtain ⟨a, b, c⟩ := mem_emit h
      refine ⟨by simp [Fo.pts, a], ?_, by omega⟩
      rcases b with b | ⟨q, hq, b⟩
      · exact .inl b
      · exact .inr ⟨q, by simp [Fo.pts, hq], b⟩

end Go.Proofs.Ytjcdnkbandagoaa.Dp

set_option linter.unusedSimpArgs false
set_option linter.unusedVariables false
namespace Go.Proofs.Ytjcdnkbandagoaa.Dp

theorem Whole.root {m : Nat} {R : Nat → List Nat} (hR : Wa.Ok m R) {F : Fo} (hF : Whole m R F) {i : Nat} (hi : i < m) : par F (-1) i = -1 ↔ Wa.lab m R m i = (i : Int) := by
  have hq := hF.spec hR
  obtain ⟨s', hd⟩ := hF
  have h1 := hd.roots hR 0 (by rw [Nat.sub_zero, ← List.range_eq_range']) (by simp) (by omega) (fun u hu => ?_) (fun u hu => ?_) i
  · rw [par_root hq.2 (fun x _ => by omega) ((hq.1 i).2 hi), h1]
    obtain ⟨u, e1, e2, e3, e4⟩ := Wa.lab_spec hR hi
    rw [e1]
    constructor
    · rintro ⟨_, _, h⟩
      rcases Nat.lt_or_ge u i with h2 | h2
      · rw [h u h2] at e3; cases e3
      · have : u = i := by omega
        rw [this]
    · intro h
      have : u = i := by omega
      subst this
      exact ⟨Nat.zero_le _, hi, e4⟩
  · constructor
    · intro h
      simp [List.getD, List.getElem?_replicate] at h
      split at h <;> simp_all
    · rintro ⟨t, ht, _⟩; omega
  · simp [List.getD, List.getElem?_replicate] at hu
    split at hu <;> simp_all

theorem Whole.back {m : Nat} {R : Nat → List Nat} (hR : Wa.Ok m R) (hs : Wa.Sym m R) {F : Fo} (hF : Whole m R F) {u w : Nat} (hu : u < m) (hw : w < m) (hne : u ≠ w) (h : w ∈ R u) :
    (met F 0 u < met F 0 w ∧ left F 0 w < left F 0 u) ∨ (met F 0 w < met F 0 u ∧ left F 0 u < left F 0 w) := by
  have hq := hF.spec hR
  obtain ⟨s', hd⟩ := hF
  exact hd.back hR hs (by simp) (by simp) 0 u w ((hq.1 u).2 hu) ((hq.1 w).2 hw) hne h

theorem Whole.times {m : Nat} {R : Nat → List Nat} (hR : Wa.Ok m R) {F : Fo} (hF : Whole m R F) {u : Nat} (hu : u < m) : met F 0 u < left F 0 u ∧ left F 0 u < 2 * m := by
  have hq := hF.spec hR
  have := times_in (k := 0) ((hq.1 u).2 hu)
  rw [hF.size hR] at this
  omega

theorem Whole.part {m : Nat} {R : Nat → List Nat} (hR : Wa.Ok m R) {F : Fo} (hF : Whole m R F) {u w : Nat} (hu : u < m) (hw : w < m) (hne : u ≠ w) : Part (met F 0 u) (left F 0 u) (met F 0 w) (left F 0 w) := by
  have hq := hF.spec hR
  exact times_part hq.2 ((hq.1 u).2 hu) ((hq.1 w).2 hw) hne

theorem Whole.par {m : Nat} {R : Nat → List Nat} (hR : Wa.Ok m R) {F : Fo} (hF : Whole m R F) {u : Nat} (hu : u < m) : Dp.par F (-1) u = -1 ∨ ∃ q, q < m ∧ Dp.par F (-1) u = (q : Int) ∧ u ∈ R q ∧ met F 0 q < met F 0 u ∧ left F 0 u < left F 0 q := by
  have hq := hF.spec hR
  obtain ⟨s', hd⟩ := hF
  rcases hd.par_of hq.2 0 (-1) u ((hq.1 u).2 hu) with ⟨_, _, h⟩ | ⟨q, h1, h2⟩
  · exact .inl h
  · exact .inr ⟨q, (hq.1 q).1 h1, h2⟩

/-- a line of a graph that is in order: two points, beside each other -/
theorem line_of {m : Nat} {ls : List Gr.Ln} (h : Gr.code (m : Int) ls = 0) {i : Nat} (hi : i < ls.length) : ∃ x y : Nat, ls.getD i (0, 0) = ((x : Int), (y : Int)) ∧ x < m ∧ y < m ∧ x ≠ y ∧ y ∈ Wa.nrow m ls x := by
  have hmem : ls.getD i (0, 0) ∈ ls := by simp [List.getD, hi]
  obtain ⟨h1, h2, h3, h4, h5⟩ := (Gr.code_zero.1 h).2.2.2 _ hmem
  refine ⟨(ls.getD i (0, 0)).1.toNat, (ls.getD i (0, 0)).2.toNat, ?_, by omega, by omega, by omega, ?_⟩
  · rw [Int.toNat_of_nonneg h1, Int.toNat_of_nonneg h3]
  · rw [Wa.mem_nrow, Int.toNat_of_nonneg h1, Int.toNat_of_nonneg h3]
    exact ⟨by omega, Gr.adj_iff.2 (.inl hmem)⟩

/-! ### all times -/
theorem times_all : ∀ {F : Fo} {k j : Nat}, F.pts.Nodup → k ≤ j → j < k + 2 * F.size → ∃ u ∈ F.pts, met F k u = j ∨ left F k u = j
  | .nil, k, j, _, h1, h2 => by simp only [Fo.size] at h2; omega
  | .cons v ch rest, k, j, hn, h1, h2 => by
    obtain ⟨n1, n2, n3, n4, n5⟩ := Fo.nodup_pts.1 hn
    simp only [Fo.size] at h2
    by_cases e1 : j = k
    · exact ⟨v, by simp [Fo.pts], .inl (by rw [met_v, e1])⟩
    · by_cases e2 : j = k + 2 * ch.size + 1
      · exact ⟨v, by simp [Fo.pts], .inr (by rw [left_v, e2])⟩
      · by_cases e3 : j < k + 2 * ch.size + 1
        · obtain ⟨u, hu, h⟩ := times_all (F := ch) (k := k + 1) (j := j) n3 (by omega) (by omega)
          have e : u ≠ v := fun e => n1 (e ▸ hu)
          exact ⟨u, by simp [Fo.pts, hu], by rw [met_c e hu, left_c e hu]; exact h⟩
        · obtain ⟨u, hu, h⟩ := times_all (F := rest) (k := k + 2 * ch.size + 2) (j := j) n4 (by omega) (by omega)
          have e : u ≠ v := fun e => n2 (e ▸ hu)
          have e' : u ∉ ch.pts := fun h => n5 u h hu
          exact ⟨u, by simp [Fo.pts, hu], by rw [met_r e e', left_r e e']; exact h⟩

/-- when each of the first i points is met and left -/
def tms (F : Fo) (i : Nat) : List Int := (List.range i).flatMap fun v => [((met F 0 v : Nat) : Int), ((left F 0 v : Nat) : Int)]
theorem tms_zero (F : Fo) : tms F 0 = [] := rfl
theorem tms_succ (F : Fo) (i : Nat) : tms F (i + 1) = tms F i ++ [((met F 0 i : Nat) : Int)] ++ [((left F 0 i : Nat) : Int)] := by simp [tms, List.range_succ, List.flatMap_append]
theorem tms_len (F : Fo) (i : Nat) : (tms F i).length = 2 * i := by
  induction i with
  | zero => rfl
  | succ i ih => rw [tms_succ]; simp [ih]; omega
theorem tms_at (F : Fo) {i v : Nat} (hv : v < i) : (tms F i).getD (2 * v) 0 = ((met F 0 v : Nat) : Int) ∧ (tms F i).getD (2 * v + 1) 0 = ((left F 0 v : Nat) : Int) := by
  induction i with
  | zero => omega
  | succ i ih =>
    rw [tms_succ, List.append_assoc]
    have hl := tms_len F i
    rcases Nat.lt_or_ge v i with h | h
    · have := ih h
      simp only [List.getD] at this ⊢
      rw [List.getElem?_append_left (by omega), List.getElem?_append_left (by omega)]
      exact this
    · obtain rfl : v = i := by omega
      have r1 : ∀ j, (tms F v ++ ([((met F 0 v : Nat) : Int)] ++ [((left F 0 v : Nat) : Int)]))[2 * v + j]? = [((met F 0 v : Nat) : Int), ((left F 0 v : Nat) : Int)][j]? := fun j => by
        rw [List.getElem?_append_right (by omega), hl, Nat.add_sub_cancel_left]; rfl
      have r2 := r1 0
      have r3 := r1 1
      rw [Nat.add_zero] at r2
      simp only [List.getD, r2, r3]
      exact ⟨rfl, rfl⟩

theorem Whole.once {m : Nat} {R : Nat → List Nat} (hR : Wa.Ok m R) {F : Fo} (hF : Whole m R F) :
    (∀ k, k < 2 * m → ∃ p, p < 2 * m ∧ (tms F m).getD p 0 = (k : Int)) ∧ (∀ p q, p < 2 * m → q < 2 * m → (tms F m).getD p 0 = (tms F m).getD q 0 → p = q) ∧ ∀ p, p < 2 * m → 0 ≤ (tms F m).getD p 0 := by
  have hq := hF.spec hR
  have hs := hF.size hR
  have split : ∀ p, p < 2 * m → ∃ v, v < m ∧ ((p = 2 * v ∧ (tms F m).getD p 0 = ((met F 0 v : Nat) : Int)) ∨ (p = 2 * v + 1 ∧ (tms F m).getD p 0 = ((left F 0 v : Nat) : Int))) := by
    intro p hp
    refine ⟨p / 2, by omega, ?_⟩
    have := tms_at F (i := m) (v := p / 2) (by omega)
    rcases Nat.mod_two_eq_zero_or_one p with h | h
    · have e : p = 2 * (p / 2) := by omega
      exact .inl ⟨e, by rw [← this.1, ← e]⟩
    · have e : p = 2 * (p / 2) + 1 := by omega
      exact .inr ⟨e, by rw [← this.2, ← e]⟩
  refine ⟨fun k hk => ?_, fun p q hp hq' he => ?_, fun p hp => ?_⟩
  · obtain ⟨u, hu, h⟩ := times_all (k := 0) hq.2 (Nat.zero_le k) (by rw [hs]; omega)
    have hum := (hq.1 u).1 hu
    have ht := tms_at F hum
    rcases h with h | h
    · exact ⟨2 * u, by omega, by rw [ht.1, h]⟩
    · exact ⟨2 * u + 1, by omega, by rw [ht.2, h]⟩
  · obtain ⟨u, hu, hpu⟩ := split p hp
    obtain ⟨v, hv, hqv⟩ := split q hq'
    have t1 := hF.times hR hu
    have t2 := hF.times hR hv
    by_cases huv : u = v
    · subst huv
      rcases hpu with ⟨e1, f1⟩ | ⟨e1, f1⟩ <;> rcases hqv with ⟨e2, f2⟩ | ⟨e2, f2⟩ <;> rw [f1, f2] at he <;> omega
    · have hp2 := hF.part hR hu hv huv
      unfold Part at hp2
      rcases hpu with ⟨e1, f1⟩ | ⟨e1, f1⟩ <;> rcases hqv with ⟨e2, f2⟩ | ⟨e2, f2⟩ <;> rw [f1, f2] at he <;> omega
  · obtain ⟨u, hu, hpu⟩ := split p hp
    rcases hpu with ⟨e1, f1⟩ | ⟨e1, f1⟩ <;> rw [f1] <;> omega

end Go.Proofs.Ytjcdnkbandagoaa.Dp

set_option linter.unusedSimpArgs false
set_option linter.unusedVariables false
namespace Go.Proofs.Ytjcdnkbandagoaa.Dp

/-! ### the least of some numbers -/
def IsMin (S : Int → Prop) (x : Int) : Prop := S x ∧ ∀ y, S y → x ≤ y
theorem IsMin.unique {S : Int → Prop} {x y : Int} (h : IsMin S x) (h' : IsMin S y) : x = y := by
  have h1 := h.2 y h'.1
  have h2 := h'.2 x h.1
  omega
theorem IsMin.one (x : Int) : IsMin (fun y => y = x) x := ⟨rfl, fun y h => by omega⟩
theorem IsMin.congr {S S' : Int → Prop} {x : Int} (h : IsMin S x) (he : ∀ y, S y ↔ S' y) : IsMin S' x := ⟨(he x).1 h.1, fun y hy => h.2 y ((he y).2 hy)⟩
theorem IsMin.foldl {α : Type} {T : α → Int → Prop} {f : Int → α → Int} (hf : ∀ (S : Int → Prop) (a : Int) (c : α), IsMin S a → IsMin (fun y => S y ∨ T c y) (f a c)) :
    ∀ (l : List α) (S : Int → Prop) (a : Int), IsMin S a → IsMin (fun y => S y ∨ ∃ c ∈ l, T c y) (l.foldl f a)
  | [], S, a, h => h.congr (fun y => by simp)
  | c :: l, S, a, h => by
    have := IsMin.foldl hf l _ _ (hf S a c h)
    refine this.congr (fun y => ?_)
    simp only [List.mem_cons]
    constructor
    · rintro ((h | h) | ⟨d, hd, h⟩)
      · exact .inl h
      · exact .inr ⟨c, .inl rfl, h⟩
      · exact .inr ⟨d, .inr hd, h⟩
    · rintro (h | ⟨d, rfl | hd, h⟩)
      · exact .inl (.inl h)
      · exact .inl (.inr h)
      · exact .inr ⟨d, hd, h⟩
theorem IsMin.min {S : Int → Prop} {a : Int} (h : IsMin S a) (b : Int) : IsMin (fun y => S y ∨ y = b) (min a b) := by
  refine ⟨?_, fun y hy => ?_⟩
  · rcases Int.le_total a b with e | e
    · rw [Int.min_eq_left e]; exact .inl h.1
    · rw [Int.min_eq_right e]; exact .inr rfl
  · rcases hy with hy | rfl
    · have := h.2 y hy; omega
    · omega

/-! ### handed up -/
/-- the least of a and of when those beside v were met, p left out -/
def rmin (R : Nat → List Nat) (M : Nat → Int) (p : Int) (v : Nat) (a : Int) : Int := (R v).foldl (fun (a : Int) (w : Nat) => if ((w : Nat) : Int) ≠ p then min a (M w) else a) a
theorem rmin_min (R : Nat → List Nat) (M : Nat → Int) (p : Int) (v : Nat) {S : Int → Prop} {a : Int} (h : IsMin S a) : IsMin (fun y => S y ∨ ∃ w ∈ R v, (w : Int) ≠ p ∧ y = M w) (rmin R M p v a) := by
  refine IsMin.foldl (T := fun (w : Nat) (y : Int) => ((w : Nat) : Int) ≠ p ∧ y = M w) (fun S a c h => ?_) (R v) S a h
  by_cases e : (c : Int) ≠ p
  · rw [if_pos e]
    exact (h.min (M c)).congr (fun y => by simp [e])
  · rw [if_neg e]
    exact h.congr (fun y => by simp [e])
/-- what each point of some trees hands up -/
def lw (R : Nat → List Nat) (M : Nat → Int) : Fo → Int → Nat → Int
  | .nil, _, _ => 0
  | .cons v ch rest, p, u => if u = v then rmin R M p v (ch.roots.foldl (fun a c => min a (lw R M ch (v : Int) c)) (M v)) else if u ∈ ch.pts then lw R M ch (v : Int) u else lw R M rest p u
theorem lw_v {R : Nat → List Nat} {M : Nat → Int} {v : Nat} {ch rest : Fo} {p : Int} : lw R M (.cons v ch rest) p v = rmin R M p v (ch.roots.foldl (fun a c => min a (lw R M ch (v : Int) c)) (M v)) := by simp [lw]
theorem lw_c {R : Nat → List Nat} {M : Nat → Int} {v : Nat} {ch rest : Fo} {p : Int} {u : Nat} (e : u ≠ v) (h : u ∈ ch.pts) : lw R M (.cons v ch rest) p u = lw R M ch (v : Int) u := by simp [lw, e, h]
theorem lw_r {R : Nat → List Nat} {M : Nat → Int} {v : Nat} {ch rest : Fo} {p : Int} {u : Nat} (e : u ≠ v) (h : u ∉ ch.pts) : lw R M (.cons v ch rest) p u = lw R M rest p u := by simp [lw, e, h]

theorem lw_min {R : Nat → List Nat} {M : Nat → Int} : ∀ {F : Fo} {p : Int}, F.pts.Nodup → (∀ x ∈ F.pts, (x : Int) ≠ p) → ∀ u ∈ F.pts,
    IsMin (fun y => (y = M u ∨ ∃ c ∈ F.pts, par F p c = (u : Int) ∧ y = lw R M F p c) ∨ ∃ w ∈ R u, (w : Int) ≠ par F p u ∧ y = M w) (lw R M F p u)
  | .cons v ch rest, p, hn, hp, u, hu => by
    obtain ⟨n1, n2, n3, n4, n5⟩ := Fo.nodup_pts.1 hn
    have hpc : ∀ x ∈ ch.pts, (x : Int) ≠ (v : Int) := fun x hx e => by
      have e' : x = v := by omega
      exact n1 (e' ▸ hx)
    have hpr : ∀ x ∈ rest.pts, (x : Int) ≠ p := fun x hx => hp x (Fo.mem_pts.2 (.inr (.inr hx)))
    have hvp : (v : Int) ≠ p := hp v (by simp [Fo.pts])
    -- from which each point is met
    have inC : ∀ c ∈ ch.pts, par (.cons v ch rest) p c = par ch (v : Int) c ∧ (par ch (v : Int) c = (v : Int) ∨ ∃ q ∈ ch.pts, par ch (v : Int) c = (q : Int)) ∧ lw R M (.cons v ch rest) p c = lw R M ch (v : Int) c := fun c hc => by
      have e : c ≠ v := fun e => n1 (e ▸ hc)
      exact ⟨par_c e hc, par_root.par_in hc, lw_c e hc⟩
    have inR : ∀ c ∈ rest.pts, par (.cons v ch rest) p c = par rest p c ∧ (par rest p c = p ∨ ∃ q ∈ rest.pts, par rest p c = (q : Int)) ∧ lw R M (.cons v ch rest) p c = lw R M rest p c := fun c hc => by
      have e : c ≠ v := fun e => n2 (e ▸ hc)
      have e2 : c ∉ ch.pts := fun h => n5 c h hc
      exact ⟨par_r e e2, par_root.par_in hc, lw_r e e2⟩
    rcases Fo.mem_pts.1 hu with e0 | hu1 | hu1
    · subst e0
      rw [lw_v, par_v]
      have h1 : IsMin (fun y => y = M u ∨ ∃ c ∈ ch.roots, y = lw R M ch (u : Int) c) (ch.roots.foldl (fun a c => min a (lw R M ch (u : Int) c)) (M u)) :=
        IsMin.foldl (T := fun c y => y = lw R M ch (u : Int) c) (fun S a c h => h.min _) ch.roots _ _ (IsMin.one _)
      refine (rmin_min R M p u h1).congr (fun y => ?_)
      refine or_congr_left (or_congr_right ?_)
      constructor
      · rintro ⟨c, hc, rfl⟩
        have hcp := Fo.roots_sub hc
        obtain ⟨a1, a2, a3⟩ := inC c hcp
        exact ⟨c, Fo.mem_pts.2 (.inr (.inl hcp)), by rw [a1]; exact (par_root n3 hpc hcp).2 hc, a3.symm⟩
      · rintro ⟨c, hc, h2, rfl⟩
        rcases Fo.mem_pts.1 hc with e1 | hc1 | hc1
        · subst e1
          rw [par_v] at h2
          exact absurd h2.symm hvp
        · obtain ⟨a1, a2, a3⟩ := inC c hc1
          rw [a1] at h2
          exact ⟨c, (par_root n3 hpc hc1).1 h2, a3⟩
        · obtain ⟨a1, a2, a3⟩ := inR c hc1
          rw [a1] at h2
          rcases a2 with a2 | ⟨q, hq, a2⟩
          · exact absurd (h2.symm.trans a2) hvp
          · have : q = u := by omega
            exact absurd (this ▸ hq) n2
    · obtain ⟨a1, a2, a3⟩ := inC u hu1
      rw [a1, a3]
      refine (lw_min n3 hpc u hu1).congr (fun y => ?_)
      refine or_congr_left (or_congr_right ?_)
      have huv : (u : Int) ≠ (v : Int) := hpc u hu1
      constructor
      · rintro ⟨c, hc, h2, rfl⟩
        obtain ⟨b1, b2, b3⟩ := inC c hc
        exact ⟨c, Fo.mem_pts.2 (.inr (.inl hc)), by rw [b1]; exact h2, b3.symm⟩
      · rintro ⟨c, hc, h2, rfl⟩
        rcases Fo.mem_pts.1 hc with e1 | hc1 | hc1
        · subst e1
          rw [par_v] at h2
          exact absurd h2.symm (hp u hu)
        · obtain ⟨b1, b2, b3⟩ := inC c hc1
          rw [b1] at h2
          exact ⟨c, hc1, h2, b3⟩
        · obtain ⟨b1, b2, b3⟩ := inR c hc1
          rw [b1] at h2
          rcases b2 with b2 | ⟨q, hq, b2⟩
          · exact absurd (h2.symm.trans b2) (hp u hu)
          · have : q = u := by omega
            exact absurd (this ▸ hq) (n5 u hu1)
    · obtain ⟨a1, a2, a3⟩ := inR u hu1
      rw [a1, a3]
      refine (lw_min n4 hpr u hu1).congr (fun y => ?_)
      refine or_congr_left (or_congr_right ?_)
      constructor
      · rintro ⟨c, hc, h2, rfl⟩
        obtain ⟨b1, b2, b3⟩ := inR c hc
        exact ⟨c, Fo.mem_pts.2 (.inr (.inr hc)), by rw [b1]; exact h2, b3.symm⟩
      · rintro ⟨c, hc, h2, rfl⟩
        rcases Fo.mem_pts.1 hc with e1 | hc1 | hc1
        · subst e1
          rw [par_v] at h2
          exact absurd h2.symm (hp u hu)
        · obtain ⟨b1, b2, b3⟩ := inC c hc1
          rw [b1] at h2
          rcases b2 with b2 | ⟨q, hq, b2⟩
          · have : u = v := by omega
            exact absurd (this ▸ hu1) n2
          · have : q = u := by omega
            exact absurd hu1 (n5 u (this ▸ hq))
        · obtain ⟨b1, b2, b3⟩ := inR c hc1
          rw [b1] at h2
          exact ⟨c, hc1, h2, b3⟩

/-! ### as it is asked for afterwards -/
/-- a step of the loop of the one who asks -/
def lstep (L : Nat → Int) (dm dp : List Int) (i : Nat) (out : Int) (j : Nat) : Int :=
  if (if dp.getD j 0 = (i : Int) then L j else if dp.getD i 0 ≠ (j : Int) then dm.getD j 0 else out) < out then (if dp.getD j 0 = (i : Int) then L j else if dp.getD i 0 ≠ (j : Int) then dm.getD j 0 else out) else out
theorem lstep_min (L : Nat → Int) (dm dp : List Int) (i : Nat) (S : Int → Prop) (a : Int) (j : Nat) (h : IsMin S a) : IsMin (fun y => S y ∨ ((dp.getD j 0 = (i : Int) ∧ y = L j) ∨ (dp.getD j 0 ≠ (i : Int) ∧ dp.getD i 0 ≠ (j : Int) ∧ y = dm.getD j 0))) (lstep L dm dp i a j) := by
  have key : ∀ x : Int, (if x < a then x else a) = min a x := fun x => by split <;> omega
  unfold lstep
  by_cases e1 : dp.getD j 0 = (i : Int)
  · simp only [if_pos e1]
    rw [key]
    exact (h.min _).congr (fun y => ⟨fun h => h.elim .inl (fun h => .inr (.inl ⟨e1, h⟩)), fun h => h.elim .inl (fun h => h.elim (fun h => .inr h.2) (fun h => absurd e1 h.1))⟩)
  · simp only [if_neg e1]
    by_cases e2 : dp.getD i 0 ≠ (j : Int)
    · simp only [if_pos e2]
      rw [key]
      exact (h.min _).congr (fun y => ⟨fun h => h.elim .inl (fun h => .inr (.inr ⟨e1, e2, h⟩)), fun h => h.elim .inl (fun h => h.elim (fun h => absurd h.1 e1) (fun h => .inr h.2.2))⟩)
    · simp only [if_neg e2]
      rw [key, Int.min_self]
      exact h.congr (fun y => ⟨.inl, fun h => h.elim id (fun h => h.elim (fun h => absurd h.1 e1) (fun h => absurd h.2.1 e2))⟩)
/-- all answers fit each other -/
def LowEq (m : Nat) (R : Nat → List Nat) (L : Nat → Int) (dm dp : List Int) : Prop := ∀ i, i < m → L i = (R i).foldl (lstep L dm dp i) (dm.getD i 0)

/-- the lowest times of a search over all points -/
def lows (m : Nat) (R : Nat → List Nat) (F : Fo) : List Int := (List.range m).map fun v => lw R (fun u => ((met F 0 u : Nat) : Int)) F (-1) v
theorem lows_len (m : Nat) (R : Nat → List Nat) (F : Fo) : (lows m R F).length = m := by simp [lows]
theorem lows_at {m : Nat} (R : Nat → List Nat) (F : Fo) {v : Nat} (hv : v < m) : (lows m R F).getD v 0 = lw R (fun u => ((met F 0 u : Nat) : Int)) F (-1) v := by simp [lows, List.getD, hv]

theorem Whole.low {m : Nat} {R : Nat → List Nat} (hR : Wa.Ok m R) {F : Fo} (hF : Whole m R F) : LowEq m R (fun i => (lows m R F).getD i 0) (mets m F) (pars m F) := by
  have hq := hF.spec hR
  have hneg : ∀ x ∈ F.pts, (x : Int) ≠ -1 := fun x _ => by omega
  intro i hi
  have hiF := (hq.1 i).2 hi
  have h1 := lw_min (R := R) (M := fun u => ((met F 0 u : Nat) : Int)) hq.2 hneg i hiF
  have h2 := IsMin.foldl (lstep_min (fun i => (lows m R F).getD i 0) (mets m F) (pars m F) i) (R i) _ _ (IsMin.one ((mets m F).getD i 0))
  show (lows m R F).getD i 0 = _
  rw [lows_at R F hi]
  refine IsMin.unique (S := fun y => y = (mets m F).getD i 0 ∨ ∃ c ∈ R i, ((pars m F).getD c 0 = (i : Int) ∧ y = (lows m R F).getD c 0) ∨ ((pars m F).getD c 0 ≠ (i : Int) ∧ (pars m F).getD i 0 ≠ (c : Int) ∧ y = (mets m F).getD c 0)) ?_ h2
  -- of all that are met from i
  have kids : ∀ c, c < m → Dp.par F (-1) c = (i : Int) → c ∈ R i := fun c hc he => by
    rcases hF.par hR hc with h | ⟨q, hqm, h, h3, _⟩
    · omega
    · have : q = i := by omega
      exact this ▸ h3
  have lowmet : ∀ c, c < m → lw R (fun u => ((met F 0 u : Nat) : Int)) F (-1) c ≤ ((met F 0 c : Nat) : Int) := fun c hc =>
    (lw_min (R := R) (M := fun u => ((met F 0 u : Nat) : Int)) hq.2 hneg c ((hq.1 c).2 hc)).2 _ (.inl (.inl rfl))
  refine ⟨?_, fun y hy => ?_⟩
  · rcases h1.1 with (h | ⟨c, hc, hpc, h⟩) | ⟨c, hc, hpc, h⟩
    · exact .inl (by rw [mets_at F hi]; exact h)
    · have hcm := (hq.1 c).1 hc
      exact .inr ⟨c, kids c hcm hpc, .inl ⟨by rw [pars_at F hcm]; exact hpc, by rw [lows_at R F hcm]; exact h⟩⟩
    · have hcm := hR i hi c hc
      by_cases e : Dp.par F (-1) c = (i : Int)
      · have h4 := h1.2 _ (.inl (.inr ⟨c, (hq.1 c).2 hcm, e, rfl⟩))
        have h5 := lowmet c hcm
        have h6 : lw R (fun u => ((met F 0 u : Nat) : Int)) F (-1) i = lw R (fun u => ((met F 0 u : Nat) : Int)) F (-1) c := by omega
        exact .inr ⟨c, hc, .inl ⟨by rw [pars_at F hcm]; exact e, by rw [lows_at R F hcm]; exact h6⟩⟩
      · exact .inr ⟨c, hc, .inr ⟨by rw [pars_at F hcm]; exact e, by rw [pars_at F hi]; exact fun h => hpc h.symm, by rw [mets_at F hcm]; exact h⟩⟩
  · rcases hy with rfl | ⟨c, hc, h | h⟩
    · rw [mets_at F hi]; exact h1.2 _ (.inl (.inl rfl))
    · have hcm := hR i hi c hc
      obtain ⟨e1, rfl⟩ := h
      rw [pars_at F hcm] at e1
      rw [lows_at R F hcm]
      exact h1.2 _ (.inl (.inr ⟨c, (hq.1 c).2 hcm, e1, rfl⟩))
    · have hcm := hR i hi c hc
      obtain ⟨e1, e2, rfl⟩ := h
      rw [pars_at F hi] at e2
      rw [mets_at F hcm]
      exact h1.2 _ (.inr ⟨c, hc, fun h => e2 h.symm, rfl⟩)

end Go.Proofs.Ytjcdnkbandagoaa.Dp
