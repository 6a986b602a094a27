/-
  Plain facts on distances, on what hangs together and on rings, with no program in them. No statement of the program is proved here; there is no condition.
-/
import Derived.Test.YthlgloefeigcbaaDoorWalkP
set_option linter.unusedSimpArgs false
set_option linter.unusedVariables false
namespace Go.Proofs.YthlgloefeigcbaaDoor.Wa

theorem dist_zero {m : Nat} {R : Nat → List Nat} (hR : Ok m R) {a v : Nat} (ha : a < m) : dist m R a v = 0 ↔ v = a := by
  rcases dist_cases v hR ha with ⟨k, hd, he⟩ | ⟨hn, he⟩
  · rw [he]
    constructor
    · intro h
      obtain rfl : k = 0 := by omega
      exact (wk_zero.1 hd.1).symm
    · intro h
      subst h
      have : k = 0 := hd.unique ⟨wk_zero.2 rfl, fun j hj => by omega⟩
      omega
  · rw [he]
    constructor
    · intro h; omega
    · intro h
      subst h
      have := hn 0
      rw [wk_zero.2 rfl] at this
      cases this
/-- points beside each other are one apart at most -/
theorem dist_step {m : Nat} {R : Nat → List Nat} (hR : Ok m R) {a i j : Nat} (ha : a < m) (hi : i < m) (hij : j ∈ R i) (h : 0 ≤ dist m R a i) : 0 ≤ dist m R a j ∧ dist m R a j ≤ dist m R a i + 1 := by
  rcases dist_cases i hR ha with ⟨k, hd, he⟩ | ⟨_, he⟩
  · have := dist_le hR ha (wk_succ.2 ⟨i, hi, hd.1, hij⟩)
    rw [he]
    omega
  · omega
/-- each point is one farther than one beside it -/
theorem dist_back {m : Nat} {R : Nat → List Nat} (hR : Ok m R) {a i : Nat} (ha : a < m) (h : 1 ≤ dist m R a i) : ∃ j, j < m ∧ i ∈ R j ∧ dist m R a j = dist m R a i - 1 := by
  rcases dist_cases i hR ha with ⟨k, hd, he⟩ | ⟨_, he⟩
  · obtain ⟨c, hc, hw⟩ := hd.before (j := k - 1) (by omega)
    rw [show k - (k - 1) = 1 by omega] at hw
    obtain ⟨e, he2, h1, h2⟩ := wk_succ.1 hw
    have := wk_zero.1 h1
    subst this
    refine ⟨c, he2, h2, ?_⟩
    rw [dist_some hR ha hc, he]
    omega
  · omega
theorem dist_sym {m : Nat} {R : Nat → List Nat} (hR : Ok m R) (hs : Sym m R) {a b : Nat} (ha : a < m) (hb : b < m) : dist m R a b = dist m R b a := by
  have key : ∀ k, wk m R k a b = wk m R k b a := by
    intro k
    cases h : wk m R k b a with
    | true => exact wk_sym hR hs hb h
    | false =>
      cases h2 : wk m R k a b with
      | false => rfl
      | true => rw [wk_sym hR hs ha h2] at h; cases h
  unfold dist
  simp only [key]
theorem dist_tri {m : Nat} {R : Nat → List Nat} (hR : Ok m R) {a b c : Nat} (ha : a < m) (hb : b < m) (h1 : 0 ≤ dist m R a b) (h2 : 0 ≤ dist m R b c) : 0 ≤ dist m R a c ∧ dist m R a c ≤ dist m R a b + dist m R b c := by
  rcases dist_cases b hR ha with ⟨k, hd, he⟩ | ⟨_, he⟩
  · rcases dist_cases c hR hb with ⟨j, hd2, he2⟩ | ⟨_, he2⟩
    · have := dist_le hR ha (wk_add hd.1 hd2.1)
      rw [he, he2]
      omega
    · omega
  · omega
theorem dist_mono {m : Nat} {R R' : Nat → List Nat} (hR : Ok m R) (hR' : Ok m R') (hsub : ∀ a, a < m → ∀ b ∈ R a, b ∈ R' a) {a b : Nat} (ha : a < m) (h : 0 ≤ dist m R a b) : 0 ≤ dist m R' a b ∧ dist m R' a b ≤ dist m R a b := by
  rcases dist_cases b hR ha with ⟨k, hd, he⟩ | ⟨_, he⟩
  · have := dist_le hR' ha (wk_mono hsub hd.1)
    rw [he]
    omega
  · omega

/-- points have the same number just if they hang together -/
theorem lab_eq {m : Nat} {R : Nat → List Nat} (hR : Ok m R) (hs : Sym m R) {a b : Nat} (ha : a < m) (hb : b < m) : lab m R m a = lab m R m b ↔ rch m R a b = true := by
  obtain ⟨u, hu, hua, hru, hmu⟩ := lab_spec hR ha
  obtain ⟨v, hv, hvb, hrv, hmv⟩ := lab_spec hR hb
  rw [hu, hv]
  constructor
  · intro h
    obtain rfl : u = v := by omega
    exact rch_trans hR ha (by omega) (rch_sym hR hs (by omega) ha hru) hrv
  · intro h
    rcases Nat.lt_trichotomy u v with hl | he | hl
    · have := hmv u hl
      rw [rch_trans hR (by omega) ha hru h] at this
      cases this
    · rw [he]
    · have := hmu v hl
      rw [rch_trans hR (by omega) hb hrv (rch_sym hR hs ha hb h)] at this
      cases this
theorem lab_range {m : Nat} {R : Nat → List Nat} (hR : Ok m R) {a : Nat} (ha : a < m) : 0 ≤ lab m R m a ∧ lab m R m a ≤ (a : Int) := by
  obtain ⟨u, hu, hua, _⟩ := lab_spec hR ha
  rw [hu]
  omega

/-- a line more between points that hang together, and are not beside each other, closes a ring -/
theorem girth_pos {m : Nat} {R R' : Nat → List Nat} (hR : Ok m R) (hR' : Ok m R') (hsub : ∀ a, a < m → ∀ b ∈ R a, b ∈ R' a) {a b : Nat} (ha : a < m) (hb : b ∈ R' a) (hnb : ¬ b ∈ R a) (h : rch m R a b = true) : 0 < girth m R' := by
  obtain ⟨k, hk⟩ := (rch_iff hR ha).1 h
  have h2 : wk m (rest R' a b) k a b = true := wk_mono (fun u hu v hv => mem_rest.2 ⟨hsub u hu v hv, fun e => hnb (by rw [← e.2, ← e.1]; exact hv)⟩) hk
  have h3 := dist_le (rest_ok hR' a b) ha h2
  have h4 : 0 < rt m R' a b := by unfold rt; omega
  rcases girth_best m R' with ⟨_, h0⟩ | ⟨h0, _, _⟩
  · have := h0 _ ⟨a, ha, b, hb, rfl⟩
    omega
  · exact h0

end Go.Proofs.YthlgloefeigcbaaDoor.Wa
