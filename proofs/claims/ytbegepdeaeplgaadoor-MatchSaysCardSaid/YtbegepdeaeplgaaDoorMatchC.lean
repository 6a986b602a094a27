/-
  The contract of Cover of package match: those of the left that are paired always, and those of the right that the others have lines to.
-/
import Derived.Test.YtbegepdeaeplgaaDoorMatchL
import Derived.Test.YtbegepdeaeplgaaDoorFindFn
namespace Go.Proofs.YtbegepdeaeplgaaDoor
open Go.RowKit Go.Shelf

set_option linter.unusedSimpArgs false
set_option linter.unusedVariables false

namespace Ma
/-- of the first k on the left those that are paired always -/
def cvl (ls : List Gr.Ln) (l r k : Nat) : List Nat := (List.range k).filter (ess (gl ls) l r)
/-- of the first k on the right those that the others have lines to -/
def cvr (ls : List Gr.Ln) (l r k : Nat) : List Nat := (List.range k).filter (nbr (gl ls) l fun i => !ess (gl ls) l r i)
/-- the marks, for the first k -/
def ndd (ls : List Gr.Ln) (l r k : Nat) : List Bool := (List.range l).map fun i => decide (i < k) && ess (gl ls) l r i
theorem cvl_yes {ls : List Gr.Ln} {l r k : Nat} (h : ess (gl ls) l r k = true) : cvl ls l r (k + 1) = cvl ls l r k ++ [k] := by simp [cvl, List.range_succ, h]
theorem cvl_no {ls : List Gr.Ln} {l r k : Nat} (h : ess (gl ls) l r k = false) : cvl ls l r (k + 1) = cvl ls l r k := by simp [cvl, List.range_succ, h]
theorem cvr_yes {ls : List Gr.Ln} {l r k : Nat} (h : nbr (gl ls) l (fun i => !ess (gl ls) l r i) k = true) : cvr ls l r (k + 1) = cvr ls l r k ++ [k] := by simp [cvr, List.range_succ, h]
theorem cvr_no {ls : List Gr.Ln} {l r k : Nat} (h : nbr (gl ls) l (fun i => !ess (gl ls) l r i) k = false) : cvr ls l r (k + 1) = cvr ls l r k := by simp [cvr, List.range_succ, h]
theorem cvl_len (ls : List Gr.Ln) (l r k : Nat) : (cvl ls l r k).length ≤ k := by have := List.length_filter_le (ess (gl ls) l r) (List.range k); rwa [List.length_range] at this
theorem cvr_len (ls : List Gr.Ln) (l r k : Nat) : (cvr ls l r k).length ≤ k := by have := List.length_filter_le (nbr (gl ls) l fun i => !ess (gl ls) l r i) (List.range k); rwa [List.length_range] at this
theorem ndd_len (ls : List Gr.Ln) (l r k : Nat) : (ndd ls l r k).length = l := by simp [ndd]
theorem ndd_at (ls : List Gr.Ln) (r k : Nat) {l i : Nat} (h : i < l) : (ndd ls l r k).getD i false = (decide (i < k) && ess (gl ls) l r i) := by simp [ndd, List.getD, h]
theorem ndd_zero (ls : List Gr.Ln) (l r : Nat) : ndd ls l r 0 = List.replicate l false := by
  rw [List.eq_replicate_iff]
  exact ⟨ndd_len _ _ _ _, fun b hb => by simp [ndd] at hb; exact hb.2⟩
theorem ndd_yes {ls : List Gr.Ln} {l r k : Nat} (hk : k < l) (h : ess (gl ls) l r k = true) : (ndd ls l r k).set k true = ndd ls l r (k + 1) := by
  refine List.ext_getElem (by simp [ndd]) fun i h1 h2 => ?_
  simp only [List.length_set, ndd_len] at h1
  rw [List.getElem_set]
  by_cases e : k = i
  · subst e; simp [ndd, h]
  · simp only [e, if_false, ndd, List.getElem_map, List.getElem_range]
    congr 1
    have : (i < k) ↔ (i < k + 1) := by omega
    simp [this]
theorem ndd_no {ls : List Gr.Ln} {l r k : Nat} (h : ess (gl ls) l r k = false) : ndd ls l r (k + 1) = ndd ls l r k := by
  unfold ndd
  refine List.map_congr_left fun i _ => ?_
  by_cases e : i = k
  · subst e; simp [h]
  · congr 1
    have : (i < k) ↔ (i < k + 1) := by omega
    simp [this]
/-- what the closure takes -/
def opens (nd : List Bool) (b : Nat) (p : Gr.Ln) : Bool := decide (p.2 = (b : Int)) && !nd.getD p.1.toNat false
theorem opens_any {ls : List Gr.Ln} {l r b : Nat} (hg : ∀ p ∈ ls, Good (l : Int) (r : Int) p) : ls.any (opens (ndd ls l r l) b) = nbr (gl ls) l (fun i => !ess (gl ls) l r i) b := by
  rw [Bool.eq_iff_iff, nbr_iff, List.any_eq_true]
  constructor
  · rintro ⟨⟨x, y⟩, hm, ho⟩
    have g := hg _ hm
    unfold Good at g
    simp only at g
    unfold opens at ho
    simp only [Bool.and_eq_true, decide_eq_true_eq] at ho
    have hx : x.toNat < l := by omega
    rw [ndd_at ls r l hx, decide_eq_true hx, Bool.true_and] at ho
    refine ⟨x.toNat, hx, ho.2, ?_⟩
    unfold gl
    rw [Int.toNat_of_nonneg g.1, ← ho.1]
    exact Gr.has_iff.2 hm
  · rintro ⟨i, hi, h1, h2⟩
    refine ⟨((i : Int), (b : Int)), Gr.has_iff.1 h2, ?_⟩
    unfold opens
    simp only [Int.toNat_natCast, decide_true, Bool.true_and]
    rw [ndd_at ls r l hi, decide_eq_true hi, Bool.true_and]
    exact h1
end Ma

set_option maxRecDepth 100000 in
set_option maxHeartbeats 1000000 in
/-- the closure of Cover, which has captured the boxes of b and of the marks -/
theorem cover1_any (bb bq g l b : Nat) (nd : List Bool) (p q : Int) (w : World) (hb : w.cell? ⟨bb, 0, none⟩ = some (.int .i64 (b : Int))) (hq : w.cell? ⟨bq, 0, none⟩ = some (.slice (some ⟨g, 0, none⟩) l l)) (hS : SeenAt w g l nd) (h1 : 0 ≤ p) (h2 : p < (l : Int)) :
    Calls Tryd.prog 20 #[.agg #[.int .i64 p, .int .i64 q], .pointer (some ⟨bb, 0, none⟩), .pointer (some ⟨bq, 0, none⟩)] w fun e w' => e = .returned (.bool (Ma.opens nd b (p, q))) ∧ Below w.heap.size w w' := by
  obtain ⟨i, rfl⟩ : ∃ i : Nat, p = (i : Int) := ⟨p.toNat, by omega⟩
  have hil : i < l := by omega
  have hal : Below w.heap.size w (w.alloc (.cells #[.int .i64 (i : Int), .int .i64 q] 40)) := (Below.refl _ _).alloc (Nat.le_refl _) _
  have c1 := (hal.cell (p := ⟨bb, 0, none⟩) (World.block_lt_of_cell? w _ hb)).trans hb
  have c2 := (hal.cell (p := ⟨bq, 0, none⟩) (World.block_lt_of_cell? w _ hq)).trans hq
  have hc3 := hS.cell hil
  have c3 := (hal.cell (p := ⟨g, i, none⟩) (World.block_lt_of_cell? w _ hc3)).trans hc3
  have hf : Hid (Ma.opens nd b ((i : Int), q) = (decide (q = (b : Int)) && !nd.getD i false)) := by show _ = _; unfold Ma.opens; simp only [Int.toNat_natCast]
  generalize nd.getD i false = t at c3 hf
  rw [hf.out]
  clear hf hc3 hb hq hS
  by_cases hqb : q = (b : Int)
  · have d1 : (q == (b : Int)) = true := by simpa using hqb
    have hf : Hid ((decide (q = (b : Int)) && !t) = !t) := by show _ = _; simp [hqb]
    rw [hf.out]
    clear hf hqb
    cases t
    · go_enter Tryd.func20, Tryd.ntmps20
      go_wp2
      go_ret
      exact ⟨rfl, hal⟩
    · go_enter Tryd.func20, Tryd.ntmps20
      go_wp2
      go_ret
      exact ⟨rfl, hal⟩
  · have d1 : (q == (b : Int)) = false := by simpa using hqb
    have hf : Hid ((decide (q = (b : Int)) && !t) = false) := by show _ = _; simp [hqb]
    rw [hf.out]
    clear hf hqb
    go_enter Tryd.func20, Tryd.ntmps20
    go_wp2
    go_ret
    exact ⟨rfl, hal⟩

theorem Cover_err (l r : Int) (A : Option Addr) (n c : Nat) (ls : List Gr.Ln) (w : World) (hr : RdP w w.heap.size A n c ls) (h : Ma.code l r ls ≠ 0) :
    Calls Tryd.prog 11 #[.int .i64 l, .int .i64 r, .slice A n c] w fun e w' => e = .returned (.tuple #[.slice none 0 0, .slice none 0 0, errv (Ma.code l r ls)]) ∧ Below w.heap.size w w' := by
  have H := Lib.hid h
  clear h
  go_enter Tryd.func11, Tryd.ntmps11
  go_wp2_with fail
  refine (MCheck_any l r A n c ls _ hr).mono ?_
  rintro e w1 ⟨rfl, hb⟩
  rw [errOf_pos H.out]
  go_wp2
  go_ret3
  exact ⟨rfl, hb⟩

/-- what Cover hands back where nothing is wrong -/
def CvPost (l r : Nat) (ls : List Gr.Ln) (w : World) (e : Ending) (w' : World) : Prop :=
  Below w.heap.size w w' ∧ ∃ v1 v2, e = .returned (.tuple #[v1, v2, .nilIface]) ∧ Own w' w.heap.size 3 v1 (upL (Ma.cvl ls l r l)) ∧ Own w' w.heap.size 3 v2 (upL (Ma.cvr ls l r r))

set_option maxRecDepth 100000 in
set_option maxHeartbeats 2000000 in
theorem Cover_ok (l r : Nat) (A : Option Addr) (n c : Nat) (ls : List Gr.Ln) (w : World) (hr : RdP w w.heap.size A n c ls) (h : Ma.code (l : Int) (r : Int) ls = 0) :
    Calls Tryd.prog 11 #[.int .i64 (l : Int), .int .i64 (r : Int), .slice A n c] w (CvPost l r ls w) := by
  unfold CvPost
  have hmf : ∀ (fn : Fn) (first cap : Array Value) (w : World), (Instr.makeFunc fn first cap).run Tryd.prog w = .ok (.func fn first cap) w := fun _ _ _ _ => rfl
  have H := Lib.hid h
  have HZ := Lib.hid (Ma.code_zero.1 h)
  clear h
  have hl6 : l ≤ 6 := by have := HZ.out.2.1; omega
  have hr6 : r ≤ 6 := by have := HZ.out.2.2.2.1; omega
  have hn24 : n ≤ 24 := by have := HZ.out.2.2.2.2.1; rw [hr.len] at this; exact this
  have HGd := Lib.hid HZ.out.2.2.2.2.2
  obtain ⟨i0, hi, hz0, hz1, hz2⟩ := info_parts boolInfo
  have hml : l ≤ maxLen := by simp only [maxLen]; omega
  have HI := Lib.hid (And.intro hi (And.intro hz0 (And.intro hz1 hz2)))
  clear hi hz0 hz1 hz2 HZ
  go_enter Tryd.func11, Tryd.ntmps11
  go_wp2_with fail
  refine (MCheck_any l r A n c ls _ hr).mono ?_
  rintro e w1 ⟨rfl, hb1⟩
  rw [errOf_zero H.out]
  go_wp2_with fail
  refine (largest_any l r hl6 hr6 A n c ls HGd.out _ (hr.past hb1)).mono ?_
  rintro e w2 ⟨rfl, hb2⟩
  have hb12 := hb1.trans (hb2.mono hb1.size)
  obtain ⟨mx, hmx⟩ : ∃ mx, mx = Ma.nu (Ma.gl ls) l r := ⟨_, rfl⟩
  have HMX := Lib.hid hmx
  rw [← hmx]
  clear hmx hb1 hb2
  obtain ⟨g, hg⟩ : ∃ g, g = w2.heap.size := ⟨_, rfl⟩
  have hwg : w.heap.size ≤ g := by rw [hg]; exact hb12.size
  have HG := Lib.hid hg
  clear hg
  go_wp2_with (at_make; refine wpList_make_full _ rfl (.tmp 25) (.tmp 25) 46 rfl g 4 i0 (.bool false) 1 Tryd.underlying46 HI.out.1 HI.out.2.1 HI.out.2.2.1 .i64 .i64 _ _ l rfl rfl (by omega) (by omega) (by rw [HI.out.2.2.2]; omega) hml (by rw [HG.out]; exact Nat.le_refl _) ?_; intro w3 hown3 hg3; rw [← HG.out] at hown3; rw [← HG.out])
  obtain ⟨bq, hbq⟩ : ∃ bq, bq = w3.heap.size := ⟨_, rfl⟩
  rw [← hbq]
  obtain ⟨W, hW⟩ : ∃ W, W = w3.alloc (.cells #[.slice (some ⟨g, 0, none⟩) l l] 46) := ⟨_, rfl⟩
  rw [← hW]
  have hS3 := SeenAt.made hown3
  rw [← Ma.ndd_zero ls l r] at hS3
  have hSW : SeenAt W g l (Ma.ndd ls l r 0) := by rw [hW]; exact World.ownsRow.alloc hS3 _
  have hbW : Boxed W bq 46 (.slice (some ⟨g, 0, none⟩) l l) := by rw [hW, hbq]; exact Boxed.new _ _ _
  have hbel3 : Below w.heap.size w w3 := hb12.grown hg3 hb12.size (fun _ e => by cases e)
  have hbelW : Below w.heap.size w W := by rw [hW]; exact hbel3.alloc hbel3.size _
  clear hW hbq hown3 hg3 hS3 hbel3 hb12
  have HWL : Hid (∀ a : Nat, ∀ p ∈ Ma.wl ls (a : Int), Ma.Good (l : Int) (r : Int) p) := fun a p hp => HGd.out p (List.mem_filter.1 hp).1
  go_loopw [6, 11, 28] (fun lv _ iv wr => ∃ k : Nat, k ≤ l ∧ iv = .int .i64 (k : Int) ∧ Own wr w.heap.size 3 lv (upL (Ma.cvl ls l r k)) ∧ SeenAt wr g l (Ma.ndd ls l r k) ∧ Boxed wr bq 46 (.slice (some ⟨g, 0, none⟩) l l) ∧ Below w.heap.size w wr) (fun _ _ iv _ => l - (intOf iv).toNat)
  case atStart => exact ⟨0, Nat.zero_le _, rfl, Own.nil _ _ _, hSW, hbW, hbelW⟩
  case round =>
    clear hSW hbW hbelW
    obtain ⟨k, hkl, rfl, hown, hS, hbx, hbel⟩ := hrel
    have hsz := hbel.size
    by_cases hlt : k < l
    · have k1 : (0 : Int) ≤ (k : Int) := by omega
      have k2 : (k : Int) < (l : Int) := by omega
      go_wp2_with fail
      refine (withoutLeft_any A n c ls (k : Int) _ (hr.past hbel) hn24).mono ?_
      rintro e x1 ⟨v1, rfl, hoP, hb1⟩
      obtain ⟨A1, c1, rfl, hrd1⟩ := hoP.rd
      obtain ⟨n1, hn1⟩ : ∃ n1, n1 = (Ma.wl ls (k : Int)).length := ⟨_, rfl⟩
      rw [← hn1] at hrd1 ⊢
      clear hoP hn1
      go_wp2_with fail
      refine (largest_any l r hl6 hr6 A1 n1 c1 (Ma.wl ls (k : Int)) (HWL.out k) _ hrd1).mono ?_
      rintro e x2 ⟨rfl, hb2⟩
      have hb12 : Below wr.heap.size wr x2 := hb1.trans (hb2.mono hb1.size)
      have hown2 := hown.below hb12
      have hS2 : SeenAt x2 g l (Ma.ndd ls l r k) := hS.same (hb12.block g hS.lt)
      have hbx2 : Boxed x2 bq 46 (.slice (some ⟨g, 0, none⟩) l l) := (hb12.block bq hbx.lt).trans hbx
      have hbel2 : Below w.heap.size w x2 := hbel.trans (hb12.mono hsz)
      have hess : Hid (Ma.ess (Ma.gl ls) l r k = decide (Ma.nu (Ma.gl (Ma.wl ls (k : Int))) l r < mx)) := by show _ = _; rw [Ma.wl_gl, HMX.out]; rfl
      clear hrd1 hown hS hbx hb12 hb1 hb2 hbel
      generalize Ma.nu (Ma.gl (Ma.wl ls (k : Int))) l r = y at hess
      by_cases hy : y < mx
      · have hyI : (y : Int) < (mx : Int) := by omega
        have he : Ma.ess (Ma.gl ls) l r k = true := by rw [hess.out]; exact decide_eq_true hy
        have hn1 : Hid (upL (Ma.cvl ls l r (k + 1)) = upL (Ma.cvl ls l r k) ++ [(k : Int)]) := by show _ = _; rw [Ma.cvl_yes he, upL_snoc]
        have hn2 : Hid ((Ma.ndd ls l r k).set k true = Ma.ndd ls l r (k + 1)) := Ma.ndd_yes hlt he
        have hroom : (upL (Ma.cvl ls l r k)).length + 1 ≤ 17592186044416 := by rw [upL_len]; have := Ma.cvl_len ls l r k; omega
        have p1 := hbx2.cell
        have p2 := hS2.cell hlt
        have p3 := World.ownsRow.frozenAt hS2 k
        have hset := hS2.set k true
        have hne := own_ne (show (3 : Nat) ≠ 4 by decide) hown2 hS2
        obtain ⟨x3, hx3⟩ : ∃ x3, x3 = x2.setCell ⟨g, k, none⟩ (.bool true) := ⟨_, rfl⟩
        rw [← hx3] at hset
        have hs3 : x3.heap.size = x2.heap.size := by rw [hx3]; simp
        have hbx3 : Boxed x3 bq 46 (.slice (some ⟨g, 0, none⟩) l l) := hbx2.kept hset.2 (fun e => hbx2.not_row (by decide) hS2 (by rw [e]; rfl))
        have hown3 := hown2.grown hset.2 (fun j hj e => hne j hj (by rw [← e]; rfl))
        have hgl' : w.heap.size ≤ g := hwg
        have hbel3 : Below w.heap.size w x3 := by rw [hx3]; exact hbel2.setCell (p := ⟨g, k, none⟩) hgl' _
        have hown4 := hown3.below ((Below.refl _ _).alloc (Nat.le_refl _) (.cells #[.int .i64 (k : Int)] 3))
        have hrd4 := Rd.one x3 (k : Int) 3
        rw [hs3] at hrd4
        have hbel4 : Below w.heap.size w (x3.alloc (.cells #[.int .i64 (k : Int)] 3)) := hbel3.alloc hbel3.size _
        clear he hess hy hown2 hne hbel2 hbx2 hS2
        go_wp2_with (rw [← hx3]; clear hx3; at_builtin; refine wpList_app _ rfl (.tmp 42) (.tmp 44) _ rfl w.heap.size 3 Tryd.underlying28 intInfo _ _ rfl hown4 _ 1 1 [(k : Int)] rfl hrd4 hroom hbel4.size ?_; intro v5 x5 hown5 hg5 hat5)
        have hbel5 := below_app hbel4 hown4 hg5 hbel4.size
        have hS4 : SeenAt (x3.alloc (.cells #[.int .i64 (k : Int)] 3)) g l ((Ma.ndd ls l r k).set k true) := World.ownsRow.alloc hset.1 _
        have hS5 : SeenAt x5 g l (Ma.ndd ls l r (k + 1)) := by rw [← hn2.out]; exact World.ownsRow.kept hS4 hg5 (.inr fun e => own_ne (by decide) hS4 hown4 g rfl e.symm)
        have hbx5 : Boxed x5 bq 46 (.slice (some ⟨g, 0, none⟩) l l) := (hbx3.alloc _).kept hg5 ((hbx3.alloc _).not_row (by decide) hown4)
        go_wp2
        go_roundw
        case rel => exact ⟨k + 1, by omega, by go_num, by rw [hn1.out]; exact hown5, hS5, hbx5, hbel5⟩
        case measure => simp [intOf]; omega
      · have he : Ma.ess (Ma.gl ls) l r k = false := by rw [hess.out]; exact decide_eq_false hy
        have hyI : (mx : Int) ≤ (y : Int) := by omega
        have hn1 : Hid (upL (Ma.cvl ls l r (k + 1)) = upL (Ma.cvl ls l r k)) := by show _ = _; rw [Ma.cvl_no he]
        have hn2 : Hid (Ma.ndd ls l r (k + 1) = Ma.ndd ls l r k) := Ma.ndd_no he
        clear he hess hy
        go_wp2
        go_roundw
        case rel => exact ⟨k + 1, by omega, by go_num, by rw [hn1.out]; exact hown2, by rw [hn2.out]; exact hS2, hbx2, hbel2⟩
        case measure => simp [intOf]; omega
    · obtain rfl : k = l := by omega
      obtain ⟨B2, hB2⟩ : ∃ B2, B2 = wr.heap.size := ⟨_, rfl⟩
      have HLB : Hid (∀ j, u6.ownBlock = some j → j < B2) := by show ∀ j, _; rw [hB2]; exact hown.lt
      have hgB : g < B2 := by rw [hB2]; exact hS.lt
      have hqB : bq < B2 := by rw [hB2]; exact hbx.lt
      have hBsz : B2 ≤ wr.heap.size := by omega
      have hwB : w.heap.size ≤ B2 := by omega
      clear hB2
      go_wp2
      go_loopw [7, 12, 13, 48] (fun rv _ _ iv wv => ∃ b : Nat, b ≤ r ∧ iv = .int .i64 (b : Int) ∧ Own wv w.heap.size 3 u6 (upL (Ma.cvl ls k r k)) ∧ Own wv B2 3 rv (upL (Ma.cvr ls k r b)) ∧ SeenAt wv g k (Ma.ndd ls k r k) ∧ Boxed wv bq 46 (.slice (some ⟨g, 0, none⟩) k k) ∧ Below w.heap.size w wv ∧ B2 ≤ wv.heap.size) (fun _ _ _ iv _ => r - (intOf iv).toNat)
      case atStart => exact ⟨0, Nat.zero_le _, rfl, hown, Own.nil _ _ _, hS, hbx, hbel, hBsz⟩
      case round =>
        clear hown hS hbx hbel hsz hBsz
        obtain ⟨b, hbr, rfl, hown, hrv, hS, hbx, hbel, hBsz⟩ := hrel
        have hsz := hbel.size
        by_cases hlb : b < r
        · have k2 : (b : Int) < (r : Int) := by omega
          obtain ⟨x0, hx0⟩ : ∃ x0, x0 = wr.alloc (.cells #[.int .i64 (b : Int)] 3) := ⟨_, rfl⟩
          have hb0 : Below wr.heap.size wr x0 := by rw [hx0]; exact (Below.refl _ _).alloc (Nat.le_refl _) _
          have hs0 : x0.heap.size = wr.heap.size + 1 := by rw [hx0]; simp
          have hbb0 : Boxed x0 wr.heap.size 3 (.int .i64 (b : Int)) := by rw [hx0]; exact Boxed.new _ _ _
          have hS0 : SeenAt x0 g k (Ma.ndd ls k r k) := hS.same (hb0.block g hS.lt)
          have hbx0 : Boxed x0 bq 46 (.slice (some ⟨g, 0, none⟩) k k) := (hb0.block bq hbx.lt).trans hbx
          have hbel0 : Below w.heap.size w x0 := hbel.trans (hb0.mono hsz)
          have HC := Lib.hid (ContainsFn_any 20 #[.pointer (some ⟨wr.heap.size, 0, none⟩), .pointer (some ⟨bq, 0, none⟩)] (Ma.opens (Ma.ndd ls k r k) b) A n c ls x0 (hr.past hbel0) (enters_of Tryd.func20 (by kernel_rfl) rfl)
            (fun V p hp hV => cover1_any wr.heap.size bq g k b (Ma.ndd ls k r k) p.1 p.2 V ((hV.cell (p := ⟨wr.heap.size, 0, none⟩) (by rw [hs0]; exact Nat.lt_succ_self _)).trans hbb0.cell) ((hV.cell (p := ⟨bq, 0, none⟩) hbx0.lt).trans hbx0.cell) (hS0.same (hV.block g hS0.lt)) (HGd.out p hp).1 (HGd.out p hp).2.1))
          have hany : Hid (ls.any (Ma.opens (Ma.ndd ls k r k) b) = Ma.nbr (Ma.gl ls) k (fun i => !Ma.ess (Ma.gl ls) k r i) b) := Ma.opens_any HGd.out
          have HX0 := Lib.hid hx0
          clear hx0
          go_wp2_with fail
          rw [← HX0.out]
          refine HC.out.mono ?_
          rintro e x1 ⟨hb1, t, rfl, ht⟩
          have ht2 : Hid (Ma.nbr (Ma.gl ls) k (fun i => !Ma.ess (Ma.gl ls) k r i) b = t) := by show _ = _; rw [ht.out, hany.out]
          have hb01 : Below wr.heap.size wr x1 := hb0.trans (hb1.mono (by omega))
          have hown1 := hown.below hb01
          have hrv1 := hrv.below hb01
          have hS1 : SeenAt x1 g k (Ma.ndd ls k r k) := hS.same (hb01.block g hS.lt)
          have hbx1 : Boxed x1 bq 46 (.slice (some ⟨g, 0, none⟩) k k) := (hb01.block bq hbx.lt).trans hbx
          have hbb1 : x1.cell? ⟨wr.heap.size, 0, none⟩ = some (.int .i64 (b : Int)) := (hb1.cell (p := ⟨wr.heap.size, 0, none⟩) (by rw [hs0]; exact Nat.lt_succ_self _)).trans hbb0.cell
          have hbel1 : Below w.heap.size w x1 := hbel.trans (hb01.mono hsz)
          have hBs1 : B2 ≤ x1.heap.size := by have := hb01.size; omega
          clear ht hany HC HX0 hb0 hb1 hb01 hbb0 hS0 hbx0 hbel0 hown hrv hS hbx hbel
          cases t with
          | true =>
            have hn1 : Hid (upL (Ma.cvr ls k r (b + 1)) = upL (Ma.cvr ls k r b) ++ [(b : Int)]) := by show _ = _; rw [Ma.cvr_yes ht2.out, upL_snoc]
            have hroom : (upL (Ma.cvr ls k r b)).length + 1 ≤ 17592186044416 := by rw [upL_len]; have := Ma.cvr_len ls k r b; omega
            have hrv2 := hrv1.below ((Below.refl _ _).alloc (Nat.le_refl _) (.cells #[.int .i64 (b : Int)] 3))
            have hown2 := hown1.below ((Below.refl _ _).alloc (Nat.le_refl _) (.cells #[.int .i64 (b : Int)] 3))
            have hS2 : SeenAt (x1.alloc (.cells #[.int .i64 (b : Int)] 3)) g k (Ma.ndd ls k r k) := World.ownsRow.alloc hS1 _
            have hbx2 := hbx1.alloc (.cells #[.int .i64 (b : Int)] 3)
            have hbel2 : Below w.heap.size w (x1.alloc (.cells #[.int .i64 (b : Int)] 3)) := hbel1.alloc hbel1.size _
            have hBs2 : B2 ≤ (x1.alloc (.cells #[.int .i64 (b : Int)] 3)).heap.size := by simp; omega
            go_wp2_with (at_builtin; refine wpList_app _ rfl (.tmp 55) (.tmp 57) _ rfl B2 3 Tryd.underlying28 intInfo _ _ rfl hrv2 _ 1 1 [(b : Int)] rfl (Rd.one _ _ _) hroom hBs2 ?_; intro v5 x5 hrv5 hg5 hat5)
            have hbel5 : Below w.heap.size w x5 := hbel2.grown hg5 hbel2.size (fun j hj => by have := hrv2.at_base j hj; omega)
            have hown5 := hown2.grown hg5 (fun j hj e => by have i1 := hrv2.at_base j e; have i2 := HLB.out j hj; omega)
            have hS5 : SeenAt x5 g k (Ma.ndd ls k r k) := World.ownsRow.kept hS2 hg5 (.inr fun e => own_ne (by decide) hS2 hrv2 g rfl e.symm)
            have hbx5 : Boxed x5 bq 46 (.slice (some ⟨g, 0, none⟩) k k) := hbx2.kept hg5 (hbx2.not_row (by decide) hrv2)
            have hBs5 : B2 ≤ x5.heap.size := Nat.le_trans hBs2 hg5.size
            go_wp2
            go_roundw
            case rel => exact ⟨b + 1, by omega, by go_num, hown5, by rw [hn1.out]; exact hrv5, hS5, hbx5, hbel5, hBs5⟩
            case measure => simp [intOf]; omega
          | false =>
            have hn1 : Hid (upL (Ma.cvr ls k r (b + 1)) = upL (Ma.cvr ls k r b)) := by show _ = _; rw [Ma.cvr_no ht2.out]
            go_wp2
            go_roundw
            case rel => exact ⟨b + 1, by omega, by go_num, hown1, by rw [hn1.out]; exact hrv1, hS1, hbx1, hbel1, hBs1⟩
            case measure => simp [intOf]; omega
        · obtain rfl : b = r := by omega
          go_wp2
          go_ret3
          exact ⟨hbel, _, _, rfl, hown, hrv.mono hwB⟩

end Go.Proofs.YtbegepdeaeplgaaDoor
