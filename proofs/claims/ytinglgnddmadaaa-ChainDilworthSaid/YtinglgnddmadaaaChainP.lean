/-
  Plain facts on points ahead of each other by ways, with no program in them: they are in a strict order where there is an order at all; depths rise along ways; an order as a list of points; one line more. No statement of the program is proved here; there is no condition.
-/
import Derived.Test.YtinglgnddmadaaaCloseN
import Derived.Test.YtinglgnddmadaaaChainN
set_option linter.unusedSimpArgs false
set_option linter.unusedVariables false
namespace Go.Proofs.Ytinglgnddmadaaa.Cn
open To (frow mem_frow frow_ok comes comes_iff Step Ring dpF)
open Cl (way_line way_lt way_trans way_up way_not_back way_along)

section
variable {n : Nat} {ls : List Gr.Ln} {o : List Int}
theorem str (hg : ∀ p ∈ ls, Gr.Good (n : Int) p) (hs : Step n ls o) (hl : o.length = n) : Str (comes n ls) n :=
  ⟨fun a b c ha hb hc h1 h2 => way_trans hg ha h1 h2, fun a ha => way_not_back hg hs hl ha⟩
/-- depths rise along ways -/
theorem deeper (hg : ∀ p ∈ ls, Gr.Good (n : Int) p) (hs : Step n ls o) (hl : o.length = n) {a b : Nat} (ha : a < n) (h : comes n ls a b = true) : dpF ls n (a : Int) < dpF ls n (b : Int) := by
  have hb := way_lt hg ha h
  obtain ⟨k, hk, hw⟩ := (comes_iff hg ha).1 h
  obtain ⟨⟨x, hx, hv⟩, _⟩ := To.dp_all hg hs hl ha
  have := (To.dp_all hg hs hl hb).2 _ x hx (Wa.wk_add hv hw)
  omega
/-- the order, as a list of points -/
def pts (o : List Int) : List Nat := o.map Int.toNat
theorem pts_perm (hs : Step n ls o) (hl : o.length = n) : (pts o).Perm (List.range n) := by
  have hr := hs.row hl
  refine (List.perm_ext_iff_of_nodup ?_ List.nodup_range).2 fun x => ?_
  · show List.Pairwise (· ≠ ·) _
    unfold pts
    rw [List.pairwise_map]
    refine List.Pairwise.imp_of_mem (fun {x y} hx hy hne e => ?_) hr.nodup
    have := hr.rng x hx
    have := hr.rng y hy
    exact hne (by omega)
  · unfold pts
    rw [List.mem_map, List.mem_range]
    constructor
    · rintro ⟨y, hy, rfl⟩
      have := hr.rng y hy
      omega
    · intro hx
      exact ⟨(x : Int), hr.mem hx, by simp⟩
theorem pts_no (hg : ∀ p ∈ ls, Gr.Good (n : Int) p) (hs : Step n ls o) (hl : o.length = n) : (pts o).Pairwise fun x y => comes n ls y x = false := by
  unfold pts
  rw [List.pairwise_map, List.pairwise_iff_getElem]
  intro i j hi hj hij
  have hr := hs.row hl
  have r1 := hr.rng o[i] (List.getElem_mem hi)
  have r2 := hr.rng o[j] (List.getElem_mem hj)
  cases h : comes n ls o[j].toNat o[i].toNat with
  | false => rfl
  | true =>
    exfalso
    have h1 := way_up hg hs hl (a := o[j].toNat) (by omega) h
    have e1 : o.getD i 0 = o[i] := by simp [List.getD, hi]
    have e2 : o.getD j 0 = o[j] := by simp [List.getD, hj]
    have p1 := St.plc_at hs.nodup hi
    have p2 := St.plc_at hs.nodup hj
    rw [e1] at p1
    rw [e2] at p2
    rw [show ((o[j].toNat : Nat) : Int) = o[j] by omega, show ((o[i].toNat : Nat) : Int) = o[i] by omega, p1, p2] at h1
    omega
/-- more lines, deeper -/
theorem deeper_more {ks : List Gr.Ln} {o' : List Int} (hg : ∀ p ∈ ls, Gr.Good (n : Int) p) (hs : Step n ls o) (hl : o.length = n) (hk : ∀ p ∈ ks, Gr.Good (n : Int) p) (hs' : Step n ks o') (hl' : o'.length = n) (hsub : ∀ p ∈ ls, p ∈ ks) {i : Nat} (hi : i < n) : dpF ls n (i : Int) ≤ dpF ks n (i : Int) := by
  obtain ⟨⟨a, ha, hw⟩, _⟩ := To.dp_all hg hs hl hi
  exact (To.dp_all hk hs' hl' hi).2 _ a ha (Wa.wk_mono (fun x _ y hy => mem_frow.2 ⟨(mem_frow.1 hy).1, Gr.has_iff.2 (hsub _ (Gr.has_iff.1 (mem_frow.1 hy).2))⟩) hw)
theorem comes_more {ks : List Gr.Ln} (hg : ∀ p ∈ ls, Gr.Good (n : Int) p) (hk : ∀ p ∈ ks, Gr.Good (n : Int) p) (hsub : ∀ p ∈ ls, p ∈ ks) {a b : Nat} (ha : a < n) (h : comes n ls a b = true) : comes n ks a b = true :=
  way_along hk hg (fun u v huv => way_line hk (Gr.has_iff.2 (hsub _ (Gr.has_iff.1 huv)))) ha h
end
end Go.Proofs.Ytinglgnddmadaaa.Cn
