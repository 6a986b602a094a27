/-
  Plain facts for lines that go either way, with no program in them: over whom all ways go from a point to another one holds them together. No statement of the program is proved here; there is no condition.
-/
import Derived.Test.YtjcdnkbandagoaaDomP
import Derived.Test.YtjcdnkbandagoaaDeepQ
import Derived.Test.YtjcdnkbandagoaaWalkM
set_option linter.unusedSimpArgs false
set_option linter.unusedVariables false
namespace Go.Proofs.Ytjcdnkbandagoaa.Do
open Wa (wk wk_zero wk_succ wk_add wk_one wk_mono nrow mem_nrow nrow_ok)
open To (frow mem_frow frow_ok)
open Sg (reach reach_iff)
open Dp (Cut rmv mem_rmv rmv_ok)

/-- each line, and the same one turned, of the first so many -/
def bts (ls : List Gr.Ln) (k : Nat) : List Gr.Ln := (ls.take k).flatMap fun p => [p, (p.2, p.1)]
theorem bts_zero (ls : List Gr.Ln) : bts ls 0 = [] := by simp [bts]
theorem bts_succ {ls : List Gr.Ln} {k : Nat} (hk : k < ls.length) : bts ls (k + 1) = bts ls k ++ [ls.getD k (0, 0), ((ls.getD k (0, 0)).2, (ls.getD k (0, 0)).1)] := by
  unfold bts
  rw [List.take_succ_eq_append_getElem hk, List.flatMap_append]
  simp [List.getD, hk]
theorem bts_len (ls : List Gr.Ln) (k : Nat) (hk : k ≤ ls.length) : (bts ls k).length = 2 * k := by
  induction k with
  | zero => simp [bts]
  | succ k ih =>
    rw [bts_succ (by omega), List.length_append, ih (by omega)]
    simp only [List.length_cons, List.length_nil]
    omega
theorem bts_sym {ls : List Gr.Ln} {k : Nat} {a b : Int} (h : Gr.has (bts ls k) a b = true) : Gr.has (bts ls k) b a = true := by
  rw [Gr.has_iff] at h ⊢
  unfold bts at h ⊢
  obtain ⟨p, hp, hm⟩ := List.mem_flatMap.1 h
  refine List.mem_flatMap.2 ⟨p, hp, ?_⟩
  simp only [List.mem_cons, List.not_mem_nil, or_false] at hm ⊢
  rcases hm with e | e
  · right; rw [← e]
  · left; obtain ⟨e1, e2⟩ := Prod.mk.inj e; rw [e1, e2]
/-- lines that go either way: over whom all ways go -/
theorem over_cut {n : Nat} {ls : List Gr.Ln} (hsym : ∀ a b : Int, Gr.has ls a b = true → Gr.has ls b a = true) {s i k : Nat} (hs : s < n) (hk : k < n) (hks : k ≠ s) (hki : k ≠ i) (h : dom n ls s i k = true) : Cut n (nrow n ls) k := by
  obtain ⟨h1, h2⟩ := dom_iff.1 h
  have h3 : reach n (cut ls k) s i = false := by
    rcases h2 with e | e | e
    · exact absurd e hks
    · exact absurd e hki
    · exact e
  have hi : i < n := Sg.reach_lt hs h1
  refine ⟨s, i, hs, hi, fun e => hks e.symm, fun e => hki e.symm, ?_, ?_⟩
  · obtain ⟨t, ht⟩ := (reach_iff hs).1 h1
    refine (Wa.rch_iff (nrow_ok n ls) hs).2 ⟨t, wk_mono (fun a ha b hb => ?_) ht⟩
    obtain ⟨hb1, hb2⟩ := mem_frow.1 hb
    exact mem_nrow.2 ⟨hb1, by unfold Gr.adj; rw [hb2]; rfl⟩
  · cases hr : Wa.rch n (rmv (nrow n ls) k) s i with
    | false => rfl
    | true =>
      exfalso
      obtain ⟨t, ht⟩ := (Wa.rch_iff (rmv_ok (nrow_ok n ls) k) hs).1 hr
      have : reach n (cut ls k) s i = true := by
        refine (reach_iff hs).2 ⟨t, wk_mono (fun a ha b hb => ?_) ht⟩
        obtain ⟨e1, e2, e3⟩ := mem_rmv.1 hb
        obtain ⟨hb1, hb2⟩ := mem_nrow.1 e3
        refine mem_frow.2 ⟨hb1, has_cut.2 ⟨?_, by omega, by omega⟩⟩
        have hb3 : Gr.has ls (a : Int) (b : Int) = true ∨ Gr.has ls (b : Int) (a : Int) = true := by
          have : (Gr.has ls (a : Int) (b : Int) || Gr.has ls (b : Int) (a : Int)) = true := hb2
          simpa [Bool.or_eq_true] using this
        rcases hb3 with e | e
        · exact e
        · exact hsym _ _ e
      rw [h3] at this
      cases this
end Go.Proofs.Ytjcdnkbandagoaa.Do
