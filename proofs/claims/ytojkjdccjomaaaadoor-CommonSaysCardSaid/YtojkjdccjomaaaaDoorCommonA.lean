/-
  The contracts of package common's helpers: nearer (with its closure), upward, isVertex. No statement of the program is proved here; there is no condition.
-/
import Derived.Test.YtojkjdccjomaaaaDoorCommonQ
import Derived.Test.YtojkjdccjomaaaaDoorIdxF
import Derived.Test.YtojkjdccjomaaaaDoorLibS
namespace Go.Proofs.YtojkjdccjomaaaaDoor
open Go.RowKit
set_option linter.unusedSimpArgs false
set_option linter.unusedVariables false

theorem cIsV_yes (n v : Int) (w : World) (h1 : 0 ≤ v) (h2 : v < n) :
    Calls Tryd.prog 21 #[.int .i64 n, .int .i64 v] w fun e w' => e = .returned (.bool true) ∧ w = w' := by
  go_enter Tryd.func21, Tryd.ntmps21
  go_wp2
  go_ret
  exact ⟨rfl, rfl⟩
theorem cIsV_no (n v : Int) (w : World) (h : v < 0 ∨ n ≤ v) :
    Calls Tryd.prog 21 #[.int .i64 n, .int .i64 v] w fun e w' => e = .returned (.bool false) ∧ w = w' := by
  by_cases ha : v < 0
  · go_enter Tryd.func21, Tryd.ntmps21
    go_wp2
    go_ret
    exact ⟨rfl, rfl⟩
  · have h1 : 0 ≤ v := by omega
    have hd : decide (v < n) = false := by simp; omega
    clear h ha
    go_enter Tryd.func21, Tryd.ntmps21
    go_wp2
    go_ret
    exact ⟨rfl, rfl⟩

/-- nearer's closure: is this one nearer? -/
theorem near1_any (bf bv : Nat) (F : Option Addr) (m c : Nat) (ds : List Int) (v u : Nat) (hv : v < m) (hu : u < m) (w : World) (hr : Rd w w.heap.size F m c ds) (g1 : w.cell? ⟨bf, 0, none⟩ = some (.slice F m c)) (g2 : w.cell? ⟨bv, 0, none⟩ = some (.int .i64 (v : Int))) (t : Bool) (ht : decide (ds.getD u 0 < ds.getD v 0) = t) :
    Calls Tryd.prog 34 #[.int .i64 (u : Int), .pointer (some ⟨bf, 0, none⟩), .pointer (some ⟨bv, 0, none⟩)] w fun e w' => e = .returned (.bool t) ∧ Below w.heap.size w w' := by
  obtain ⟨b1, o1, rfl, hb1, hc1⟩ := hr.at_ (by omega)
  have g3 := hc1 u hu
  have g4 := hc1 v hv
  obtain ⟨x, hx⟩ : ∃ x, x = ds.getD u 0 := ⟨_, rfl⟩
  obtain ⟨y, hy⟩ : ∃ y, y = ds.getD v 0 := ⟨_, rfl⟩
  rw [← hx] at g3 ht
  rw [← hy] at g4 ht
  have hbig := hr.big
  have u0 : (0 : Int) ≤ (u : Int) := by omega
  have u1 : (u : Int) < (m : Int) := by omega
  have v0 : (0 : Int) ≤ (v : Int) := by omega
  have v1 : (v : Int) < (m : Int) := by omega
  clear hc1 hx hy hr
  go_enter Tryd.func34, Tryd.ntmps34
  go_wp2
  go_quiet (fail)
  go_wp2
  go_ret
  exact ⟨rfl, Below.drewN' _ _ _⟩

/-- whom a point hangs on -/
theorem nearer_any (m v r : Nat) (ls : List Gr.Ln) (hT : Tr.Tree m ls) (hr : r < m) (hv : v < m) (F A : Option Addr) (c N d : Nat) (w : World) (hf : Rd w w.heap.size F m c (Wa.dists m (Wa.nrow m ls) r)) (hn : Rd w w.heap.size A N d (Gr.row m ls v)) :
    Calls Tryd.prog 19 #[.slice F m c, .int .i64 (v : Int), .slice A N d] w fun e w' => e = .returned (.int .i64 (Co.upI m ls r v)) ∧ Below w.heap.size w w' := by
  obtain ⟨s, hs⟩ : ∃ s, s = w.heap.size := ⟨_, rfl⟩
  obtain ⟨W, hW⟩ : ∃ W, W = (w.alloc (.cells #[.slice F m c] 25)).alloc (.cells #[.int .i64 (v : Int)] 3) := ⟨_, rfl⟩
  have hb0 : Below w.heap.size w W := by rw [hW]; exact ((Below.refl _ _).alloc (Nat.le_refl _) _).alloc (by simp) _
  have hx0 : Boxed W s 25 (.slice F m c) := by rw [hW, hs]; exact (Boxed.new w _ _).alloc _
  have hx1 : Boxed W (s + 1) 3 (.int .i64 (v : Int)) := by
    rw [hW, hs]
    have := Boxed.new (w.alloc (.cells #[.slice F m c] 25)) 3 (.int .i64 (v : Int))
    rw [World.size_alloc] at this
    exact this
  have hf0 := hf.past hb0
  have hn0 := hn.past hb0
  have HRN := Co.row_near hT hr hv
  have HI := Lib.hid (IndexFnI_all 34 #[.pointer (some ⟨s, 0, none⟩), .pointer (some ⟨s + 1, 0, none⟩)] (fun x => decide ((Wa.dists m (Wa.nrow m ls) r).getD x.toNat 0 < (Wa.dists m (Wa.nrow m ls) r).getD v 0)) A N d (Gr.row m ls v) W hn0 (enters_of Tryd.func34 (by kernel_rfl) rfl)
    (fun V x hx hV => by
      obtain ⟨u, rfl, hu, _⟩ := HRN x hx
      rw [Int.toNat_natCast]
      exact near1_any s (s + 1) F m c _ v u hv hu V (hf0.past hV) ((hV.cell (p := ⟨s, 0, none⟩) hx0.lt).trans hx0.cell) ((hV.cell (p := ⟨s + 1, 0, none⟩) hx1.lt).trans hx1.cell) _ rfl))
  have HYES : Hid (∀ k, k < N → (fun x : Int => decide ((Wa.dists m (Wa.nrow m ls) r).getD x.toNat 0 < (Wa.dists m (Wa.nrow m ls) r).getD v 0)) ((Gr.row m ls v).getD k 0) = true → (Gr.row m ls v).getD k 0 = Co.upI m ls r v) := by
    show ∀ k, _
    intro k hk h
    have hmem : (Gr.row m ls v).getD k 0 ∈ Gr.row m ls v := by simp [List.getD, show k < (Gr.row m ls v).length by rw [hn.len]; exact hk]
    obtain ⟨u, e1, e2, e3⟩ := HRN _ hmem
    rw [e1] at h ⊢
    simp only [Int.toNat_natCast, decide_eq_true_eq] at h
    exact e3.1 h
  have HNO : Hid ((∀ i, i < N → (fun x : Int => decide ((Wa.dists m (Wa.nrow m ls) r).getD x.toNat 0 < (Wa.dists m (Wa.nrow m ls) r).getD v 0)) ((Gr.row m ls v).getD i 0) = false) → Co.upI m ls r v = -1) := by
    show _ → _
    intro h
    by_cases he : v = r
    · rw [he]; exact Co.upI_root ls r
    · exfalso
      have hm := Co.row_has hT hr hv he
      obtain ⟨u, e1, e2, e3⟩ := HRN _ hm
      obtain ⟨i, hi, hie⟩ := List.getElem_of_mem hm
      have := h i (by rw [← hn.len]; exact hi)
      have hg : (Gr.row m ls v).getD i 0 = Co.upI m ls r v := by simp [List.getD, hi, hie]
      simp only [hg, e1, Int.toNat_natCast, decide_eq_false_iff_not] at this
      exact this (e3.2 e1.symm)
  rw [← hs] at hb0 ⊢
  have hbig := hn.big
  have HS := Lib.hid hs
  have HW := Lib.hid hW
  clear hs hW hx0 hx1 hf hf0 HRN hn
  go_enter Tryd.func19, Tryd.ntmps19
  go_wp2_with fail
  rw [← HW.out, ← HS.out]
  refine HI.out.mono ?_
  rintro e w1 ⟨hb1, hI⟩
  have hbw : Below s w w1 := hb0.trans (hb1.mono (by rw [HS.out]; exact hb0.size))
  rcases hI with ⟨rfl, hno⟩ | ⟨k, rfl, hk, hyes⟩
  · have HF := Lib.hid (HNO.out hno.out)
    go_wp2
    go_ret
    exact ⟨by rw [HF.out]; rfl, hbw⟩
  · have HF := Lib.hid (HYES.out k hk hyes.out)
    obtain ⟨b1, o1, rfl, hbb, hc1⟩ := (hn0.past hb1).at_ (by omega)
    have g1 := hc1 k hk
    rw [HF.out] at g1
    have k0 : (0 : Int) ≤ (k : Int) := by omega
    have k1 : (k : Int) < (N : Int) := by omega
    have hd : decide ((k : Int) < 0) = false := by simp
    clear hc1 hyes
    go_wp2
    go_ret
    exact ⟨rfl, hbw⟩

end Go.Proofs.YtojkjdccjomaaaaDoor
