/-
  Contracts of package prufer: between, the closures of Write and Read; slices.IndexFunc at []int. No statement of the program is proved here; there is no condition.
-/
import Derived.Test.YtnekbgeablhgiaaDoorPruferA
import Derived.Test.YtnekbgeablhgiaaDoorMaxI
import Derived.Test.YtnekbgeablhgiaaDoorGraphB
import Derived.Test.YtnekbgeablhgiaaDoorCmpL
namespace Go.Proofs.YtnekbgeablhgiaaDoor
open Go.RowKit Go.Shelf

attribute [local go_sem] Oper.semAt_some
set_option linter.unusedSimpArgs false
set_option linter.unusedVariables false

theorem between_any (a b : Int) (w : World) : Calls Tryd.prog 28 #[.int .i64 a, .int .i64 b] w fun e w' => e = .returned (.agg #[.int .i64 (min a b), .int .i64 (max a b)]) ∧ Below w.heap.size w w' := by
  obtain ⟨x, hx⟩ : ∃ x, x = min a b := ⟨_, rfl⟩
  obtain ⟨y, hy⟩ : ∃ y, y = max a b := ⟨_, rfl⟩
  have hmn : ∀ ats ty W, (Builtin.min_ ats ty #[.int .i64 a, .int .i64 b]).run Tryd.prog W = .ok (.int .i64 x) W := fun ats ty W => by rw [hx]; exact run_min2 a b ats ty W
  have hmx : ∀ ats ty W, (Builtin.max_ ats ty #[.int .i64 a, .int .i64 b]).run Tryd.prog W = .ok (.int .i64 y) W := fun ats ty W => by rw [hy]; exact run_max2 a b ats ty W
  have HX := Lib.hid hx
  have HY := Lib.hid hy
  clear hx hy
  rw [← HX.out, ← HY.out]
  go_enter Tryd.func28, Tryd.ntmps28
  go_wp2
  refine bodyPost_ret (results_cell_row rfl _ _ w.heap.size _ _ _ _ rfl (World.alloc_heap_new w _) Tryd.underlying41 rfl (by kernel_rfl)) rfl ?_
  exact ⟨rfl, (Below.refl _ _).alloc (Nat.le_refl _) _⟩

/-- slices.IndexFunc at []int, where there is one -/
theorem IndexFnI_any (g : Nat) (cb : Array Value) (f : Int → Bool) (A : Option Addr) (n c : Nat) (zs : List Int) (w : World) (hr : Rd w w.heap.size A n c zs) (hex : ∃ x ∈ zs, f x = true)
    (eg : ∀ args w, (callFunc g args).run Tryd.prog w = .ok (.enter g args) w)
    (hcall : ∀ V x, x ∈ zs → Below w.heap.size w V → Calls Tryd.prog g (#[.int .i64 x] ++ cb) V fun e V' => e = .returned (.bool (f x)) ∧ Below V.heap.size V V') :
    Calls Tryd.prog 19 #[.slice A n c, .func (.func g) #[] cb] w fun e w' => Below w.heap.size w w' ∧ ∃ k : Nat, e = .returned (.int .i64 (k : Int)) ∧ k < n ∧ f (zs.getD k 0) = true := by
  have HX := Lib.hid hr.len
  have hbig := hr.big
  have HC := Lib.hid hcall
  have HEX := Lib.hid hex
  clear hcall hex
  go_enter Tryd.func19, Tryd.ntmps19
  go_wp2
  go_loopw [5, 8] (fun _ iv wr => ∃ k : Nat, k ≤ n ∧ iv = .int .i64 (k : Int) ∧ Below w.heap.size w wr ∧ Hid (∀ i, i < k → f (zs.getD i 0) = false)) (fun _ iv _ => n - (intOf iv).toNat)
  case atStart => exact ⟨0, Nat.zero_le _, rfl, Below.refl _ _, fun i h => by omega⟩
  case round =>
    obtain ⟨k, hk, rfl, hbel, HF⟩ := hrel
    by_cases hlt : k < n
    · obtain ⟨b1, o1, rfl, hbb, hcc⟩ := (hr.below hbel).at_ (by omega)
      have g1 := hcc k hlt
      clear hcc
      have hm : zs.getD k 0 ∈ zs := by simp [List.getD, show k < zs.length by rw [HX.out]; exact hlt]
      have HK := Lib.hid (HC.out wr _ hm hbel)
      clear hm
      have hstep : Hid (f (zs.getD k 0) = false → ∀ i, i < k + 1 → f (zs.getD i 0) = false) := fun h i hi => by
        rcases Nat.lt_or_ge i k with h1 | h1
        · exact HF.out i h1
        · have : i = k := by omega
          rw [this]; exact h
      obtain ⟨p, hp⟩ : ∃ p, p = zs.getD k 0 := ⟨_, rfl⟩
      rw [← hp] at g1 HK hstep
      have HP := Lib.hid hp
      clear hp
      have k1 : (0 : Int) ≤ (k : Int) := by omega
      have k2 : (k : Int) < (n : Int) := by omega
      cases hf : f p with
      | true =>
        have HFT := Lib.hid hf
        rw [hf] at HK
        clear hf hstep
        go_wp2_with fail
        refine HK.out.mono ?_
        rintro e w1 ⟨rfl, hb1⟩
        go_wp2
        go_ret
        exact ⟨hbel.trans (hb1.mono hbel.size), _, rfl, hlt, by rw [← HP.out]; exact HFT.out⟩
      | false =>
        have hI := Lib.hid (hstep.out hf)
        rw [hf] at HK
        clear hf hstep
        go_wp2_with fail
        refine HK.out.mono ?_
        rintro e w1 ⟨rfl, hb1⟩
        go_wp2
        go_roundw
        case rel => exact ⟨k + 1, by omega, by go_num, hbel.trans (hb1.mono hbel.size), hI⟩
        case measure => simp [intOf]; omega
    · exfalso
      obtain ⟨x, hx, hfx⟩ := HEX.out
      obtain ⟨i, hi, rfl⟩ := List.getElem_of_mem hx
      have := HF.out i (by rw [← HX.out] at hlt; omega)
      simp [List.getD, hi] at this
      rw [this] at hfx
      cases hfx

/-- Write's inner closure: has it lines? -/
theorem pos_any (bd db B n c : Nat) (ds : List Int) (v : Nat) (hv : v < n) (w : World) (h1 : w.cell? ⟨bd, 0, none⟩ = some (.slice (some ⟨db, 0, none⟩) n c)) (h2 : Own w B 3 (.slice (some ⟨db, 0, none⟩) n c) ds) :
    Calls Tryd.prog 20 #[.int .i64 (v : Int), .pointer (some ⟨bd, 0, none⟩)] w fun e w' => e = .returned (.bool (decide (0 < ds.getD v 0))) ∧ w = w' := by
  have g1 := h2.cell v hv
  obtain ⟨x, hx⟩ : ∃ x, x = ds.getD v 0 := ⟨_, rfl⟩
  rw [← hx] at g1 ⊢
  have a0 : (0 : Int) ≤ (v : Int) := by omega
  have a1 : (v : Int) < (n : Int) := by omega
  obtain ⟨t, ht⟩ : ∃ t, decide (0 < x) = t := ⟨_, rfl⟩
  rw [ht]
  clear hx h2
  go_enter Tryd.func20, Tryd.ntmps20
  go_wp2
  go_ret
  exact ⟨rfl, rfl⟩

/-- what Write's closure reads: the rows, the numbers -/
def WrG (bb bd nB : Nat) (A : Option Addr) (m c db : Nat) (ls : List Gr.Ln) (W : World) : Prop :=
  nB ≤ W.heap.size ∧ W.cell? ⟨bb, 0, none⟩ = some (.slice A m c) ∧ W.cell? ⟨bd, 0, none⟩ = some (.slice (some ⟨db, 0, none⟩) m m) ∧ RdR W nB A m c (Gr.rows m ls)

/-- Write's closure: the only one beside the point that goes -/
theorem last_any (bb bd nB B db : Nat) (A : Option Addr) (m c : Nat) (ls : List Gr.Ln) (g : Nat → Bool) (k : Nat) (hT : Pf.TS m (Tr.ad ls) g (k + 1)) (hk : 2 ≤ k) (w : World) (hG : WrG bb bd nB A m c db ls w) (hO : Own w B 3 (.slice (some ⟨db, 0, none⟩) m m) (Pf.dw m (Tr.ad ls) g)) :
    Calls Tryd.prog 18 #[.int .i64 (Pf.lf m (Tr.ad ls) g : Int), .pointer (some ⟨bb, 0, none⟩), .pointer (some ⟨bd, 0, none⟩)] w fun e w' => e = .returned (.int .i64 (Pf.nb m (Tr.ad ls) g (Pf.lf m (Tr.ad ls) g) : Int)) ∧ Below w.heap.size w w' := by
  obtain ⟨hnB, g1, g2, hrr⟩ := hG
  obtain ⟨n1, n2⟩ := Pf.nb_row hT hk
  have ha := (hT.lf_spec (by omega)).1
  obtain ⟨a, hae⟩ : ∃ a, a = Pf.lf m (Tr.ad ls) g := ⟨_, rfl⟩
  rw [← hae] at n1 n2 ha ⊢
  obtain ⟨b, hbe⟩ : ∃ b, b = Pf.nb m (Tr.ad ls) g a := ⟨_, rfl⟩
  rw [← hbe] at n1 n2 ⊢
  obtain ⟨b1, o1, rfl, hb1, hc1⟩ := hrr.at_ (by omega)
  obtain ⟨A', c', g3, hrow⟩ := hc1 a ha
  rw [Gr.rows_getD ls ha] at g3 hrow
  obtain ⟨N, hN⟩ : ∃ N, N = (Gr.row m ls a).length := ⟨_, rfl⟩
  rw [← hN] at g3 hrow
  have a0 : (0 : Int) ≤ (a : Int) := by omega
  have a1 : (a : Int) < (m : Int) := by omega
  have hrw : Rd w w.heap.size A' N c' (Gr.row m ls a) := hrow.more hnB
  have HI := Lib.hid (IndexFnI_any 20 #[.pointer (some ⟨bd, 0, none⟩)] (fun x => decide (0 < (Pf.dw m (Tr.ad ls) g).getD x.toNat 0)) A' N c' (Gr.row m ls a) w hrw ⟨(b : Int), n1, by
      obtain ⟨v, e1, e2, e3⟩ := n2 _ n1
      have : v = b := by omega
      rw [decide_eq_true_eq, Int.toNat_natCast, ← this]
      exact e3.2 this⟩ (enters_of Tryd.func20 (by kernel_rfl) rfl)
    (fun V x hx hbV => by
      obtain ⟨v, rfl, e2, _⟩ := n2 x hx
      rw [Int.toNat_natCast]
      have hbd := World.block_lt_of_cell? w _ g2
      refine (pos_any bd db B m m (Pf.dw m (Tr.ad ls) g) v e2 V ((hbV.cell (p := ⟨bd, 0, none⟩) hbd).trans g2) (hO.below hbV)).mono ?_
      rintro e V' ⟨rfl, rfl⟩
      exact ⟨rfl, Below.refl _ _⟩))
  have HFIN : Hid (∀ k, k < N → (fun x : Int => decide (0 < (Pf.dw m (Tr.ad ls) g).getD x.toNat 0)) ((Gr.row m ls a).getD k 0) = true → (Gr.row m ls a).getD k 0 = (b : Int)) := by
    show ∀ k, _
    intro k hk h
    have hmem : (Gr.row m ls a).getD k 0 ∈ Gr.row m ls a := by simp [List.getD, show k < (Gr.row m ls a).length by rw [← hN]; exact hk]
    obtain ⟨v, e1, e2, e3⟩ := n2 _ hmem
    rw [e1] at h ⊢
    simp only [Int.toNat_natCast, decide_eq_true_eq] at h
    rw [e3.1 h]
  clear hc1 n1 n2 hae hbe hN hrow hO hT
  go_enter Tryd.func18, Tryd.ntmps18
  go_wp2_with fail
  refine HI.out.mono ?_
  rintro e w1 ⟨hb, k, rfl, hkN, hfk⟩
  have f1 := (hb.cell (p := ⟨bb, 0, none⟩) (World.block_lt_of_cell? w _ g1)).trans g1
  have f3 := (hb.cell (p := ⟨b1, o1 + a, none⟩) (World.block_lt_of_cell? w _ g3)).trans g3
  obtain ⟨b4, o4, rfl, hb4, hc4⟩ := (hrw.past hb).at_ (by omega)
  have f4 := hc4 k hkN
  rw [HFIN.out k hkN hfk] at f4
  have k0 : (0 : Int) ≤ (k : Int) := by omega
  have k1 : (k : Int) < (N : Int) := by omega
  clear hc4 hfk HFIN
  go_wp2
  go_ret
  exact ⟨rfl, hb⟩

/-- Read's closure: the number of the row that is next -/
theorem next_any (br bl B : Nat) (A : Option Addr) (n c : Nat) (row : List Int) (v : Value) (L : List Gr.Ln) (A2 : Option Addr) (c2 : Nat) (w : World) (hr : Rd w B A n c row) (g1 : w.cell? ⟨br, 0, none⟩ = some (.slice A n c)) (g2 : w.cell? ⟨bl, 0, none⟩ = some (.slice A2 L.length c2)) (hl : L.length < n) (x : Int) :
    Calls Tryd.prog 27 #[.int .i64 x, .pointer (some ⟨br, 0, none⟩), .pointer (some ⟨bl, 0, none⟩)] w fun e w' => e = .returned (.int .i64 (row.getD L.length 0)) ∧ Below w.heap.size w w' := by
  obtain ⟨N, hN⟩ : ∃ N, N = L.length := ⟨_, rfl⟩
  rw [← hN] at g2 hl ⊢
  obtain ⟨b1, o1, rfl, hb1, hc1⟩ := hr.at_ (by omega)
  have g3 := hc1 N hl
  obtain ⟨z, hz⟩ : ∃ z, z = row.getD N 0 := ⟨_, rfl⟩
  rw [← hz] at g3 ⊢
  have k0 : (0 : Int) ≤ (N : Int) := by omega
  have k1 : (N : Int) < (n : Int) := by omega
  clear hc1 hz hN
  go_enter Tryd.func27, Tryd.ntmps27
  go_wp2
  go_ret
  exact ⟨rfl, Below.refl _ _⟩

end Go.Proofs.YtnekbgeablhgiaaDoor
