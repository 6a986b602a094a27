/-
  The walk of the law WalkSteps: for every number of points, lines and point it returns true.
-/
import Derived.Test.YtghmpdhopdmmiaaWalkE
import Derived.Test.YtghmpdhopdmmiaaWalkQ
import Derived.Test.YtghmpdhopdmmiaaRefL
namespace Go.Proofs.Ytghmpdhopdmmiaa.walkSteps
open Go.RowKit

set_option linter.unusedSimpArgs false
set_option linter.unusedVariables false

/-- has one of the first j points been found beside i and one nearer? -/
def oneTo (m : Nat) (ls : List Gr.Ln) (f i j : Nat) : Bool := decide (Wa.dist m (Wa.nrow m ls) f i < 1) || (List.range j).any fun u => Gr.adj ls (i : Int) (u : Int) && decide (Wa.dist m (Wa.nrow m ls) f u = Wa.dist m (Wa.nrow m ls) f i - 1)
theorem oneTo_zero (m : Nat) (ls : List Gr.Ln) (f i : Nat) : oneTo m ls f i 0 = decide (Wa.dist m (Wa.nrow m ls) f i < 1) := by simp [oneTo]
theorem oneTo_succ (m : Nat) (ls : List Gr.Ln) (f i j : Nat) : oneTo m ls f i (j + 1) = (oneTo m ls f i j || (Gr.adj ls (i : Int) (j : Int) && decide (Wa.dist m (Wa.nrow m ls) f j = Wa.dist m (Wa.nrow m ls) f i - 1))) := by
  simp [oneTo, List.range_succ, Bool.or_assoc]
theorem oneTo_all {m : Nat} {ls : List Gr.Ln} {f i : Nat} (hf : f < m) (hi : i < m) : oneTo m ls f i m = true := by
  unfold oneTo
  by_cases h : Wa.dist m (Wa.nrow m ls) f i < 1
  · simp [h]
  · obtain ⟨j, hj, h1, h2⟩ := Wa.dist_back (Wa.nrow_ok m ls) hf (i := i) (by omega)
    have hadj := (Wa.mem_nrow.1 (Wa.nrow_sym m ls j i hj hi h1)).2
    rw [Bool.or_eq_true, List.any_eq_true]
    exact .inr ⟨j, by simpa using hj, by simp [hadj, h2]⟩

set_option maxRecDepth 100000 in
set_option maxHeartbeats 4000000 in
theorem walk (w : World) (a0 : Int) (_w0 : (Lit.int .i64 a0).wf = true) (a1 : Option Addr) (n1 c1 : Nat) (z1 : List Gr.Ln) (w1 : RdP w w.heap.size a1 n1 c1 z1) (a2 : Int) (_w2 : (Lit.int .i64 a2).wf = true) :
    Calls Try.prog 3 #[.int .i64 a0, .slice a1 n1 c1, .int .i64 a2] w fun e w' => e = .returned (.bool true) ∧ Below w.heap.size w w' := by
  by_cases hc : Wa.fcode a0 z1 a2 = 0
  · obtain ⟨h0, h1, h2⟩ := Wa.fcode_zero.1 hc
    have hz8 := (Gr.code_zero.1 h0).2.1
    obtain ⟨m, rfl⟩ : ∃ m : Nat, a0 = (m : Int) := ⟨a0.toNat, by have := (Gr.code_zero.1 h0).1; omega⟩
    obtain ⟨f, rfl⟩ : ∃ f : Nat, a2 = (f : Int) := ⟨a2.toNat, by omega⟩
    have hm8 : m ≤ 8 := by omega
    have hf : f < m := by omega
    have H0 := Lib.hid h0
    have hnn : ((m : Int) != (m : Int)) = false := by simp
    have hnn2 : (m != m) = false := by simp
    have hwr : IntKind.i64.wrap ((m : Int) - 1) = (m : Int) - 1 := by rw [IntKind.wrap_i64]; omega
    clear hc h0 h1 h2 hz8
    go_enter Try.func3, Try.ntmps3
    go_wp2_with (first
      | (go_at_call 7; refine (walkFact_any _).mono ?_; rintro e x1 ⟨rfl, hb1⟩)
      | (go_at_call 8; refine (From_good m f a1 n1 c1 z1 _ (w1.past hb1) H0.out hf).mono ?_; rintro e x2 ⟨g, rfl, hown, hb2⟩)
      | (go_at_call 9; refine (in_yes _ _ _ _ (by omega) (by omega)).mono ?_; rintro e x3 ⟨rfl, rfl⟩))
    have hr2 := hown.rd'
    have hl2 := (w1.past hb1).past hb2
    have hb := hb1.trans (hb2.mono hb1.size)
    clear hown hb1 hb2
    obtain ⟨b1, o1, e1, hbl, hcs⟩ := hr2.at_ (by omega)
    simp only [Option.some.injEq, Addr.mk.injEq, and_true] at e1
    obtain ⟨rfl, rfl⟩ := e1
    have HC : Hid (∀ wr : World, Below x2.heap.size x2 wr → ∀ j, j < m → wr.cell? ⟨g, j, none⟩ = some (.int .i64 (Wa.dist m (Wa.nrow m z1) f j))) := by
      intro wr hbel j hj
      have := hcs j hj
      rw [Nat.zero_add, Wa.dists_at _ _ hj] at this
      exact (hbel.cell (p := ⟨g, j, none⟩) hbl).trans this
    clear hcs hr2
    go_loopw [10] (fun iv wr => ∃ i : Nat, i ≤ m ∧ iv = .int .i64 (i : Int) ∧ Below x2.heap.size x2 wr) (fun iv _ => m - (intOf iv).toNat)
    case atStart => exact ⟨0, Nat.zero_le _, rfl, Below.refl _ _⟩
    case round =>
      obtain ⟨i, him, rfl, hbel⟩ := hrel
      by_cases hlt : i < m
      · have hi1 : (0 : Int) ≤ (i : Int) := by omega
        have hi2 : (i : Int) < (m : Int) := by omega
        have g1 := HC.out wr hbel i hlt
        have HO0 := Lib.hid (oneTo_zero m z1 f i)
        obtain ⟨p, hp⟩ : ∃ p, p = Wa.dist m (Wa.nrow m z1) f i := ⟨_, rfl⟩
        have hpr := Wa.dist_ge (Wa.nrow_ok m z1) hf (b := i)
        rw [← hp] at g1 HO0 hpr
        have HPd := Lib.hid hp
        clear hp
        go_wp2
        go_loopw [11, 12] (fun ov jv wr => ∃ (j : Nat) (t : Bool), j ≤ m ∧ jv = .int .i64 (j : Int) ∧ ov = .bool t ∧ Hid (t = oneTo m z1 f i j) ∧ Below x2.heap.size x2 wr) (fun _ jv _ => m - (intOf jv).toNat)
        case atStart => exact ⟨0, _, Nat.zero_le _, rfl, rfl, HO0.out.symm, hbel⟩
        case round =>
          clear g1 hbel HO0
          obtain ⟨j, t, hjm, rfl, rfl, HT, hbel⟩ := hrel
          have g1 := HC.out wr hbel i hlt
          rw [← HPd.out] at g1
          by_cases hlj : j < m
          · have hj1 : (0 : Int) ≤ (j : Int) := by omega
            have hj2 : (j : Int) < (m : Int) := by omega
            have g2 := HC.out wr hbel j hlj
            have hz := hl2.past hbel
            have HO := Lib.hid (oneTo_succ m z1 f i j)
            cases hadj : Gr.adj z1 (i : Int) (j : Int) with
            | false =>
              have HA := Lib.hid hadj
              clear hadj g2
              go_wp2_with (go_at_call 10; refine (RefL.Beside_any a1 n1 c1 z1 (i : Int) (j : Int) false _ hz HA.out).mono ?_; rintro e x3 ⟨rfl, rfl⟩)
              go_roundw
              case rel => exact ⟨j + 1, t, by omega, by go_num, rfl, by show _ = _; rw [HO.out, ← HT.out, HA.out]; simp, hbel⟩
              case measure => simp [intOf]; omega
            | true =>
              have HA := Lib.hid hadj
              have hij : j ∈ Wa.nrow m z1 i := Wa.mem_nrow.2 ⟨hlj, hadj⟩
              have hji : i ∈ Wa.nrow m z1 j := Wa.nrow_sym m z1 i j hlt hlj hij
              have s1 := fun h => Wa.dist_step (Wa.nrow_ok m z1) hf hlt hij h
              have s2 := fun h => Wa.dist_step (Wa.nrow_ok m z1) hf hlj hji h
              have hqr := Wa.dist_ge (Wa.nrow_ok m z1) hf (b := j)
              obtain ⟨q, hq⟩ : ∃ q, q = Wa.dist m (Wa.nrow m z1) f j := ⟨_, rfl⟩
              rw [← hq] at g2 s1 s2 hqr
              rw [← HPd.out] at s1 s2
              have HQd := Lib.hid hq
              clear hq hadj hij hji
              have e1 : IntKind.i64.wrap (p - q) = p - q := by rw [IntKind.wrap_i64]; omega
              have e2 : IntKind.i64.wrap (q - p) = q - p := by rw [IntKind.wrap_i64]; omega
              have e3 : IntKind.i64.wrap (p - 1) = p - 1 := by rw [IntKind.wrap_i64]; omega
              by_cases hp : p < 0
              · have hq : q < 0 := by
                  by_cases h : q < 0
                  · exact h
                  · have := (s2 (by omega)).1; omega
                have d1 : decide (p < 0) = true := by simpa using hp
                have d2 : decide (q < 0) = true := by simpa using hq
                have d3 : decide (1 < p - q) = false := by simp; omega
                have d4 : decide (1 < q - p) = false := by simp; omega
                clear s1 s2
                cases t with
                | true =>
                  go_wp2_with (go_at_call 10; refine (RefL.Beside_any a1 n1 c1 z1 (i : Int) (j : Int) true _ hz HA.out).mono ?_; rintro e x3 ⟨rfl, rfl⟩)
                  go_quiet (fail)
                  go_wp2
                  go_quiet (fail)
                  go_wp2
                  go_roundw
                  case rel => exact ⟨j + 1, _, by omega, by go_num, rfl, by show _ = _; rw [HO.out, ← HT.out]; rfl, hbel.trans (Below.drewN' _ _ _)⟩
                  case measure => simp [intOf]; omega
                | false =>
                  go_wp2_with (go_at_call 10; refine (RefL.Beside_any a1 n1 c1 z1 (i : Int) (j : Int) true _ hz HA.out).mono ?_; rintro e x3 ⟨rfl, rfl⟩)
                  go_quiet (fail)
                  go_wp2
                  go_quiet (fail)
                  go_wp2
                  go_roundw
                  case rel => exact ⟨j + 1, _, by omega, by go_num, rfl, by show _ = _; rw [HO.out, ← HT.out, HA.out, ← HPd.out, ← HQd.out]; rfl, hbel.trans (Below.drewN' _ _ _)⟩
                  case measure => simp [intOf]; omega
              · have hq := (s1 (by omega)).1
                have s3 := (s1 (by omega)).2
                have s4 := (s2 hq).2
                have d1 : decide (p < 0) = false := by simpa using hp
                have d2 : decide (q < 0) = false := by simpa using hq
                have d3 : decide (1 < p - q) = false := by simp; omega
                have d4 : decide (1 < q - p) = false := by simp; omega
                clear s1 s2
                cases t with
                | true =>
                  go_wp2_with (go_at_call 10; refine (RefL.Beside_any a1 n1 c1 z1 (i : Int) (j : Int) true _ hz HA.out).mono ?_; rintro e x3 ⟨rfl, rfl⟩)
                  go_quiet (fail)
                  go_wp2
                  go_quiet (fail)
                  go_wp2
                  go_roundw
                  case rel => exact ⟨j + 1, _, by omega, by go_num, rfl, by show _ = _; rw [HO.out, ← HT.out]; rfl, hbel.trans (Below.drewN' _ _ _)⟩
                  case measure => simp [intOf]; omega
                | false =>
                  go_wp2_with (go_at_call 10; refine (RefL.Beside_any a1 n1 c1 z1 (i : Int) (j : Int) true _ hz HA.out).mono ?_; rintro e x3 ⟨rfl, rfl⟩)
                  go_quiet (fail)
                  go_wp2
                  go_quiet (fail)
                  go_wp2
                  go_roundw
                  case rel => exact ⟨j + 1, _, by omega, by go_num, rfl, by show _ = _; rw [HO.out, ← HT.out, HA.out, ← HPd.out, ← HQd.out]; rfl, hbel.trans (Below.drewN' _ _ _)⟩
                  case measure => simp [intOf]; omega
          · obtain rfl : j = m := by omega
            have ht : Hid (t = true) := by show _ = _; rw [HT.out]; exact oneTo_all hf hlt
            have ht2 := ht.out
            subst ht2
            clear HT ht
            have hz0 := Wa.dist_zero (Wa.nrow_ok j z1) hf (v := i)
            rw [← HPd.out] at hz0
            have d5 : decide (p < -1) = false := by simp; omega
            by_cases hif : i = f
            · have hp0 := hz0.2 hif
              have d6 : (p == 0) = true := by simp [hp0]
              have d7 : ((i : Int) == (f : Int)) = true := by simp [hif]
              clear hp0 hif hz0
              go_wp2
              go_roundw
              case rel => exact ⟨i + 1, by omega, by go_num, hbel⟩
              case measure => simp [intOf]; omega
            · have hp0 : ¬ p = 0 := fun h => hif (hz0.1 h)
              have d6 : (p == 0) = false := by simpa using hp0
              have d7 : ((i : Int) == (f : Int)) = false := by simpa using fun h => hif (by omega)
              clear hp0 hif hz0
              go_wp2
              go_roundw
              case rel => exact ⟨i + 1, by omega, by go_num, hbel⟩
              case measure => simp [intOf]; omega
      · obtain rfl : i = m := by omega
        go_wp2
        go_ret
        exact ⟨rfl, hb.trans (hbel.mono hb.size)⟩
  · have H := Lib.hid hc
    clear hc
    go_enter Try.func3, Try.ntmps3
    go_wp2_with (first
      | (go_at_call 7; refine (walkFact_any _).mono ?_; rintro e x1 ⟨rfl, hb1⟩)
      | (go_at_call 8; refine (From_bad a0 a1 n1 c1 z1 a2 _ (w1.past hb1) H.out).mono ?_; rintro e x2 ⟨rfl, hb2⟩))
    go_ret
    exact ⟨rfl, hb1.trans (hb2.mono hb1.size)⟩

end Go.Proofs.Ytghmpdhopdmmiaa.walkSteps
