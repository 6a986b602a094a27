/-
  The reference's Far over lines one way, over all points: how far by lines as they go; and its Comes.
-/
import Derived.Test.YtcapinapfobcbaaDoorRefX0
import Derived.Test.YtcapinapfobcbaaDoorTopoP
namespace Go.Proofs.YtcapinapfobcbaaDoor.RefF
open Go.RowKit
set_option linter.unusedSimpArgs false
set_option linter.unusedVariables false

theorem start_one {m : Nat} (ls : List Gr.Ln) : Wf.Steps m (To.frow m ls) (start ls false (-1)) := by
  intro i j hi hj
  unfold start
  have h : steps ls false (-1) i j = (To.frow m ls i).contains j := by
    have h1 : ¬ (i : Int) = -1 := by omega
    have h2 : ¬ (j : Int) = -1 := by omega
    have h3 : steps ls false (-1) i j = Gr.has ls (i : Int) (j : Int) := by simp [steps, h1, h2]
    rw [h3]
    cases h : Gr.has ls (i : Int) (j : Int) with
    | true =>
      have : j ∈ To.frow m ls i := To.mem_frow.2 ⟨hj, h⟩
      exact (by simpa using this : (To.frow m ls i).contains j = true).symm
    | false =>
      have : ¬ j ∈ To.frow m ls i := fun hh => by have := (To.mem_frow.1 hh).2; rw [h] at this; cases this
      exact (by simpa using this : (To.frow m ls i).contains j = false).symm
  rw [h]
theorem matF_one (m : Nat) (ls : List Gr.Ln) : matF m m (Wf.dk (start ls false (-1)) m) = matF m m (fun i j => Wa.dist m (To.frow m ls) i j) := by
  unfold matF
  refine List.map_congr_left fun i hi => rowF_congr fun j hj => ?_
  exact Wf.far_dist (start_base ls false (-1)) (To.frow_ok m ls) (start_one ls) (by simpa using hi) hj

theorem Far_one (m : Nat) (A : Option Addr) (n c : Nat) (ls : List Gr.Ln) (w : World) (hr : RdP w w.heap.size A n c ls) (hm1 : 1 ≤ m) (hm8 : m ≤ 8) :
    Calls Tryd.prog 13 #[.int .i64 (m : Int), .slice A n c, .bool false, .int .i64 (-1)] w fun e w' => ∃ gb cb, e = .returned (.slice (some ⟨gb, 0, none⟩) m cb) ∧
      RdR w' w'.heap.size (some ⟨gb, 0, none⟩) m cb (matF m m (fun i j => Wa.dist m (To.frow m ls) i j)) ∧ Below w.heap.size w w' := by
  refine (Far_any m A n c ls false (-1) w hr hm1 hm8).mono ?_
  rintro e w' ⟨gb, cb, rfl, h2, h3⟩
  rw [matF_one] at h2
  exact ⟨gb, cb, rfl, h2, h3⟩


end Go.Proofs.YtcapinapfobcbaaDoor.RefF
