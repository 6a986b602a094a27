/-
  The reference's Far over lines either way, over all points: it is the distance.
-/
import Derived.Test.YtojkjdccjomaaaaDoorRefX0
import Derived.Test.YtojkjdccjomaaaaDoorWalkG
namespace Go.Proofs.YtojkjdccjomaaaaDoor.RefF
open Go.RowKit

theorem start_steps {m : Nat} (ls : List Gr.Ln) : Wf.Steps m (Wa.nrow m ls) (start ls true (-1)) := by
  intro i j hi hj
  unfold start
  have h : steps ls true (-1) i j = (Wa.nrow m ls i).contains j := by
    have h1 : ¬ (i : Int) = -1 := by omega
    have h2 : ¬ (j : Int) = -1 := by omega
    have h3 : steps ls true (-1) i j = Gr.adj ls (i : Int) (j : Int) := by simp [steps, Gr.adj, h1, h2]
    rw [h3]
    cases h : Gr.adj ls (i : Int) (j : Int) with
    | true =>
      have : j ∈ Wa.nrow m ls i := Wa.mem_nrow.2 ⟨hj, h⟩
      exact (by simpa using this : (Wa.nrow m ls i).contains j = true).symm
    | false =>
      have : ¬ j ∈ Wa.nrow m ls i := fun hh => by have := (Wa.mem_nrow.1 hh).2; rw [h] at this; cases this
      exact (by simpa using this : (Wa.nrow m ls i).contains j = false).symm
  rw [h]
theorem matF_dist (m : Nat) (ls : List Gr.Ln) : matF m m (Wf.dk (start ls true (-1)) m) = matF m m (fun i j => Wa.dist m (Wa.nrow m ls) i j) := by
  unfold matF
  refine List.map_congr_left fun i hi => rowF_congr fun j hj => ?_
  exact Wf.far_dist (start_base ls true (-1)) (Wa.nrow_ok m ls) (start_steps ls) (by simpa using hi) hj
theorem rowF_dists (m : Nat) (ls : List Gr.Ln) (i : Nat) : rowF m (fun i j => Wa.dist m (Wa.nrow m ls) i j) i = Wa.dists m (Wa.nrow m ls) i := rfl

theorem Far_either (m : Nat) (A : Option Addr) (n c : Nat) (ls : List Gr.Ln) (w : World) (hr : RdP w w.heap.size A n c ls) (hm1 : 1 ≤ m) (hm8 : m ≤ 8) :
    Calls Tryd.prog 14 #[.int .i64 (m : Int), .slice A n c, .bool true, .int .i64 (-1)] w fun e w' => ∃ gb cb, e = .returned (.slice (some ⟨gb, 0, none⟩) m cb) ∧
      RdR w' w'.heap.size (some ⟨gb, 0, none⟩) m cb (matF m m (fun i j => Wa.dist m (Wa.nrow m ls) i j)) ∧ Below w.heap.size w w' := by
  refine (Far_any m A n c ls true (-1) w hr hm1 hm8).mono ?_
  rintro e w' ⟨gb, cb, rfl, h2, h3⟩
  rw [matF_dist] at h2
  exact ⟨gb, cb, rfl, h2, h3⟩
end Go.Proofs.YtojkjdccjomaaaaDoor.RefF
