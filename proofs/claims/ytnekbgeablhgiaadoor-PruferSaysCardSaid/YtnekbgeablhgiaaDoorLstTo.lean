/-
  Plain facts on lines by a test, as two loops put them down. No statement of the program is proved here; there is no condition.
-/
import Derived.Test.YtnekbgeablhgiaaDoorStrongN
namespace Go.Proofs.YtnekbgeablhgiaaDoor.RefC

/-- the lines ahead of (a, b) that a test takes -/
def lstTo (n : Nat) (r : Nat → Nat → Bool) (a b : Nat) : List Gr.Ln := (Gr.upTo n r a b).map fun p => ((p.1 : Int), (p.2 : Int))
theorem lstTo_zero (n : Nat) (r : Nat → Nat → Bool) : lstTo n r 0 0 = [] := by simp [lstTo, Gr.upTo]
theorem lstTo_hit {n : Nat} {r : Nat → Nat → Bool} {a b : Nat} (h : r a b = true) : lstTo n r a (b + 1) = lstTo n r a b ++ [((a : Int), (b : Int))] := by
  unfold lstTo
  rw [Gr.upTo_hit h, List.map_append]
  rfl
theorem lstTo_miss {n : Nat} {r : Nat → Nat → Bool} {a b : Nat} (h : r a b = false) : lstTo n r a (b + 1) = lstTo n r a b := by
  unfold lstTo
  rw [Gr.upTo_miss h]
theorem lstTo_row (n : Nat) (r : Nat → Nat → Bool) (a : Nat) : lstTo n r a n = lstTo n r (a + 1) 0 := by
  unfold lstTo
  rw [Gr.upTo_row]
theorem lstTo_end (n : Nat) (r : Nat → Nat → Bool) : lstTo n r n 0 = Cl.lst n r := by
  unfold lstTo Cl.lst
  rw [Gr.upTo_done]
theorem lstTo_len {n : Nat} {r : Nat → Nat → Bool} {a b : Nat} (h8 : n ≤ 8) (ha : a < n) (hb : b ≤ n) : (lstTo n r a b).length ≤ 64 := by
  have h := Gr.upTo_len (m := n) (r := r) a b
  have : a * n ≤ 7 * 8 := Nat.mul_le_mul (by omega) h8
  simp only [lstTo, List.length_map]
  omega

end Go.Proofs.YtnekbgeablhgiaaDoor.RefC
