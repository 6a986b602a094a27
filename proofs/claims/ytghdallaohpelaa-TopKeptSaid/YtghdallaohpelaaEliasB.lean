/-
  Contracts of Gamma and Delta of package elias, of the comparison Ints, and of the laws' own test 'in'.
-/
import Derived.Test.YtghdallaohpelaaEliasA
import Derived.RegionTactic
import Derived.ChangeAlike
namespace Go.Proofs.Ytghdallaohpelaa
open Go.RowKit

theorem Delta_no (n : Int) (w : World) (h : n < 1 ∨ 1000000 < n) :
    Calls Try.prog 35 #[.int .i64 n] w fun e w' => e = .returned (.tuple #[.slice none 0 0, errv 1]) ∧ w = w' := by
  go_enter Try.func35, Try.ntmps35
  go_wp2_with (go_at_call 40; refine (hasCode_no _ _ h).mono ?_; rintro e w' ⟨rfl, rfl⟩)
  go_ret2
  exact ⟨rfl, rfl⟩

set_option maxHeartbeats 400000 in
theorem Delta_yes (n : Nat) (w : World) (h1 : 1 ≤ n) (h2 : n ≤ 1000000) :
    Calls Try.prog 35 #[.int .i64 n] w fun e w' => ∃ v, e = .returned (.tuple #[v, .nilIface]) ∧ Own w' w.heap.size 3 v (El.delta n) ∧ Below w.heap.size w w' := by
  have hbl := El.bin_len_le h1 h2
  have hp := El.bin_pos n
  have hbl2 := El.bin_len_le hp (by omega : (El.bin n).length ≤ 1000000)
  have hp2 := El.bin_pos (El.bin n).length
  go_enter Try.func35, Try.ntmps35
  go_wp2_with (first
    | (go_at_call 40; refine (hasCode_yes _ _ (by omega) (by omega)).mono ?_; rintro e w' ⟨rfl, rfl⟩))
  go_wp2_with fail
  refine (digitsOf_any _ _ h1 h2).mono ?_
  rintro e w1 ⟨v1, rfl, hown1, hb1⟩
  obtain ⟨A1, c1, rfl, hr1⟩ := hown1.rd
  go_wp2_with fail
  refine (digitsOf_any _ _ hp (by omega)).mono ?_
  rintro e w2 ⟨v2, rfl, hown2, hb2⟩
  obtain ⟨A2, c2, rfl, hr2⟩ := hown2.rd
  go_wp2_with fail
  refine (gammaOf_any _ _ _ _ _ hr2 hp2 (by omega)).mono ?_
  rintro e w3 ⟨v3, rfl, hown3, hb3⟩
  obtain ⟨b, off, rfl, hbb, _⟩ := hr1.at_ (by omega)
  have hle1 := hr1.le
  have hcap1 := hr1.cap
  have hs1 := hb1.size
  have hs2 := hb2.size
  have hs3 := hb3.size
  have hr3 := (hr1.past hb2).past hb3
  have hb13 : Below w.heap.size w w3 := (hb1.trans (hb2.mono hs1)).trans (hb3.mono (by omega))
  have hown3' := hown3.mono (base' := w.heap.size) (by omega)
  by_cases hc1 : c1 = 1
  · subst hc1
    go_wp2_with (at_builtin; refine wpList_app _ rfl (.tmp 16) (.tmp 18) _ rfl w.heap.size 3 Try.underlying31 intInfo _ _ rfl hown3' _ _ _ (El.bin n).tail rfl (Rd.empty _ 0 _ _ _ _ (by simp <;> omega) (by omega) (by omega)) (by simp; omega) (by omega) ?_; intro v4 w4 hown4 hg4 hat4)
    go_ret2
    exact ⟨_, rfl, hown4, below_app hb13 hown3' hg4 (by omega)⟩
  · go_wp2_with (at_builtin; refine wpList_app _ rfl (.tmp 16) (.tmp 18) _ rfl w.heap.size 3 Try.underlying31 intInfo _ _ rfl hown3' _ _ _ (El.bin n).tail rfl (hr3.tail (by omega) hc1) (by simp; omega) (by omega) ?_; intro v4 w4 hown4 hg4 hat4)
    go_ret2
    exact ⟨_, rfl, hown4, below_app hb13 hown3' hg4 (by omega)⟩

end Go.Proofs.Ytghdallaohpelaa
