/-
  Contracts of the document's answer for Elias codes (package brambleweirref1): one, ReadGamma, ReadDelta.
-/
import Derived.Test.YtiafekjdefnifaaDoorRefA
namespace Go.Proofs.YtiafekjdefnifaaDoor.R
open Go.RowKit

/-- what 'one' hands back: the number, and how many bits its code has (0: there is none) -/
def One (n at_ : Nat) (bs : List Int) (o : Option (Int × List Int)) (e : Ending) : Prop :=
  match o with
  | none => e = .returned (.tuple #[.int .i64 0, .int .i64 0])
  | some (m, r) => ∃ K : Nat, 0 < K ∧ at_ + K ≤ n ∧ r = bs.drop (at_ + K) ∧ e = .returned (.tuple #[.int .i64 m, .int .i64 K])

set_option maxRecDepth 100000 in
set_option maxHeartbeats 2000000 in
theorem one_any {B : Nat} (A : Option Addr) (n c a : Nat) (bs : List Int) (w : World) (hr : Rd w B A n c bs) (hn : n ≤ 600) (ha : a ≤ n) (hb : El.Bits bs) :
    Calls Tryd.prog 26 #[.slice A n c, .int .i64 a] w fun e w' => One n a bs (El.cutG (bs.drop a)) e ∧ w = w' := by
  have HX := Lib.hid hr.len
  go_enter Tryd.func26, Tryd.ntmps26
  go_wp2
  go_loop [6] (fun i => ∃ k : Nat, a + k ≤ n ∧ i = .int .i64 k ∧ Hid (∀ t, t < k → (bs.drop a).getD t 0 = 0)) (fun i => n - a - (intOf i).toNat)
  case atStart => exact ⟨0, by omega, rfl, fun t ht => by omega⟩
  case round =>
    obtain ⟨k, hk, rfl, H⟩ := hrel
    have fin : (a + k < n → bs.getD (a + k) 0 ≠ 0) → Hid (El.cutG (bs.drop a) = El.cutD 0 ((bs.drop a).drop k) (k + 1)) := by
      intro hne
      have hz := El.zeros_eq (bs.drop a) k (by rw [List.length_drop, HX.out]; omega) H.out (by rw [List.length_drop, HX.out, getD_drop]; intro h; exact hne (by omega))
      show _ = _
      rw [El.cutG, hz]
    have rest : Hid (El.cutG (bs.drop a) = El.cutD 0 ((bs.drop a).drop k) (k + 1)) → (n ≤ a + 2 * k → El.cutG (bs.drop a) = none) := by
      intro h hle
      rw [h.out]
      exact El.cutD_short _ _ _ (by rw [List.length_drop, List.length_drop, HX.out]; omega)
    by_cases hlt : a + k < n
    · obtain ⟨b1, o1, rfl, hb1, hc1⟩ := hr.at_ (by omega)
      have g1 := hc1 (a + k) hlt
      obtain ⟨p, hp⟩ : ∃ p, p = bs.getD (a + k) 0 := ⟨_, rfl⟩
      rw [← hp] at g1 fin
      have HP := Lib.hid hp
      clear hp
      by_cases h0 : p = 0
      · subst h0
        clear fin rest hc1
        go_wp2
        go_round
        case rel =>
          refine ⟨k + 1, by omega, by go_num, ?_⟩
          intro t ht
          rcases Nat.lt_or_ge t k with h' | h'
          · exact H.out t h'
          · obtain rfl : t = k := by omega
            rw [getD_drop]
            exact HP.out.symm
        case measure => simp [intOf]; omega
      · have e0 : (p == 0) = false := by simpa using h0
        have HF := fin (fun _ => h0)
        have hrest := rest HF
        clear fin h0 rest
        have HC := Lib.hid hc1
        clear hc1
        by_cases hshort : n ≤ a + 2 * k
        · have hnone := Lib.hid (hrest hshort)
          clear hrest
          go_wp2
          go_ret2
          unfold One
          rw [hnone.out]
          exact ⟨rfl, rfl⟩
        · clear hrest
          go_wp2
          go_loop [7, 8] (fun x i => ∃ (j : Nat) (m : Int), j ≤ k + 1 ∧ 0 ≤ m ∧ m ≤ 1000000 ∧ x = .int .i64 m ∧ i = .int .i64 ((k : Int) + (j : Int)) ∧ Hid (El.cutG (bs.drop a) = El.cutD m (((bs.drop a).drop k).drop j) (k + 1 - j))) (fun _ i => 2 * k + 1 - (intOf i).toNat)
          case atStart => exact ⟨0, 0, by omega, by omega, by omega, rfl, by simp, by show _ = _; rw [HF.out]; simp⟩
          case round =>
            obtain ⟨j, m, hj, hm0, hm1, rfl, rfl, H2⟩ := hrel
            by_cases hjk : j < k + 1
            · have g2 := HC.out (a + (k + j)) (by omega)
              have hs := cutD_round (m := m) (bs := (bs.drop a).drop k) hjk (by rw [List.length_drop, List.length_drop, HX.out]; omega)
              have hbit := bits_at hb (j := a + (k + j)) (by rw [HX.out]; omega)
              rw [getD_drop, getD_drop] at hs
              obtain ⟨q, hq⟩ : ∃ q, q = bs.getD (a + (k + j)) 0 := ⟨_, rfl⟩
              rw [← hq] at g2 hs hbit
              have hq0 : 0 ≤ q := by omega
              have hq1 : q ≤ 1 := by omega
              have HS := Lib.hid hs
              clear hq hs hbit
              by_cases hbig : 1000000 < 2 * m + q
              · have hnone : Hid (El.cutG (bs.drop a) = none) := by show _ = _; rw [H2.out, HS.out, if_pos hbig]
                go_wp2
                go_ret2
                unfold One
                rw [hnone.out]
                exact ⟨rfl, rfl⟩
              · go_wp2
                go_round
                case rel => exact ⟨j + 1, 2 * m + q, by omega, by omega, by omega, rfl, by simp [Int.add_assoc], by show _ = _; rw [H2.out, HS.out, if_neg hbig]⟩
                case measure => simp [intOf]; omega
            · obtain rfl : j = k + 1 := by omega
              have hfin : Hid (El.cutG (bs.drop a) = some (m, bs.drop (a + (2 * k + 1)))) := by
                show _ = _
                rw [H2.out, Nat.sub_self]
                simp only [El.cutD, List.drop_drop]
                congr 3
                omega
              go_wp2
              go_ret2
              unfold One
              rw [hfin.out]
              exact ⟨⟨2 * k + 1, by omega, by omega, rfl, by simp⟩, rfl⟩
    · obtain rfl : n = a + k := by omega
      have HF := fin (fun h => by omega)
      have hnone := Lib.hid (rest HF (by omega))
      clear fin rest
      go_wp2
      go_ret2
      unfold One
      rw [hnone.out]
      exact ⟨rfl, rfl⟩

/-- what ReadGamma and ReadDelta hand back: the list, and the error's number -/
def RRead (w w' : World) (o : Option (List Int)) (bs : List Int) (e : Ending) : Prop :=
  Below w.heap.size w w' ∧ ((rcode o bs ≠ 0 ∧ e = .returned (.tuple #[.slice none 0 0, .int .i64 (rcode o bs)])) ∨
    (∃ v ns, rcode o bs = 0 ∧ o = some ns ∧ e = .returned (.tuple #[v, .int .i64 0]) ∧ Own w' w.heap.size 3 v ns))

theorem bcode_full {bs : List Int} (h : 600 < bs.length) : bcode bs = 4 := by unfold bcode; rw [if_pos h]
theorem bcode_bad {bs : List Int} (h : ¬ 600 < bs.length) (hb : ¬ El.Bits bs) : bcode bs = 1 := by
  unfold bcode
  rw [if_neg h, if_neg]
  intro h'
  exact hb (by simpa [El.Bits] using h')
theorem bcode_ok {bs : List Int} (h : ¬ 600 < bs.length) (hb : El.Bits bs) : bcode bs = 0 := by
  unfold bcode
  rw [if_neg h, if_pos]
  simpa [El.Bits] using hb

end Go.Proofs.YtiafekjdefnifaaDoor.R
