/-
  The contract of the reference's Twice, where a number stands twice.
-/
import Derived.Test.YtoofpmajiphldaaRefL
import Derived.BigQuiet
namespace Go.Proofs.Ytoofpmajiphldaa
open Go.RowKit

/-- does a number among the first k stand twice? -/
def twiceTo (l : List Int) (k : Nat) : Prop := ¬ (l.take k).Nodup
theorem nodup_succ {l : List Int} {k : Nat} (hk : k < l.length) (h : (l.take k).Nodup) (hn : (l.take k).contains (l.getD k 0) = false) : (l.take (k + 1)).Nodup := by
  rw [List.take_succ_eq_append_getElem hk]
  refine List.nodup_append.2 ⟨h, by simp, fun a ha b hb => ?_⟩
  obtain rfl : b = l[k] := by simpa using hb
  intro e
  subst e
  have : (l.take k).contains (l.getD k 0) = true := by
    rw [List.contains_iff_mem]
    simpa [List.getD, hk] using ha
  rw [this] at hn
  cases hn
set_option maxHeartbeats 1000000 in
theorem Twice_any (A : Option Addr) (n c : Nat) (l : List Int) (w : World) (hr : Rd w w.heap.size A n c l) (hd : ¬ l.Nodup) :
    Calls Try.prog 13 #[.slice A n c] w fun e w' => e = .returned (.bool true) ∧ Below w.heap.size w w' := by
  have HX := Lib.hid hr.len
  have HD := Lib.hid hd
  clear hd
  have hbig := hr.big
  have hnc := hr.le
  have hcap := hr.cap
  go_enter Try.func13, Try.ntmps13
  go_wp2
  go_loopw [3] (fun i wr => ∃ k : Nat, k ≤ n ∧ i = .int .i64 k ∧ Below w.heap.size w wr ∧ Hid ((l.take k).Nodup)) (fun i _ => n - (intOf i).toNat)
  case atStart => exact ⟨0, Nat.zero_le _, rfl, Below.refl _ _, by show List.Nodup _; simp⟩
  case round =>
    obtain ⟨k, hk, rfl, hbel, H⟩ := hrel
    by_cases hlt : k < n
    · have hrk : Rd wr w.heap.size A n c l := hr.below hbel
      have hrt := hrk.take (k := k) (by omega)
      obtain ⟨b1, o1, rfl, hb1, hc1⟩ := hrk.at_ (by omega)
      have g1 := hc1 k hlt
      clear hc1
      obtain ⟨p, hp⟩ : ∃ p, p = l.getD k 0 := ⟨_, rfl⟩
      rw [← hp] at g1
      have HP := Lib.hid hp
      clear hp
      have k1 : (0 : Int) ≤ (k : Int) := by omega
      have k2 : (k : Int) < (n : Int) := by omega
      have hsz := hbel.size
      cases ht : (l.take k).contains p with
      | true =>
        have HT := Lib.hid ht
        clear ht
        go_wp2
        go_quiet (first | (go_at_call 32; exact Calls.quiet_of_same ((Has_any _ _ _ _ p true _ ((hrt.drewN _).more hsz) HT.out).mono fun _ _ h => ⟨h.1, h.2.symm⟩)))
        go_wp2
        go_ret
        exact ⟨rfl, hbel.trans (Below.drewN' _ _ _)⟩
      | false =>
        have hnext : Hid ((l.take (k + 1)).Nodup) := nodup_succ (by rw [HX.out]; exact hlt) H.out (by rw [← HP.out]; exact ht)
        have HT := Lib.hid ht
        clear ht
        go_wp2
        go_quiet (first | (go_at_call 32; exact Calls.quiet_of_same ((Has_any _ _ _ _ p false _ ((hrt.drewN _).more hsz) HT.out).mono fun _ _ h => ⟨h.1, h.2.symm⟩)))
        go_wp2
        go_roundw
        case rel => exact ⟨k + 1, by omega, by go_num, hbel.trans (Below.drewN' _ _ _), hnext⟩
        case measure => simp [intOf]; omega
    · exfalso
      have := H.out
      rw [List.take_of_length_le (by rw [HX.out]; omega)] at this
      exact HD.out this

end Go.Proofs.Ytoofpmajiphldaa
