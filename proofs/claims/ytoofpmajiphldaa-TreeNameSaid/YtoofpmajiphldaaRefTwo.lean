/-
  The contract of the reference's Twice, where no number stands twice.
-/
import Derived.Test.YtoofpmajiphldaaRefL
import Derived.BigQuiet
namespace Go.Proofs.Ytoofpmajiphldaa
open Go.RowKit

theorem take_miss {l : List Int} {k : Nat} (hk : k < l.length) (h : l.Nodup) (p : Int) (hp : p = l.getD k 0) : (l.take k).contains p = false := by
  cases hc : (l.take k).contains p
  · rfl
  · exfalso
    rw [List.contains_iff_mem] at hc
    have h1 := h
    rw [← List.take_append_drop k l, List.nodup_append] at h1
    exact h1.2.2 p hc (l.getD k 0) (by have e : l.getD k 0 = l[k] := (by simp [List.getD, hk]); rw [e, List.drop_eq_getElem_cons hk]; exact List.mem_cons_self) hp
set_option maxHeartbeats 1000000 in
theorem Twice_no (A : Option Addr) (n c : Nat) (l : List Int) (w : World) (hr : Rd w w.heap.size A n c l) (hd : l.Nodup) :
    Calls Try.prog 13 #[.slice A n c] w fun e w' => e = .returned (.bool false) ∧ Below w.heap.size w w' := by
  have HX := Lib.hid hr.len
  have HD := Lib.hid hd
  clear hd
  have hbig := hr.big
  have hnc := hr.le
  have hcap := hr.cap
  go_enter Try.func13, Try.ntmps13
  go_wp2
  go_loopw [3] (fun i wr => ∃ k : Nat, k ≤ n ∧ i = .int .i64 k ∧ Below w.heap.size w wr) (fun i _ => n - (intOf i).toNat)
  case atStart => exact ⟨0, Nat.zero_le _, rfl, Below.refl _ _⟩
  case round =>
    obtain ⟨k, hk, rfl, hbel⟩ := hrel
    by_cases hlt : k < n
    · have hrk : Rd wr w.heap.size A n c l := hr.below hbel
      have hrt := hrk.take (k := k) (by omega)
      obtain ⟨b1, o1, rfl, hb1, hc1⟩ := hrk.at_ (by omega)
      have g1 := hc1 k hlt
      clear hc1
      obtain ⟨p, hp⟩ : ∃ p, p = l.getD k 0 := ⟨_, rfl⟩
      rw [← hp] at g1
      have HT := Lib.hid (take_miss (by rw [HX.out]; exact hlt) HD.out p hp)
      clear hp
      have k1 : (0 : Int) ≤ (k : Int) := by omega
      have k2 : (k : Int) < (n : Int) := by omega
      have hsz := hbel.size
      go_wp2
      go_quiet (first | (go_at_call 32; exact Calls.quiet_of_same ((Has_any _ _ _ _ p false _ ((hrt.drewN _).more hsz) HT.out).mono fun _ _ h => ⟨h.1, h.2.symm⟩)))
      go_wp2
      go_roundw
      case rel => exact ⟨k + 1, by omega, by go_num, hbel.trans (Below.drewN' _ _ _)⟩
      case measure => simp [intOf]; omega
    · obtain rfl : k = n := by omega
      go_wp2
      go_ret
      exact ⟨rfl, hbel⟩

end Go.Proofs.Ytoofpmajiphldaa
