/-
  strings.Join at the empty separator: the library's contract, laid at this program. No statement of the program is proved here; there is no condition.
-/
import Derived.Test.YtoofpmajiphldaaProg
import Derived.Test.YtoofpmajiphldaaLibU
import Derived.Test.YtoofpmajiphldaaTreeU
import Derived.Shelf.Strings.OnBuilder
namespace Go.Proofs.Ytoofpmajiphldaa
open Go.RowKit

def joinRen : Go.Shelf.Ren := ⟨fun | 156 => 30 | 165 => 46 | 166 => 47 | 169 => 48 | 240 => 65 | 241 => 66 | 276 => 76 | 277 => 77 | n => n, fun | 0 => 0 | 3 => 3 | 4 => 4 | 9 => 9 | 20 => 20 | 31 => 57 | 37 => 80 | 70 => 79 | 72 => 82 | 75 => 26 | 76 => 29 | 127 => 101 | 164 => 113 | 5 => 5 | 80 => 85 | n => n, fun | n => n⟩
set_option maxHeartbeats 1000000 in
theorem joinLays : Go.Proofs.Lays.n156 Try.prog joinRen := {
  mixed := by kernel_rfl
  f156 := Try.func30.trans (congrArg some (by kernel_rfl))
  f165 := Try.func46.trans (congrArg some (by kernel_rfl))
  f166 := Try.func47.trans (congrArg some (by kernel_rfl))
  f169 := Try.func48.trans (congrArg some (by kernel_rfl))
  f240 := Try.func65.trans (congrArg some (by kernel_rfl))
  f241 := Try.func66.trans (congrArg some (by kernel_rfl))
  f276 := Try.func76.trans (congrArg some (by kernel_rfl))
  f277 := Try.func77.trans (congrArg some (by kernel_rfl))
  t0 := Try.underlying0
  a0 := Try.isAgg0
  z0 := Try.sizeOf0
  v0 := Try.zeroValue0
  t3 := Try.underlying3
  a3 := Try.isAgg3
  z3 := Try.sizeOf3
  v3 := Try.zeroValue3
  t4 := Try.underlying4
  a4 := Try.isAgg4
  z4 := Try.sizeOf4
  v4 := Try.zeroValue4
  t9 := Try.underlying9
  a9 := Try.isAgg9
  z9 := Try.sizeOf9
  v9 := Try.zeroValue9
  t20 := Try.underlying20
  a20 := Try.isAgg20
  z20 := Try.sizeOf20
  v20 := Try.zeroValue20
  t31 := Try.underlying57
  a31 := Try.isAgg57
  z31 := Try.sizeOf57
  v31 := Try.zeroValue57
  t37 := Try.underlying80
  a37 := Try.isAgg80
  z37 := Try.sizeOf80
  v37 := Try.zeroValue80
  t70 := Try.underlying79
  a70 := Try.isAgg79
  z70 := Try.sizeOf79
  v70 := Try.zeroValue79
  t72 := Try.underlying82
  a72 := Try.isAgg82
  z72 := Try.sizeOf82
  v72 := Try.zeroValue82
  t75 := Try.underlying26
  a75 := Try.isAgg26
  z75 := Try.sizeOf26
  v75 := Try.zeroValue26
  t76 := Try.underlying29
  a76 := Try.isAgg29
  z76 := Try.sizeOf29
  v76 := Try.zeroValue29
  t127 := Try.underlying101
  a127 := Try.isAgg101
  z127 := Try.sizeOf101
  v127 := Try.zeroValue101
  t164 := Try.underlying113
  a164 := Try.isAgg113
  z164 := Try.sizeOf113
  v164 := Try.zeroValue113 }
theorem joinExtra : Go.Proofs.Builder.Extra Try.prog joinRen := {
  sizeBuilder := by kernel_rfl
  liesBuilder := by kernel_rfl
  t5 := Try.underlying5
  a5 := Try.isAgg5
  z5 := Try.sizeOf5
  v5 := Try.zeroValue5
  infoByte := by kernel_rfl
  cellsByte := by kernel_rfl
  sizeByte := by kernel_rfl
  neB5 := by decide }

/-- texts put one behind the other -/
theorem join_any (A : Option Addr) (n c : Nat) (zs : List (List Nat)) (w : World) (hr : RdT w w.heap.size A n c (zs.map Nm.bs)) (hsm : n ≤ 1048576) (hl : zs.flatten.length ≤ 1048576) :
    Calls Try.prog 30 #[.slice A n c, .string ⟨#[]⟩] w fun e w' => e = .returned (.string (Nm.bs zs.flatten)) ∧ Below w.heap.size w w' := by
  have hlen : zs.length = n := by have := hr.len; simpa using this
  have hj : Go.Lib.join ((zs.map Nm.bs).map (·.data.toList)) (ByteArray.mk #[]).data.toList = Nm.u8 zs.flatten := Nm.join_u8 zs
  by_cases h0 : n = 0
  · have hz : zs = [] := List.eq_nil_of_length_eq_zero (by omega)
    subst hz
    subst h0
    refine (Go.Proofs.Any.strings_Join_none joinLays joinExtra A c ⟨#[]⟩ w).mono ?_
    rintro e w' ⟨rfl, rfl⟩
    exact ⟨rfl, Below.refl _ _⟩
  · obtain ⟨b, o, rfl, hb, hc⟩ := hr.at_ (by omega)
    have hle := hr.le
    have key := Go.Proofs.Any.strings_Join joinLays joinExtra b o c (zs.map Nm.bs) ⟨#[]⟩ w (fun j x hx => by
      have hjn : j < (zs.map Nm.bs).length := by
        rcases Nat.lt_or_ge j (zs.map Nm.bs).length with h | h
        · exact h
        · rw [List.getElem?_eq_none h] at hx; cases hx
      rw [hc j (by simpa [hlen] using hjn)]
      simp only [List.getD, hx, Option.getD_some]) hb (by simp; omega) (by simp; omega) (by rw [hj, Nm.u8_len]; omega)
    have e1 : (zs.map Nm.bs).length = n := by simpa using hlen
    rw [e1] at key
    refine key.mono ?_
    rintro e w' ⟨rfl, hb2⟩
    rw [hj]
    exact ⟨rfl, hb2⟩

end Go.Proofs.Ytoofpmajiphldaa
