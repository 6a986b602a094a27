/-
  strings.Join at the empty separator: the library's contract, laid at this program. No statement of the program is proved here; there is no condition.
-/
import Derived.Test.YtoofpmajiphldaaDoorProg
import Derived.Test.YtoofpmajiphldaaDoorLibU
import Derived.Test.YtoofpmajiphldaaDoorTreeU
import Derived.Shelf.Strings.OnBuilder
namespace Go.Proofs.YtoofpmajiphldaaDoor
open Go.RowKit

def joinRen : Go.Shelf.Ren := ⟨fun | 156 => 28 | 165 => 42 | 166 => 43 | 169 => 44 | 240 => 66 | 241 => 67 | 276 => 80 | 277 => 81 | n => n, fun | 0 => 0 | 3 => 3 | 4 => 4 | 9 => 9 | 20 => 20 | 31 => 53 | 37 => 79 | 70 => 78 | 72 => 81 | 75 => 26 | 76 => 38 | 127 => 113 | 164 => 85 | 5 => 5 | 80 => 84 | n => n, fun | n => n⟩
set_option maxHeartbeats 1000000 in
theorem joinLays : Go.Proofs.Lays.n156 Tryd.prog joinRen := {
  mixed := by kernel_rfl
  f156 := Tryd.func28.trans (congrArg some (by kernel_rfl))
  f165 := Tryd.func42.trans (congrArg some (by kernel_rfl))
  f166 := Tryd.func43.trans (congrArg some (by kernel_rfl))
  f169 := Tryd.func44.trans (congrArg some (by kernel_rfl))
  f240 := Tryd.func66.trans (congrArg some (by kernel_rfl))
  f241 := Tryd.func67.trans (congrArg some (by kernel_rfl))
  f276 := Tryd.func80.trans (congrArg some (by kernel_rfl))
  f277 := Tryd.func81.trans (congrArg some (by kernel_rfl))
  t0 := Tryd.underlying0
  a0 := Tryd.isAgg0
  z0 := Tryd.sizeOf0
  v0 := Tryd.zeroValue0
  t3 := Tryd.underlying3
  a3 := Tryd.isAgg3
  z3 := Tryd.sizeOf3
  v3 := Tryd.zeroValue3
  t4 := Tryd.underlying4
  a4 := Tryd.isAgg4
  z4 := Tryd.sizeOf4
  v4 := Tryd.zeroValue4
  t9 := Tryd.underlying9
  a9 := Tryd.isAgg9
  z9 := Tryd.sizeOf9
  v9 := Tryd.zeroValue9
  t20 := Tryd.underlying20
  a20 := Tryd.isAgg20
  z20 := Tryd.sizeOf20
  v20 := Tryd.zeroValue20
  t31 := Tryd.underlying53
  a31 := Tryd.isAgg53
  z31 := Tryd.sizeOf53
  v31 := Tryd.zeroValue53
  t37 := Tryd.underlying79
  a37 := Tryd.isAgg79
  z37 := Tryd.sizeOf79
  v37 := Tryd.zeroValue79
  t70 := Tryd.underlying78
  a70 := Tryd.isAgg78
  z70 := Tryd.sizeOf78
  v70 := Tryd.zeroValue78
  t72 := Tryd.underlying81
  a72 := Tryd.isAgg81
  z72 := Tryd.sizeOf81
  v72 := Tryd.zeroValue81
  t75 := Tryd.underlying26
  a75 := Tryd.isAgg26
  z75 := Tryd.sizeOf26
  v75 := Tryd.zeroValue26
  t76 := Tryd.underlying38
  a76 := Tryd.isAgg38
  z76 := Tryd.sizeOf38
  v76 := Tryd.zeroValue38
  t127 := Tryd.underlying113
  a127 := Tryd.isAgg113
  z127 := Tryd.sizeOf113
  v127 := Tryd.zeroValue113
  t164 := Tryd.underlying85
  a164 := Tryd.isAgg85
  z164 := Tryd.sizeOf85
  v164 := Tryd.zeroValue85 }
theorem joinExtra : Go.Proofs.Builder.Extra Tryd.prog joinRen := {
  sizeBuilder := by kernel_rfl
  liesBuilder := by kernel_rfl
  t5 := Tryd.underlying5
  a5 := Tryd.isAgg5
  z5 := Tryd.sizeOf5
  v5 := Tryd.zeroValue5
  infoByte := by kernel_rfl
  cellsByte := by kernel_rfl
  sizeByte := by kernel_rfl
  neB5 := by decide }

/-- texts put one behind the other -/
theorem join_any (A : Option Addr) (n c : Nat) (zs : List (List Nat)) (w : World) (hr : RdT w w.heap.size A n c (zs.map Nm.bs)) (hsm : n ≤ 1048576) (hl : zs.flatten.length ≤ 1048576) :
    Calls Tryd.prog 28 #[.slice A n c, .string ⟨#[]⟩] w fun e w' => e = .returned (.string (Nm.bs zs.flatten)) ∧ Below w.heap.size w w' := by
  have hlen : zs.length = n := by have := hr.len; simpa using this
  have hj : Go.Lib.join ((zs.map Nm.bs).map (·.data.toList)) (ByteArray.mk #[]).data.toList = Nm.u8 zs.flatten := Nm.join_u8 zs
  by_cases h0 : n = 0
  · have hz : zs = [] := List.eq_nil_of_length_eq_zero (by omega)
    subst hz
    subst h0
    refine (Go.Proofs.Any.strings_Join_none joinLays joinExtra A c ⟨#[]⟩ w).mono ?_
    rintro e w' ⟨rfl, rfl⟩
    exact ⟨rfl, Below.refl _ _⟩
  · obtain ⟨b, o, rfl, hb, hc⟩ := hr.at_ (by omega)
    have hle := hr.le
    have key := Go.Proofs.Any.strings_Join joinLays joinExtra b o c (zs.map Nm.bs) ⟨#[]⟩ w (fun j x hx => by
      have hjn : j < (zs.map Nm.bs).length := by
        rcases Nat.lt_or_ge j (zs.map Nm.bs).length with h | h
        · exact h
        · rw [List.getElem?_eq_none h] at hx; cases hx
      rw [hc j (by simpa [hlen] using hjn)]
      simp only [List.getD, hx, Option.getD_some]) hb (by simp; omega) (by simp; omega) (by rw [hj, Nm.u8_len]; omega)
    have e1 : (zs.map Nm.bs).length = n := by simpa using hlen
    rw [e1] at key
    refine key.mono ?_
    rintro e w' ⟨rfl, hb2⟩
    rw [hj]
    exact ⟨rfl, hb2⟩

end Go.Proofs.YtoofpmajiphldaaDoor
