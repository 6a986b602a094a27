/-
  No cell of these rows narrows 'for every input' (looked for: loops, veiled, ifaces, maps, wideKeys, modest, calm, conditions, laid).
  DERIVED. THE GIVEN ROWS OF THIS SEAT. 5 by the template 'for every input the law returns true; each argument reads behind the call as it read before'; 0 by the template 'total and deterministic' (their statements: YtnjfnfooljlnkaaTotals.lean).
  GIVEN WITH THE SEED: the statements are not yours to turn. If you find one false, say at which input.
  Laid BY PROGRAM, IN A SANDBOX (cutbox-rows.mjs): the forced cells as the released guide's own fill.sh prints them over the translation 78957d383c5fd143… (all of the seat's roots in one cut). By AI agents, Wed Nov 11 2026. No macro, syntax, notation, axiom, sorry.
-/
import Derived.Test.YtnjfnfooljlnkaaChecked
import GoSem.Claim
import GoSem.ClaimJoined
import GoSem.ClaimMapViews
import Derived.JoinedTies
import Derived.KernelRfl
namespace Go.Proofs.Ytnjfnfooljlnkaa
/- THE CELL 'sum', in the pinned program and in every row, IS THE sha256 OF THE DUMP (.gsa) THAT YtnjfnfooljlnkaaProg.lean LOADS. Nothing in Lean hashes anything: it is a label: what it is worth is what the hold of that sum in a sandbox is worth. -/
noncomputable def Try.pinned : Pinned := { name := "ytnjfnfooljlnkaa", sum := "78957d383c5fd143f0228c36d502df7fb04d15970b18f18ae55ee08e6b450284", checked := Try.checked }
namespace Rows
def none {H : Type} : Left H := { results := [], args := [] }

/-- 'brambleweirlaw1.Names': WHATEVER THE INPUT: true; the input reads as it did. -/
def namesSpec : ChangeSpec := { name := "names", fn := fun _ => fun
  | [] => { results := [.lit (.bool true)], args := [] }
  | _ => none }
def namesRow : OpenClaim := { program := "ytnjfnfooljlnkaa", sum := "78957d383c5fd143f0228c36d502df7fb04d15970b18f18ae55ee08e6b450284", func := "brambleweir/brambleweirlaw1.Names", spec := "names", apart := false }
def NamesSaid : Prop := namesRow.holds Try.pinned (OpenSpec.ofChange namesSpec)

/-- ITS FALSE NEIGHBOUR: 'it returns false'. Refute it at one input. -/
def namesWrong : ChangeSpec := { name := "names", fn := fun _ => fun
  | [] => { results := [.lit (.bool false)], args := [] }
  | _ => none }
def NamesWrongFalsely : Prop := namesRow.holds Try.pinned (OpenSpec.ofChange namesWrong)

/-- 'brambleweirlaw1.EliasBack': WHATEVER THE INPUT: true; the input reads as it did. -/
def eliasBackSpec : ChangeSpec := { name := "eliasBack", fn := fun _ => fun
  | [d] => { results := [.lit (.bool true)], args := [d] }
  | _ => none }
def eliasBackRow : OpenClaim := { program := "ytnjfnfooljlnkaa", sum := "78957d383c5fd143f0228c36d502df7fb04d15970b18f18ae55ee08e6b450284", func := "brambleweir/brambleweirlaw1.EliasBack", spec := "eliasBack", unfollowed := true, recurses := true, apart := false }
def EliasBackSaid : Prop := eliasBackRow.holds Try.pinned (OpenSpec.ofChange eliasBackSpec)

/-- ITS FALSE NEIGHBOUR: 'it returns false'. Refute it at one input. -/
def eliasBackWrong : ChangeSpec := { name := "eliasBack", fn := fun _ => fun
  | [d] => { results := [.lit (.bool false)], args := [d] }
  | _ => none }
def EliasBackWrongFalsely : Prop := eliasBackRow.holds Try.pinned (OpenSpec.ofChange eliasBackWrong)

/-- 'brambleweirlaw1.EliasLong': WHATEVER THE INPUT: true; the input reads as it did. -/
def eliasLongSpec : ChangeSpec := { name := "eliasLong", fn := fun _ => fun
  | [d1, d2] => { results := [.lit (.bool true)], args := [d1, d2] }
  | _ => none }
def eliasLongRow : OpenClaim := { program := "ytnjfnfooljlnkaa", sum := "78957d383c5fd143f0228c36d502df7fb04d15970b18f18ae55ee08e6b450284", func := "brambleweir/brambleweirlaw1.EliasLong", spec := "eliasLong", unfollowed := true, recurses := true, apart := false }
def EliasLongSaid : Prop := eliasLongRow.holds Try.pinned (OpenSpec.ofChange eliasLongSpec)

/-- ITS FALSE NEIGHBOUR: 'it returns false'. Refute it at one input. -/
def eliasLongWrong : ChangeSpec := { name := "eliasLong", fn := fun _ => fun
  | [d1, d2] => { results := [.lit (.bool false)], args := [d1, d2] }
  | _ => none }
def EliasLongWrongFalsely : Prop := eliasLongRow.holds Try.pinned (OpenSpec.ofChange eliasLongWrong)

/-- 'brambleweirlaw1.EliasApart': WHATEVER THE INPUT: true; the input reads as it did. -/
def eliasApartSpec : ChangeSpec := { name := "eliasApart", fn := fun _ => fun
  | [d1, d2] => { results := [.lit (.bool true)], args := [d1, d2] }
  | _ => none }
def eliasApartRow : OpenClaim := { program := "ytnjfnfooljlnkaa", sum := "78957d383c5fd143f0228c36d502df7fb04d15970b18f18ae55ee08e6b450284", func := "brambleweir/brambleweirlaw1.EliasApart", spec := "eliasApart", unfollowed := true, recurses := true, apart := false }
def EliasApartSaid : Prop := eliasApartRow.holds Try.pinned (OpenSpec.ofChange eliasApartSpec)

/-- ITS FALSE NEIGHBOUR: 'it returns false'. Refute it at one input. -/
def eliasApartWrong : ChangeSpec := { name := "eliasApart", fn := fun _ => fun
  | [d1, d2] => { results := [.lit (.bool false)], args := [d1, d2] }
  | _ => none }
def EliasApartWrongFalsely : Prop := eliasApartRow.holds Try.pinned (OpenSpec.ofChange eliasApartWrong)

/-- 'brambleweirlaw1.EliasOnly': WHATEVER THE INPUT: true; the input reads as it did. -/
def eliasOnlySpec : ChangeSpec := { name := "eliasOnly", fn := fun _ => fun
  | [d] => { results := [.lit (.bool true)], args := [d] }
  | _ => none }
def eliasOnlyRow : OpenClaim := { program := "ytnjfnfooljlnkaa", sum := "78957d383c5fd143f0228c36d502df7fb04d15970b18f18ae55ee08e6b450284", func := "brambleweir/brambleweirlaw1.EliasOnly", spec := "eliasOnly", unfollowed := true, recurses := true, apart := false }
def EliasOnlySaid : Prop := eliasOnlyRow.holds Try.pinned (OpenSpec.ofChange eliasOnlySpec)

/-- ITS FALSE NEIGHBOUR: 'it returns false'. Refute it at one input. -/
def eliasOnlyWrong : ChangeSpec := { name := "eliasOnly", fn := fun _ => fun
  | [d] => { results := [.lit (.bool false)], args := [d] }
  | _ => none }
def EliasOnlyWrongFalsely : Prop := eliasOnlyRow.holds Try.pinned (OpenSpec.ofChange eliasOnlyWrong)

/- THE SECOND FORM. 'bulk': how many values and letters a reading holds, each counted each time it is reached (what is shared counts as often as it is met; a slice's spare places count too). A statement '..UptoSaid' is the law's where the arguments, and the package variables that the reading takes, are together of bulk at most 1048576: NARROWER than '..Said'. Prove '..Said' where nothing that the law and all that it calls make is longer than what came in: it says more and counts as full. Else prove '..UptoSaid'. A law counts once. -/
mutual
def uptoBulk {H : Type} : DataW H → Nat
  | .lit (.string bytes) => bytes.length + 1
  | .lit _ => 1
  | .nil => 1
  | .ptr d => uptoBulk d + 1
  | .slice elems spare => uptoBulkAll elems + uptoBulkAll spare + 1
  | .agg parts => uptoBulkAll parts + 1
  | .iface _ d => uptoBulk d + 1
  | .map entries => uptoBulkEntries entries + 1
  | .held _ => 1
def uptoBulkAll {H : Type} : List (DataW H) → Nat
  | [] => 0
  | d :: r => uptoBulk d + uptoBulkAll r
def uptoBulkEntries {H : Type} : List (Lit × DataW H) → Nat
  | [] => 0
  | x :: r => uptoBulkEntry x + uptoBulkEntries r
def uptoBulkEntry {H : Type} : Lit × DataW H → Nat
  | (.string bytes, d) => bytes.length + uptoBulk d + 1
  | (_, d) => uptoBulk d + 1
 end
def uptoSmall : (H : Type) → List (DataW H) → Bool := fun _ ds => decide (uptoBulkAll ds ≤ 1048576)
def OpenSpec.upto (s : _root_.Go.ChangeSpec) : _root_.Go.OpenSpec := { _root_.Go.OpenSpec.ofChange s with cond := some uptoSmall }

/-- 'brambleweirlaw1.Names', WHERE WHAT IT READS IS OF BULK AT MOST 1048576: true; the input reads as it did. -/
def namesUptoRow : OpenClaim := { program := "ytnjfnfooljlnkaa", sum := "78957d383c5fd143f0228c36d502df7fb04d15970b18f18ae55ee08e6b450284", func := "brambleweir/brambleweirlaw1.Names", spec := "names", apart := false, narrowed := true }
def NamesUptoSaid : Prop := namesUptoRow.holds Try.pinned (OpenSpec.upto namesSpec)

/-- 'brambleweirlaw1.EliasBack', WHERE WHAT IT READS IS OF BULK AT MOST 1048576: true; the input reads as it did. -/
def eliasBackUptoRow : OpenClaim := { program := "ytnjfnfooljlnkaa", sum := "78957d383c5fd143f0228c36d502df7fb04d15970b18f18ae55ee08e6b450284", func := "brambleweir/brambleweirlaw1.EliasBack", spec := "eliasBack", unfollowed := true, recurses := true, apart := false, narrowed := true }
def EliasBackUptoSaid : Prop := eliasBackUptoRow.holds Try.pinned (OpenSpec.upto eliasBackSpec)

/-- 'brambleweirlaw1.EliasLong', WHERE WHAT IT READS IS OF BULK AT MOST 1048576: true; the input reads as it did. -/
def eliasLongUptoRow : OpenClaim := { program := "ytnjfnfooljlnkaa", sum := "78957d383c5fd143f0228c36d502df7fb04d15970b18f18ae55ee08e6b450284", func := "brambleweir/brambleweirlaw1.EliasLong", spec := "eliasLong", unfollowed := true, recurses := true, apart := false, narrowed := true }
def EliasLongUptoSaid : Prop := eliasLongUptoRow.holds Try.pinned (OpenSpec.upto eliasLongSpec)

/-- 'brambleweirlaw1.EliasApart', WHERE WHAT IT READS IS OF BULK AT MOST 1048576: true; the input reads as it did. -/
def eliasApartUptoRow : OpenClaim := { program := "ytnjfnfooljlnkaa", sum := "78957d383c5fd143f0228c36d502df7fb04d15970b18f18ae55ee08e6b450284", func := "brambleweir/brambleweirlaw1.EliasApart", spec := "eliasApart", unfollowed := true, recurses := true, apart := false, narrowed := true }
def EliasApartUptoSaid : Prop := eliasApartUptoRow.holds Try.pinned (OpenSpec.upto eliasApartSpec)

/-- 'brambleweirlaw1.EliasOnly', WHERE WHAT IT READS IS OF BULK AT MOST 1048576: true; the input reads as it did. -/
def eliasOnlyUptoRow : OpenClaim := { program := "ytnjfnfooljlnkaa", sum := "78957d383c5fd143f0228c36d502df7fb04d15970b18f18ae55ee08e6b450284", func := "brambleweir/brambleweirlaw1.EliasOnly", spec := "eliasOnly", unfollowed := true, recurses := true, apart := false, narrowed := true }
def EliasOnlyUptoSaid : Prop := eliasOnlyUptoRow.holds Try.pinned (OpenSpec.upto eliasOnlySpec)

end Rows
end Go.Proofs.Ytnjfnfooljlnkaa
