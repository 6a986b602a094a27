/-
  NARROWER THAN 'FOR EVERY INPUT', by the rows' own cells (each row's printed sentence says how): PairsSays: laid · PairsRight: laid · PairsAspvall: laid · PairsLess: laid.
  DERIVED. THE GIVEN ROWS OF THIS SEAT. 4 by the template 'for every input the law returns true; each argument reads behind the call as it read before'; 0 by the template 'total and deterministic' (their statements: YthalopmplekdoaaDoorTotals.lean).
  GIVEN WITH THE SEED: the statements are not yours to turn. If you find one false, say at which input.
  Laid BY PROGRAM, IN A SANDBOX (cutbox-rows.mjs): the forced cells as the released guide's own fill.sh prints them over the translation 67d4015c89477914… (all of the seat's roots in one cut). By AI agents, Wed Nov 11 2026. No macro, syntax, notation, axiom, sorry.
-/
import Derived.Test.YthalopmplekdoaaDoorChecked
import GoSem.Claim
import GoSem.ClaimJoined
import GoSem.ClaimMapViews
import Derived.JoinedTies
import Derived.KernelRfl
namespace Go.Proofs.YthalopmplekdoaaDoor
/- THE CELL 'sum', in the pinned program and in every row, IS THE sha256 OF THE DUMP (.gsa) THAT YthalopmplekdoaaDoorProg.lean LOADS. Nothing in Lean hashes anything: it is a label: what it is worth is what the hold of that sum in a sandbox is worth. -/
noncomputable def Tryd.pinned : Pinned := { name := "ythalopmplekdoaadoor", sum := "67d4015c894779140581dffaef88e6f4a55e20654955336dcfe5ed6ac4f12be1", checked := Tryd.checked }
namespace Rows
def none {H : Type} : Left H := { results := [], args := [] }

/- WHAT THE LISTED PACKAGE-LEVEL VARIABLES READ AS WHEN THE CALL BEGINS. Each datum BY PROGRAM (the guide's laid-datum.mjs) off the statement by which the dump's own 'gosem.cut.vars' lays the variable. In a bare row this is a premise. The card (YthalopmplekdoaaDoorCards.lean) ties it to the program's text. -/
def laid_errors_errorType {H : Type} : DataW H := .iface "internal/reflectlite.rtype" (.agg [.ptr (.lit (.string [101, 114, 114, 111, 114]))])

/-- 'brambleweirlaw2.PairsSays': WHATEVER THE INPUT: true; the input reads as it did. -/
def pairsSaysSpec : ChangeSpec := { name := "pairsSays", fn := fun _ => fun
  | [d1, d2, d3] => { results := [.lit (.bool true)], args := [d1, d2, d3] }
  | _ => none }
def pairsSaysRow : OpenClaim := { program := "ythalopmplekdoaadoor", sum := "67d4015c894779140581dffaef88e6f4a55e20654955336dcfe5ed6ac4f12be1", func := "brambleweir/brambleweirlaw2.PairsSays", spec := "pairsSays", inPlace := ["internal/reflectlite.ValueOf", "(internal/reflectlite.Value).Type", "(internal/reflectlite.Value).IsNil", "internal/reflectlite.TypeOf", "(internal/reflectlite.Value).Elem", "(internal/reflectlite.Value).Set"], unfollowed := true, recurses := true, named := ["errors.errorType"], apart := false, laid := [("errors.errorType", laid_errors_errorType)] }
def PairsSaysSaid : Prop := pairsSaysRow.holds Tryd.pinned (OpenSpec.ofChange pairsSaysSpec)

/-- ITS FALSE NEIGHBOUR: 'it returns false'. Refute it at one input. -/
def pairsSaysWrong : ChangeSpec := { name := "pairsSays", fn := fun _ => fun
  | [d1, d2, d3] => { results := [.lit (.bool false)], args := [d1, d2, d3] }
  | _ => none }
def PairsSaysWrongFalsely : Prop := pairsSaysRow.holds Tryd.pinned (OpenSpec.ofChange pairsSaysWrong)

/-- 'brambleweirlaw2.PairsRight': WHATEVER THE INPUT: true; the input reads as it did. -/
def pairsRightSpec : ChangeSpec := { name := "pairsRight", fn := fun _ => fun
  | [d1, d2, d3] => { results := [.lit (.bool true)], args := [d1, d2, d3] }
  | _ => none }
def pairsRightRow : OpenClaim := { program := "ythalopmplekdoaadoor", sum := "67d4015c894779140581dffaef88e6f4a55e20654955336dcfe5ed6ac4f12be1", func := "brambleweir/brambleweirlaw2.PairsRight", spec := "pairsRight", inPlace := ["internal/reflectlite.ValueOf", "(internal/reflectlite.Value).Type", "(internal/reflectlite.Value).IsNil", "internal/reflectlite.TypeOf", "(internal/reflectlite.Value).Elem", "(internal/reflectlite.Value).Set"], unfollowed := true, recurses := true, named := ["errors.errorType"], apart := false, laid := [("errors.errorType", laid_errors_errorType)] }
def PairsRightSaid : Prop := pairsRightRow.holds Tryd.pinned (OpenSpec.ofChange pairsRightSpec)

/-- ITS FALSE NEIGHBOUR: 'it returns false'. Refute it at one input. -/
def pairsRightWrong : ChangeSpec := { name := "pairsRight", fn := fun _ => fun
  | [d1, d2, d3] => { results := [.lit (.bool false)], args := [d1, d2, d3] }
  | _ => none }
def PairsRightWrongFalsely : Prop := pairsRightRow.holds Tryd.pinned (OpenSpec.ofChange pairsRightWrong)

/-- 'brambleweirlaw2.PairsAspvall': WHATEVER THE INPUT: true; the input reads as it did. -/
def pairsAspvallSpec : ChangeSpec := { name := "pairsAspvall", fn := fun _ => fun
  | [d1, d2] => { results := [.lit (.bool true)], args := [d1, d2] }
  | _ => none }
def pairsAspvallRow : OpenClaim := { program := "ythalopmplekdoaadoor", sum := "67d4015c894779140581dffaef88e6f4a55e20654955336dcfe5ed6ac4f12be1", func := "brambleweir/brambleweirlaw2.PairsAspvall", spec := "pairsAspvall", inPlace := ["internal/reflectlite.ValueOf", "(internal/reflectlite.Value).Type", "(internal/reflectlite.Value).IsNil", "internal/reflectlite.TypeOf", "(internal/reflectlite.Value).Elem", "(internal/reflectlite.Value).Set"], unfollowed := true, recurses := true, named := ["errors.errorType"], apart := false, laid := [("errors.errorType", laid_errors_errorType)] }
def PairsAspvallSaid : Prop := pairsAspvallRow.holds Tryd.pinned (OpenSpec.ofChange pairsAspvallSpec)

/-- ITS FALSE NEIGHBOUR: 'it returns false'. Refute it at one input. -/
def pairsAspvallWrong : ChangeSpec := { name := "pairsAspvall", fn := fun _ => fun
  | [d1, d2] => { results := [.lit (.bool false)], args := [d1, d2] }
  | _ => none }
def PairsAspvallWrongFalsely : Prop := pairsAspvallRow.holds Tryd.pinned (OpenSpec.ofChange pairsAspvallWrong)

/-- 'brambleweirlaw2.PairsLess': WHATEVER THE INPUT: true; the input reads as it did. -/
def pairsLessSpec : ChangeSpec := { name := "pairsLess", fn := fun _ => fun
  | [d1, d2, d3] => { results := [.lit (.bool true)], args := [d1, d2, d3] }
  | _ => none }
def pairsLessRow : OpenClaim := { program := "ythalopmplekdoaadoor", sum := "67d4015c894779140581dffaef88e6f4a55e20654955336dcfe5ed6ac4f12be1", func := "brambleweir/brambleweirlaw2.PairsLess", spec := "pairsLess", inPlace := ["internal/reflectlite.ValueOf", "(internal/reflectlite.Value).Type", "(internal/reflectlite.Value).IsNil", "internal/reflectlite.TypeOf", "(internal/reflectlite.Value).Elem", "(internal/reflectlite.Value).Set"], unfollowed := true, recurses := true, named := ["errors.errorType"], apart := false, laid := [("errors.errorType", laid_errors_errorType)] }
def PairsLessSaid : Prop := pairsLessRow.holds Tryd.pinned (OpenSpec.ofChange pairsLessSpec)

/-- ITS FALSE NEIGHBOUR: 'it returns false'. Refute it at one input. -/
def pairsLessWrong : ChangeSpec := { name := "pairsLess", fn := fun _ => fun
  | [d1, d2, d3] => { results := [.lit (.bool false)], args := [d1, d2, d3] }
  | _ => none }
def PairsLessWrongFalsely : Prop := pairsLessRow.holds Tryd.pinned (OpenSpec.ofChange pairsLessWrong)

/- THE SECOND FORM. 'bulk': how many values and letters a reading holds, each counted each time it is reached (what is shared counts as often as it is met; a slice's spare places count too). A statement '..UptoSaid' is the law's where the arguments, and the package variables that the reading takes, are together of bulk at most 1048576: NARROWER than '..Said'. Prove '..Said' where nothing that the law and all that it calls make is longer than what came in: it says more and counts as full. Else prove '..UptoSaid'. A law counts once. -/
mutual
def uptoBulk {H : Type} : DataW H → Nat
  | .lit (.string bytes) => bytes.length + 1
  | .lit _ => 1
  | .nil => 1
  | .ptr d => uptoBulk d + 1
  | .slice elems spare => uptoBulkAll elems + uptoBulkAll spare + 1
  | .agg parts => uptoBulkAll parts + 1
  | .iface _ d => uptoBulk d + 1
  | .map entries => uptoBulkEntries entries + 1
  | .held _ => 1
def uptoBulkAll {H : Type} : List (DataW H) → Nat
  | [] => 0
  | d :: r => uptoBulk d + uptoBulkAll r
def uptoBulkEntries {H : Type} : List (Lit × DataW H) → Nat
  | [] => 0
  | x :: r => uptoBulkEntry x + uptoBulkEntries r
def uptoBulkEntry {H : Type} : Lit × DataW H → Nat
  | (.string bytes, d) => bytes.length + uptoBulk d + 1
  | (_, d) => uptoBulk d + 1
 end
def uptoSmall : (H : Type) → List (DataW H) → Bool := fun _ ds => decide (uptoBulkAll ds ≤ 1048576)
def OpenSpec.upto (s : _root_.Go.ChangeSpec) : _root_.Go.OpenSpec := { _root_.Go.OpenSpec.ofChange s with cond := some uptoSmall }

/-- 'brambleweirlaw2.PairsSays', WHERE WHAT IT READS IS OF BULK AT MOST 1048576: true; the input reads as it did. -/
def pairsSaysUptoRow : OpenClaim := { program := "ythalopmplekdoaadoor", sum := "67d4015c894779140581dffaef88e6f4a55e20654955336dcfe5ed6ac4f12be1", func := "brambleweir/brambleweirlaw2.PairsSays", spec := "pairsSays", inPlace := ["internal/reflectlite.ValueOf", "(internal/reflectlite.Value).Type", "(internal/reflectlite.Value).IsNil", "internal/reflectlite.TypeOf", "(internal/reflectlite.Value).Elem", "(internal/reflectlite.Value).Set"], unfollowed := true, recurses := true, named := ["errors.errorType"], apart := false, laid := [("errors.errorType", laid_errors_errorType)], narrowed := true }
def PairsSaysUptoSaid : Prop := pairsSaysUptoRow.holds Tryd.pinned (OpenSpec.upto pairsSaysSpec)

/-- 'brambleweirlaw2.PairsRight', WHERE WHAT IT READS IS OF BULK AT MOST 1048576: true; the input reads as it did. -/
def pairsRightUptoRow : OpenClaim := { program := "ythalopmplekdoaadoor", sum := "67d4015c894779140581dffaef88e6f4a55e20654955336dcfe5ed6ac4f12be1", func := "brambleweir/brambleweirlaw2.PairsRight", spec := "pairsRight", inPlace := ["internal/reflectlite.ValueOf", "(internal/reflectlite.Value).Type", "(internal/reflectlite.Value).IsNil", "internal/reflectlite.TypeOf", "(internal/reflectlite.Value).Elem", "(internal/reflectlite.Value).Set"], unfollowed := true, recurses := true, named := ["errors.errorType"], apart := false, laid := [("errors.errorType", laid_errors_errorType)], narrowed := true }
def PairsRightUptoSaid : Prop := pairsRightUptoRow.holds Tryd.pinned (OpenSpec.upto pairsRightSpec)

/-- 'brambleweirlaw2.PairsAspvall', WHERE WHAT IT READS IS OF BULK AT MOST 1048576: true; the input reads as it did. -/
def pairsAspvallUptoRow : OpenClaim := { program := "ythalopmplekdoaadoor", sum := "67d4015c894779140581dffaef88e6f4a55e20654955336dcfe5ed6ac4f12be1", func := "brambleweir/brambleweirlaw2.PairsAspvall", spec := "pairsAspvall", inPlace := ["internal/reflectlite.ValueOf", "(internal/reflectlite.Value).Type", "(internal/reflectlite.Value).IsNil", "internal/reflectlite.TypeOf", "(internal/reflectlite.Value).Elem", "(internal/reflectlite.Value).Set"], unfollowed := true, recurses := true, named := ["errors.errorType"], apart := false, laid := [("errors.errorType", laid_errors_errorType)], narrowed := true }
def PairsAspvallUptoSaid : Prop := pairsAspvallUptoRow.holds Tryd.pinned (OpenSpec.upto pairsAspvallSpec)

/-- 'brambleweirlaw2.PairsLess', WHERE WHAT IT READS IS OF BULK AT MOST 1048576: true; the input reads as it did. -/
def pairsLessUptoRow : OpenClaim := { program := "ythalopmplekdoaadoor", sum := "67d4015c894779140581dffaef88e6f4a55e20654955336dcfe5ed6ac4f12be1", func := "brambleweir/brambleweirlaw2.PairsLess", spec := "pairsLess", inPlace := ["internal/reflectlite.ValueOf", "(internal/reflectlite.Value).Type", "(internal/reflectlite.Value).IsNil", "internal/reflectlite.TypeOf", "(internal/reflectlite.Value).Elem", "(internal/reflectlite.Value).Set"], unfollowed := true, recurses := true, named := ["errors.errorType"], apart := false, laid := [("errors.errorType", laid_errors_errorType)], narrowed := true }
def PairsLessUptoSaid : Prop := pairsLessUptoRow.holds Tryd.pinned (OpenSpec.upto pairsLessSpec)

end Rows
end Go.Proofs.YthalopmplekdoaaDoor
