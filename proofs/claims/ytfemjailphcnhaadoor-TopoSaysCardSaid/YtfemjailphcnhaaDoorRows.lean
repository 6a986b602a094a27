/-
  NARROWER THAN 'FOR EVERY INPUT', by the rows' own cells (each row's printed sentence says how): TopoSays: laid · TopoKahn: laid · TopoDeep: laid · TopoTurn: laid.
  DERIVED. THE GIVEN ROWS OF THIS SEAT. 4 by the template 'for every input the law returns true; each argument reads behind the call as it read before'; 0 by the template 'total and deterministic' (their statements: YtfemjailphcnhaaDoorTotals.lean).
  GIVEN WITH THE SEED: the statements are not yours to turn. If you find one false, say at which input.
  Laid BY PROGRAM, IN A SANDBOX (cutbox-rows.mjs): the forced cells as the released guide's own fill.sh prints them over the translation dbdf140a8277d6e5… (all of the seat's roots in one cut). By AI agents, Wed Nov 11 2026. No macro, syntax, notation, axiom, sorry.
-/
import Derived.Test.YtfemjailphcnhaaDoorChecked
import GoSem.Claim
import GoSem.ClaimJoined
import GoSem.ClaimMapViews
import Derived.JoinedTies
import Derived.KernelRfl
namespace Go.Proofs.YtfemjailphcnhaaDoor
/- THE CELL 'sum', in the pinned program and in every row, IS THE sha256 OF THE DUMP (.gsa) THAT YtfemjailphcnhaaDoorProg.lean LOADS. Nothing in Lean hashes anything: it is a label: what it is worth is what the hold of that sum in a sandbox is worth. -/
noncomputable def Tryd.pinned : Pinned := { name := "ytfemjailphcnhaadoor", sum := "dbdf140a8277d6e5df145e512b3d59edf63cdf3487507077732044d30c166f24", checked := Tryd.checked }
namespace Rows
def none {H : Type} : Left H := { results := [], args := [] }

/- WHAT THE LISTED PACKAGE-LEVEL VARIABLES READ AS WHEN THE CALL BEGINS. Each datum BY PROGRAM (the guide's laid-datum.mjs) off the statement by which the dump's own 'gosem.cut.vars' lays the variable. In a bare row this is a premise. The card (YtfemjailphcnhaaDoorCards.lean) ties it to the program's text. -/
def laid_errors_errorType {H : Type} : DataW H := .iface "internal/reflectlite.rtype" (.agg [.ptr (.lit (.string [101, 114, 114, 111, 114]))])

/-- 'brambleweirlaw2.TopoSays': WHATEVER THE INPUT: true; the input reads as it did. -/
def topoSaysSpec : ChangeSpec := { name := "topoSays", fn := fun _ => fun
  | [d1, d2] => { results := [.lit (.bool true)], args := [d1, d2] }
  | _ => none }
def topoSaysRow : OpenClaim := { program := "ytfemjailphcnhaadoor", sum := "dbdf140a8277d6e5df145e512b3d59edf63cdf3487507077732044d30c166f24", func := "brambleweir/brambleweirlaw2.TopoSays", spec := "topoSays", inPlace := ["internal/reflectlite.ValueOf", "(internal/reflectlite.Value).Type", "(internal/reflectlite.Value).IsNil", "internal/reflectlite.TypeOf", "(internal/reflectlite.Value).Elem", "(internal/reflectlite.Value).Set"], unfollowed := true, recurses := true, named := ["errors.errorType"], apart := false, laid := [("errors.errorType", laid_errors_errorType)] }
def TopoSaysSaid : Prop := topoSaysRow.holds Tryd.pinned (OpenSpec.ofChange topoSaysSpec)

/-- ITS FALSE NEIGHBOUR: 'it returns false'. Refute it at one input. -/
def topoSaysWrong : ChangeSpec := { name := "topoSays", fn := fun _ => fun
  | [d1, d2] => { results := [.lit (.bool false)], args := [d1, d2] }
  | _ => none }
def TopoSaysWrongFalsely : Prop := topoSaysRow.holds Tryd.pinned (OpenSpec.ofChange topoSaysWrong)

/-- 'brambleweirlaw2.TopoKahn': WHATEVER THE INPUT: true; the input reads as it did. -/
def topoKahnSpec : ChangeSpec := { name := "topoKahn", fn := fun _ => fun
  | [d1, d2] => { results := [.lit (.bool true)], args := [d1, d2] }
  | _ => none }
def topoKahnRow : OpenClaim := { program := "ytfemjailphcnhaadoor", sum := "dbdf140a8277d6e5df145e512b3d59edf63cdf3487507077732044d30c166f24", func := "brambleweir/brambleweirlaw2.TopoKahn", spec := "topoKahn", inPlace := ["internal/reflectlite.ValueOf", "(internal/reflectlite.Value).Type", "(internal/reflectlite.Value).IsNil", "internal/reflectlite.TypeOf", "(internal/reflectlite.Value).Elem", "(internal/reflectlite.Value).Set"], unfollowed := true, recurses := true, named := ["errors.errorType"], apart := false, laid := [("errors.errorType", laid_errors_errorType)] }
def TopoKahnSaid : Prop := topoKahnRow.holds Tryd.pinned (OpenSpec.ofChange topoKahnSpec)

/-- ITS FALSE NEIGHBOUR: 'it returns false'. Refute it at one input. -/
def topoKahnWrong : ChangeSpec := { name := "topoKahn", fn := fun _ => fun
  | [d1, d2] => { results := [.lit (.bool false)], args := [d1, d2] }
  | _ => none }
def TopoKahnWrongFalsely : Prop := topoKahnRow.holds Tryd.pinned (OpenSpec.ofChange topoKahnWrong)

/-- 'brambleweirlaw2.TopoDeep': WHATEVER THE INPUT: true; the input reads as it did. -/
def topoDeepSpec : ChangeSpec := { name := "topoDeep", fn := fun _ => fun
  | [d1, d2] => { results := [.lit (.bool true)], args := [d1, d2] }
  | _ => none }
def topoDeepRow : OpenClaim := { program := "ytfemjailphcnhaadoor", sum := "dbdf140a8277d6e5df145e512b3d59edf63cdf3487507077732044d30c166f24", func := "brambleweir/brambleweirlaw2.TopoDeep", spec := "topoDeep", inPlace := ["internal/reflectlite.ValueOf", "(internal/reflectlite.Value).Type", "(internal/reflectlite.Value).IsNil", "internal/reflectlite.TypeOf", "(internal/reflectlite.Value).Elem", "(internal/reflectlite.Value).Set"], unfollowed := true, recurses := true, named := ["errors.errorType"], apart := false, laid := [("errors.errorType", laid_errors_errorType)] }
def TopoDeepSaid : Prop := topoDeepRow.holds Tryd.pinned (OpenSpec.ofChange topoDeepSpec)

/-- ITS FALSE NEIGHBOUR: 'it returns false'. Refute it at one input. -/
def topoDeepWrong : ChangeSpec := { name := "topoDeep", fn := fun _ => fun
  | [d1, d2] => { results := [.lit (.bool false)], args := [d1, d2] }
  | _ => none }
def TopoDeepWrongFalsely : Prop := topoDeepRow.holds Tryd.pinned (OpenSpec.ofChange topoDeepWrong)

/-- 'brambleweirlaw2.TopoTurn': WHATEVER THE INPUT: true; the input reads as it did. -/
def topoTurnSpec : ChangeSpec := { name := "topoTurn", fn := fun _ => fun
  | [d1, d2] => { results := [.lit (.bool true)], args := [d1, d2] }
  | _ => none }
def topoTurnRow : OpenClaim := { program := "ytfemjailphcnhaadoor", sum := "dbdf140a8277d6e5df145e512b3d59edf63cdf3487507077732044d30c166f24", func := "brambleweir/brambleweirlaw2.TopoTurn", spec := "topoTurn", inPlace := ["internal/reflectlite.ValueOf", "(internal/reflectlite.Value).Type", "(internal/reflectlite.Value).IsNil", "internal/reflectlite.TypeOf", "(internal/reflectlite.Value).Elem", "(internal/reflectlite.Value).Set"], unfollowed := true, recurses := true, named := ["errors.errorType"], apart := false, laid := [("errors.errorType", laid_errors_errorType)] }
def TopoTurnSaid : Prop := topoTurnRow.holds Tryd.pinned (OpenSpec.ofChange topoTurnSpec)

/-- ITS FALSE NEIGHBOUR: 'it returns false'. Refute it at one input. -/
def topoTurnWrong : ChangeSpec := { name := "topoTurn", fn := fun _ => fun
  | [d1, d2] => { results := [.lit (.bool false)], args := [d1, d2] }
  | _ => none }
def TopoTurnWrongFalsely : Prop := topoTurnRow.holds Tryd.pinned (OpenSpec.ofChange topoTurnWrong)

/- THE SECOND FORM. 'bulk': how many values and letters a reading holds, each counted each time it is reached (what is shared counts as often as it is met; a slice's spare places count too). A statement '..UptoSaid' is the law's where the arguments, and the package variables that the reading takes, are together of bulk at most 1048576: NARROWER than '..Said'. Prove '..Said' where nothing that the law and all that it calls make is longer than what came in: it says more and counts as full. Else prove '..UptoSaid'. A law counts once. -/
mutual
def uptoBulk {H : Type} : DataW H → Nat
  | .lit (.string bytes) => bytes.length + 1
  | .lit _ => 1
  | .nil => 1
  | .ptr d => uptoBulk d + 1
  | .slice elems spare => uptoBulkAll elems + uptoBulkAll spare + 1
  | .agg parts => uptoBulkAll parts + 1
  | .iface _ d => uptoBulk d + 1
  | .map entries => uptoBulkEntries entries + 1
  | .held _ => 1
def uptoBulkAll {H : Type} : List (DataW H) → Nat
  | [] => 0
  | d :: r => uptoBulk d + uptoBulkAll r
def uptoBulkEntries {H : Type} : List (Lit × DataW H) → Nat
  | [] => 0
  | x :: r => uptoBulkEntry x + uptoBulkEntries r
def uptoBulkEntry {H : Type} : Lit × DataW H → Nat
  | (.string bytes, d) => bytes.length + uptoBulk d + 1
  | (_, d) => uptoBulk d + 1
 end
def uptoSmall : (H : Type) → List (DataW H) → Bool := fun _ ds => decide (uptoBulkAll ds ≤ 1048576)
def OpenSpec.upto (s : _root_.Go.ChangeSpec) : _root_.Go.OpenSpec := { _root_.Go.OpenSpec.ofChange s with cond := some uptoSmall }

/-- 'brambleweirlaw2.TopoSays', WHERE WHAT IT READS IS OF BULK AT MOST 1048576: true; the input reads as it did. -/
def topoSaysUptoRow : OpenClaim := { program := "ytfemjailphcnhaadoor", sum := "dbdf140a8277d6e5df145e512b3d59edf63cdf3487507077732044d30c166f24", func := "brambleweir/brambleweirlaw2.TopoSays", spec := "topoSays", inPlace := ["internal/reflectlite.ValueOf", "(internal/reflectlite.Value).Type", "(internal/reflectlite.Value).IsNil", "internal/reflectlite.TypeOf", "(internal/reflectlite.Value).Elem", "(internal/reflectlite.Value).Set"], unfollowed := true, recurses := true, named := ["errors.errorType"], apart := false, laid := [("errors.errorType", laid_errors_errorType)], narrowed := true }
def TopoSaysUptoSaid : Prop := topoSaysUptoRow.holds Tryd.pinned (OpenSpec.upto topoSaysSpec)

/-- 'brambleweirlaw2.TopoKahn', WHERE WHAT IT READS IS OF BULK AT MOST 1048576: true; the input reads as it did. -/
def topoKahnUptoRow : OpenClaim := { program := "ytfemjailphcnhaadoor", sum := "dbdf140a8277d6e5df145e512b3d59edf63cdf3487507077732044d30c166f24", func := "brambleweir/brambleweirlaw2.TopoKahn", spec := "topoKahn", inPlace := ["internal/reflectlite.ValueOf", "(internal/reflectlite.Value).Type", "(internal/reflectlite.Value).IsNil", "internal/reflectlite.TypeOf", "(internal/reflectlite.Value).Elem", "(internal/reflectlite.Value).Set"], unfollowed := true, recurses := true, named := ["errors.errorType"], apart := false, laid := [("errors.errorType", laid_errors_errorType)], narrowed := true }
def TopoKahnUptoSaid : Prop := topoKahnUptoRow.holds Tryd.pinned (OpenSpec.upto topoKahnSpec)

/-- 'brambleweirlaw2.TopoDeep', WHERE WHAT IT READS IS OF BULK AT MOST 1048576: true; the input reads as it did. -/
def topoDeepUptoRow : OpenClaim := { program := "ytfemjailphcnhaadoor", sum := "dbdf140a8277d6e5df145e512b3d59edf63cdf3487507077732044d30c166f24", func := "brambleweir/brambleweirlaw2.TopoDeep", spec := "topoDeep", inPlace := ["internal/reflectlite.ValueOf", "(internal/reflectlite.Value).Type", "(internal/reflectlite.Value).IsNil", "internal/reflectlite.TypeOf", "(internal/reflectlite.Value).Elem", "(internal/reflectlite.Value).Set"], unfollowed := true, recurses := true, named := ["errors.errorType"], apart := false, laid := [("errors.errorType", laid_errors_errorType)], narrowed := true }
def TopoDeepUptoSaid : Prop := topoDeepUptoRow.holds Tryd.pinned (OpenSpec.upto topoDeepSpec)

/-- 'brambleweirlaw2.TopoTurn', WHERE WHAT IT READS IS OF BULK AT MOST 1048576: true; the input reads as it did. -/
def topoTurnUptoRow : OpenClaim := { program := "ytfemjailphcnhaadoor", sum := "dbdf140a8277d6e5df145e512b3d59edf63cdf3487507077732044d30c166f24", func := "brambleweir/brambleweirlaw2.TopoTurn", spec := "topoTurn", inPlace := ["internal/reflectlite.ValueOf", "(internal/reflectlite.Value).Type", "(internal/reflectlite.Value).IsNil", "internal/reflectlite.TypeOf", "(internal/reflectlite.Value).Elem", "(internal/reflectlite.Value).Set"], unfollowed := true, recurses := true, named := ["errors.errorType"], apart := false, laid := [("errors.errorType", laid_errors_errorType)], narrowed := true }
def TopoTurnUptoSaid : Prop := topoTurnUptoRow.holds Tryd.pinned (OpenSpec.upto topoTurnSpec)

end Rows
end Go.Proofs.YtfemjailphcnhaaDoor
