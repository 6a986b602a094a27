/-
  No cell of these rows narrows 'for every input' (looked for: loops, veiled, ifaces, maps, wideKeys, modest, calm, conditions, laid).
  DERIVED. THE GIVEN ROWS OF THIS SEAT. 4 by the template 'for every input the law returns true; each argument reads behind the call as it read before'; 0 by the template 'total and deterministic' (their statements: YtcapinapfobcbaaTotals.lean).
  GIVEN WITH THE SEED: the statements are not yours to turn. If you find one false, say at which input.
  Laid BY PROGRAM, IN A SANDBOX (cutbox-rows.mjs): the forced cells as the released guide's own fill.sh prints them over the translation b41dd0562156548c… (all of the seat's roots in one cut). By AI agents, Wed Nov 11 2026. No macro, syntax, notation, axiom, sorry.
-/
import Derived.Test.YtcapinapfobcbaaChecked
import GoSem.Claim
import GoSem.ClaimJoined
import GoSem.ClaimMapViews
import Derived.JoinedTies
import Derived.KernelRfl
namespace Go.Proofs.Ytcapinapfobcbaa
/- THE CELL 'sum', in the pinned program and in every row, IS THE sha256 OF THE DUMP (.gsa) THAT YtcapinapfobcbaaProg.lean LOADS. Nothing in Lean hashes anything: it is a label: what it is worth is what the hold of that sum in a sandbox is worth. -/
noncomputable def Try.pinned : Pinned := { name := "ytcapinapfobcbaa", sum := "b41dd0562156548cec54350df76f9e2ce412e976bca394788c43540de34f8d80", checked := Try.checked }
namespace Rows
def none {H : Type} : Left H := { results := [], args := [] }

/-- 'brambleweirlaw2.StrongBoth': WHATEVER THE INPUT: true; the input reads as it did. -/
def strongBothSpec : ChangeSpec := { name := "strongBoth", fn := fun _ => fun
  | [d1, d2, d3, d4] => { results := [.lit (.bool true)], args := [d1, d2, d3, d4] }
  | _ => none }
def strongBothRow : OpenClaim := { program := "ytcapinapfobcbaa", sum := "b41dd0562156548cec54350df76f9e2ce412e976bca394788c43540de34f8d80", func := "brambleweir/brambleweirlaw2.StrongBoth", spec := "strongBoth", unfollowed := true, recurses := true, apart := false }
def StrongBothSaid : Prop := strongBothRow.holds Try.pinned (OpenSpec.ofChange strongBothSpec)

/-- ITS FALSE NEIGHBOUR: 'it returns false'. Refute it at one input. -/
def strongBothWrong : ChangeSpec := { name := "strongBoth", fn := fun _ => fun
  | [d1, d2, d3, d4] => { results := [.lit (.bool false)], args := [d1, d2, d3, d4] }
  | _ => none }
def StrongBothWrongFalsely : Prop := strongBothRow.holds Try.pinned (OpenSpec.ofChange strongBothWrong)

/-- 'brambleweirlaw2.StrongTurn': WHATEVER THE INPUT: true; the input reads as it did. -/
def strongTurnSpec : ChangeSpec := { name := "strongTurn", fn := fun _ => fun
  | [d1, d2] => { results := [.lit (.bool true)], args := [d1, d2] }
  | _ => none }
def strongTurnRow : OpenClaim := { program := "ytcapinapfobcbaa", sum := "b41dd0562156548cec54350df76f9e2ce412e976bca394788c43540de34f8d80", func := "brambleweir/brambleweirlaw2.StrongTurn", spec := "strongTurn", unfollowed := true, recurses := true, apart := false }
def StrongTurnSaid : Prop := strongTurnRow.holds Try.pinned (OpenSpec.ofChange strongTurnSpec)

/-- ITS FALSE NEIGHBOUR: 'it returns false'. Refute it at one input. -/
def strongTurnWrong : ChangeSpec := { name := "strongTurn", fn := fun _ => fun
  | [d1, d2] => { results := [.lit (.bool false)], args := [d1, d2] }
  | _ => none }
def StrongTurnWrongFalsely : Prop := strongTurnRow.holds Try.pinned (OpenSpec.ofChange strongTurnWrong)

/-- 'brambleweirlaw2.StrongFold': WHATEVER THE INPUT: true; the input reads as it did. -/
def strongFoldSpec : ChangeSpec := { name := "strongFold", fn := fun _ => fun
  | [d1, d2] => { results := [.lit (.bool true)], args := [d1, d2] }
  | _ => none }
def strongFoldRow : OpenClaim := { program := "ytcapinapfobcbaa", sum := "b41dd0562156548cec54350df76f9e2ce412e976bca394788c43540de34f8d80", func := "brambleweir/brambleweirlaw2.StrongFold", spec := "strongFold", unfollowed := true, recurses := true, apart := false }
def StrongFoldSaid : Prop := strongFoldRow.holds Try.pinned (OpenSpec.ofChange strongFoldSpec)

/-- ITS FALSE NEIGHBOUR: 'it returns false'. Refute it at one input. -/
def strongFoldWrong : ChangeSpec := { name := "strongFold", fn := fun _ => fun
  | [d1, d2] => { results := [.lit (.bool false)], args := [d1, d2] }
  | _ => none }
def StrongFoldWrongFalsely : Prop := strongFoldRow.holds Try.pinned (OpenSpec.ofChange strongFoldWrong)

/-- 'brambleweirlaw2.StrongMore': WHATEVER THE INPUT: true; the input reads as it did. -/
def strongMoreSpec : ChangeSpec := { name := "strongMore", fn := fun _ => fun
  | [d1, d2, d3] => { results := [.lit (.bool true)], args := [d1, d2, d3] }
  | _ => none }
def strongMoreRow : OpenClaim := { program := "ytcapinapfobcbaa", sum := "b41dd0562156548cec54350df76f9e2ce412e976bca394788c43540de34f8d80", func := "brambleweir/brambleweirlaw2.StrongMore", spec := "strongMore", unfollowed := true, recurses := true, apart := false }
def StrongMoreSaid : Prop := strongMoreRow.holds Try.pinned (OpenSpec.ofChange strongMoreSpec)

/-- ITS FALSE NEIGHBOUR: 'it returns false'. Refute it at one input. -/
def strongMoreWrong : ChangeSpec := { name := "strongMore", fn := fun _ => fun
  | [d1, d2, d3] => { results := [.lit (.bool false)], args := [d1, d2, d3] }
  | _ => none }
def StrongMoreWrongFalsely : Prop := strongMoreRow.holds Try.pinned (OpenSpec.ofChange strongMoreWrong)

/- THE SECOND FORM. 'bulk': how many values and letters a reading holds, each counted each time it is reached (what is shared counts as often as it is met; a slice's spare places count too). A statement '..UptoSaid' is the law's where the arguments, and the package variables that the reading takes, are together of bulk at most 1048576: NARROWER than '..Said'. Prove '..Said' where nothing that the law and all that it calls make is longer than what came in: it says more and counts as full. Else prove '..UptoSaid'. A law counts once. -/
mutual
def uptoBulk {H : Type} : DataW H → Nat
  | .lit (.string bytes) => bytes.length + 1
  | .lit _ => 1
  | .nil => 1
  | .ptr d => uptoBulk d + 1
  | .slice elems spare => uptoBulkAll elems + uptoBulkAll spare + 1
  | .agg parts => uptoBulkAll parts + 1
  | .iface _ d => uptoBulk d + 1
  | .map entries => uptoBulkEntries entries + 1
  | .held _ => 1
def uptoBulkAll {H : Type} : List (DataW H) → Nat
  | [] => 0
  | d :: r => uptoBulk d + uptoBulkAll r
def uptoBulkEntries {H : Type} : List (Lit × DataW H) → Nat
  | [] => 0
  | x :: r => uptoBulkEntry x + uptoBulkEntries r
def uptoBulkEntry {H : Type} : Lit × DataW H → Nat
  | (.string bytes, d) => bytes.length + uptoBulk d + 1
  | (_, d) => uptoBulk d + 1
 end
def uptoSmall : (H : Type) → List (DataW H) → Bool := fun _ ds => decide (uptoBulkAll ds ≤ 1048576)
def OpenSpec.upto (s : _root_.Go.ChangeSpec) : _root_.Go.OpenSpec := { _root_.Go.OpenSpec.ofChange s with cond := some uptoSmall }

/-- 'brambleweirlaw2.StrongBoth', WHERE WHAT IT READS IS OF BULK AT MOST 1048576: true; the input reads as it did. -/
def strongBothUptoRow : OpenClaim := { program := "ytcapinapfobcbaa", sum := "b41dd0562156548cec54350df76f9e2ce412e976bca394788c43540de34f8d80", func := "brambleweir/brambleweirlaw2.StrongBoth", spec := "strongBoth", unfollowed := true, recurses := true, apart := false, narrowed := true }
def StrongBothUptoSaid : Prop := strongBothUptoRow.holds Try.pinned (OpenSpec.upto strongBothSpec)

/-- 'brambleweirlaw2.StrongTurn', WHERE WHAT IT READS IS OF BULK AT MOST 1048576: true; the input reads as it did. -/
def strongTurnUptoRow : OpenClaim := { program := "ytcapinapfobcbaa", sum := "b41dd0562156548cec54350df76f9e2ce412e976bca394788c43540de34f8d80", func := "brambleweir/brambleweirlaw2.StrongTurn", spec := "strongTurn", unfollowed := true, recurses := true, apart := false, narrowed := true }
def StrongTurnUptoSaid : Prop := strongTurnUptoRow.holds Try.pinned (OpenSpec.upto strongTurnSpec)

/-- 'brambleweirlaw2.StrongFold', WHERE WHAT IT READS IS OF BULK AT MOST 1048576: true; the input reads as it did. -/
def strongFoldUptoRow : OpenClaim := { program := "ytcapinapfobcbaa", sum := "b41dd0562156548cec54350df76f9e2ce412e976bca394788c43540de34f8d80", func := "brambleweir/brambleweirlaw2.StrongFold", spec := "strongFold", unfollowed := true, recurses := true, apart := false, narrowed := true }
def StrongFoldUptoSaid : Prop := strongFoldUptoRow.holds Try.pinned (OpenSpec.upto strongFoldSpec)

/-- 'brambleweirlaw2.StrongMore', WHERE WHAT IT READS IS OF BULK AT MOST 1048576: true; the input reads as it did. -/
def strongMoreUptoRow : OpenClaim := { program := "ytcapinapfobcbaa", sum := "b41dd0562156548cec54350df76f9e2ce412e976bca394788c43540de34f8d80", func := "brambleweir/brambleweirlaw2.StrongMore", spec := "strongMore", unfollowed := true, recurses := true, apart := false, narrowed := true }
def StrongMoreUptoSaid : Prop := strongMoreUptoRow.holds Try.pinned (OpenSpec.upto strongMoreSpec)

end Rows
end Go.Proofs.Ytcapinapfobcbaa
