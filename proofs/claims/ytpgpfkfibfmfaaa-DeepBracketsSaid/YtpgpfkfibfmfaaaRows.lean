/-
  No cell of these rows narrows 'for every input' (looked for: loops, veiled, ifaces, maps, wideKeys, modest, calm, conditions, laid).
  DERIVED. THE GIVEN ROWS OF THIS SEAT. 3 by the template 'for every input the law returns true; each argument reads behind the call as it read before'; 0 by the template 'total and deterministic' (their statements: YtpgpfkfibfmfaaaTotals.lean).
  GIVEN WITH THE SEED: the statements are not yours to turn. If you find one false, say at which input.
  Laid BY PROGRAM, IN A SANDBOX (cutbox-rows.mjs): the forced cells as the released guide's own fill.sh prints them over the translation 816913b141310110… (all of the seat's roots in one cut). By AI agents, Wed Nov 11 2026. No macro, syntax, notation, axiom, sorry.
-/
import Derived.Test.YtpgpfkfibfmfaaaChecked
import GoSem.Claim
import GoSem.ClaimJoined
import GoSem.ClaimMapViews
import Derived.JoinedTies
import Derived.KernelRfl
namespace Go.Proofs.Ytpgpfkfibfmfaaa
/- THE CELL 'sum', in the pinned program and in every row, IS THE sha256 OF THE DUMP (.gsa) THAT YtpgpfkfibfmfaaaProg.lean LOADS. Nothing in Lean hashes anything: it is a label: what it is worth is what the hold of that sum in a sandbox is worth. -/
noncomputable def Try.pinned : Pinned := { name := "ytpgpfkfibfmfaaa", sum := "816913b14131011072779db7e346fa90df26464ca42b428cbd45914ece86e6ef", checked := Try.checked }
namespace Rows
def none {H : Type} : Left H := { results := [], args := [] }

/-- 'brambleweirlaw1.DeepBrackets': WHATEVER THE INPUT: true; the input reads as it did. -/
def deepBracketsSpec : ChangeSpec := { name := "deepBrackets", fn := fun _ => fun
  | [d1, d2] => { results := [.lit (.bool true)], args := [d1, d2] }
  | _ => none }
def deepBracketsRow : OpenClaim := { program := "ytpgpfkfibfmfaaa", sum := "816913b14131011072779db7e346fa90df26464ca42b428cbd45914ece86e6ef", func := "brambleweir/brambleweirlaw1.DeepBrackets", spec := "deepBrackets", unfollowed := true, recurses := true, apart := false }
def DeepBracketsSaid : Prop := deepBracketsRow.holds Try.pinned (OpenSpec.ofChange deepBracketsSpec)

/-- ITS FALSE NEIGHBOUR: 'it returns false'. Refute it at one input. -/
def deepBracketsWrong : ChangeSpec := { name := "deepBrackets", fn := fun _ => fun
  | [d1, d2] => { results := [.lit (.bool false)], args := [d1, d2] }
  | _ => none }
def DeepBracketsWrongFalsely : Prop := deepBracketsRow.holds Try.pinned (OpenSpec.ofChange deepBracketsWrong)

/-- 'brambleweirlaw1.DeepBack': WHATEVER THE INPUT: true; the input reads as it did. -/
def deepBackSpec : ChangeSpec := { name := "deepBack", fn := fun _ => fun
  | [d1, d2] => { results := [.lit (.bool true)], args := [d1, d2] }
  | _ => none }
def deepBackRow : OpenClaim := { program := "ytpgpfkfibfmfaaa", sum := "816913b14131011072779db7e346fa90df26464ca42b428cbd45914ece86e6ef", func := "brambleweir/brambleweirlaw1.DeepBack", spec := "deepBack", unfollowed := true, recurses := true, apart := false }
def DeepBackSaid : Prop := deepBackRow.holds Try.pinned (OpenSpec.ofChange deepBackSpec)

/-- ITS FALSE NEIGHBOUR: 'it returns false'. Refute it at one input. -/
def deepBackWrong : ChangeSpec := { name := "deepBack", fn := fun _ => fun
  | [d1, d2] => { results := [.lit (.bool false)], args := [d1, d2] }
  | _ => none }
def DeepBackWrongFalsely : Prop := deepBackRow.holds Try.pinned (OpenSpec.ofChange deepBackWrong)

/-- 'brambleweirlaw1.DeepParts': WHATEVER THE INPUT: true; the input reads as it did. -/
def deepPartsSpec : ChangeSpec := { name := "deepParts", fn := fun _ => fun
  | [d1, d2] => { results := [.lit (.bool true)], args := [d1, d2] }
  | _ => none }
def deepPartsRow : OpenClaim := { program := "ytpgpfkfibfmfaaa", sum := "816913b14131011072779db7e346fa90df26464ca42b428cbd45914ece86e6ef", func := "brambleweir/brambleweirlaw1.DeepParts", spec := "deepParts", unfollowed := true, recurses := true, apart := false }
def DeepPartsSaid : Prop := deepPartsRow.holds Try.pinned (OpenSpec.ofChange deepPartsSpec)

/-- ITS FALSE NEIGHBOUR: 'it returns false'. Refute it at one input. -/
def deepPartsWrong : ChangeSpec := { name := "deepParts", fn := fun _ => fun
  | [d1, d2] => { results := [.lit (.bool false)], args := [d1, d2] }
  | _ => none }
def DeepPartsWrongFalsely : Prop := deepPartsRow.holds Try.pinned (OpenSpec.ofChange deepPartsWrong)

/- THE SECOND FORM. 'bulk': how many values and letters a reading holds, each counted each time it is reached (what is shared counts as often as it is met; a slice's spare places count too). A statement '..UptoSaid' is the law's where the arguments, and the package variables that the reading takes, are together of bulk at most 1048576: NARROWER than '..Said'. Prove '..Said' where nothing that the law and all that it calls make is longer than what came in: it says more and counts as full. Else prove '..UptoSaid'. A law counts once. -/
mutual
def uptoBulk {H : Type} : DataW H → Nat
  | .lit (.string bytes) => bytes.length + 1
  | .lit _ => 1
  | .nil => 1
  | .ptr d => uptoBulk d + 1
  | .slice elems spare => uptoBulkAll elems + uptoBulkAll spare + 1
  | .agg parts => uptoBulkAll parts + 1
  | .iface _ d => uptoBulk d + 1
  | .map entries => uptoBulkEntries entries + 1
  | .held _ => 1
def uptoBulkAll {H : Type} : List (DataW H) → Nat
  | [] => 0
  | d :: r => uptoBulk d + uptoBulkAll r
def uptoBulkEntries {H : Type} : List (Lit × DataW H) → Nat
  | [] => 0
  | x :: r => uptoBulkEntry x + uptoBulkEntries r
def uptoBulkEntry {H : Type} : Lit × DataW H → Nat
  | (.string bytes, d) => bytes.length + uptoBulk d + 1
  | (_, d) => uptoBulk d + 1
 end
def uptoSmall : (H : Type) → List (DataW H) → Bool := fun _ ds => decide (uptoBulkAll ds ≤ 1048576)
def OpenSpec.upto (s : _root_.Go.ChangeSpec) : _root_.Go.OpenSpec := { _root_.Go.OpenSpec.ofChange s with cond := some uptoSmall }

/-- 'brambleweirlaw1.DeepBrackets', WHERE WHAT IT READS IS OF BULK AT MOST 1048576: true; the input reads as it did. -/
def deepBracketsUptoRow : OpenClaim := { program := "ytpgpfkfibfmfaaa", sum := "816913b14131011072779db7e346fa90df26464ca42b428cbd45914ece86e6ef", func := "brambleweir/brambleweirlaw1.DeepBrackets", spec := "deepBrackets", unfollowed := true, recurses := true, apart := false, narrowed := true }
def DeepBracketsUptoSaid : Prop := deepBracketsUptoRow.holds Try.pinned (OpenSpec.upto deepBracketsSpec)

/-- 'brambleweirlaw1.DeepBack', WHERE WHAT IT READS IS OF BULK AT MOST 1048576: true; the input reads as it did. -/
def deepBackUptoRow : OpenClaim := { program := "ytpgpfkfibfmfaaa", sum := "816913b14131011072779db7e346fa90df26464ca42b428cbd45914ece86e6ef", func := "brambleweir/brambleweirlaw1.DeepBack", spec := "deepBack", unfollowed := true, recurses := true, apart := false, narrowed := true }
def DeepBackUptoSaid : Prop := deepBackUptoRow.holds Try.pinned (OpenSpec.upto deepBackSpec)

/-- 'brambleweirlaw1.DeepParts', WHERE WHAT IT READS IS OF BULK AT MOST 1048576: true; the input reads as it did. -/
def deepPartsUptoRow : OpenClaim := { program := "ytpgpfkfibfmfaaa", sum := "816913b14131011072779db7e346fa90df26464ca42b428cbd45914ece86e6ef", func := "brambleweir/brambleweirlaw1.DeepParts", spec := "deepParts", unfollowed := true, recurses := true, apart := false, narrowed := true }
def DeepPartsUptoSaid : Prop := deepPartsUptoRow.holds Try.pinned (OpenSpec.upto deepPartsSpec)

end Rows
end Go.Proofs.Ytpgpfkfibfmfaaa
