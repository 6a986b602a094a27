/-
  No cell of these rows narrows 'for every input' (looked for: loops, veiled, ifaces, maps, wideKeys, modest, calm, conditions, laid).
  DERIVED. THE GIVEN ROWS OF THIS SEAT. 4 by the template 'for every input the law returns true; each argument reads behind the call as it read before'; 0 by the template 'total and deterministic' (their statements: YthdibdghnfkoeaaTotals.lean).
  GIVEN WITH THE SEED: the statements are not yours to turn. If you find one false, say at which input.
  Laid BY PROGRAM, IN A SANDBOX (cutbox-rows.mjs): the forced cells as the released guide's own fill.sh prints them over the translation 600a51e9314a9c6e… (all of the seat's roots in one cut). By AI agents, Wed Nov 11 2026. No macro, syntax, notation, axiom, sorry.
-/
import Derived.Test.YthdibdghnfkoeaaChecked
import GoSem.Claim
import GoSem.ClaimJoined
import GoSem.ClaimMapViews
import Derived.JoinedTies
import Derived.KernelRfl
namespace Go.Proofs.Ythdibdghnfkoeaa
/- THE CELL 'sum', in the pinned program and in every row, IS THE sha256 OF THE DUMP (.gsa) THAT YthdibdghnfkoeaaProg.lean LOADS. Nothing in Lean hashes anything: it is a label: what it is worth is what the hold of that sum in a sandbox is worth. -/
noncomputable def Try.pinned : Pinned := { name := "ythdibdghnfkoeaa", sum := "600a51e9314a9c6e11abd6f270996cc277f2135f6a786dde7363818b49892834", checked := Try.checked }
namespace Rows
def none {H : Type} : Left H := { results := [], args := [] }

/-- 'brambleweirlaw2.StableGale': WHATEVER THE INPUT: true; the input reads as it did. -/
def stableGaleSpec : ChangeSpec := { name := "stableGale", fn := fun _ => fun
  | [d1, d2] => { results := [.lit (.bool true)], args := [d1, d2] }
  | _ => none }
def stableGaleRow : OpenClaim := { program := "ythdibdghnfkoeaa", sum := "600a51e9314a9c6e11abd6f270996cc277f2135f6a786dde7363818b49892834", func := "brambleweir/brambleweirlaw2.StableGale", spec := "stableGale", apart := false }
def StableGaleSaid : Prop := stableGaleRow.holds Try.pinned (OpenSpec.ofChange stableGaleSpec)

/-- ITS FALSE NEIGHBOUR: 'it returns false'. Refute it at one input. -/
def stableGaleWrong : ChangeSpec := { name := "stableGale", fn := fun _ => fun
  | [d1, d2] => { results := [.lit (.bool false)], args := [d1, d2] }
  | _ => none }
def StableGaleWrongFalsely : Prop := stableGaleRow.holds Try.pinned (OpenSpec.ofChange stableGaleWrong)

/-- 'brambleweirlaw2.StableBest': WHATEVER THE INPUT: true; the input reads as it did. -/
def stableBestSpec : ChangeSpec := { name := "stableBest", fn := fun _ => fun
  | [d1, d2, d3] => { results := [.lit (.bool true)], args := [d1, d2, d3] }
  | _ => none }
def stableBestRow : OpenClaim := { program := "ythdibdghnfkoeaa", sum := "600a51e9314a9c6e11abd6f270996cc277f2135f6a786dde7363818b49892834", func := "brambleweir/brambleweirlaw2.StableBest", spec := "stableBest", apart := false }
def StableBestSaid : Prop := stableBestRow.holds Try.pinned (OpenSpec.ofChange stableBestSpec)

/-- ITS FALSE NEIGHBOUR: 'it returns false'. Refute it at one input. -/
def stableBestWrong : ChangeSpec := { name := "stableBest", fn := fun _ => fun
  | [d1, d2, d3] => { results := [.lit (.bool false)], args := [d1, d2, d3] }
  | _ => none }
def StableBestWrongFalsely : Prop := stableBestRow.holds Try.pinned (OpenSpec.ofChange stableBestWrong)

/-- 'brambleweirlaw2.StableSame': WHATEVER THE INPUT: true; the input reads as it did. -/
def stableSameSpec : ChangeSpec := { name := "stableSame", fn := fun _ => fun
  | [d1, d2, d3] => { results := [.lit (.bool true)], args := [d1, d2, d3] }
  | _ => none }
def stableSameRow : OpenClaim := { program := "ythdibdghnfkoeaa", sum := "600a51e9314a9c6e11abd6f270996cc277f2135f6a786dde7363818b49892834", func := "brambleweir/brambleweirlaw2.StableSame", spec := "stableSame", apart := false }
def StableSameSaid : Prop := stableSameRow.holds Try.pinned (OpenSpec.ofChange stableSameSpec)

/-- ITS FALSE NEIGHBOUR: 'it returns false'. Refute it at one input. -/
def stableSameWrong : ChangeSpec := { name := "stableSame", fn := fun _ => fun
  | [d1, d2, d3] => { results := [.lit (.bool false)], args := [d1, d2, d3] }
  | _ => none }
def StableSameWrongFalsely : Prop := stableSameRow.holds Try.pinned (OpenSpec.ofChange stableSameWrong)

/-- 'brambleweirtop.TopHalf': WHATEVER THE INPUT: true; the input reads as it did. -/
def topHalfSpec : ChangeSpec := { name := "topHalf", fn := fun _ => fun
  | [d1, d2] => { results := [.lit (.bool true)], args := [d1, d2] }
  | _ => none }
def topHalfRow : OpenClaim := { program := "ythdibdghnfkoeaa", sum := "600a51e9314a9c6e11abd6f270996cc277f2135f6a786dde7363818b49892834", func := "brambleweir/brambleweirtop.TopHalf", spec := "topHalf", unfollowed := true, recurses := true, apart := false }
def TopHalfSaid : Prop := topHalfRow.holds Try.pinned (OpenSpec.ofChange topHalfSpec)

/-- ITS FALSE NEIGHBOUR: 'it returns false'. Refute it at one input. -/
def topHalfWrong : ChangeSpec := { name := "topHalf", fn := fun _ => fun
  | [d1, d2] => { results := [.lit (.bool false)], args := [d1, d2] }
  | _ => none }
def TopHalfWrongFalsely : Prop := topHalfRow.holds Try.pinned (OpenSpec.ofChange topHalfWrong)

/- THE SECOND FORM. 'bulk': how many values and letters a reading holds, each counted each time it is reached (what is shared counts as often as it is met; a slice's spare places count too). A statement '..UptoSaid' is the law's where the arguments, and the package variables that the reading takes, are together of bulk at most 1048576: NARROWER than '..Said'. Prove '..Said' where nothing that the law and all that it calls make is longer than what came in: it says more and counts as full. Else prove '..UptoSaid'. A law counts once. -/
mutual
def uptoBulk {H : Type} : DataW H → Nat
  | .lit (.string bytes) => bytes.length + 1
  | .lit _ => 1
  | .nil => 1
  | .ptr d => uptoBulk d + 1
  | .slice elems spare => uptoBulkAll elems + uptoBulkAll spare + 1
  | .agg parts => uptoBulkAll parts + 1
  | .iface _ d => uptoBulk d + 1
  | .map entries => uptoBulkEntries entries + 1
  | .held _ => 1
def uptoBulkAll {H : Type} : List (DataW H) → Nat
  | [] => 0
  | d :: r => uptoBulk d + uptoBulkAll r
def uptoBulkEntries {H : Type} : List (Lit × DataW H) → Nat
  | [] => 0
  | x :: r => uptoBulkEntry x + uptoBulkEntries r
def uptoBulkEntry {H : Type} : Lit × DataW H → Nat
  | (.string bytes, d) => bytes.length + uptoBulk d + 1
  | (_, d) => uptoBulk d + 1
 end
def uptoSmall : (H : Type) → List (DataW H) → Bool := fun _ ds => decide (uptoBulkAll ds ≤ 1048576)
def OpenSpec.upto (s : _root_.Go.ChangeSpec) : _root_.Go.OpenSpec := { _root_.Go.OpenSpec.ofChange s with cond := some uptoSmall }

/-- 'brambleweirlaw2.StableGale', WHERE WHAT IT READS IS OF BULK AT MOST 1048576: true; the input reads as it did. -/
def stableGaleUptoRow : OpenClaim := { program := "ythdibdghnfkoeaa", sum := "600a51e9314a9c6e11abd6f270996cc277f2135f6a786dde7363818b49892834", func := "brambleweir/brambleweirlaw2.StableGale", spec := "stableGale", apart := false, narrowed := true }
def StableGaleUptoSaid : Prop := stableGaleUptoRow.holds Try.pinned (OpenSpec.upto stableGaleSpec)

/-- 'brambleweirlaw2.StableBest', WHERE WHAT IT READS IS OF BULK AT MOST 1048576: true; the input reads as it did. -/
def stableBestUptoRow : OpenClaim := { program := "ythdibdghnfkoeaa", sum := "600a51e9314a9c6e11abd6f270996cc277f2135f6a786dde7363818b49892834", func := "brambleweir/brambleweirlaw2.StableBest", spec := "stableBest", apart := false, narrowed := true }
def StableBestUptoSaid : Prop := stableBestUptoRow.holds Try.pinned (OpenSpec.upto stableBestSpec)

/-- 'brambleweirlaw2.StableSame', WHERE WHAT IT READS IS OF BULK AT MOST 1048576: true; the input reads as it did. -/
def stableSameUptoRow : OpenClaim := { program := "ythdibdghnfkoeaa", sum := "600a51e9314a9c6e11abd6f270996cc277f2135f6a786dde7363818b49892834", func := "brambleweir/brambleweirlaw2.StableSame", spec := "stableSame", apart := false, narrowed := true }
def StableSameUptoSaid : Prop := stableSameUptoRow.holds Try.pinned (OpenSpec.upto stableSameSpec)

/-- 'brambleweirtop.TopHalf', WHERE WHAT IT READS IS OF BULK AT MOST 1048576: true; the input reads as it did. -/
def topHalfUptoRow : OpenClaim := { program := "ythdibdghnfkoeaa", sum := "600a51e9314a9c6e11abd6f270996cc277f2135f6a786dde7363818b49892834", func := "brambleweir/brambleweirtop.TopHalf", spec := "topHalf", unfollowed := true, recurses := true, apart := false, narrowed := true }
def TopHalfUptoSaid : Prop := topHalfUptoRow.holds Try.pinned (OpenSpec.upto topHalfSpec)

end Rows
end Go.Proofs.Ythdibdghnfkoeaa
