/-
  No cell of these rows narrows 'for every input' (looked for: loops, veiled, ifaces, maps, wideKeys, modest, calm, conditions, laid).
  DERIVED. THE GIVEN ROWS OF THIS SEAT. 4 by the template 'for every input the law returns true; each argument reads behind the call as it read before'; 0 by the template 'total and deterministic' (their statements: YtbegepdeaeplgaaTotals.lean).
  GIVEN WITH THE SEED: the statements are not yours to turn. If you find one false, say at which input.
  Laid BY PROGRAM, IN A SANDBOX (cutbox-rows.mjs): the forced cells as the released guide's own fill.sh prints them over the translation 18b8aa980eafb7dc… (all of the seat's roots in one cut). By AI agents, Wed Nov 11 2026. No macro, syntax, notation, axiom, sorry.
-/
import Derived.Test.YtbegepdeaeplgaaChecked
import GoSem.Claim
import GoSem.ClaimJoined
import GoSem.ClaimMapViews
import Derived.JoinedTies
import Derived.KernelRfl
namespace Go.Proofs.Ytbegepdeaeplgaa
/- THE CELL 'sum', in the pinned program and in every row, IS THE sha256 OF THE DUMP (.gsa) THAT YtbegepdeaeplgaaProg.lean LOADS. Nothing in Lean hashes anything: it is a label: what it is worth is what the hold of that sum in a sandbox is worth. -/
noncomputable def Try.pinned : Pinned := { name := "ytbegepdeaeplgaa", sum := "18b8aa980eafb7dc6cfde3abd6dfe245aabde7a173f311adc2d6ba8b079be012", checked := Try.checked }
namespace Rows
def none {H : Type} : Left H := { results := [], args := [] }

/-- 'brambleweirlaw2.MatchKonig': WHATEVER THE INPUT: true; the input reads as it did. -/
def matchKonigSpec : ChangeSpec := { name := "matchKonig", fn := fun _ => fun
  | [d1, d2, d3] => { results := [.lit (.bool true)], args := [d1, d2, d3] }
  | _ => none }
def matchKonigRow : OpenClaim := { program := "ytbegepdeaeplgaa", sum := "18b8aa980eafb7dc6cfde3abd6dfe245aabde7a173f311adc2d6ba8b079be012", func := "brambleweir/brambleweirlaw2.MatchKonig", spec := "matchKonig", unfollowed := true, recurses := true, apart := false }
def MatchKonigSaid : Prop := matchKonigRow.holds Try.pinned (OpenSpec.ofChange matchKonigSpec)

/-- ITS FALSE NEIGHBOUR: 'it returns false'. Refute it at one input. -/
def matchKonigWrong : ChangeSpec := { name := "matchKonig", fn := fun _ => fun
  | [d1, d2, d3] => { results := [.lit (.bool false)], args := [d1, d2, d3] }
  | _ => none }
def MatchKonigWrongFalsely : Prop := matchKonigRow.holds Try.pinned (OpenSpec.ofChange matchKonigWrong)

/-- 'brambleweirlaw2.MatchHall': WHATEVER THE INPUT: true; the input reads as it did. -/
def matchHallSpec : ChangeSpec := { name := "matchHall", fn := fun _ => fun
  | [d1, d2, d3] => { results := [.lit (.bool true)], args := [d1, d2, d3] }
  | _ => none }
def matchHallRow : OpenClaim := { program := "ytbegepdeaeplgaa", sum := "18b8aa980eafb7dc6cfde3abd6dfe245aabde7a173f311adc2d6ba8b079be012", func := "brambleweir/brambleweirlaw2.MatchHall", spec := "matchHall", unfollowed := true, recurses := true, apart := false }
def MatchHallSaid : Prop := matchHallRow.holds Try.pinned (OpenSpec.ofChange matchHallSpec)

/-- ITS FALSE NEIGHBOUR: 'it returns false'. Refute it at one input. -/
def matchHallWrong : ChangeSpec := { name := "matchHall", fn := fun _ => fun
  | [d1, d2, d3] => { results := [.lit (.bool false)], args := [d1, d2, d3] }
  | _ => none }
def MatchHallWrongFalsely : Prop := matchHallRow.holds Try.pinned (OpenSpec.ofChange matchHallWrong)

/-- 'brambleweirlaw2.MatchTurn': WHATEVER THE INPUT: true; the input reads as it did. -/
def matchTurnSpec : ChangeSpec := { name := "matchTurn", fn := fun _ => fun
  | [d1, d2, d3, d4] => { results := [.lit (.bool true)], args := [d1, d2, d3, d4] }
  | _ => none }
def matchTurnRow : OpenClaim := { program := "ytbegepdeaeplgaa", sum := "18b8aa980eafb7dc6cfde3abd6dfe245aabde7a173f311adc2d6ba8b079be012", func := "brambleweir/brambleweirlaw2.MatchTurn", spec := "matchTurn", unfollowed := true, recurses := true, apart := false }
def MatchTurnSaid : Prop := matchTurnRow.holds Try.pinned (OpenSpec.ofChange matchTurnSpec)

/-- ITS FALSE NEIGHBOUR: 'it returns false'. Refute it at one input. -/
def matchTurnWrong : ChangeSpec := { name := "matchTurn", fn := fun _ => fun
  | [d1, d2, d3, d4] => { results := [.lit (.bool false)], args := [d1, d2, d3, d4] }
  | _ => none }
def MatchTurnWrongFalsely : Prop := matchTurnRow.holds Try.pinned (OpenSpec.ofChange matchTurnWrong)

/-- 'brambleweirlaw2.MatchLeast': WHATEVER THE INPUT: true; the input reads as it did. -/
def matchLeastSpec : ChangeSpec := { name := "matchLeast", fn := fun _ => fun
  | [d1, d2, d3, d4] => { results := [.lit (.bool true)], args := [d1, d2, d3, d4] }
  | _ => none }
def matchLeastRow : OpenClaim := { program := "ytbegepdeaeplgaa", sum := "18b8aa980eafb7dc6cfde3abd6dfe245aabde7a173f311adc2d6ba8b079be012", func := "brambleweir/brambleweirlaw2.MatchLeast", spec := "matchLeast", unfollowed := true, recurses := true, apart := false }
def MatchLeastSaid : Prop := matchLeastRow.holds Try.pinned (OpenSpec.ofChange matchLeastSpec)

/-- ITS FALSE NEIGHBOUR: 'it returns false'. Refute it at one input. -/
def matchLeastWrong : ChangeSpec := { name := "matchLeast", fn := fun _ => fun
  | [d1, d2, d3, d4] => { results := [.lit (.bool false)], args := [d1, d2, d3, d4] }
  | _ => none }
def MatchLeastWrongFalsely : Prop := matchLeastRow.holds Try.pinned (OpenSpec.ofChange matchLeastWrong)

/- THE SECOND FORM. 'bulk': how many values and letters a reading holds, each counted each time it is reached (what is shared counts as often as it is met; a slice's spare places count too). A statement '..UptoSaid' is the law's where the arguments, and the package variables that the reading takes, are together of bulk at most 1048576: NARROWER than '..Said'. Prove '..Said' where nothing that the law and all that it calls make is longer than what came in: it says more and counts as full. Else prove '..UptoSaid'. A law counts once. -/
mutual
def uptoBulk {H : Type} : DataW H → Nat
  | .lit (.string bytes) => bytes.length + 1
  | .lit _ => 1
  | .nil => 1
  | .ptr d => uptoBulk d + 1
  | .slice elems spare => uptoBulkAll elems + uptoBulkAll spare + 1
  | .agg parts => uptoBulkAll parts + 1
  | .iface _ d => uptoBulk d + 1
  | .map entries => uptoBulkEntries entries + 1
  | .held _ => 1
def uptoBulkAll {H : Type} : List (DataW H) → Nat
  | [] => 0
  | d :: r => uptoBulk d + uptoBulkAll r
def uptoBulkEntries {H : Type} : List (Lit × DataW H) → Nat
  | [] => 0
  | x :: r => uptoBulkEntry x + uptoBulkEntries r
def uptoBulkEntry {H : Type} : Lit × DataW H → Nat
  | (.string bytes, d) => bytes.length + uptoBulk d + 1
  | (_, d) => uptoBulk d + 1
 end
def uptoSmall : (H : Type) → List (DataW H) → Bool := fun _ ds => decide (uptoBulkAll ds ≤ 1048576)
def OpenSpec.upto (s : _root_.Go.ChangeSpec) : _root_.Go.OpenSpec := { _root_.Go.OpenSpec.ofChange s with cond := some uptoSmall }

/-- 'brambleweirlaw2.MatchKonig', WHERE WHAT IT READS IS OF BULK AT MOST 1048576: true; the input reads as it did. -/
def matchKonigUptoRow : OpenClaim := { program := "ytbegepdeaeplgaa", sum := "18b8aa980eafb7dc6cfde3abd6dfe245aabde7a173f311adc2d6ba8b079be012", func := "brambleweir/brambleweirlaw2.MatchKonig", spec := "matchKonig", unfollowed := true, recurses := true, apart := false, narrowed := true }
def MatchKonigUptoSaid : Prop := matchKonigUptoRow.holds Try.pinned (OpenSpec.upto matchKonigSpec)

/-- 'brambleweirlaw2.MatchHall', WHERE WHAT IT READS IS OF BULK AT MOST 1048576: true; the input reads as it did. -/
def matchHallUptoRow : OpenClaim := { program := "ytbegepdeaeplgaa", sum := "18b8aa980eafb7dc6cfde3abd6dfe245aabde7a173f311adc2d6ba8b079be012", func := "brambleweir/brambleweirlaw2.MatchHall", spec := "matchHall", unfollowed := true, recurses := true, apart := false, narrowed := true }
def MatchHallUptoSaid : Prop := matchHallUptoRow.holds Try.pinned (OpenSpec.upto matchHallSpec)

/-- 'brambleweirlaw2.MatchTurn', WHERE WHAT IT READS IS OF BULK AT MOST 1048576: true; the input reads as it did. -/
def matchTurnUptoRow : OpenClaim := { program := "ytbegepdeaeplgaa", sum := "18b8aa980eafb7dc6cfde3abd6dfe245aabde7a173f311adc2d6ba8b079be012", func := "brambleweir/brambleweirlaw2.MatchTurn", spec := "matchTurn", unfollowed := true, recurses := true, apart := false, narrowed := true }
def MatchTurnUptoSaid : Prop := matchTurnUptoRow.holds Try.pinned (OpenSpec.upto matchTurnSpec)

/-- 'brambleweirlaw2.MatchLeast', WHERE WHAT IT READS IS OF BULK AT MOST 1048576: true; the input reads as it did. -/
def matchLeastUptoRow : OpenClaim := { program := "ytbegepdeaeplgaa", sum := "18b8aa980eafb7dc6cfde3abd6dfe245aabde7a173f311adc2d6ba8b079be012", func := "brambleweir/brambleweirlaw2.MatchLeast", spec := "matchLeast", unfollowed := true, recurses := true, apart := false, narrowed := true }
def MatchLeastUptoSaid : Prop := matchLeastUptoRow.holds Try.pinned (OpenSpec.upto matchLeastSpec)

end Rows
end Go.Proofs.Ytbegepdeaeplgaa
