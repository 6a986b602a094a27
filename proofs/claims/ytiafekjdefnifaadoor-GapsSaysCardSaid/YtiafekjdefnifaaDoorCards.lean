/-
  DERIVED. GIVEN WITH THE SEED: THE CARDS: each row of YtiafekjdefnifaaDoorRows.lean that lists a variable, with what it lists TIED to the program's text (the seventh form; the later family's looks); each row that meets fmt, with fmt's text TOLD by the authors' own Lean function (tested against real Go, not proved from fmt's source: count such statements apart). THE CARD IS WHAT COUNTS. Prove the row's statement (the work); the ties are given (YtiafekjdefnifaaDoorTie.lean); close each card by the builder's one call (the guide's Derived/Test/ToyasCard.lean, 'card_holds'). Laid BY PROGRAM, IN A SANDBOX (cutbox-door.mjs). By AI agents, Wed Nov 11 2026. No macro, syntax, notation, axiom, sorry.
-/
import Derived.Test.YtiafekjdefnifaaDoorRows
import GoSem.ClaimSeven
namespace Go.Proofs.YtiafekjdefnifaaDoor
namespace Rows

/-- THE TIED CARD OF 'brambleweirlaw1.GapsSays'. -/
def gapsSaysCard : Claim7 := { stood := { row := gapsSaysRow, standIns := [], harness := (true, "566a3f4115222e2b54ef751544b5b0c1438702089aac1cba31f721c2d381751f"), looks := true }, kinds := [], alts := [], laidByText := true, laidKinds := [.handle], laidTests := true, laidLooks := .later }
def GapsSaysCardSaid : Prop := Claim7.holds Tryd.pinned (.plain (OpenSpec.ofChange gapsSaysSpec)) gapsSaysCard

/-- THE SECOND FORM's CARD OF 'brambleweirlaw1.GapsSays'. -/
def gapsSaysUptoCard : Claim7 := { stood := { row := gapsSaysUptoRow, standIns := [], harness := (true, "566a3f4115222e2b54ef751544b5b0c1438702089aac1cba31f721c2d381751f"), looks := true }, kinds := [], alts := [], laidByText := true, laidKinds := [.handle], laidTests := true, laidLooks := .later }
def GapsSaysUptoCardSaid : Prop := Claim7.holds Tryd.pinned (.plain (OpenSpec.upto gapsSaysSpec)) gapsSaysUptoCard
end Rows
end Go.Proofs.YtiafekjdefnifaaDoor
