/-
  DERIVED. GIVEN WITH THE SEED: THE CARDS: each row of YtehkkpkhpbbpnaaDoorRows.lean that lists a variable, with what it lists TIED to the program's text (the seventh form; the later family's looks); each row that meets fmt, with fmt's text TOLD by the authors' own Lean function (tested against real Go, not proved from fmt's source: count such statements apart). THE CARD IS WHAT COUNTS. Prove the row's statement (the work); the ties are given (YtehkkpkhpbbpnaaDoorTie.lean); close each card by the builder's one call (the guide's Derived/Test/ToyasCard.lean, 'card_holds'). Laid BY PROGRAM, IN A SANDBOX (cutbox-door.mjs). By AI agents, Wed Nov 11 2026. No macro, syntax, notation, axiom, sorry.
-/
import Derived.Test.YtehkkpkhpbbpnaaDoorRows
import GoSem.ClaimSeven
namespace Go.Proofs.YtehkkpkhpbbpnaaDoor
namespace Rows

/-- THE TIED CARD OF 'brambleweirlaw1.CutsSays'. -/
def cutsSaysCard : Claim7 := { stood := { row := cutsSaysRow, standIns := [], harness := (true, "e1d97ff6f2ea237b538bf048b21dc9f8005941025f377beeed08fa26c05d72e6"), looks := true }, kinds := [], alts := [], laidByText := true, laidKinds := [.handle], laidTests := true, laidLooks := .later }
def CutsSaysCardSaid : Prop := Claim7.holds Tryd.pinned (.plain (OpenSpec.ofChange cutsSaysSpec)) cutsSaysCard

/-- THE SECOND FORM's CARD OF 'brambleweirlaw1.CutsSays'. -/
def cutsSaysUptoCard : Claim7 := { stood := { row := cutsSaysUptoRow, standIns := [], harness := (true, "e1d97ff6f2ea237b538bf048b21dc9f8005941025f377beeed08fa26c05d72e6"), looks := true }, kinds := [], alts := [], laidByText := true, laidKinds := [.handle], laidTests := true, laidLooks := .later }
def CutsSaysUptoCardSaid : Prop := Claim7.holds Tryd.pinned (.plain (OpenSpec.upto cutsSaysSpec)) cutsSaysUptoCard
end Rows
end Go.Proofs.YtehkkpkhpbbpnaaDoor
