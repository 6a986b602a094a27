/-
  DERIVED. GIVEN WITH THE SEED: THE CARDS: each row of YtnjfnfooljlnkaaDoorRows.lean that lists a variable, with what it lists TIED to the program's text (the seventh form; the later family's looks); each row that meets fmt, with fmt's text TOLD by the authors' own Lean function (tested against real Go, not proved from fmt's source: count such statements apart). THE CARD IS WHAT COUNTS. Prove the row's statement (the work); the ties are given (YtnjfnfooljlnkaaDoorTie.lean); close each card by the builder's one call (the guide's Derived/Test/ToyasCard.lean, 'card_holds'). Laid BY PROGRAM, IN A SANDBOX (cutbox-door.mjs). By AI agents, Wed Nov 11 2026. No macro, syntax, notation, axiom, sorry.
-/
import Derived.Test.YtnjfnfooljlnkaaDoorRows
import GoSem.ClaimSeven
namespace Go.Proofs.YtnjfnfooljlnkaaDoor
namespace Rows

/-- THE TIED CARD OF 'brambleweirlaw1.EliasSays'. -/
def eliasSaysCard : Claim7 := { stood := { row := eliasSaysRow, standIns := [], harness := (true, "0d785445e1732e4982d0fd247bcd87307b671e09ed66cdafc2c03d7c301c6284"), looks := true }, kinds := [], alts := [], laidByText := true, laidKinds := [.handle], laidTests := true, laidLooks := .later }
def EliasSaysCardSaid : Prop := Claim7.holds Tryd.pinned (.plain (OpenSpec.ofChange eliasSaysSpec)) eliasSaysCard

/-- THE SECOND FORM's CARD OF 'brambleweirlaw1.EliasSays'. -/
def eliasSaysUptoCard : Claim7 := { stood := { row := eliasSaysUptoRow, standIns := [], harness := (true, "0d785445e1732e4982d0fd247bcd87307b671e09ed66cdafc2c03d7c301c6284"), looks := true }, kinds := [], alts := [], laidByText := true, laidKinds := [.handle], laidTests := true, laidLooks := .later }
def EliasSaysUptoCardSaid : Prop := Claim7.holds Tryd.pinned (.plain (OpenSpec.upto eliasSaysSpec)) eliasSaysUptoCard
end Rows
end Go.Proofs.YtnjfnfooljlnkaaDoor
