/-
  DERIVED. GIVEN WITH THE SEED: THE CARDS: each row of YthlgloefeigcbaaDoorRows.lean that lists a variable, with what it lists TIED to the program's text (the seventh form; the later family's looks); each row that meets fmt, with fmt's text TOLD by the authors' own Lean function (tested against real Go, not proved from fmt's source: count such statements apart). THE CARD IS WHAT COUNTS. Prove the row's statement (the work); the ties are given (YthlgloefeigcbaaDoorTie.lean); close each card by the builder's one call (the guide's Derived/Test/ToyasCard.lean, 'card_holds'). Laid BY PROGRAM, IN A SANDBOX (cutbox-door.mjs). By AI agents, Wed Nov 11 2026. No macro, syntax, notation, axiom, sorry.
-/
import Derived.Test.YthlgloefeigcbaaDoorRows
import GoSem.ClaimSeven
namespace Go.Proofs.YthlgloefeigcbaaDoor
namespace Rows

/-- THE TIED CARD OF 'brambleweirlaw2.CloseSays'. -/
def closeSaysCard : Claim7 := { stood := { row := closeSaysRow, standIns := [], harness := (true, "e5bb5e48f860513d176db5b440b02b4f37e36d11175cd2c09231ac87459216a2"), looks := true }, kinds := [], alts := [], laidByText := true, laidKinds := [.handle], laidTests := true, laidLooks := .later }
def CloseSaysCardSaid : Prop := Claim7.holds Tryd.pinned (.plain (OpenSpec.ofChange closeSaysSpec)) closeSaysCard

/-- THE TIED CARD OF 'brambleweirlaw2.CloseTurn'. -/
def closeTurnCard : Claim7 := { stood := { row := closeTurnRow, standIns := [], harness := (true, "e5bb5e48f860513d176db5b440b02b4f37e36d11175cd2c09231ac87459216a2"), looks := true }, kinds := [], alts := [], laidByText := true, laidKinds := [.handle], laidTests := true, laidLooks := .later }
def CloseTurnCardSaid : Prop := Claim7.holds Tryd.pinned (.plain (OpenSpec.ofChange closeTurnSpec)) closeTurnCard

/-- THE SECOND FORM's CARD OF 'brambleweirlaw2.CloseSays'. -/
def closeSaysUptoCard : Claim7 := { stood := { row := closeSaysUptoRow, standIns := [], harness := (true, "e5bb5e48f860513d176db5b440b02b4f37e36d11175cd2c09231ac87459216a2"), looks := true }, kinds := [], alts := [], laidByText := true, laidKinds := [.handle], laidTests := true, laidLooks := .later }
def CloseSaysUptoCardSaid : Prop := Claim7.holds Tryd.pinned (.plain (OpenSpec.upto closeSaysSpec)) closeSaysUptoCard

/-- THE SECOND FORM's CARD OF 'brambleweirlaw2.CloseTurn'. -/
def closeTurnUptoCard : Claim7 := { stood := { row := closeTurnUptoRow, standIns := [], harness := (true, "e5bb5e48f860513d176db5b440b02b4f37e36d11175cd2c09231ac87459216a2"), looks := true }, kinds := [], alts := [], laidByText := true, laidKinds := [.handle], laidTests := true, laidLooks := .later }
def CloseTurnUptoCardSaid : Prop := Claim7.holds Tryd.pinned (.plain (OpenSpec.upto closeTurnSpec)) closeTurnUptoCard
end Rows
end Go.Proofs.YthlgloefeigcbaaDoor
