/-
  DERIVED. GIVEN WITH THE SEED: THE CARDS: each row of YteneakddpamacaaDoorRows.lean that lists a variable, with what it lists TIED to the program's text (the seventh form; the later family's looks); each row that meets fmt, with fmt's text TOLD by the authors' own Lean function (tested against real Go, not proved from fmt's source: count such statements apart). THE CARD IS WHAT COUNTS. Prove the row's statement (the work); the ties are given (YteneakddpamacaaDoorTie.lean); close each card by the builder's one call (the guide's Derived/Test/ToyasCard.lean, 'card_holds'). Laid BY PROGRAM, IN A SANDBOX (cutbox-door.mjs). By AI agents, Wed Nov 11 2026. No macro, syntax, notation, axiom, sorry.
-/
import Derived.Test.YteneakddpamacaaDoorRows
import GoSem.ClaimSeven
namespace Go.Proofs.YteneakddpamacaaDoor
namespace Rows

/-- THE TIED CARD OF 'brambleweirlaw1.DegreeSays'. -/
def degreeSaysCard : Claim7 := { stood := { row := degreeSaysRow, standIns := [], harness := (true, "20b2f76e1f4a15d8651ef306526bb8b5766848ef8fe47affd850b355b3b7a25e"), looks := true }, kinds := [], alts := [], laidByText := true, laidKinds := [.handle], laidTests := true, laidLooks := .later }
def DegreeSaysCardSaid : Prop := Claim7.holds Tryd.pinned (.plain (OpenSpec.ofChange degreeSaysSpec)) degreeSaysCard

/-- THE SECOND FORM's CARD OF 'brambleweirlaw1.DegreeSays'. -/
def degreeSaysUptoCard : Claim7 := { stood := { row := degreeSaysUptoRow, standIns := [], harness := (true, "20b2f76e1f4a15d8651ef306526bb8b5766848ef8fe47affd850b355b3b7a25e"), looks := true }, kinds := [], alts := [], laidByText := true, laidKinds := [.handle], laidTests := true, laidLooks := .later }
def DegreeSaysUptoCardSaid : Prop := Claim7.holds Tryd.pinned (.plain (OpenSpec.upto degreeSaysSpec)) degreeSaysUptoCard
end Rows
end Go.Proofs.YteneakddpamacaaDoor
