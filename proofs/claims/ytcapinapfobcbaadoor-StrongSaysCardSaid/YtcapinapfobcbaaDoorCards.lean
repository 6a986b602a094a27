/-
  DERIVED. GIVEN WITH THE SEED: THE CARDS: each row of YtcapinapfobcbaaDoorRows.lean that lists a variable, with what it lists TIED to the program's text (the seventh form; the later family's looks); each row that meets fmt, with fmt's text TOLD by the authors' own Lean function (tested against real Go, not proved from fmt's source: count such statements apart). THE CARD IS WHAT COUNTS. Prove the row's statement (the work); the ties are given (YtcapinapfobcbaaDoorTie.lean); close each card by the builder's one call (the guide's Derived/Test/ToyasCard.lean, 'card_holds'). Laid BY PROGRAM, IN A SANDBOX (cutbox-door.mjs). By AI agents, Wed Nov 11 2026. No macro, syntax, notation, axiom, sorry.
-/
import Derived.Test.YtcapinapfobcbaaDoorRows
import GoSem.ClaimSeven
namespace Go.Proofs.YtcapinapfobcbaaDoor
namespace Rows

/-- THE TIED CARD OF 'brambleweirlaw2.StrongSays'. -/
def strongSaysCard : Claim7 := { stood := { row := strongSaysRow, standIns := [], harness := (true, "1b8ba3cb4a3cffe644bbe39c28590cf5271dbcdedd4b236b2c04a31db221ddf8"), looks := true }, kinds := [], alts := [], laidByText := true, laidKinds := [.handle], laidTests := true, laidLooks := .later }
def StrongSaysCardSaid : Prop := Claim7.holds Tryd.pinned (.plain (OpenSpec.ofChange strongSaysSpec)) strongSaysCard

/-- THE SECOND FORM's CARD OF 'brambleweirlaw2.StrongSays'. -/
def strongSaysUptoCard : Claim7 := { stood := { row := strongSaysUptoRow, standIns := [], harness := (true, "1b8ba3cb4a3cffe644bbe39c28590cf5271dbcdedd4b236b2c04a31db221ddf8"), looks := true }, kinds := [], alts := [], laidByText := true, laidKinds := [.handle], laidTests := true, laidLooks := .later }
def StrongSaysUptoCardSaid : Prop := Claim7.holds Tryd.pinned (.plain (OpenSpec.upto strongSaysSpec)) strongSaysUptoCard
end Rows
end Go.Proofs.YtcapinapfobcbaaDoor
