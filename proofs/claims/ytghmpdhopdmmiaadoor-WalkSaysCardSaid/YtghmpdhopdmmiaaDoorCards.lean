/-
  DERIVED. GIVEN WITH THE SEED: THE CARDS: each row of YtghmpdhopdmmiaaDoorRows.lean that lists a variable, with what it lists TIED to the program's text (the seventh form; the later family's looks); each row that meets fmt, with fmt's text TOLD by the authors' own Lean function (tested against real Go, not proved from fmt's source: count such statements apart). THE CARD IS WHAT COUNTS. Prove the row's statement (the work); the ties are given (YtghmpdhopdmmiaaDoorTie.lean); close each card by the builder's one call (the guide's Derived/Test/ToyasCard.lean, 'card_holds'). Laid BY PROGRAM, IN A SANDBOX (cutbox-door.mjs). By AI agents, Wed Nov 11 2026. No macro, syntax, notation, axiom, sorry.
-/
import Derived.Test.YtghmpdhopdmmiaaDoorRows
import GoSem.ClaimSeven
namespace Go.Proofs.YtghmpdhopdmmiaaDoor
namespace Rows

/-- THE TIED CARD OF 'brambleweirlaw1.WalkSays'. -/
def walkSaysCard : Claim7 := { stood := { row := walkSaysRow, standIns := [], harness := (true, "da40477542b16ca9347bd319586b18182d0936d666396260b4bccb01b5006a47"), looks := true }, kinds := [], alts := [], laidByText := true, laidKinds := [.handle], laidTests := true, laidLooks := .later }
def WalkSaysCardSaid : Prop := Claim7.holds Tryd.pinned (.plain (OpenSpec.ofChange walkSaysSpec)) walkSaysCard

/-- THE SECOND FORM's CARD OF 'brambleweirlaw1.WalkSays'. -/
def walkSaysUptoCard : Claim7 := { stood := { row := walkSaysUptoRow, standIns := [], harness := (true, "da40477542b16ca9347bd319586b18182d0936d666396260b4bccb01b5006a47"), looks := true }, kinds := [], alts := [], laidByText := true, laidKinds := [.handle], laidTests := true, laidLooks := .later }
def WalkSaysUptoCardSaid : Prop := Claim7.holds Tryd.pinned (.plain (OpenSpec.upto walkSaysSpec)) walkSaysUptoCard
end Rows
end Go.Proofs.YtghmpdhopdmmiaaDoor
