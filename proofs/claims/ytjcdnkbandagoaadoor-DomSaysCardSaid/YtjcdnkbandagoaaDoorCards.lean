/-
  DERIVED. GIVEN WITH THE SEED: THE CARDS: each row of YtjcdnkbandagoaaDoorRows.lean that lists a variable, with what it lists TIED to the program's text (the seventh form; the later family's looks); each row that meets fmt, with fmt's text TOLD by the authors' own Lean function (tested against real Go, not proved from fmt's source: count such statements apart). THE CARD IS WHAT COUNTS. Prove the row's statement (the work); the ties are given (YtjcdnkbandagoaaDoorTie.lean); close each card by the builder's one call (the guide's Derived/Test/ToyasCard.lean, 'card_holds'). Laid BY PROGRAM, IN A SANDBOX (cutbox-door.mjs). By AI agents, Wed Nov 11 2026. No macro, syntax, notation, axiom, sorry.
-/
import Derived.Test.YtjcdnkbandagoaaDoorRows
import GoSem.ClaimSeven
namespace Go.Proofs.YtjcdnkbandagoaaDoor
namespace Rows

/-- THE TIED CARD OF 'brambleweirlaw2.DomSays'. -/
def domSaysCard : Claim7 := { stood := { row := domSaysRow, standIns := [], harness := (true, "a6ec8196c2ae1ebb2e6193756edf0dd665f1913f40f34796a91c8dbda9907a01"), looks := true }, kinds := [], alts := [], laidByText := true, laidKinds := [.handle], laidTests := true, laidLooks := .later }
def DomSaysCardSaid : Prop := Claim7.holds Tryd.pinned (.plain (OpenSpec.ofChange domSaysSpec)) domSaysCard

/-- THE SECOND FORM's CARD OF 'brambleweirlaw2.DomSays'. -/
def domSaysUptoCard : Claim7 := { stood := { row := domSaysUptoRow, standIns := [], harness := (true, "a6ec8196c2ae1ebb2e6193756edf0dd665f1913f40f34796a91c8dbda9907a01"), looks := true }, kinds := [], alts := [], laidByText := true, laidKinds := [.handle], laidTests := true, laidLooks := .later }
def DomSaysUptoCardSaid : Prop := Claim7.holds Tryd.pinned (.plain (OpenSpec.upto domSaysSpec)) domSaysUptoCard
end Rows
end Go.Proofs.YtjcdnkbandagoaaDoor
