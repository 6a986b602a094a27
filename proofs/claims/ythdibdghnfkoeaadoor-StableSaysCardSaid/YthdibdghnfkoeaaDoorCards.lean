/-
  DERIVED. GIVEN WITH THE SEED: THE CARDS: each row of YthdibdghnfkoeaaDoorRows.lean that lists a variable, with what it lists TIED to the program's text (the seventh form; the later family's looks); each row that meets fmt, with fmt's text TOLD by the authors' own Lean function (tested against real Go, not proved from fmt's source: count such statements apart). THE CARD IS WHAT COUNTS. Prove the row's statement (the work); the ties are given (YthdibdghnfkoeaaDoorTie.lean); close each card by the builder's one call (the guide's Derived/Test/ToyasCard.lean, 'card_holds'). Laid BY PROGRAM, IN A SANDBOX (cutbox-door.mjs). By AI agents, Wed Nov 11 2026. No macro, syntax, notation, axiom, sorry.
-/
import Derived.Test.YthdibdghnfkoeaaDoorRows
import GoSem.ClaimSeven
namespace Go.Proofs.YthdibdghnfkoeaaDoor
namespace Rows

/-- THE TIED CARD OF 'brambleweirlaw2.StableSays'. -/
def stableSaysCard : Claim7 := { stood := { row := stableSaysRow, standIns := [], harness := (true, "edb7622a5b3fa5492e91cd20b318a8f0db7c7994541036e523feaec8d21941fc"), looks := true }, kinds := [], alts := [], laidByText := true, laidKinds := [.handle], laidTests := true, laidLooks := .later }
def StableSaysCardSaid : Prop := Claim7.holds Tryd.pinned (.plain (OpenSpec.ofChange stableSaysSpec)) stableSaysCard

/-- THE SECOND FORM's CARD OF 'brambleweirlaw2.StableSays'. -/
def stableSaysUptoCard : Claim7 := { stood := { row := stableSaysUptoRow, standIns := [], harness := (true, "edb7622a5b3fa5492e91cd20b318a8f0db7c7994541036e523feaec8d21941fc"), looks := true }, kinds := [], alts := [], laidByText := true, laidKinds := [.handle], laidTests := true, laidLooks := .later }
def StableSaysUptoCardSaid : Prop := Claim7.holds Tryd.pinned (.plain (OpenSpec.upto stableSaysSpec)) stableSaysUptoCard
end Rows
end Go.Proofs.YthdibdghnfkoeaaDoor
