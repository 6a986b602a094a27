/-
  DERIVED. GIVEN WITH THE SEED: THE CARDS: each row of YtinglgnddmadaaaDoorRows.lean that lists a variable, with what it lists TIED to the program's text (the seventh form; the later family's looks); each row that meets fmt, with fmt's text TOLD by the authors' own Lean function (tested against real Go, not proved from fmt's source: count such statements apart). THE CARD IS WHAT COUNTS. Prove the row's statement (the work); the ties are given (YtinglgnddmadaaaDoorTie.lean); close each card by the builder's one call (the guide's Derived/Test/ToyasCard.lean, 'card_holds'). Laid BY PROGRAM, IN A SANDBOX (cutbox-door.mjs). By AI agents, Wed Nov 11 2026. No macro, syntax, notation, axiom, sorry.
-/
import Derived.Test.YtinglgnddmadaaaDoorRows
import GoSem.ClaimSeven
namespace Go.Proofs.YtinglgnddmadaaaDoor
namespace Rows

/-- THE TIED CARD OF 'brambleweirlaw2.ChainSays'. -/
def chainSaysCard : Claim7 := { stood := { row := chainSaysRow, standIns := [], harness := (true, "299c1d5a81bd5f9ef22301e52bdc373e032214e7ca2c09ba8bfda31d716d4ce0"), looks := true }, kinds := [], alts := [], laidByText := true, laidKinds := [.handle], laidTests := true, laidLooks := .later }
def ChainSaysCardSaid : Prop := Claim7.holds Tryd.pinned (.plain (OpenSpec.ofChange chainSaysSpec)) chainSaysCard

/-- THE SECOND FORM's CARD OF 'brambleweirlaw2.ChainSays'. -/
def chainSaysUptoCard : Claim7 := { stood := { row := chainSaysUptoRow, standIns := [], harness := (true, "299c1d5a81bd5f9ef22301e52bdc373e032214e7ca2c09ba8bfda31d716d4ce0"), looks := true }, kinds := [], alts := [], laidByText := true, laidKinds := [.handle], laidTests := true, laidLooks := .later }
def ChainSaysUptoCardSaid : Prop := Claim7.holds Tryd.pinned (.plain (OpenSpec.upto chainSaysSpec)) chainSaysUptoCard
end Rows
end Go.Proofs.YtinglgnddmadaaaDoor
