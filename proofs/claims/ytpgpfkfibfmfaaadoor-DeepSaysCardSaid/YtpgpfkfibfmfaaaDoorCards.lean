/-
  DERIVED. GIVEN WITH THE SEED: THE CARDS: each row of YtpgpfkfibfmfaaaDoorRows.lean that lists a variable, with what it lists TIED to the program's text (the seventh form; the later family's looks); each row that meets fmt, with fmt's text TOLD by the authors' own Lean function (tested against real Go, not proved from fmt's source: count such statements apart). THE CARD IS WHAT COUNTS. Prove the row's statement (the work); the ties are given (YtpgpfkfibfmfaaaDoorTie.lean); close each card by the builder's one call (the guide's Derived/Test/ToyasCard.lean, 'card_holds'). Laid BY PROGRAM, IN A SANDBOX (cutbox-door.mjs). By AI agents, Wed Nov 11 2026. No macro, syntax, notation, axiom, sorry.
-/
import Derived.Test.YtpgpfkfibfmfaaaDoorRows
import GoSem.ClaimSeven
namespace Go.Proofs.YtpgpfkfibfmfaaaDoor
namespace Rows

/-- THE TIED CARD OF 'brambleweirlaw1.DeepSays'. -/
def deepSaysCard : Claim7 := { stood := { row := deepSaysRow, standIns := [], harness := (true, "db0d8423ce9adc6cacbf96666b953bc6cbe545231e4aa9d2263f428ef35d769b"), looks := true }, kinds := [], alts := [], laidByText := true, laidKinds := [.handle], laidTests := true, laidLooks := .later }
def DeepSaysCardSaid : Prop := Claim7.holds Tryd.pinned (.plain (OpenSpec.ofChange deepSaysSpec)) deepSaysCard

/-- THE SECOND FORM's CARD OF 'brambleweirlaw1.DeepSays'. -/
def deepSaysUptoCard : Claim7 := { stood := { row := deepSaysUptoRow, standIns := [], harness := (true, "db0d8423ce9adc6cacbf96666b953bc6cbe545231e4aa9d2263f428ef35d769b"), looks := true }, kinds := [], alts := [], laidByText := true, laidKinds := [.handle], laidTests := true, laidLooks := .later }
def DeepSaysUptoCardSaid : Prop := Claim7.holds Tryd.pinned (.plain (OpenSpec.upto deepSaysSpec)) deepSaysUptoCard
end Rows
end Go.Proofs.YtpgpfkfibfmfaaaDoor
