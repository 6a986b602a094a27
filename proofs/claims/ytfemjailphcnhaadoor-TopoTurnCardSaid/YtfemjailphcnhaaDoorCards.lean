/-
  DERIVED. GIVEN WITH THE SEED: THE CARDS: each row of YtfemjailphcnhaaDoorRows.lean that lists a variable, with what it lists TIED to the program's text (the seventh form; the later family's looks); each row that meets fmt, with fmt's text TOLD by the authors' own Lean function (tested against real Go, not proved from fmt's source: count such statements apart). THE CARD IS WHAT COUNTS. Prove the row's statement (the work); the ties are given (YtfemjailphcnhaaDoorTie.lean); close each card by the builder's one call (the guide's Derived/Test/ToyasCard.lean, 'card_holds'). Laid BY PROGRAM, IN A SANDBOX (cutbox-door.mjs). By AI agents, Wed Nov 11 2026. No macro, syntax, notation, axiom, sorry.
-/
import Derived.Test.YtfemjailphcnhaaDoorRows
import GoSem.ClaimSeven
namespace Go.Proofs.YtfemjailphcnhaaDoor
namespace Rows

/-- THE TIED CARD OF 'brambleweirlaw2.TopoSays'. -/
def topoSaysCard : Claim7 := { stood := { row := topoSaysRow, standIns := [], harness := (true, "61ef008bf33f334e1a4431f3a485385ee78cc988a559827e935adf0222591ef4"), looks := true }, kinds := [], alts := [], laidByText := true, laidKinds := [.handle], laidTests := true, laidLooks := .later }
def TopoSaysCardSaid : Prop := Claim7.holds Tryd.pinned (.plain (OpenSpec.ofChange topoSaysSpec)) topoSaysCard

/-- THE TIED CARD OF 'brambleweirlaw2.TopoKahn'. -/
def topoKahnCard : Claim7 := { stood := { row := topoKahnRow, standIns := [], harness := (true, "61ef008bf33f334e1a4431f3a485385ee78cc988a559827e935adf0222591ef4"), looks := true }, kinds := [], alts := [], laidByText := true, laidKinds := [.handle], laidTests := true, laidLooks := .later }
def TopoKahnCardSaid : Prop := Claim7.holds Tryd.pinned (.plain (OpenSpec.ofChange topoKahnSpec)) topoKahnCard

/-- THE TIED CARD OF 'brambleweirlaw2.TopoDeep'. -/
def topoDeepCard : Claim7 := { stood := { row := topoDeepRow, standIns := [], harness := (true, "61ef008bf33f334e1a4431f3a485385ee78cc988a559827e935adf0222591ef4"), looks := true }, kinds := [], alts := [], laidByText := true, laidKinds := [.handle], laidTests := true, laidLooks := .later }
def TopoDeepCardSaid : Prop := Claim7.holds Tryd.pinned (.plain (OpenSpec.ofChange topoDeepSpec)) topoDeepCard

/-- THE TIED CARD OF 'brambleweirlaw2.TopoTurn'. -/
def topoTurnCard : Claim7 := { stood := { row := topoTurnRow, standIns := [], harness := (true, "61ef008bf33f334e1a4431f3a485385ee78cc988a559827e935adf0222591ef4"), looks := true }, kinds := [], alts := [], laidByText := true, laidKinds := [.handle], laidTests := true, laidLooks := .later }
def TopoTurnCardSaid : Prop := Claim7.holds Tryd.pinned (.plain (OpenSpec.ofChange topoTurnSpec)) topoTurnCard

/-- THE SECOND FORM's CARD OF 'brambleweirlaw2.TopoSays'. -/
def topoSaysUptoCard : Claim7 := { stood := { row := topoSaysUptoRow, standIns := [], harness := (true, "61ef008bf33f334e1a4431f3a485385ee78cc988a559827e935adf0222591ef4"), looks := true }, kinds := [], alts := [], laidByText := true, laidKinds := [.handle], laidTests := true, laidLooks := .later }
def TopoSaysUptoCardSaid : Prop := Claim7.holds Tryd.pinned (.plain (OpenSpec.upto topoSaysSpec)) topoSaysUptoCard

/-- THE SECOND FORM's CARD OF 'brambleweirlaw2.TopoKahn'. -/
def topoKahnUptoCard : Claim7 := { stood := { row := topoKahnUptoRow, standIns := [], harness := (true, "61ef008bf33f334e1a4431f3a485385ee78cc988a559827e935adf0222591ef4"), looks := true }, kinds := [], alts := [], laidByText := true, laidKinds := [.handle], laidTests := true, laidLooks := .later }
def TopoKahnUptoCardSaid : Prop := Claim7.holds Tryd.pinned (.plain (OpenSpec.upto topoKahnSpec)) topoKahnUptoCard

/-- THE SECOND FORM's CARD OF 'brambleweirlaw2.TopoDeep'. -/
def topoDeepUptoCard : Claim7 := { stood := { row := topoDeepUptoRow, standIns := [], harness := (true, "61ef008bf33f334e1a4431f3a485385ee78cc988a559827e935adf0222591ef4"), looks := true }, kinds := [], alts := [], laidByText := true, laidKinds := [.handle], laidTests := true, laidLooks := .later }
def TopoDeepUptoCardSaid : Prop := Claim7.holds Tryd.pinned (.plain (OpenSpec.upto topoDeepSpec)) topoDeepUptoCard

/-- THE SECOND FORM's CARD OF 'brambleweirlaw2.TopoTurn'. -/
def topoTurnUptoCard : Claim7 := { stood := { row := topoTurnUptoRow, standIns := [], harness := (true, "61ef008bf33f334e1a4431f3a485385ee78cc988a559827e935adf0222591ef4"), looks := true }, kinds := [], alts := [], laidByText := true, laidKinds := [.handle], laidTests := true, laidLooks := .later }
def TopoTurnUptoCardSaid : Prop := Claim7.holds Tryd.pinned (.plain (OpenSpec.upto topoTurnSpec)) topoTurnUptoCard
end Rows
end Go.Proofs.YtfemjailphcnhaaDoor
