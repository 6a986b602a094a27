/-
  DERIVED. GIVEN WITH THE SEED: THE CARDS: each row of YtjjjnhdongaclaaDoorRows.lean that lists a variable, with what it lists TIED to the program's text (the seventh form; the later family's looks); each row that meets fmt, with fmt's text TOLD by the authors' own Lean function (tested against real Go, not proved from fmt's source: count such statements apart). THE CARD IS WHAT COUNTS. Prove the row's statement (the work); the ties are given (YtjjjnhdongaclaaDoorTie.lean); close each card by the builder's one call (the guide's Derived/Test/ToyasCard.lean, 'card_holds'). Laid BY PROGRAM, IN A SANDBOX (cutbox-door.mjs). By AI agents, Wed Nov 11 2026. No macro, syntax, notation, axiom, sorry.
-/
import Derived.Test.YtjjjnhdongaclaaDoorRows
import GoSem.ClaimSeven
namespace Go.Proofs.YtjjjnhdongaclaaDoor
namespace Rows

/-- THE TIED CARD OF 'brambleweirlaw1.HavelSays'. -/
def havelSaysCard : Claim7 := { stood := { row := havelSaysRow, standIns := [], harness := (true, "1c4824541cd3064a7386fbfc29df8b44d80e5df81ac23e2d587a5ae14ea901bb"), looks := true }, kinds := [], alts := [], laidByText := true, laidKinds := [.handle], laidTests := true, laidLooks := .later }
def HavelSaysCardSaid : Prop := Claim7.holds Tryd.pinned (.plain (OpenSpec.ofChange havelSaysSpec)) havelSaysCard

/-- THE TIED CARD OF 'brambleweirlaw1.HavelMakes'. -/
def havelMakesCard : Claim7 := { stood := { row := havelMakesRow, standIns := [], harness := (true, "1c4824541cd3064a7386fbfc29df8b44d80e5df81ac23e2d587a5ae14ea901bb"), looks := true }, kinds := [], alts := [], laidByText := true, laidKinds := [.handle], laidTests := true, laidLooks := .later }
def HavelMakesCardSaid : Prop := Claim7.holds Tryd.pinned (.plain (OpenSpec.ofChange havelMakesSpec)) havelMakesCard

/-- THE TIED CARD OF 'brambleweirlaw1.HavelOnce'. -/
def havelOnceCard : Claim7 := { stood := { row := havelOnceRow, standIns := [], harness := (true, "1c4824541cd3064a7386fbfc29df8b44d80e5df81ac23e2d587a5ae14ea901bb"), looks := true }, kinds := [], alts := [], laidByText := true, laidKinds := [.handle], laidTests := true, laidLooks := .later }
def HavelOnceCardSaid : Prop := Claim7.holds Tryd.pinned (.plain (OpenSpec.ofChange havelOnceSpec)) havelOnceCard

/-- THE SECOND FORM's CARD OF 'brambleweirlaw1.HavelSays'. -/
def havelSaysUptoCard : Claim7 := { stood := { row := havelSaysUptoRow, standIns := [], harness := (true, "1c4824541cd3064a7386fbfc29df8b44d80e5df81ac23e2d587a5ae14ea901bb"), looks := true }, kinds := [], alts := [], laidByText := true, laidKinds := [.handle], laidTests := true, laidLooks := .later }
def HavelSaysUptoCardSaid : Prop := Claim7.holds Tryd.pinned (.plain (OpenSpec.upto havelSaysSpec)) havelSaysUptoCard

/-- THE SECOND FORM's CARD OF 'brambleweirlaw1.HavelMakes'. -/
def havelMakesUptoCard : Claim7 := { stood := { row := havelMakesUptoRow, standIns := [], harness := (true, "1c4824541cd3064a7386fbfc29df8b44d80e5df81ac23e2d587a5ae14ea901bb"), looks := true }, kinds := [], alts := [], laidByText := true, laidKinds := [.handle], laidTests := true, laidLooks := .later }
def HavelMakesUptoCardSaid : Prop := Claim7.holds Tryd.pinned (.plain (OpenSpec.upto havelMakesSpec)) havelMakesUptoCard

/-- THE SECOND FORM's CARD OF 'brambleweirlaw1.HavelOnce'. -/
def havelOnceUptoCard : Claim7 := { stood := { row := havelOnceUptoRow, standIns := [], harness := (true, "1c4824541cd3064a7386fbfc29df8b44d80e5df81ac23e2d587a5ae14ea901bb"), looks := true }, kinds := [], alts := [], laidByText := true, laidKinds := [.handle], laidTests := true, laidLooks := .later }
def HavelOnceUptoCardSaid : Prop := Claim7.holds Tryd.pinned (.plain (OpenSpec.upto havelOnceSpec)) havelOnceUptoCard
end Rows
end Go.Proofs.YtjjjnhdongaclaaDoor
