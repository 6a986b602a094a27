/-
  DERIVED. GIVEN WITH THE SEED: THE CARDS: each row of YthalopmplekdoaaDoorRows.lean that lists a variable, with what it lists TIED to the program's text (the seventh form; the later family's looks); each row that meets fmt, with fmt's text TOLD by the authors' own Lean function (tested against real Go, not proved from fmt's source: count such statements apart). THE CARD IS WHAT COUNTS. Prove the row's statement (the work); the ties are given (YthalopmplekdoaaDoorTie.lean); close each card by the builder's one call (the guide's Derived/Test/ToyasCard.lean, 'card_holds'). Laid BY PROGRAM, IN A SANDBOX (cutbox-door.mjs). By AI agents, Wed Nov 11 2026. No macro, syntax, notation, axiom, sorry.
-/
import Derived.Test.YthalopmplekdoaaDoorRows
import GoSem.ClaimSeven
namespace Go.Proofs.YthalopmplekdoaaDoor
namespace Rows

/-- THE TIED CARD OF 'brambleweirlaw2.PairsSays'. -/
def pairsSaysCard : Claim7 := { stood := { row := pairsSaysRow, standIns := [], harness := (true, "83aeb060a997fef94d340d62ee15795512562162953b141012117c5eb6e35bc5"), looks := true }, kinds := [], alts := [], laidByText := true, laidKinds := [.handle], laidTests := true, laidLooks := .later }
def PairsSaysCardSaid : Prop := Claim7.holds Tryd.pinned (.plain (OpenSpec.ofChange pairsSaysSpec)) pairsSaysCard

/-- THE TIED CARD OF 'brambleweirlaw2.PairsRight'. -/
def pairsRightCard : Claim7 := { stood := { row := pairsRightRow, standIns := [], harness := (true, "83aeb060a997fef94d340d62ee15795512562162953b141012117c5eb6e35bc5"), looks := true }, kinds := [], alts := [], laidByText := true, laidKinds := [.handle], laidTests := true, laidLooks := .later }
def PairsRightCardSaid : Prop := Claim7.holds Tryd.pinned (.plain (OpenSpec.ofChange pairsRightSpec)) pairsRightCard

/-- THE TIED CARD OF 'brambleweirlaw2.PairsAspvall'. -/
def pairsAspvallCard : Claim7 := { stood := { row := pairsAspvallRow, standIns := [], harness := (true, "83aeb060a997fef94d340d62ee15795512562162953b141012117c5eb6e35bc5"), looks := true }, kinds := [], alts := [], laidByText := true, laidKinds := [.handle], laidTests := true, laidLooks := .later }
def PairsAspvallCardSaid : Prop := Claim7.holds Tryd.pinned (.plain (OpenSpec.ofChange pairsAspvallSpec)) pairsAspvallCard

/-- THE TIED CARD OF 'brambleweirlaw2.PairsLess'. -/
def pairsLessCard : Claim7 := { stood := { row := pairsLessRow, standIns := [], harness := (true, "83aeb060a997fef94d340d62ee15795512562162953b141012117c5eb6e35bc5"), looks := true }, kinds := [], alts := [], laidByText := true, laidKinds := [.handle], laidTests := true, laidLooks := .later }
def PairsLessCardSaid : Prop := Claim7.holds Tryd.pinned (.plain (OpenSpec.ofChange pairsLessSpec)) pairsLessCard

/-- THE SECOND FORM's CARD OF 'brambleweirlaw2.PairsSays'. -/
def pairsSaysUptoCard : Claim7 := { stood := { row := pairsSaysUptoRow, standIns := [], harness := (true, "83aeb060a997fef94d340d62ee15795512562162953b141012117c5eb6e35bc5"), looks := true }, kinds := [], alts := [], laidByText := true, laidKinds := [.handle], laidTests := true, laidLooks := .later }
def PairsSaysUptoCardSaid : Prop := Claim7.holds Tryd.pinned (.plain (OpenSpec.upto pairsSaysSpec)) pairsSaysUptoCard

/-- THE SECOND FORM's CARD OF 'brambleweirlaw2.PairsRight'. -/
def pairsRightUptoCard : Claim7 := { stood := { row := pairsRightUptoRow, standIns := [], harness := (true, "83aeb060a997fef94d340d62ee15795512562162953b141012117c5eb6e35bc5"), looks := true }, kinds := [], alts := [], laidByText := true, laidKinds := [.handle], laidTests := true, laidLooks := .later }
def PairsRightUptoCardSaid : Prop := Claim7.holds Tryd.pinned (.plain (OpenSpec.upto pairsRightSpec)) pairsRightUptoCard

/-- THE SECOND FORM's CARD OF 'brambleweirlaw2.PairsAspvall'. -/
def pairsAspvallUptoCard : Claim7 := { stood := { row := pairsAspvallUptoRow, standIns := [], harness := (true, "83aeb060a997fef94d340d62ee15795512562162953b141012117c5eb6e35bc5"), looks := true }, kinds := [], alts := [], laidByText := true, laidKinds := [.handle], laidTests := true, laidLooks := .later }
def PairsAspvallUptoCardSaid : Prop := Claim7.holds Tryd.pinned (.plain (OpenSpec.upto pairsAspvallSpec)) pairsAspvallUptoCard

/-- THE SECOND FORM's CARD OF 'brambleweirlaw2.PairsLess'. -/
def pairsLessUptoCard : Claim7 := { stood := { row := pairsLessUptoRow, standIns := [], harness := (true, "83aeb060a997fef94d340d62ee15795512562162953b141012117c5eb6e35bc5"), looks := true }, kinds := [], alts := [], laidByText := true, laidKinds := [.handle], laidTests := true, laidLooks := .later }
def PairsLessUptoCardSaid : Prop := Claim7.holds Tryd.pinned (.plain (OpenSpec.upto pairsLessSpec)) pairsLessUptoCard
end Rows
end Go.Proofs.YthalopmplekdoaaDoor
