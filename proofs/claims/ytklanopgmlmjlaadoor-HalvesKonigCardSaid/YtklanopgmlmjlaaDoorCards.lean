/-
  DERIVED. GIVEN WITH THE SEED: THE CARDS: each row of YtklanopgmlmjlaaDoorRows.lean that lists a variable, with what it lists TIED to the program's text (the seventh form; the later family's looks); each row that meets fmt, with fmt's text TOLD by the authors' own Lean function (tested against real Go, not proved from fmt's source: count such statements apart). THE CARD IS WHAT COUNTS. Prove the row's statement (the work); the ties are given (YtklanopgmlmjlaaDoorTie.lean); close each card by the builder's one call (the guide's Derived/Test/ToyasCard.lean, 'card_holds'). Laid BY PROGRAM, IN A SANDBOX (cutbox-door.mjs). By AI agents, Wed Nov 11 2026. No macro, syntax, notation, axiom, sorry.
-/
import Derived.Test.YtklanopgmlmjlaaDoorRows
import GoSem.ClaimSeven
namespace Go.Proofs.YtklanopgmlmjlaaDoor
namespace Rows

/-- THE TIED CARD OF 'brambleweirlaw2.HalvesSays'. -/
def halvesSaysCard : Claim7 := { stood := { row := halvesSaysRow, standIns := [], harness := (true, "1eb126b28dce01d6b3faa2bf7fa86d79c081d2675175d6c83da5e726dde495ee"), looks := true }, kinds := [], alts := [], laidByText := true, laidKinds := [.handle], laidTests := true, laidLooks := .later }
def HalvesSaysCardSaid : Prop := Claim7.holds Tryd.pinned (.plain (OpenSpec.ofChange halvesSaysSpec)) halvesSaysCard

/-- THE TIED CARD OF 'brambleweirlaw2.HalvesKonig'. -/
def halvesKonigCard : Claim7 := { stood := { row := halvesKonigRow, standIns := [], harness := (true, "1eb126b28dce01d6b3faa2bf7fa86d79c081d2675175d6c83da5e726dde495ee"), looks := true }, kinds := [], alts := [], laidByText := true, laidKinds := [.handle], laidTests := true, laidLooks := .later }
def HalvesKonigCardSaid : Prop := Claim7.holds Tryd.pinned (.plain (OpenSpec.ofChange halvesKonigSpec)) halvesKonigCard

/-- THE SECOND FORM's CARD OF 'brambleweirlaw2.HalvesSays'. -/
def halvesSaysUptoCard : Claim7 := { stood := { row := halvesSaysUptoRow, standIns := [], harness := (true, "1eb126b28dce01d6b3faa2bf7fa86d79c081d2675175d6c83da5e726dde495ee"), looks := true }, kinds := [], alts := [], laidByText := true, laidKinds := [.handle], laidTests := true, laidLooks := .later }
def HalvesSaysUptoCardSaid : Prop := Claim7.holds Tryd.pinned (.plain (OpenSpec.upto halvesSaysSpec)) halvesSaysUptoCard

/-- THE SECOND FORM's CARD OF 'brambleweirlaw2.HalvesKonig'. -/
def halvesKonigUptoCard : Claim7 := { stood := { row := halvesKonigUptoRow, standIns := [], harness := (true, "1eb126b28dce01d6b3faa2bf7fa86d79c081d2675175d6c83da5e726dde495ee"), looks := true }, kinds := [], alts := [], laidByText := true, laidKinds := [.handle], laidTests := true, laidLooks := .later }
def HalvesKonigUptoCardSaid : Prop := Claim7.holds Tryd.pinned (.plain (OpenSpec.upto halvesKonigSpec)) halvesKonigUptoCard
end Rows
end Go.Proofs.YtklanopgmlmjlaaDoor
