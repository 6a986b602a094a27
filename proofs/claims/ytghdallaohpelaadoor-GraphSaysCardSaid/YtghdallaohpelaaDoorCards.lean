/-
  DERIVED. GIVEN WITH THE SEED: THE CARDS: each row of YtghdallaohpelaaDoorRows.lean that lists a variable, with what it lists TIED to the program's text (the seventh form; the later family's looks); each row that meets fmt, with fmt's text TOLD by the authors' own Lean function (tested against real Go, not proved from fmt's source: count such statements apart). THE CARD IS WHAT COUNTS. Prove the row's statement (the work); the ties are given (YtghdallaohpelaaDoorTie.lean); close each card by the builder's one call (the guide's Derived/Test/ToyasCard.lean, 'card_holds'). Laid BY PROGRAM, IN A SANDBOX (cutbox-door.mjs). By AI agents, Wed Nov 11 2026. No macro, syntax, notation, axiom, sorry.
-/
import Derived.Test.YtghdallaohpelaaDoorRows
import GoSem.ClaimSeven
namespace Go.Proofs.YtghdallaohpelaaDoor
namespace Rows

/-- THE TIED CARD OF 'brambleweirlaw1.GraphSays'. -/
def graphSaysCard : Claim7 := { stood := { row := graphSaysRow, standIns := [], harness := (true, "700c810c8945dfbd0d92f32cbd083f137b6104e284c1e8d7cc77da1630e0214d"), looks := true }, kinds := [], alts := [], laidByText := true, laidKinds := [.handle], laidTests := true, laidLooks := .later }
def GraphSaysCardSaid : Prop := Claim7.holds Tryd.pinned (.plain (OpenSpec.ofChange graphSaysSpec)) graphSaysCard

/-- THE TIED CARD OF 'brambleweirlaw1.GraphOther'. -/
def graphOtherCard : Claim7 := { stood := { row := graphOtherRow, standIns := [], harness := (true, "700c810c8945dfbd0d92f32cbd083f137b6104e284c1e8d7cc77da1630e0214d"), looks := true }, kinds := [], alts := [], laidByText := true, laidKinds := [.handle], laidTests := true, laidLooks := .later }
def GraphOtherCardSaid : Prop := Claim7.holds Tryd.pinned (.plain (OpenSpec.ofChange graphOtherSpec)) graphOtherCard

/-- THE SECOND FORM's CARD OF 'brambleweirlaw1.GraphSays'. -/
def graphSaysUptoCard : Claim7 := { stood := { row := graphSaysUptoRow, standIns := [], harness := (true, "700c810c8945dfbd0d92f32cbd083f137b6104e284c1e8d7cc77da1630e0214d"), looks := true }, kinds := [], alts := [], laidByText := true, laidKinds := [.handle], laidTests := true, laidLooks := .later }
def GraphSaysUptoCardSaid : Prop := Claim7.holds Tryd.pinned (.plain (OpenSpec.upto graphSaysSpec)) graphSaysUptoCard

/-- THE SECOND FORM's CARD OF 'brambleweirlaw1.GraphOther'. -/
def graphOtherUptoCard : Claim7 := { stood := { row := graphOtherUptoRow, standIns := [], harness := (true, "700c810c8945dfbd0d92f32cbd083f137b6104e284c1e8d7cc77da1630e0214d"), looks := true }, kinds := [], alts := [], laidByText := true, laidKinds := [.handle], laidTests := true, laidLooks := .later }
def GraphOtherUptoCardSaid : Prop := Claim7.holds Tryd.pinned (.plain (OpenSpec.upto graphOtherSpec)) graphOtherUptoCard
end Rows
end Go.Proofs.YtghdallaohpelaaDoor
