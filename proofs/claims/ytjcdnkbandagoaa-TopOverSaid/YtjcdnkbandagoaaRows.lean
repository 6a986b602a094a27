/-
  No cell of these rows narrows 'for every input' (looked for: loops, veiled, ifaces, maps, wideKeys, modest, calm, conditions, laid).
  DERIVED. THE GIVEN ROWS OF THIS SEAT. 4 by the template 'for every input the law returns true; each argument reads behind the call as it read before'; 0 by the template 'total and deterministic' (their statements: YtjcdnkbandagoaaTotals.lean).
  GIVEN WITH THE SEED: the statements are not yours to turn. If you find one false, say at which input.
  Laid BY PROGRAM, IN A SANDBOX (cutbox-rows.mjs): the forced cells as the released guide's own fill.sh prints them over the translation 2e8f128a10c822e0… (all of the seat's roots in one cut). By AI agents, Wed Nov 11 2026. No macro, syntax, notation, axiom, sorry.
-/
import Derived.Test.YtjcdnkbandagoaaChecked
import GoSem.Claim
import GoSem.ClaimJoined
import GoSem.ClaimMapViews
import Derived.JoinedTies
import Derived.KernelRfl
namespace Go.Proofs.Ytjcdnkbandagoaa
/- THE CELL 'sum', in the pinned program and in every row, IS THE sha256 OF THE DUMP (.gsa) THAT YtjcdnkbandagoaaProg.lean LOADS. Nothing in Lean hashes anything: it is a label: what it is worth is what the hold of that sum in a sandbox is worth. -/
noncomputable def Try.pinned : Pinned := { name := "ytjcdnkbandagoaa", sum := "2e8f128a10c822e0473106138cc7e154b5d80ad93aaed13cdb41dbc8306b0555", checked := Try.checked }
namespace Rows
def none {H : Type} : Left H := { results := [], args := [] }

/-- 'brambleweirlaw2.DomChain': WHATEVER THE INPUT: true; the input reads as it did. -/
def domChainSpec : ChangeSpec := { name := "domChain", fn := fun _ => fun
  | [d1, d2, d3] => { results := [.lit (.bool true)], args := [d1, d2, d3] }
  | _ => none }
def domChainRow : OpenClaim := { program := "ytjcdnkbandagoaa", sum := "2e8f128a10c822e0473106138cc7e154b5d80ad93aaed13cdb41dbc8306b0555", func := "brambleweir/brambleweirlaw2.DomChain", spec := "domChain", unfollowed := true, recurses := true, apart := false }
def DomChainSaid : Prop := domChainRow.holds Try.pinned (OpenSpec.ofChange domChainSpec)

/-- ITS FALSE NEIGHBOUR: 'it returns false'. Refute it at one input. -/
def domChainWrong : ChangeSpec := { name := "domChain", fn := fun _ => fun
  | [d1, d2, d3] => { results := [.lit (.bool false)], args := [d1, d2, d3] }
  | _ => none }
def DomChainWrongFalsely : Prop := domChainRow.holds Try.pinned (OpenSpec.ofChange domChainWrong)

/-- 'brambleweirlaw2.DomLast': WHATEVER THE INPUT: true; the input reads as it did. -/
def domLastSpec : ChangeSpec := { name := "domLast", fn := fun _ => fun
  | [d1, d2, d3] => { results := [.lit (.bool true)], args := [d1, d2, d3] }
  | _ => none }
def domLastRow : OpenClaim := { program := "ytjcdnkbandagoaa", sum := "2e8f128a10c822e0473106138cc7e154b5d80ad93aaed13cdb41dbc8306b0555", func := "brambleweir/brambleweirlaw2.DomLast", spec := "domLast", unfollowed := true, recurses := true, apart := false }
def DomLastSaid : Prop := domLastRow.holds Try.pinned (OpenSpec.ofChange domLastSpec)

/-- ITS FALSE NEIGHBOUR: 'it returns false'. Refute it at one input. -/
def domLastWrong : ChangeSpec := { name := "domLast", fn := fun _ => fun
  | [d1, d2, d3] => { results := [.lit (.bool false)], args := [d1, d2, d3] }
  | _ => none }
def DomLastWrongFalsely : Prop := domLastRow.holds Try.pinned (OpenSpec.ofChange domLastWrong)

/-- 'brambleweirlaw2.DomCut': WHATEVER THE INPUT: true; the input reads as it did. -/
def domCutSpec : ChangeSpec := { name := "domCut", fn := fun _ => fun
  | [d1, d2, d3, d4, d5] => { results := [.lit (.bool true)], args := [d1, d2, d3, d4, d5] }
  | _ => none }
def domCutRow : OpenClaim := { program := "ytjcdnkbandagoaa", sum := "2e8f128a10c822e0473106138cc7e154b5d80ad93aaed13cdb41dbc8306b0555", func := "brambleweir/brambleweirlaw2.DomCut", spec := "domCut", unfollowed := true, recurses := true, apart := false }
def DomCutSaid : Prop := domCutRow.holds Try.pinned (OpenSpec.ofChange domCutSpec)

/-- ITS FALSE NEIGHBOUR: 'it returns false'. Refute it at one input. -/
def domCutWrong : ChangeSpec := { name := "domCut", fn := fun _ => fun
  | [d1, d2, d3, d4, d5] => { results := [.lit (.bool false)], args := [d1, d2, d3, d4, d5] }
  | _ => none }
def DomCutWrongFalsely : Prop := domCutRow.holds Try.pinned (OpenSpec.ofChange domCutWrong)

/-- 'brambleweirtop.TopOver': WHATEVER THE INPUT: true; the input reads as it did. -/
def topOverSpec : ChangeSpec := { name := "topOver", fn := fun _ => fun
  | [d1, d2, d3] => { results := [.lit (.bool true)], args := [d1, d2, d3] }
  | _ => none }
def topOverRow : OpenClaim := { program := "ytjcdnkbandagoaa", sum := "2e8f128a10c822e0473106138cc7e154b5d80ad93aaed13cdb41dbc8306b0555", func := "brambleweir/brambleweirtop.TopOver", spec := "topOver", unfollowed := true, recurses := true, apart := false }
def TopOverSaid : Prop := topOverRow.holds Try.pinned (OpenSpec.ofChange topOverSpec)

/-- ITS FALSE NEIGHBOUR: 'it returns false'. Refute it at one input. -/
def topOverWrong : ChangeSpec := { name := "topOver", fn := fun _ => fun
  | [d1, d2, d3] => { results := [.lit (.bool false)], args := [d1, d2, d3] }
  | _ => none }
def TopOverWrongFalsely : Prop := topOverRow.holds Try.pinned (OpenSpec.ofChange topOverWrong)

/- THE SECOND FORM. 'bulk': how many values and letters a reading holds, each counted each time it is reached (what is shared counts as often as it is met; a slice's spare places count too). A statement '..UptoSaid' is the law's where the arguments, and the package variables that the reading takes, are together of bulk at most 1048576: NARROWER than '..Said'. Prove '..Said' where nothing that the law and all that it calls make is longer than what came in: it says more and counts as full. Else prove '..UptoSaid'. A law counts once. -/
mutual
def uptoBulk {H : Type} : DataW H → Nat
  | .lit (.string bytes) => bytes.length + 1
  | .lit _ => 1
  | .nil => 1
  | .ptr d => uptoBulk d + 1
  | .slice elems spare => uptoBulkAll elems + uptoBulkAll spare + 1
  | .agg parts => uptoBulkAll parts + 1
  | .iface _ d => uptoBulk d + 1
  | .map entries => uptoBulkEntries entries + 1
  | .held _ => 1
def uptoBulkAll {H : Type} : List (DataW H) → Nat
  | [] => 0
  | d :: r => uptoBulk d + uptoBulkAll r
def uptoBulkEntries {H : Type} : List (Lit × DataW H) → Nat
  | [] => 0
  | x :: r => uptoBulkEntry x + uptoBulkEntries r
def uptoBulkEntry {H : Type} : Lit × DataW H → Nat
  | (.string bytes, d) => bytes.length + uptoBulk d + 1
  | (_, d) => uptoBulk d + 1
 end
def uptoSmall : (H : Type) → List (DataW H) → Bool := fun _ ds => decide (uptoBulkAll ds ≤ 1048576)
def OpenSpec.upto (s : _root_.Go.ChangeSpec) : _root_.Go.OpenSpec := { _root_.Go.OpenSpec.ofChange s with cond := some uptoSmall }

/-- 'brambleweirlaw2.DomChain', WHERE WHAT IT READS IS OF BULK AT MOST 1048576: true; the input reads as it did. -/
def domChainUptoRow : OpenClaim := { program := "ytjcdnkbandagoaa", sum := "2e8f128a10c822e0473106138cc7e154b5d80ad93aaed13cdb41dbc8306b0555", func := "brambleweir/brambleweirlaw2.DomChain", spec := "domChain", unfollowed := true, recurses := true, apart := false, narrowed := true }
def DomChainUptoSaid : Prop := domChainUptoRow.holds Try.pinned (OpenSpec.upto domChainSpec)

/-- 'brambleweirlaw2.DomLast', WHERE WHAT IT READS IS OF BULK AT MOST 1048576: true; the input reads as it did. -/
def domLastUptoRow : OpenClaim := { program := "ytjcdnkbandagoaa", sum := "2e8f128a10c822e0473106138cc7e154b5d80ad93aaed13cdb41dbc8306b0555", func := "brambleweir/brambleweirlaw2.DomLast", spec := "domLast", unfollowed := true, recurses := true, apart := false, narrowed := true }
def DomLastUptoSaid : Prop := domLastUptoRow.holds Try.pinned (OpenSpec.upto domLastSpec)

/-- 'brambleweirlaw2.DomCut', WHERE WHAT IT READS IS OF BULK AT MOST 1048576: true; the input reads as it did. -/
def domCutUptoRow : OpenClaim := { program := "ytjcdnkbandagoaa", sum := "2e8f128a10c822e0473106138cc7e154b5d80ad93aaed13cdb41dbc8306b0555", func := "brambleweir/brambleweirlaw2.DomCut", spec := "domCut", unfollowed := true, recurses := true, apart := false, narrowed := true }
def DomCutUptoSaid : Prop := domCutUptoRow.holds Try.pinned (OpenSpec.upto domCutSpec)

/-- 'brambleweirtop.TopOver', WHERE WHAT IT READS IS OF BULK AT MOST 1048576: true; the input reads as it did. -/
def topOverUptoRow : OpenClaim := { program := "ytjcdnkbandagoaa", sum := "2e8f128a10c822e0473106138cc7e154b5d80ad93aaed13cdb41dbc8306b0555", func := "brambleweir/brambleweirtop.TopOver", spec := "topOver", unfollowed := true, recurses := true, apart := false, narrowed := true }
def TopOverUptoSaid : Prop := topOverUptoRow.holds Try.pinned (OpenSpec.upto topOverSpec)

end Rows
end Go.Proofs.Ytjcdnkbandagoaa
