/-
  DERIVED. GIVEN WITH THE SEED: THE CARDS: each row of YtmafaglgegimfaaDoorRows.lean that lists a variable, with what it lists TIED to the program's text (the seventh form; the later family's looks); each row that meets fmt, with fmt's text TOLD by the authors' own Lean function (tested against real Go, not proved from fmt's source: count such statements apart). THE CARD IS WHAT COUNTS. Prove the row's statement (the work); the ties are given (YtmafaglgegimfaaDoorTie.lean); close each card by the builder's one call (the guide's Derived/Test/ToyasCard.lean, 'card_holds'). Laid BY PROGRAM, IN A SANDBOX (cutbox-door.mjs). By AI agents, Wed Nov 11 2026. No macro, syntax, notation, axiom, sorry.
-/
import Derived.Test.YtmafaglgegimfaaDoorRows
import GoSem.ClaimSeven
namespace Go.Proofs.YtmafaglgegimfaaDoor
namespace Rows

/-- THE TIED CARD OF 'laws.FnExactParseWords'. -/
def fnExactParseWordsCard : Claim7 := { stood := { row := fnExactParseWordsRow, standIns := [], harness := (true, "f11cdd1f400f66b584f28fda23588e1b91ca4444d9d1f58cd6dd4de1f36bfe92"), looks := false }, kinds := [], alts := [], laidByText := true, laidKinds := [.data, .pinned], laidTests := true, laidLooks := .later }
def FnExactParseWordsCardSaid : Prop := Claim7.holds Tryd.pinned (.plain (OpenSpec.ofChange fnExactParseWordsSpec)) fnExactParseWordsCard

/-- THE SECOND FORM's CARD OF 'laws.FnExactParseWords'. -/
def fnExactParseWordsUptoCard : Claim7 := { stood := { row := fnExactParseWordsUptoRow, standIns := [], harness := (true, "f11cdd1f400f66b584f28fda23588e1b91ca4444d9d1f58cd6dd4de1f36bfe92"), looks := false }, kinds := [], alts := [], laidByText := true, laidKinds := [.data, .pinned], laidTests := true, laidLooks := .later }
def FnExactParseWordsUptoCardSaid : Prop := Claim7.holds Tryd.pinned (.plain (OpenSpec.upto fnExactParseWordsSpec)) fnExactParseWordsUptoCard
end Rows
end Go.Proofs.YtmafaglgegimfaaDoor
