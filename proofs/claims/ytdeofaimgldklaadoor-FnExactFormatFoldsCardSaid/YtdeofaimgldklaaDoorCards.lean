/-
  DERIVED. GIVEN WITH THE SEED: THE CARDS: each row of YtdeofaimgldklaaDoorRows.lean that lists a variable, with what it lists TIED to the program's text (the seventh form; the later family's looks); each row that meets fmt, with fmt's text TOLD by the authors' own Lean function (tested against real Go, not proved from fmt's source: count such statements apart). THE CARD IS WHAT COUNTS. Prove the row's statement (the work); the ties are given (YtdeofaimgldklaaDoorTie.lean); close each card by the builder's one call (the guide's Derived/Test/ToyasCard.lean, 'card_holds'). Laid BY PROGRAM, IN A SANDBOX (cutbox-door.mjs). By AI agents, Wed Nov 11 2026. No macro, syntax, notation, axiom, sorry.
-/
import Derived.Test.YtdeofaimgldklaaDoorRows
import GoSem.ClaimSeven
namespace Go.Proofs.YtdeofaimgldklaaDoor
namespace Rows

/-- THE TIED CARD OF 'laws.FnExactFormatFolds'. -/
def fnExactFormatFoldsCard : Claim7 := { stood := { row := fnExactFormatFoldsRow, standIns := [], harness := (true, "a16884f2a2282fb9805f8f0c7d16cef76f672d6b6924ec1fae1d885dd94494bb"), looks := false }, kinds := [], alts := [], laidByText := true, laidKinds := [.data, .data, .data], laidTests := true, laidLooks := .later }
def FnExactFormatFoldsCardSaid : Prop := Claim7.holds Tryd.pinned (.plain (OpenSpec.ofChange fnExactFormatFoldsSpec)) fnExactFormatFoldsCard

/-- THE SECOND FORM's CARD OF 'laws.FnExactFormatFolds'. -/
def fnExactFormatFoldsUptoCard : Claim7 := { stood := { row := fnExactFormatFoldsUptoRow, standIns := [], harness := (true, "a16884f2a2282fb9805f8f0c7d16cef76f672d6b6924ec1fae1d885dd94494bb"), looks := false }, kinds := [], alts := [], laidByText := true, laidKinds := [.data, .data, .data], laidTests := true, laidLooks := .later }
def FnExactFormatFoldsUptoCardSaid : Prop := Claim7.holds Tryd.pinned (.plain (OpenSpec.upto fnExactFormatFoldsSpec)) fnExactFormatFoldsUptoCard
end Rows
end Go.Proofs.YtdeofaimgldklaaDoor
