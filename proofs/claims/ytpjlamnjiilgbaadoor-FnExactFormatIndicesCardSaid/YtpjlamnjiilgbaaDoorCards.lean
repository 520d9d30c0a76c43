/-
  DERIVED. GIVEN WITH THE SEED: THE CARDS: each row of YtpjlamnjiilgbaaDoorRows.lean that lists a variable, with what it lists TIED to the program's text (the seventh form; the later family's looks); each row that meets fmt, with fmt's text TOLD by the authors' own Lean function (tested against real Go, not proved from fmt's source: count such statements apart). THE CARD IS WHAT COUNTS. Prove the row's statement (the work); the ties are given (YtpjlamnjiilgbaaDoorTie.lean); close each card by the builder's one call (the guide's Derived/Test/ToyasCard.lean, 'card_holds'). Laid BY PROGRAM, IN A SANDBOX (cutbox-door.mjs). By AI agents, Wed Nov 11 2026. No macro, syntax, notation, axiom, sorry.
-/
import Derived.Test.YtpjlamnjiilgbaaDoorRows
import GoSem.ClaimSeven
namespace Go.Proofs.YtpjlamnjiilgbaaDoor
namespace Rows

/-- THE TIED CARD OF 'laws.FnExactFormatIndices'. -/
def fnExactFormatIndicesCard : Claim7 := { stood := { row := fnExactFormatIndicesRow, standIns := [], harness := (true, "c323a0cd9cca002281fb9491aa3dd98a739b3a417f0ebd6bed9376b7c49e897d"), looks := false }, kinds := [], alts := [], laidByText := true, laidKinds := [.data, .data, .data], laidTests := true, laidLooks := .later }
def FnExactFormatIndicesCardSaid : Prop := Claim7.holds Tryd.pinned (.plain (OpenSpec.ofChange fnExactFormatIndicesSpec)) fnExactFormatIndicesCard

/-- THE SECOND FORM's CARD OF 'laws.FnExactFormatIndices'. -/
def fnExactFormatIndicesUptoCard : Claim7 := { stood := { row := fnExactFormatIndicesUptoRow, standIns := [], harness := (true, "c323a0cd9cca002281fb9491aa3dd98a739b3a417f0ebd6bed9376b7c49e897d"), looks := false }, kinds := [], alts := [], laidByText := true, laidKinds := [.data, .data, .data], laidTests := true, laidLooks := .later }
def FnExactFormatIndicesUptoCardSaid : Prop := Claim7.holds Tryd.pinned (.plain (OpenSpec.upto fnExactFormatIndicesSpec)) fnExactFormatIndicesUptoCard
end Rows
end Go.Proofs.YtpjlamnjiilgbaaDoor
