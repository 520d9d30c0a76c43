/- Graphs, the model: AddVertex. -/
import Derived.Test.YtmafaglgegimfaaGS6
namespace Go.Proofs.Ytmafaglgegimfaa
open Go.RowKit
set_option linter.unusedVariables false
set_option linter.unusedSimpArgs false

/-- Does AddVertex add? -/
def addV (r s : Int) (es : List Ed) : Bool := isGr r s es && decide (s < 40)
theorem LwGraph.form {w w' : World} {r s : Int} {es : List Ed} {e : Ending} (h : LwGraph w r s es e w') : ∃ a cap, e = .returned (.agg #[.int .i64 r, .int .i64 s, .slice a es.length cap]) ∧ RowS 77 3 w' w.heap.size w'.heap.size (.slice a es.length cap) es.length (flatE es) ∧ Below w.heap.size w w' := h
end Go.Proofs.Ytmafaglgegimfaa
