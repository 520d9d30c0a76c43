/- The laws' own helpers on slices of edges: eqEdgeS, markEdgeS, heldEdgeS. -/
import Derived.Test.YtdeofaimgldklaaDoorGB
namespace Go.Proofs.YtdeofaimgldklaaDoor
open Go.RowKit
set_option linter.unusedVariables false

/-- What a function that only tells leaves: what lay below stays. -/
def TellRet (w : World) (b : Bool) (e : Ending) (w' : World) : Prop := e = .returned (.bool b) ∧ Below w.heap.size w w'
end Go.Proofs.YtdeofaimgldklaaDoor
