/- Words, the model: EqualWords, the order of letters, CompareWords, PowerWord. -/
import Derived.Test.YtmafaglgegimfaaWS2
namespace Go.Proofs.Ytmafaglgegimfaa
open Go.RowKit
set_option linter.unusedVariables false

theorem ordI_same {x y : Int} (h : (x == y) = true) : ordI x y = 0 := if_pos (beq_iff_eq.1 h)
end Go.Proofs.Ytmafaglgegimfaa
