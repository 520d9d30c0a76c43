/- Words, the model: CompareWords, PowerWord. -/
import Derived.Test.YtmafaglgegimfaaWS3
namespace Go.Proofs.Ytmafaglgegimfaa
open Go.RowKit
set_option linter.unusedVariables false

def IntRet (w : World) (z : Int) (e : Ending) (w' : World) : Prop := e = .returned (.int .i64 z) ∧ ∃ n, w' = w.drewN n
end Go.Proofs.Ytmafaglgegimfaa
