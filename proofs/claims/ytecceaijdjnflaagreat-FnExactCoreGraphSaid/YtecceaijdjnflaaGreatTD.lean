/- Cores, the model: IsTree. -/
import Derived.Test.YtecceaijdjnflaaGreatFS5
namespace Go.Proofs.YtecceaijdjnflaaGreat
open Go.RowKit
set_option linter.unusedVariables false
set_option linter.unusedSimpArgs false

def treG (r s : Int) (es : List Ed) : Bool := conG r s es && decide ((es.length : Int) = s - 1)
end Go.Proofs.YtecceaijdjnflaaGreat
