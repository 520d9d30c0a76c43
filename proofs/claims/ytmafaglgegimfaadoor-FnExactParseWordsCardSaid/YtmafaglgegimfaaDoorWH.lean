/- Words, the program: EqualWords. -/
import Derived.Test.YtmafaglgegimfaaDoorLI
namespace Go.Proofs.YtmafaglgegimfaaDoor
open Go.RowKit
set_option linter.unusedVariables false

end Go.Proofs.YtmafaglgegimfaaDoor
