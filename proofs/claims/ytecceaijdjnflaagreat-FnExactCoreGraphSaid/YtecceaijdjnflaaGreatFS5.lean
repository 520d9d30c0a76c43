/- Connected graphs, the model: IsConnected (tools/fcon.py). -/
import Derived.Test.YtecceaijdjnflaaGreatQE
import Derived.Deep.RegionHeld3
namespace Go.Proofs.YtecceaijdjnflaaGreat
open Go.RowKit
set_option linter.unusedVariables false
set_option linter.unusedSimpArgs false

end Go.Proofs.YtecceaijdjnflaaGreat
