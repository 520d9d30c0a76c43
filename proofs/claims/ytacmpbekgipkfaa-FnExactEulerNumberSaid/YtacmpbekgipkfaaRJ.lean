/- Connected graphs, the model: IsConnected (tools/fcon.py). Connected graphs, the program: IsConnected (tools/fcon.py). -/
import Derived.Test.YtacmpbekgipkfaaQE
import Derived.Deep.RegionHeld3
import Derived.Test.YtacmpbekgipkfaaRI
namespace Go.Proofs.Ytacmpbekgipkfaa
open Go.RowKit
set_option linter.unusedVariables false
set_option linter.unusedSimpArgs false

end Go.Proofs.Ytacmpbekgipkfaa

namespace Go.Proofs.Ytacmpbekgipkfaa
open Go.RowKit
set_option linter.unusedVariables false
set_option linter.unusedSimpArgs false

end Go.Proofs.Ytacmpbekgipkfaa
