/- Connected graphs, the model: IsConnected (tools/fcon.py). Connected graphs, the program: IsConnected (tools/fcon.py). -/
import Derived.Test.YtjnhhhnehkmfmaaQE
import Derived.Deep.RegionHeld3
import Derived.Test.YtjnhhhnehkmfmaaRI
namespace Go.Proofs.Ytjnhhhnehkmfmaa
open Go.RowKit
set_option linter.unusedVariables false
set_option linter.unusedSimpArgs false

end Go.Proofs.Ytjnhhhnehkmfmaa

namespace Go.Proofs.Ytjnhhhnehkmfmaa
open Go.RowKit
set_option linter.unusedVariables false
set_option linter.unusedSimpArgs false

end Go.Proofs.Ytjnhhhnehkmfmaa
