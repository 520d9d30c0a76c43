/- What functions of graphs leave, for the laws' walks (tools/lawgen2.py). -/
import Derived.Test.YtdeofaimgldklaaDoorHK
import Derived.Test.YtdeofaimgldklaaDoorGE
import Derived.Test.YtdeofaimgldklaaDoorLW2
namespace Go.Proofs.YtdeofaimgldklaaDoor
open Go.RowKit
set_option linter.unusedVariables false

end Go.Proofs.YtdeofaimgldklaaDoor
