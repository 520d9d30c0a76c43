import Derived.Test.YtjnhhhnehkmfmaaGreatQE
import Derived.Deep.RegionHeld3
import Derived.Test.YtjnhhhnehkmfmaaGreatRI
namespace Go.Proofs.YtjnhhhnehkmfmaaGreat
open Go.RowKit
set_option linter.unusedVariables false
set_option linter.unusedSimpArgs false
end Go.Proofs.YtjnhhhnehkmfmaaGreat
