/- What functions of graphs leave, for the laws' walks (tools/lawgen2.py). -/
import Derived.Test.YtdeofaimgldklaaHK
import Derived.Test.YtdeofaimgldklaaGE
import Derived.Test.YtdeofaimgldklaaLW2
namespace Go.Proofs.Ytdeofaimgldklaa
open Go.RowKit
set_option linter.unusedVariables false

def LwGraph (w : World) (r s : Int) (es : List Ed) (e : Ending) (w' : World) : Prop :=
  ∃ a cap, e = .returned (.agg #[.int .i64 r, .int .i64 s, .slice a es.length cap]) ∧ RowS 68 3 w' w.heap.size w'.heap.size (.slice a es.length cap) es.length (flatE es) ∧ Below w.heap.size w w'
def LwGraphBool (w : World) (r s : Int) (es : List Ed) (b : Bool) (e : Ending) (w' : World) : Prop :=
  ∃ a cap, e = .returned (.tuple #[.agg #[.int .i64 r, .int .i64 s, .slice a es.length cap], .bool b]) ∧ RowS 68 3 w' w.heap.size w'.heap.size (.slice a es.length cap) es.length (flatE es) ∧ Below w.heap.size w w'
end Go.Proofs.Ytdeofaimgldklaa
