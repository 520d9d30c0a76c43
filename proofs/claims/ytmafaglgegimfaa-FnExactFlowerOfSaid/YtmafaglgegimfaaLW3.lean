/- What functions of graphs leave, for the laws' walks (tools/lawgen2.py). -/
import Derived.Test.YtmafaglgegimfaaGE
import Derived.Test.YtmafaglgegimfaaLW2
namespace Go.Proofs.Ytmafaglgegimfaa
open Go.RowKit
set_option linter.unusedVariables false

theorem Only.cell {lo hi : Nat} {w w' : World} (h : Only lo hi w w') {p : Addr} (hp : p.block < lo ∨ hi ≤ p.block) : w'.cell? p = w.cell? p := World.cell?_of_block (h.block p.block hp)
def LwGraph (w : World) (r s : Int) (es : List Ed) (e : Ending) (w' : World) : Prop :=
  ∃ a cap, e = .returned (.agg #[.int .i64 r, .int .i64 s, .slice a es.length cap]) ∧ RowS 77 3 w' w.heap.size w'.heap.size (.slice a es.length cap) es.length (flatE es) ∧ Below w.heap.size w w'
def LwGraphBool (w : World) (r s : Int) (es : List Ed) (b : Bool) (e : Ending) (w' : World) : Prop :=
  ∃ a cap, e = .returned (.tuple #[.agg #[.int .i64 r, .int .i64 s, .slice a es.length cap], .bool b]) ∧ RowS 77 3 w' w.heap.size w'.heap.size (.slice a es.length cap) es.length (flatE es) ∧ Below w.heap.size w w'
end Go.Proofs.Ytmafaglgegimfaa
