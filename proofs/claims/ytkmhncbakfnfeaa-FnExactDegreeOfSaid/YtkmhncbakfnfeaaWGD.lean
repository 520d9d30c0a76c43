/- Graphs, the program: DegreeOf's contract under the name that the law's walk asks for. -/
import Derived.Test.YtkmhncbakfnfeaaGPD
namespace Go.Proofs.Ytkmhncbakfnfeaa
open Go.RowKit
set_option linter.unusedVariables false

theorem iDeg (w : World) (r s : Int) (v : Value) (es : List Ed) (x : Int) (h : ReadE w.heap.size w v es) (hin : InE es) (hl : es.length ≤ 100000000) :
    Calls Try.prog 27 #[.agg #[.int .i64 r, .int .i64 s, v], .int .i64 x] w (LwInt w (degE x es)) := progDeg w r s v es x h hin hl
end Go.Proofs.Ytkmhncbakfnfeaa
