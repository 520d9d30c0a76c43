/- Graphs, the program: the contracts under the names that the laws' walks ask for. -/
import Derived.Test.YtkmhncbakfnfeaaGP5
import Derived.Test.YtkmhncbakfnfeaaGP6
import Derived.Test.YtkmhncbakfnfeaaGS12
namespace Go.Proofs.Ytkmhncbakfnfeaa
open Go.RowKit
set_option linter.unusedVariables false

theorem iCmpE (w : World) (f l t f' l' t' : Int) :
    Calls Try.prog 12 #[.agg #[.int .i64 f, .int .i64 l, .int .i64 t], .agg #[.int .i64 f', .int .i64 l', .int .i64 t']] w (LwInt w (cmpE (f, l, t) (f', l', t'))) := progCmpE w f l t f' l' t'
theorem iNewG (w : World) (r : Int) : Calls Try.prog 14 #[.int .i64 r] w (LwGraphBool w (newR r) (newS r) [] (newB r)) := progNewG w r
theorem iIsGr (w : World) (r s : Int) (v : Value) (es : List Ed) (h : ReadE w.heap.size w v es) (hs : -9223372036854775808 ≤ s ∧ s ≤ 9223372036854775807) (hl : es.length ≤ 1000000000) :
    Calls Try.prog 21 #[.agg #[.int .i64 r, .int .i64 s, v]] w (LwBool w (isGr r s es)) := progIsGr w r s v es h hl
theorem iAddV (w : World) (r s : Int) (v : Value) (es : List Ed) (h : ReadE w.heap.size w v es) (hs : -9223372036854775808 ≤ s ∧ s ≤ 9223372036854775807) (hl : es.length ≤ 1000000000) :
    Calls Try.prog 25 #[.agg #[.int .i64 r, .int .i64 s, v]] w (LwGraphBool w r (addVs r s es) es (addV r s es)) := progAddV w r s v es h hl
theorem iEqG (w : World) (r s r' s' : Int) (v v' : Value) (es es' : List Ed) (h : ReadE w.heap.size w v es) (h' : ReadE w.heap.size w v' es') (hl : es.length ≤ 1000000000) (hl' : es'.length ≤ 1000000000) :
    Calls Try.prog 29 #[.agg #[.int .i64 r, .int .i64 s, v], .agg #[.int .i64 r', .int .i64 s', v']] w (LwBool w (eqG r s es r' s' es')) := progEqG w r s r' s' v v' es es' h h' hl hl'
end Go.Proofs.Ytkmhncbakfnfeaa
