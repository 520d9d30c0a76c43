/- Graphs, the program: AddEdge's contract under the name that the law's walk asks for; an answer whose box lies anywhere. -/
import Derived.Test.YtkmhncbakfnfeaaGP9
import Derived.Test.YtkmhncbakfnfeaaLW3
import Derived.Deep.Cut
import Derived.Deep.CutRange
namespace Go.Proofs.Ytkmhncbakfnfeaa
open Go.RowKit
set_option linter.unusedVariables false

theorem iAddE (w : World) (r s : Int) (v : Value) (es : List Ed) (f l t : Int) (h : ReadE w.heap.size w v es) (hl : es.length ≤ 100000000) :
    Calls Try.prog 23 #[.agg #[.int .i64 r, .int .i64 s, v], .agg #[.int .i64 f, .int .i64 l, .int .i64 t]] w (LwGraphBool w r s (addE r s es (f, l, t)) (addEb r s es (f, l, t))) := progAddE w r s v es f l t h hl
/-- A graph in a box of its own, its edges in a row beside it. -/
def BoxRel (w0 : World) (r s : Int) (es : List Ed) (B lo hi : Nat) (a : Option Addr) (c : Nat) (w' : World) : Prop :=
  w0.heap.size ≤ B ∧ B < w'.heap.size ∧ w'.heap[B]? = some (.cells #[.int .i64 r, .int .i64 s, .slice a es.length c] 30 (0, 0)) ∧ w0.heap.size ≤ lo ∧ hi ≤ w'.heap.size ∧ lo ≤ hi ∧ (B < lo ∨ hi ≤ B) ∧
    RowS 25 3 w' lo hi (.slice a es.length c) es.length (flatE es) ∧ Below w0.heap.size w0 w'
end Go.Proofs.Ytkmhncbakfnfeaa
