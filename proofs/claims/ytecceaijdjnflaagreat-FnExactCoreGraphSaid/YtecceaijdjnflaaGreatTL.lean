/- Cores: a graph and a slice of ints as an answer. -/
import Derived.Test.YtecceaijdjnflaaGreatQB
namespace Go.Proofs.YtecceaijdjnflaaGreat
open Go.RowKit
/-- A graph and a slice of ints: each in memory of its own, apart. -/
def LwGraphInts (w : World) (r s : Int) (es : List Ed) (l : List Int) (e : Ending) (w' : World) : Prop :=
  ∃ (a : Option Addr) (cap : Nat) (v : Value) (glo ghi flo fhi : Nat), e = .returned (.tuple #[.agg #[.int .i64 r, .int .i64 s, .slice a es.length cap], v]) ∧
    (w.heap.size ≤ glo ∧ glo ≤ ghi ∧ ghi ≤ w'.heap.size ∧ w.heap.size ≤ flo ∧ flo ≤ fhi ∧ fhi ≤ w'.heap.size ∧ (ghi ≤ flo ∨ fhi ≤ glo)) ∧
    RowS 54 3 w' glo ghi (.slice a es.length cap) es.length (flatE es) ∧ RowI w' flo fhi v l ∧ Below w.heap.size w w'
end Go.Proofs.YtecceaijdjnflaaGreat
