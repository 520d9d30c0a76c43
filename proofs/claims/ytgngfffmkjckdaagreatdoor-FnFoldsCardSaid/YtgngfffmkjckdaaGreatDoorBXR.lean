/- An answer whose box lies anywhere beside its row. -/
import Derived.Test.YtgngfffmkjckdaaGreatDoorQB
import Derived.Deep.Cut
import Derived.Deep.CutRange
namespace Go.Proofs.YtgngfffmkjckdaaGreatDoor
open Go.RowKit
set_option linter.unusedVariables false

/-- A graph in a box of its own, its edges in a row beside it. -/
def BoxRel (w0 : World) (r s : Int) (es : List Ed) (B lo hi : Nat) (a : Option Addr) (c : Nat) (w' : World) : Prop :=
  w0.heap.size ≤ B ∧ B < w'.heap.size ∧ w'.heap[B]? = some (.cells #[.int .i64 r, .int .i64 s, .slice a es.length c] 26 (0, 0)) ∧ w0.heap.size ≤ lo ∧ hi ≤ w'.heap.size ∧ lo ≤ hi ∧ (B < lo ∨ hi ≤ B) ∧
    RowS 55 3 w' lo hi (.slice a es.length c) es.length (flatE es) ∧ Below w0.heap.size w0 w'
end Go.Proofs.YtgngfffmkjckdaaGreatDoor
