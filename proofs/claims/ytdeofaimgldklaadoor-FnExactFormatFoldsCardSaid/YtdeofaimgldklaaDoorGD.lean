/- The laws' own helpers on graphs: toGraph, eqGraph, markGraph, heldGraph, szGraph. -/
import Derived.Test.YtdeofaimgldklaaDoorHK
import Derived.Test.YtdeofaimgldklaaDoorGC
namespace Go.Proofs.YtdeofaimgldklaaDoor
open Go.RowKit
set_option linter.unusedVariables false

/-- A block of three cells is written whole. -/
theorem set3 {w : World} {g : Nat} {T : TypeId} {x0 x1 x2 : Value} (h : w.heap[g]? = some (.cells #[x0, x1, x2] T (0, 0))) (v0 v1 v2 : Value) :
    (((w.setCell ⟨g, 0, none⟩ v0).setCell ⟨g, 1, none⟩ v1).setCell ⟨g, 2, none⟩ v2).heap[g]? = some (.cells #[v0, v1, v2] T (0, 0)) := by
  have h3 := heap_setCell_same _ g 2 _ T v2 (heap_setCell_same _ g 1 _ T v1 (heap_setCell_same w g 0 _ T v0 h))
  simpa using h3
end Go.Proofs.YtdeofaimgldklaaDoor
