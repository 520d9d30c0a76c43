/- The laws' own helpers on edges: toEdge, eqEdge, toEdgeS, eqEdgeS, markEdgeS, heldEdgeS, szEdgeS. -/
import Derived.Test.YtdeofaimgldklaaDoorGR
import Derived.Deep.RegionWith
import Derived.Deep.LoopGhost
namespace Go.Proofs.YtdeofaimgldklaaDoor
open Go.RowKit
set_option linter.unusedVariables false

/-- The struct that a result's cell holds is handed back. -/
theorem ret_cell {fn : Func} {p : Tmp} {ty : TypeId} {fs : Array Field} (h : fn.results = #[.cell p ty]) {tmps : Array Value} {w : World} {g : Nat} {t : TypeId} {cs : Array Value} {fr : Nat × Nat} {R : Ending → World → Prop}
    (hp : tmps.getD p undef = .pointer (some ⟨g, 0, none⟩)) (hg : w.heap[g]? = some (.cells cs t fr))
    (hu : Tryd.prog.underlying ty = some (.struct fs)) (hi : (Tryd.prog.info? ty).map (·.size) = some cs.size) (hr : R (.returned (.agg cs)) w) :
    bodyPost Tryd.prog fn R .ret { tmps := tmps, defers := [] } w :=
  bodyPost_ret (results_cell_row h tmps w g t cs fr _ hp hg hu rfl hi) rfl hr
theorem heap_mid (w : World) (A B C : Obj) : (((w.alloc A).alloc B).alloc C).heap[w.heap.size + 1]? = some B := by
  have h : (((w.alloc A).alloc B).alloc C).heap[w.heap.size + 1]? = ((w.alloc A).alloc B).heap[w.heap.size + 1]? := heap_alloc_old _ _ (by simp)
  rw [h]
  have := heap_alloc_new (w.alloc A) B
  simpa using this
end Go.Proofs.YtdeofaimgldklaaDoor
