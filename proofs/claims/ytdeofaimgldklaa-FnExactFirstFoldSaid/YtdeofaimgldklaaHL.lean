/- Folds in the laws' walks (tools/lawgen2.py): eqFold at one fold, what functions leave. -/
import Derived.Test.YtdeofaimgldklaaHFA
import Derived.Test.YtdeofaimgldklaaHFC
import Derived.Test.YtdeofaimgldklaaHS3
import Derived.Test.YtdeofaimgldklaaLW3
namespace Go.Proofs.Ytdeofaimgldklaa
open Go.RowKit
set_option linter.unusedVariables false

theorem eqFold_same (w : World) (x0 x1 : Int) : Calls Try.prog 13 #[.agg #[.int .i64 x0, .int .i64 x1], .agg #[.int .i64 x0, .int .i64 x1]] w fun e w' => e = .returned (.bool true) ∧ Below w.heap.size w w' := by
  have h := eqFold_any w x0 x1 x0 x1
  rw [decide_eq_true (⟨rfl, rfl⟩ : x0 = x0 ∧ x1 = x1)] at h
  exact h
def LwGraphFoldBool (w : World) (r s : Int) (es : List Ed) (f : tupF) (b : Bool) (e : Ending) (w' : World) : Prop :=
  ∃ a cap, e = .returned (.tuple #[.agg #[.int .i64 r, .int .i64 s, .slice a es.length cap], .agg #[.int .i64 f.1, .int .i64 f.2], .bool b]) ∧ RowS 68 3 w' w.heap.size w'.heap.size (.slice a es.length cap) es.length (flatE es) ∧ Below w.heap.size w w'
/-- A graph and a slice of folds: each in memory of its own, the one before the other or behind it. -/
def LwGraphFolds (w : World) (r s : Int) (es : List Ed) (l : List tupF) (e : Ending) (w' : World) : Prop :=
  ∃ a cap v lo mi hi : _, e = .returned (.tuple #[.agg #[.int .i64 r, .int .i64 s, .slice a es.length cap], v]) ∧ w.heap.size ≤ lo ∧ lo ≤ mi ∧ mi ≤ hi ∧ hi ≤ w'.heap.size ∧
    ((RowS 68 3 w' lo mi (.slice a es.length cap) es.length (flatE es) ∧ RowS 27 2 w' mi hi v l.length (flatF l)) ∨
     (RowS 27 2 w' lo mi v l.length (flatF l) ∧ RowS 68 3 w' mi hi (.slice a es.length cap) es.length (flatE es))) ∧ Below w.heap.size w w'
end Go.Proofs.Ytdeofaimgldklaa
