/- Graphs, the model: NewGraph, DegreeOf. -/
import Derived.Test.YtdeofaimgldklaaGS2
import Derived.Test.YtdeofaimgldklaaLW3
import Derived.Laws.ResultCell
namespace Go.Proofs.Ytdeofaimgldklaa
open Go.RowKit
set_option linter.unusedVariables false
set_option linter.unusedSimpArgs false

/-- The struct that a result's cell holds is handed back, and a second result beside it. -/
theorem ret_cell2 {fn : Func} {p u : Tmp} {ty : TypeId} {fs : Array Field} (h : fn.results = #[.cell p ty, .tmp u]) {tmps : Array Value} {w : World} {g : Nat} {t : TypeId} {cs : Array Value} {fr : Nat × Nat} {x : Value} {R : Ending → World → Prop}
    (hp : tmps.getD p undef = .pointer (some ⟨g, 0, none⟩)) (hx : tmps.getD u undef = x) (hg : w.heap[g]? = some (.cells cs t fr))
    (hu : Try.prog.underlying ty = some (.struct fs)) (hi : (Try.prog.info? ty).map (·.size) = some cs.size) (hr : R (.returned (.tuple #[.agg cs, x])) w) :
    bodyPost Try.prog fn R .ret { tmps := tmps, defers := [] } w := by
  refine bodyPost_ret (v := .tuple #[.agg cs, x]) ?_ rfl hr
  have hp' : tmps[p]?.getD undef = .pointer (some ⟨g, 0, none⟩) := by simpa using hp
  have hx' : tmps[u]?.getD undef = x := by simpa using hx
  simp [results, h, hp', hx', asAddr, run_loadVar_row w g t ty cs fr _ hg hu rfl hi]
/-- How many ends of edges lie at a vertex. -/
def degE (v : Int) : List Ed → Int
  | [] => 0
  | e :: es => (if e.1 = v then 1 else 0) + (if e.2.2 = v then 1 else 0) + degE v es
theorem degE_append (v : Int) (a b : List Ed) : degE v (a ++ b) = degE v a + degE v b := by
  induction a with
  | nil => simp [degE]
  | cons e a ih => simp only [List.cons_append, degE, ih]; omega
theorem degE_bounds (v : Int) (es : List Ed) : 0 ≤ degE v es ∧ degE v es ≤ 2 * (es.length : Int) := by
  induction es with
  | nil => simp [degE]
  | cons e es ih =>
    simp only [degE, List.length_cons]
    split <;> split <;> omega
theorem take_one {es : List Ed} {k : Nat} (h : k < es.length) : es.take (k + 1) = es.take k ++ [es.getD k e0] := by
  rw [List.take_add_one, List.getElem?_eq_getElem h, List.getD_eq_getElem?_getD, List.getElem?_eq_getElem h]; rfl
end Go.Proofs.Ytdeofaimgldklaa
