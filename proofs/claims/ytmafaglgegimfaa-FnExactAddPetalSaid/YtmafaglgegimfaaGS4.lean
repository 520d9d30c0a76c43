/- Graphs, the model: EqualGraphs. -/
import Derived.Test.YtmafaglgegimfaaGS3
namespace Go.Proofs.Ytmafaglgegimfaa
open Go.RowKit
set_option linter.unusedVariables false
set_option linter.unusedSimpArgs false

def eqG (r s : Int) (es : List Ed) (r' s' : Int) (es' : List Ed) : Bool := decide (r = r' ∧ s = s' ∧ es = es')
theorem list_ext_getD {es es' : List Ed} (hl : es.length = es'.length) (h : ∀ j, j < es.length → es.getD j e0 = es'.getD j e0) : es = es' := by
  apply List.ext_getElem hl
  intro i h1 h2
  have := h i h1
  rw [List.getD_eq_getElem?_getD, List.getD_eq_getElem?_getD, List.getElem?_eq_getElem h1, List.getElem?_eq_getElem h2] at this
  exact this
end Go.Proofs.Ytmafaglgegimfaa
