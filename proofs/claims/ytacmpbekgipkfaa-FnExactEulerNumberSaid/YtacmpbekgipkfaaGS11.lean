/- Graphs, the model: AddEdge. -/
import Derived.Test.YtacmpbekgipkfaaGS10
namespace Go.Proofs.Ytacmpbekgipkfaa
open Go.RowKit
set_option linter.unusedVariables false
set_option linter.unusedSimpArgs false

/-- May AddEdge add? -/
def mayE (r s : Int) (es : List Ed) (e : Ed) : Bool := isGr r s es && (edgeOk r s e && decide (es.length < 120))
def addE (r s : Int) (es : List Ed) (e : Ed) : List Ed := if mayE r s es e = true then putE e es else es
def addEb (r s : Int) (es : List Ed) (e : Ed) : Bool := mayE r s es e && decide (es.length < (putE e es).length)
theorem LwEdges.form {w w' : World} {es : List Ed} {e : Ending} (h : LwEdges w es e w') : ∃ a n cap, n = es.length ∧ e = .returned (.slice a n cap) ∧ RowS 44 3 w' w.heap.size w'.heap.size (.slice a n cap) es.length (flatE es) ∧ Below w.heap.size w w' := by
  obtain ⟨a, cap, he, hr, hb⟩ := h
  exact ⟨a, _, cap, rfl, he, hr, hb⟩
theorem isGr_len {r s : Int} {es : List Ed} (h : isGr r s es = true) : es.length ≤ 120 := (isGr_iff.1 h).2.2.2.2.2
end Go.Proofs.Ytacmpbekgipkfaa
