/- Words, the texts: l2Letter, l2Char of the model. -/
import Derived.Test.YtmafaglgegimfaaDoorMF
import Derived.Test.YtmafaglgegimfaaDoorWS1
import Derived.Test.YtmafaglgegimfaaDoorA
import Derived.Laws.Concat
namespace Go.Proofs.YtmafaglgegimfaaDoor
open Go.RowKit
set_option linter.unusedVariables false

/-- What l2Char leaves. -/
def CharRet (w : World) (x : Int) (e : Ending) (w' : World) : Prop := e = .returned (.string ⟨#[chr x]⟩) ∧ Below w.heap.size w w'
theorem ret_s {a b : ByteArray} (h : a = b) : Ending.returned (.string a) = .returned (.string b) := by rw [h]
/-- What a function that hands back one string leaves. -/
def StrRet (w : World) (bs : List UInt8) (e : Ending) (w' : World) : Prop := e = .returned (.string ⟨bs.toArray⟩) ∧ Below w.heap.size w w'
end Go.Proofs.YtmafaglgegimfaaDoor
