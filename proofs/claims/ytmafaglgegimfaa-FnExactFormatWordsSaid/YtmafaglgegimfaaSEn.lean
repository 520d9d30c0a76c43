/- Texts of lists of words: the contracts as the law's walk asks for them. -/
import Derived.Test.YtmafaglgegimfaaSEp
namespace Go.Proofs.Ytmafaglgegimfaa
open Go.RowKit
set_option linter.unusedVariables false

def textWs (zss : List (List Int)) : ByteArray := ⟨(fmtWs zss).toArray⟩
def LwTxt (w : World) (s : ByteArray) (e : Ending) (w' : World) : Prop := e = .returned (.string s) ∧ Below w.heap.size w w'
theorem sFmtWs (w : World) (v : Value) (zss : List (List Int)) (h : ReadSS w.heap.size w v zss) (hs : zss.length + totL zss ≤ 1048576) : Calls Try.prog 36 #[v] w (LwTxt w (textWs zss)) := specFmtWs w v zss h hs
theorem iFmtWs (w : World) (v : Value) (zss : List (List Int)) (h : ReadSS w.heap.size w v zss) (hs : zss.length + totL zss ≤ 1048576) : Calls Try.prog 37 #[v] w (LwTxt w (textWs zss)) := progFmtWs w v zss h hs
end Go.Proofs.Ytmafaglgegimfaa
