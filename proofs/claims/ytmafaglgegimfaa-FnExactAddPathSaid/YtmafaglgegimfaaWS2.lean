/- Words, the model: MultiplyWords, CommutatorOf, ConjugateWord, PowerWord, EqualWords. -/
import Derived.Test.YtmafaglgegimfaaWS1
namespace Go.Proofs.Ytmafaglgegimfaa
open Go.RowKit
set_option linter.unusedVariables false

/-- A row of the call's own can be read as long as only later blocks turn. -/
theorem RowI.later {w w' : World} {lo hi : Nat} {v : Value} {zs : List Int} (h : RowI w lo hi v zs) (hb : Below hi w w') (hs : hi ≤ w'.heap.size) : ReadI w'.heap.size w' v zs :=
  ((h.read).below hb).mono hs
end Go.Proofs.Ytmafaglgegimfaa
