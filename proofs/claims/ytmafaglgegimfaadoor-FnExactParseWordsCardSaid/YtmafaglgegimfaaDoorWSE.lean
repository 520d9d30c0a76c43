/- Words, the model: EqualWords. -/
import Derived.Test.YtmafaglgegimfaaDoorWH
namespace Go.Proofs.YtmafaglgegimfaaDoor
open Go.RowKit
set_option linter.unusedVariables false

theorem cmp_head (a b : Nat) : ((a : Int) != (b : Int)) = !(decide (a = b)) := by
  rw [Bool.eq_iff_iff]; simp; omega
end Go.Proofs.YtmafaglgegimfaaDoor
