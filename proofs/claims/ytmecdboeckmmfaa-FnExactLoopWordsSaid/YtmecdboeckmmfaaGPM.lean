/- Graphs, the program: the map of the ends of edges, its keys. -/
import Derived.Test.YtmecdboeckmmfaaGP1
import Derived.Maps.OwnSet
import Derived.DeepKeys4
namespace Go.Proofs.Ytmecdboeckmmfaa
open Go.RowKit Go.Maps
set_option linter.unusedVariables false
set_option linter.unusedSimpArgs false

def kE (p : Int) (b : Bool) : Lit := .string (keyBytes [.int .i64 p, .bool b])
theorem laidOutP : laidOutB Try.prog = true := by kernel_rfl
theorem cellsKi : Try.prog.cellsOf 3 = 1 := by kernel_rfl
theorem cellsKb : Try.prog.cellsOf 4 = 1 := by kernel_rfl
theorem sizeTypes : ∃ d, Try.prog.types.size = d + 1 := by
  have h : Try.prog.types.size = (Try.prog.types.size - 1) + 1 := by
    have : 0 < Try.prog.types.size := of_decide_eq_true (by kernel_rfl)
    omega
  exact ⟨_, h⟩
end Go.Proofs.Ytmecdboeckmmfaa
