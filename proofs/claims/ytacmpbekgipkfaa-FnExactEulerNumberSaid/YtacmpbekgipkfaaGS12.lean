/- Graphs, the model: the contracts as the laws' walks want them. -/
import Derived.Test.YtacmpbekgipkfaaGS11
namespace Go.Proofs.Ytacmpbekgipkfaa
open Go.RowKit
set_option linter.unusedVariables false

def newR (r : Int) : Int := if 1 ≤ r ∧ r ≤ 3 then r else 0
def newS (r : Int) : Int := if 1 ≤ r ∧ r ≤ 3 then 1 else 0
def newB (r : Int) : Bool := decide (1 ≤ r ∧ r ≤ 3)
def addVs (r s : Int) (es : List Ed) : Int := if addV r s es = true then s + 1 else s
theorem addE_length (r s : Int) (es : List Ed) (e : Ed) : (addE r s es e).length ≤ es.length + 1 := by
  unfold addE
  split
  · exact putE_length _ _
  · omega
end Go.Proofs.Ytacmpbekgipkfaa
