/-
  No cell of these rows narrows 'for every input' (looked for: loops, veiled, ifaces, maps, wideKeys, modest, calm, conditions, laid).
  DERIVED. THE GIVEN ROWS OF THIS SEAT. 11 by the template 'for every input the law returns true; each argument reads behind the call as it read before'; 0 by the template 'total and deterministic' (their statements: YtcjkgknmpgehbaaTotals.lean).
  GIVEN WITH THE SEED: the statements are not yours to turn. If you find one false, say at which input.
  Laid BY PROGRAM, IN A SANDBOX (cutbox-rows.mjs): the forced cells as the released guide's own fill.sh prints them over the translation b813e2446c6601e2… (all of the seat's roots in one cut). By AI agents, Wed Nov 11 2026. No macro, syntax, notation, axiom, sorry.
-/
import Derived.Test.YtcjkgknmpgehbaaChecked
import GoSem.Claim
import GoSem.ClaimJoined
import GoSem.ClaimMapViews
import Derived.JoinedTies
import Derived.KernelRfl
namespace Go.Proofs.Ytcjkgknmpgehbaa
/- THE CELL 'sum', in the pinned program and in every row, IS THE sha256 OF THE DUMP (.gsa) THAT YtcjkgknmpgehbaaProg.lean LOADS. Nothing in Lean hashes anything: it is a label: what it is worth is what the hold of that sum in a sandbox is worth. -/
noncomputable def Try.pinned : Pinned := { name := "ytcjkgknmpgehbaa", sum := "b813e2446c6601e2ee96c9c212e6dae747ac368fc0655acd53fe6df0af976772", checked := Try.checked }
namespace Rows
def none {H : Type} : Left H := { results := [], args := [] }

/-- 'laws.FnCyclic': WHATEVER THE INPUT: true; the input reads as it did. -/
def fnCyclicSpec : ChangeSpec := { name := "fnCyclic", fn := fun _ => fun
  | [d] => { results := [.lit (.bool true)], args := [d] }
  | _ => none }
def fnCyclicRow : OpenClaim := { program := "ytcjkgknmpgehbaa", sum := "b813e2446c6601e2ee96c9c212e6dae747ac368fc0655acd53fe6df0af976772", func := "loop.example/g02075/laws.FnCyclic", spec := "fnCyclic", apart := false }
def FnCyclicSaid : Prop := fnCyclicRow.holds Try.pinned (OpenSpec.ofChange fnCyclicSpec)

/-- ITS FALSE NEIGHBOUR: 'it returns false'. Refute it at one input. -/
def fnCyclicWrong : ChangeSpec := { name := "fnCyclic", fn := fun _ => fun
  | [d] => { results := [.lit (.bool false)], args := [d] }
  | _ => none }
def FnCyclicWrongFalsely : Prop := fnCyclicRow.holds Try.pinned (OpenSpec.ofChange fnCyclicWrong)

/-- 'laws.FnRoots': WHATEVER THE INPUT: true; the input reads as it did. -/
def fnRootsSpec : ChangeSpec := { name := "fnRoots", fn := fun _ => fun
  | [d] => { results := [.lit (.bool true)], args := [d] }
  | _ => none }
def fnRootsRow : OpenClaim := { program := "ytcjkgknmpgehbaa", sum := "b813e2446c6601e2ee96c9c212e6dae747ac368fc0655acd53fe6df0af976772", func := "loop.example/g02075/laws.FnRoots", spec := "fnRoots", apart := false }
def FnRootsSaid : Prop := fnRootsRow.holds Try.pinned (OpenSpec.ofChange fnRootsSpec)

/-- ITS FALSE NEIGHBOUR: 'it returns false'. Refute it at one input. -/
def fnRootsWrong : ChangeSpec := { name := "fnRoots", fn := fun _ => fun
  | [d] => { results := [.lit (.bool false)], args := [d] }
  | _ => none }
def FnRootsWrongFalsely : Prop := fnRootsRow.holds Try.pinned (OpenSpec.ofChange fnRootsWrong)

/-- 'laws.FnExactCyclicCore': WHATEVER THE INPUT: true; the input reads as it did. -/
def fnExactCyclicCoreSpec : ChangeSpec := { name := "fnExactCyclicCore", fn := fun _ => fun
  | [d] => { results := [.lit (.bool true)], args := [d] }
  | _ => none }
def fnExactCyclicCoreRow : OpenClaim := { program := "ytcjkgknmpgehbaa", sum := "b813e2446c6601e2ee96c9c212e6dae747ac368fc0655acd53fe6df0af976772", func := "loop.example/g02075/laws.FnExactCyclicCore", spec := "fnExactCyclicCore", apart := false }
def FnExactCyclicCoreSaid : Prop := fnExactCyclicCoreRow.holds Try.pinned (OpenSpec.ofChange fnExactCyclicCoreSpec)

/-- ITS FALSE NEIGHBOUR: 'it returns false'. Refute it at one input. -/
def fnExactCyclicCoreWrong : ChangeSpec := { name := "fnExactCyclicCore", fn := fun _ => fun
  | [d] => { results := [.lit (.bool false)], args := [d] }
  | _ => none }
def FnExactCyclicCoreWrongFalsely : Prop := fnExactCyclicCoreRow.holds Try.pinned (OpenSpec.ofChange fnExactCyclicCoreWrong)

/-- 'laws.FnExactRotateWord': WHATEVER THE INPUT: true; the input reads as it did. -/
def fnExactRotateWordSpec : ChangeSpec := { name := "fnExactRotateWord", fn := fun _ => fun
  | [d1, d2] => { results := [.lit (.bool true)], args := [d1, d2] }
  | _ => none }
def fnExactRotateWordRow : OpenClaim := { program := "ytcjkgknmpgehbaa", sum := "b813e2446c6601e2ee96c9c212e6dae747ac368fc0655acd53fe6df0af976772", func := "loop.example/g02075/laws.FnExactRotateWord", spec := "fnExactRotateWord", apart := false }
def FnExactRotateWordSaid : Prop := fnExactRotateWordRow.holds Try.pinned (OpenSpec.ofChange fnExactRotateWordSpec)

/-- ITS FALSE NEIGHBOUR: 'it returns false'. Refute it at one input. -/
def fnExactRotateWordWrong : ChangeSpec := { name := "fnExactRotateWord", fn := fun _ => fun
  | [d1, d2] => { results := [.lit (.bool false)], args := [d1, d2] }
  | _ => none }
def FnExactRotateWordWrongFalsely : Prop := fnExactRotateWordRow.holds Try.pinned (OpenSpec.ofChange fnExactRotateWordWrong)

/-- 'laws.FnExactLeastRotation': WHATEVER THE INPUT: true; the input reads as it did. -/
def fnExactLeastRotationSpec : ChangeSpec := { name := "fnExactLeastRotation", fn := fun _ => fun
  | [d] => { results := [.lit (.bool true)], args := [d] }
  | _ => none }
def fnExactLeastRotationRow : OpenClaim := { program := "ytcjkgknmpgehbaa", sum := "b813e2446c6601e2ee96c9c212e6dae747ac368fc0655acd53fe6df0af976772", func := "loop.example/g02075/laws.FnExactLeastRotation", spec := "fnExactLeastRotation", apart := false }
def FnExactLeastRotationSaid : Prop := fnExactLeastRotationRow.holds Try.pinned (OpenSpec.ofChange fnExactLeastRotationSpec)

/-- ITS FALSE NEIGHBOUR: 'it returns false'. Refute it at one input. -/
def fnExactLeastRotationWrong : ChangeSpec := { name := "fnExactLeastRotation", fn := fun _ => fun
  | [d] => { results := [.lit (.bool false)], args := [d] }
  | _ => none }
def FnExactLeastRotationWrongFalsely : Prop := fnExactLeastRotationRow.holds Try.pinned (OpenSpec.ofChange fnExactLeastRotationWrong)

/-- 'laws.FnExactCyclicForm': WHATEVER THE INPUT: true; the input reads as it did. -/
def fnExactCyclicFormSpec : ChangeSpec := { name := "fnExactCyclicForm", fn := fun _ => fun
  | [d] => { results := [.lit (.bool true)], args := [d] }
  | _ => none }
def fnExactCyclicFormRow : OpenClaim := { program := "ytcjkgknmpgehbaa", sum := "b813e2446c6601e2ee96c9c212e6dae747ac368fc0655acd53fe6df0af976772", func := "loop.example/g02075/laws.FnExactCyclicForm", spec := "fnExactCyclicForm", apart := false }
def FnExactCyclicFormSaid : Prop := fnExactCyclicFormRow.holds Try.pinned (OpenSpec.ofChange fnExactCyclicFormSpec)

/-- ITS FALSE NEIGHBOUR: 'it returns false'. Refute it at one input. -/
def fnExactCyclicFormWrong : ChangeSpec := { name := "fnExactCyclicForm", fn := fun _ => fun
  | [d] => { results := [.lit (.bool false)], args := [d] }
  | _ => none }
def FnExactCyclicFormWrongFalsely : Prop := fnExactCyclicFormRow.holds Try.pinned (OpenSpec.ofChange fnExactCyclicFormWrong)

/-- 'laws.FnExactAreConjugate': WHATEVER THE INPUT: true; the input reads as it did. -/
def fnExactAreConjugateSpec : ChangeSpec := { name := "fnExactAreConjugate", fn := fun _ => fun
  | [d1, d2] => { results := [.lit (.bool true)], args := [d1, d2] }
  | _ => none }
def fnExactAreConjugateRow : OpenClaim := { program := "ytcjkgknmpgehbaa", sum := "b813e2446c6601e2ee96c9c212e6dae747ac368fc0655acd53fe6df0af976772", func := "loop.example/g02075/laws.FnExactAreConjugate", spec := "fnExactAreConjugate", apart := false }
def FnExactAreConjugateSaid : Prop := fnExactAreConjugateRow.holds Try.pinned (OpenSpec.ofChange fnExactAreConjugateSpec)

/-- ITS FALSE NEIGHBOUR: 'it returns false'. Refute it at one input. -/
def fnExactAreConjugateWrong : ChangeSpec := { name := "fnExactAreConjugate", fn := fun _ => fun
  | [d1, d2] => { results := [.lit (.bool false)], args := [d1, d2] }
  | _ => none }
def FnExactAreConjugateWrongFalsely : Prop := fnExactAreConjugateRow.holds Try.pinned (OpenSpec.ofChange fnExactAreConjugateWrong)

/-- 'laws.FnExactRootOf': WHATEVER THE INPUT: true; the input reads as it did. -/
def fnExactRootOfSpec : ChangeSpec := { name := "fnExactRootOf", fn := fun _ => fun
  | [d] => { results := [.lit (.bool true)], args := [d] }
  | _ => none }
def fnExactRootOfRow : OpenClaim := { program := "ytcjkgknmpgehbaa", sum := "b813e2446c6601e2ee96c9c212e6dae747ac368fc0655acd53fe6df0af976772", func := "loop.example/g02075/laws.FnExactRootOf", spec := "fnExactRootOf", apart := false }
def FnExactRootOfSaid : Prop := fnExactRootOfRow.holds Try.pinned (OpenSpec.ofChange fnExactRootOfSpec)

/-- ITS FALSE NEIGHBOUR: 'it returns false'. Refute it at one input. -/
def fnExactRootOfWrong : ChangeSpec := { name := "fnExactRootOf", fn := fun _ => fun
  | [d] => { results := [.lit (.bool false)], args := [d] }
  | _ => none }
def FnExactRootOfWrongFalsely : Prop := fnExactRootOfRow.holds Try.pinned (OpenSpec.ofChange fnExactRootOfWrong)

/-- 'laws.FnExactIsProperPower': WHATEVER THE INPUT: true; the input reads as it did. -/
def fnExactIsProperPowerSpec : ChangeSpec := { name := "fnExactIsProperPower", fn := fun _ => fun
  | [d] => { results := [.lit (.bool true)], args := [d] }
  | _ => none }
def fnExactIsProperPowerRow : OpenClaim := { program := "ytcjkgknmpgehbaa", sum := "b813e2446c6601e2ee96c9c212e6dae747ac368fc0655acd53fe6df0af976772", func := "loop.example/g02075/laws.FnExactIsProperPower", spec := "fnExactIsProperPower", apart := false }
def FnExactIsProperPowerSaid : Prop := fnExactIsProperPowerRow.holds Try.pinned (OpenSpec.ofChange fnExactIsProperPowerSpec)

/-- ITS FALSE NEIGHBOUR: 'it returns false'. Refute it at one input. -/
def fnExactIsProperPowerWrong : ChangeSpec := { name := "fnExactIsProperPower", fn := fun _ => fun
  | [d] => { results := [.lit (.bool false)], args := [d] }
  | _ => none }
def FnExactIsProperPowerWrongFalsely : Prop := fnExactIsProperPowerRow.holds Try.pinned (OpenSpec.ofChange fnExactIsProperPowerWrong)

/-- 'laws.FnExactDoCommute': WHATEVER THE INPUT: true; the input reads as it did. -/
def fnExactDoCommuteSpec : ChangeSpec := { name := "fnExactDoCommute", fn := fun _ => fun
  | [d1, d2] => { results := [.lit (.bool true)], args := [d1, d2] }
  | _ => none }
def fnExactDoCommuteRow : OpenClaim := { program := "ytcjkgknmpgehbaa", sum := "b813e2446c6601e2ee96c9c212e6dae747ac368fc0655acd53fe6df0af976772", func := "loop.example/g02075/laws.FnExactDoCommute", spec := "fnExactDoCommute", apart := false }
def FnExactDoCommuteSaid : Prop := fnExactDoCommuteRow.holds Try.pinned (OpenSpec.ofChange fnExactDoCommuteSpec)

/-- ITS FALSE NEIGHBOUR: 'it returns false'. Refute it at one input. -/
def fnExactDoCommuteWrong : ChangeSpec := { name := "fnExactDoCommute", fn := fun _ => fun
  | [d1, d2] => { results := [.lit (.bool false)], args := [d1, d2] }
  | _ => none }
def FnExactDoCommuteWrongFalsely : Prop := fnExactDoCommuteRow.holds Try.pinned (OpenSpec.ofChange fnExactDoCommuteWrong)

/-- 'laws.FnExactCyclicLength': WHATEVER THE INPUT: true; the input reads as it did. -/
def fnExactCyclicLengthSpec : ChangeSpec := { name := "fnExactCyclicLength", fn := fun _ => fun
  | [d] => { results := [.lit (.bool true)], args := [d] }
  | _ => none }
def fnExactCyclicLengthRow : OpenClaim := { program := "ytcjkgknmpgehbaa", sum := "b813e2446c6601e2ee96c9c212e6dae747ac368fc0655acd53fe6df0af976772", func := "loop.example/g02075/laws.FnExactCyclicLength", spec := "fnExactCyclicLength", apart := false }
def FnExactCyclicLengthSaid : Prop := fnExactCyclicLengthRow.holds Try.pinned (OpenSpec.ofChange fnExactCyclicLengthSpec)

/-- ITS FALSE NEIGHBOUR: 'it returns false'. Refute it at one input. -/
def fnExactCyclicLengthWrong : ChangeSpec := { name := "fnExactCyclicLength", fn := fun _ => fun
  | [d] => { results := [.lit (.bool false)], args := [d] }
  | _ => none }
def FnExactCyclicLengthWrongFalsely : Prop := fnExactCyclicLengthRow.holds Try.pinned (OpenSpec.ofChange fnExactCyclicLengthWrong)

/- THE SECOND FORM. 'bulk': how many values and letters a reading holds, each counted each time it is reached (what is shared counts as often as it is met; a slice's spare places count too). A statement '..UptoSaid' is the law's where the arguments, and the package variables that the reading takes, are together of bulk at most 1048576: NARROWER than '..Said'. Prove '..Said' where nothing that the law and all that it calls make is longer than what came in: it says more and counts as full. Else prove '..UptoSaid'. A law counts once. -/
mutual
def uptoBulk {H : Type} : DataW H → Nat
  | .lit (.string bytes) => bytes.length + 1
  | .lit _ => 1
  | .nil => 1
  | .ptr d => uptoBulk d + 1
  | .slice elems spare => uptoBulkAll elems + uptoBulkAll spare + 1
  | .agg parts => uptoBulkAll parts + 1
  | .iface _ d => uptoBulk d + 1
  | .map entries => uptoBulkEntries entries + 1
  | .held _ => 1
def uptoBulkAll {H : Type} : List (DataW H) → Nat
  | [] => 0
  | d :: r => uptoBulk d + uptoBulkAll r
def uptoBulkEntries {H : Type} : List (Lit × DataW H) → Nat
  | [] => 0
  | x :: r => uptoBulkEntry x + uptoBulkEntries r
def uptoBulkEntry {H : Type} : Lit × DataW H → Nat
  | (.string bytes, d) => bytes.length + uptoBulk d + 1
  | (_, d) => uptoBulk d + 1
 end
def uptoSmall : (H : Type) → List (DataW H) → Bool := fun _ ds => decide (uptoBulkAll ds ≤ 1048576)
def OpenSpec.upto (s : _root_.Go.ChangeSpec) : _root_.Go.OpenSpec := { _root_.Go.OpenSpec.ofChange s with cond := some uptoSmall }

/-- 'laws.FnCyclic', WHERE WHAT IT READS IS OF BULK AT MOST 1048576: true; the input reads as it did. -/
def fnCyclicUptoRow : OpenClaim := { program := "ytcjkgknmpgehbaa", sum := "b813e2446c6601e2ee96c9c212e6dae747ac368fc0655acd53fe6df0af976772", func := "loop.example/g02075/laws.FnCyclic", spec := "fnCyclic", apart := false, narrowed := true }
def FnCyclicUptoSaid : Prop := fnCyclicUptoRow.holds Try.pinned (OpenSpec.upto fnCyclicSpec)

/-- 'laws.FnRoots', WHERE WHAT IT READS IS OF BULK AT MOST 1048576: true; the input reads as it did. -/
def fnRootsUptoRow : OpenClaim := { program := "ytcjkgknmpgehbaa", sum := "b813e2446c6601e2ee96c9c212e6dae747ac368fc0655acd53fe6df0af976772", func := "loop.example/g02075/laws.FnRoots", spec := "fnRoots", apart := false, narrowed := true }
def FnRootsUptoSaid : Prop := fnRootsUptoRow.holds Try.pinned (OpenSpec.upto fnRootsSpec)

/-- 'laws.FnExactCyclicCore', WHERE WHAT IT READS IS OF BULK AT MOST 1048576: true; the input reads as it did. -/
def fnExactCyclicCoreUptoRow : OpenClaim := { program := "ytcjkgknmpgehbaa", sum := "b813e2446c6601e2ee96c9c212e6dae747ac368fc0655acd53fe6df0af976772", func := "loop.example/g02075/laws.FnExactCyclicCore", spec := "fnExactCyclicCore", apart := false, narrowed := true }
def FnExactCyclicCoreUptoSaid : Prop := fnExactCyclicCoreUptoRow.holds Try.pinned (OpenSpec.upto fnExactCyclicCoreSpec)

/-- 'laws.FnExactRotateWord', WHERE WHAT IT READS IS OF BULK AT MOST 1048576: true; the input reads as it did. -/
def fnExactRotateWordUptoRow : OpenClaim := { program := "ytcjkgknmpgehbaa", sum := "b813e2446c6601e2ee96c9c212e6dae747ac368fc0655acd53fe6df0af976772", func := "loop.example/g02075/laws.FnExactRotateWord", spec := "fnExactRotateWord", apart := false, narrowed := true }
def FnExactRotateWordUptoSaid : Prop := fnExactRotateWordUptoRow.holds Try.pinned (OpenSpec.upto fnExactRotateWordSpec)

/-- 'laws.FnExactLeastRotation', WHERE WHAT IT READS IS OF BULK AT MOST 1048576: true; the input reads as it did. -/
def fnExactLeastRotationUptoRow : OpenClaim := { program := "ytcjkgknmpgehbaa", sum := "b813e2446c6601e2ee96c9c212e6dae747ac368fc0655acd53fe6df0af976772", func := "loop.example/g02075/laws.FnExactLeastRotation", spec := "fnExactLeastRotation", apart := false, narrowed := true }
def FnExactLeastRotationUptoSaid : Prop := fnExactLeastRotationUptoRow.holds Try.pinned (OpenSpec.upto fnExactLeastRotationSpec)

/-- 'laws.FnExactCyclicForm', WHERE WHAT IT READS IS OF BULK AT MOST 1048576: true; the input reads as it did. -/
def fnExactCyclicFormUptoRow : OpenClaim := { program := "ytcjkgknmpgehbaa", sum := "b813e2446c6601e2ee96c9c212e6dae747ac368fc0655acd53fe6df0af976772", func := "loop.example/g02075/laws.FnExactCyclicForm", spec := "fnExactCyclicForm", apart := false, narrowed := true }
def FnExactCyclicFormUptoSaid : Prop := fnExactCyclicFormUptoRow.holds Try.pinned (OpenSpec.upto fnExactCyclicFormSpec)

/-- 'laws.FnExactAreConjugate', WHERE WHAT IT READS IS OF BULK AT MOST 1048576: true; the input reads as it did. -/
def fnExactAreConjugateUptoRow : OpenClaim := { program := "ytcjkgknmpgehbaa", sum := "b813e2446c6601e2ee96c9c212e6dae747ac368fc0655acd53fe6df0af976772", func := "loop.example/g02075/laws.FnExactAreConjugate", spec := "fnExactAreConjugate", apart := false, narrowed := true }
def FnExactAreConjugateUptoSaid : Prop := fnExactAreConjugateUptoRow.holds Try.pinned (OpenSpec.upto fnExactAreConjugateSpec)

/-- 'laws.FnExactRootOf', WHERE WHAT IT READS IS OF BULK AT MOST 1048576: true; the input reads as it did. -/
def fnExactRootOfUptoRow : OpenClaim := { program := "ytcjkgknmpgehbaa", sum := "b813e2446c6601e2ee96c9c212e6dae747ac368fc0655acd53fe6df0af976772", func := "loop.example/g02075/laws.FnExactRootOf", spec := "fnExactRootOf", apart := false, narrowed := true }
def FnExactRootOfUptoSaid : Prop := fnExactRootOfUptoRow.holds Try.pinned (OpenSpec.upto fnExactRootOfSpec)

/-- 'laws.FnExactIsProperPower', WHERE WHAT IT READS IS OF BULK AT MOST 1048576: true; the input reads as it did. -/
def fnExactIsProperPowerUptoRow : OpenClaim := { program := "ytcjkgknmpgehbaa", sum := "b813e2446c6601e2ee96c9c212e6dae747ac368fc0655acd53fe6df0af976772", func := "loop.example/g02075/laws.FnExactIsProperPower", spec := "fnExactIsProperPower", apart := false, narrowed := true }
def FnExactIsProperPowerUptoSaid : Prop := fnExactIsProperPowerUptoRow.holds Try.pinned (OpenSpec.upto fnExactIsProperPowerSpec)

/-- 'laws.FnExactDoCommute', WHERE WHAT IT READS IS OF BULK AT MOST 1048576: true; the input reads as it did. -/
def fnExactDoCommuteUptoRow : OpenClaim := { program := "ytcjkgknmpgehbaa", sum := "b813e2446c6601e2ee96c9c212e6dae747ac368fc0655acd53fe6df0af976772", func := "loop.example/g02075/laws.FnExactDoCommute", spec := "fnExactDoCommute", apart := false, narrowed := true }
def FnExactDoCommuteUptoSaid : Prop := fnExactDoCommuteUptoRow.holds Try.pinned (OpenSpec.upto fnExactDoCommuteSpec)

/-- 'laws.FnExactCyclicLength', WHERE WHAT IT READS IS OF BULK AT MOST 1048576: true; the input reads as it did. -/
def fnExactCyclicLengthUptoRow : OpenClaim := { program := "ytcjkgknmpgehbaa", sum := "b813e2446c6601e2ee96c9c212e6dae747ac368fc0655acd53fe6df0af976772", func := "loop.example/g02075/laws.FnExactCyclicLength", spec := "fnExactCyclicLength", apart := false, narrowed := true }
def FnExactCyclicLengthUptoSaid : Prop := fnExactCyclicLengthUptoRow.holds Try.pinned (OpenSpec.upto fnExactCyclicLengthSpec)

end Rows
end Go.Proofs.Ytcjkgknmpgehbaa
