/-
  No cell of these rows narrows 'for every input' (looked for: loops, veiled, ifaces, maps, wideKeys, modest, calm, conditions, laid).
  DERIVED. THE GIVEN ROWS OF THIS SEAT. 6 by the template 'for every input the law returns true; each argument reads behind the call as it read before'; 0 by the template 'total and deterministic' (their statements: YtecceaijdjnflaaTotals.lean).
  GIVEN WITH THE SEED: the statements are not yours to turn. If you find one false, say at which input.
  Laid BY PROGRAM, IN A SANDBOX (cutbox-rows.mjs): the forced cells as the released guide's own fill.sh prints them over the translation 991cea72fed1d189… (all of the seat's roots in one cut). By AI agents, Wed Nov 11 2026. No macro, syntax, notation, axiom, sorry.
-/
import Derived.Test.YtecceaijdjnflaaChecked
import GoSem.Claim
import GoSem.ClaimJoined
import GoSem.ClaimMapViews
import Derived.JoinedTies
import Derived.KernelRfl
namespace Go.Proofs.Ytecceaijdjnflaa
/- THE CELL 'sum', in the pinned program and in every row, IS THE sha256 OF THE DUMP (.gsa) THAT YtecceaijdjnflaaProg.lean LOADS. Nothing in Lean hashes anything: it is a label: what it is worth is what the hold of that sum in a sandbox is worth. -/
noncomputable def Try.pinned : Pinned := { name := "ytecceaijdjnflaa", sum := "991cea72fed1d189d8a9943c46b94e2c756acb92c831e2dc0b5e052a67f2926a", checked := Try.checked }
namespace Rows
def none {H : Type} : Left H := { results := [], args := [] }

/-- 'laws.FnExactTrimGraph': WHATEVER THE INPUT: true; the input reads as it did. -/
def fnExactTrimGraphSpec : ChangeSpec := { name := "fnExactTrimGraph", fn := fun _ => fun
  | [d] => { results := [.lit (.bool true)], args := [d] }
  | _ => none }
def fnExactTrimGraphRow : OpenClaim := { program := "ytecceaijdjnflaa", sum := "991cea72fed1d189d8a9943c46b94e2c756acb92c831e2dc0b5e052a67f2926a", func := "loop.example/g02075/laws.FnExactTrimGraph", spec := "fnExactTrimGraph", unfollowed := true, recurses := true, plainKeys := false, apart := false }
def FnExactTrimGraphSaid : Prop := fnExactTrimGraphRow.holds Try.pinned (OpenSpec.ofChange fnExactTrimGraphSpec)

/-- ITS FALSE NEIGHBOUR: 'it returns false'. Refute it at one input. -/
def fnExactTrimGraphWrong : ChangeSpec := { name := "fnExactTrimGraph", fn := fun _ => fun
  | [d] => { results := [.lit (.bool false)], args := [d] }
  | _ => none }
def FnExactTrimGraphWrongFalsely : Prop := fnExactTrimGraphRow.holds Try.pinned (OpenSpec.ofChange fnExactTrimGraphWrong)

/-- 'laws.FnExactRenumberGraph': WHATEVER THE INPUT: true; the input reads as it did. -/
def fnExactRenumberGraphSpec : ChangeSpec := { name := "fnExactRenumberGraph", fn := fun _ => fun
  | [d1, d2] => { results := [.lit (.bool true)], args := [d1, d2] }
  | _ => none }
def fnExactRenumberGraphRow : OpenClaim := { program := "ytecceaijdjnflaa", sum := "991cea72fed1d189d8a9943c46b94e2c756acb92c831e2dc0b5e052a67f2926a", func := "loop.example/g02075/laws.FnExactRenumberGraph", spec := "fnExactRenumberGraph", unfollowed := true, recurses := true, plainKeys := false, apart := false }
def FnExactRenumberGraphSaid : Prop := fnExactRenumberGraphRow.holds Try.pinned (OpenSpec.ofChange fnExactRenumberGraphSpec)

/-- ITS FALSE NEIGHBOUR: 'it returns false'. Refute it at one input. -/
def fnExactRenumberGraphWrong : ChangeSpec := { name := "fnExactRenumberGraph", fn := fun _ => fun
  | [d1, d2] => { results := [.lit (.bool false)], args := [d1, d2] }
  | _ => none }
def FnExactRenumberGraphWrongFalsely : Prop := fnExactRenumberGraphRow.holds Try.pinned (OpenSpec.ofChange fnExactRenumberGraphWrong)

/-- 'laws.FnExactCanonicalOrder': WHATEVER THE INPUT: true; the input reads as it did. -/
def fnExactCanonicalOrderSpec : ChangeSpec := { name := "fnExactCanonicalOrder", fn := fun _ => fun
  | [d] => { results := [.lit (.bool true)], args := [d] }
  | _ => none }
def fnExactCanonicalOrderRow : OpenClaim := { program := "ytecceaijdjnflaa", sum := "991cea72fed1d189d8a9943c46b94e2c756acb92c831e2dc0b5e052a67f2926a", func := "loop.example/g02075/laws.FnExactCanonicalOrder", spec := "fnExactCanonicalOrder", plainKeys := false, apart := false }
def FnExactCanonicalOrderSaid : Prop := fnExactCanonicalOrderRow.holds Try.pinned (OpenSpec.ofChange fnExactCanonicalOrderSpec)

/-- ITS FALSE NEIGHBOUR: 'it returns false'. Refute it at one input. -/
def fnExactCanonicalOrderWrong : ChangeSpec := { name := "fnExactCanonicalOrder", fn := fun _ => fun
  | [d] => { results := [.lit (.bool false)], args := [d] }
  | _ => none }
def FnExactCanonicalOrderWrongFalsely : Prop := fnExactCanonicalOrderRow.holds Try.pinned (OpenSpec.ofChange fnExactCanonicalOrderWrong)

/-- 'laws.FnExactCanonicalGraph': WHATEVER THE INPUT: true; the input reads as it did. -/
def fnExactCanonicalGraphSpec : ChangeSpec := { name := "fnExactCanonicalGraph", fn := fun _ => fun
  | [d] => { results := [.lit (.bool true)], args := [d] }
  | _ => none }
def fnExactCanonicalGraphRow : OpenClaim := { program := "ytecceaijdjnflaa", sum := "991cea72fed1d189d8a9943c46b94e2c756acb92c831e2dc0b5e052a67f2926a", func := "loop.example/g02075/laws.FnExactCanonicalGraph", spec := "fnExactCanonicalGraph", unfollowed := true, recurses := true, plainKeys := false, apart := false }
def FnExactCanonicalGraphSaid : Prop := fnExactCanonicalGraphRow.holds Try.pinned (OpenSpec.ofChange fnExactCanonicalGraphSpec)

/-- ITS FALSE NEIGHBOUR: 'it returns false'. Refute it at one input. -/
def fnExactCanonicalGraphWrong : ChangeSpec := { name := "fnExactCanonicalGraph", fn := fun _ => fun
  | [d] => { results := [.lit (.bool false)], args := [d] }
  | _ => none }
def FnExactCanonicalGraphWrongFalsely : Prop := fnExactCanonicalGraphRow.holds Try.pinned (OpenSpec.ofChange fnExactCanonicalGraphWrong)

/-- 'laws.FnExactIsCore': WHATEVER THE INPUT: true; the input reads as it did. -/
def fnExactIsCoreSpec : ChangeSpec := { name := "fnExactIsCore", fn := fun _ => fun
  | [d] => { results := [.lit (.bool true)], args := [d] }
  | _ => none }
def fnExactIsCoreRow : OpenClaim := { program := "ytecceaijdjnflaa", sum := "991cea72fed1d189d8a9943c46b94e2c756acb92c831e2dc0b5e052a67f2926a", func := "loop.example/g02075/laws.FnExactIsCore", spec := "fnExactIsCore", unfollowed := true, recurses := true, plainKeys := false, apart := false }
def FnExactIsCoreSaid : Prop := fnExactIsCoreRow.holds Try.pinned (OpenSpec.ofChange fnExactIsCoreSpec)

/-- ITS FALSE NEIGHBOUR: 'it returns false'. Refute it at one input. -/
def fnExactIsCoreWrong : ChangeSpec := { name := "fnExactIsCore", fn := fun _ => fun
  | [d] => { results := [.lit (.bool false)], args := [d] }
  | _ => none }
def FnExactIsCoreWrongFalsely : Prop := fnExactIsCoreRow.holds Try.pinned (OpenSpec.ofChange fnExactIsCoreWrong)

/-- 'laws.FnExactIsTree': WHATEVER THE INPUT: true; the input reads as it did. -/
def fnExactIsTreeSpec : ChangeSpec := { name := "fnExactIsTree", fn := fun _ => fun
  | [d] => { results := [.lit (.bool true)], args := [d] }
  | _ => none }
def fnExactIsTreeRow : OpenClaim := { program := "ytecceaijdjnflaa", sum := "991cea72fed1d189d8a9943c46b94e2c756acb92c831e2dc0b5e052a67f2926a", func := "loop.example/g02075/laws.FnExactIsTree", spec := "fnExactIsTree", plainKeys := false, apart := false }
def FnExactIsTreeSaid : Prop := fnExactIsTreeRow.holds Try.pinned (OpenSpec.ofChange fnExactIsTreeSpec)

/-- ITS FALSE NEIGHBOUR: 'it returns false'. Refute it at one input. -/
def fnExactIsTreeWrong : ChangeSpec := { name := "fnExactIsTree", fn := fun _ => fun
  | [d] => { results := [.lit (.bool false)], args := [d] }
  | _ => none }
def FnExactIsTreeWrongFalsely : Prop := fnExactIsTreeRow.holds Try.pinned (OpenSpec.ofChange fnExactIsTreeWrong)

/- THE SECOND FORM. 'bulk': how many values and letters a reading holds, each counted each time it is reached (what is shared counts as often as it is met; a slice's spare places count too). A statement '..UptoSaid' is the law's where the arguments, and the package variables that the reading takes, are together of bulk at most 1048576: NARROWER than '..Said'. Prove '..Said' where nothing that the law and all that it calls make is longer than what came in: it says more and counts as full. Else prove '..UptoSaid'. A law counts once. -/
mutual
def uptoBulk {H : Type} : DataW H → Nat
  | .lit (.string bytes) => bytes.length + 1
  | .lit _ => 1
  | .nil => 1
  | .ptr d => uptoBulk d + 1
  | .slice elems spare => uptoBulkAll elems + uptoBulkAll spare + 1
  | .agg parts => uptoBulkAll parts + 1
  | .iface _ d => uptoBulk d + 1
  | .map entries => uptoBulkEntries entries + 1
  | .held _ => 1
def uptoBulkAll {H : Type} : List (DataW H) → Nat
  | [] => 0
  | d :: r => uptoBulk d + uptoBulkAll r
def uptoBulkEntries {H : Type} : List (Lit × DataW H) → Nat
  | [] => 0
  | x :: r => uptoBulkEntry x + uptoBulkEntries r
def uptoBulkEntry {H : Type} : Lit × DataW H → Nat
  | (.string bytes, d) => bytes.length + uptoBulk d + 1
  | (_, d) => uptoBulk d + 1
 end
def uptoSmall : (H : Type) → List (DataW H) → Bool := fun _ ds => decide (uptoBulkAll ds ≤ 1048576)
def OpenSpec.upto (s : _root_.Go.ChangeSpec) : _root_.Go.OpenSpec := { _root_.Go.OpenSpec.ofChange s with cond := some uptoSmall }

/-- 'laws.FnExactTrimGraph', WHERE WHAT IT READS IS OF BULK AT MOST 1048576: true; the input reads as it did. -/
def fnExactTrimGraphUptoRow : OpenClaim := { program := "ytecceaijdjnflaa", sum := "991cea72fed1d189d8a9943c46b94e2c756acb92c831e2dc0b5e052a67f2926a", func := "loop.example/g02075/laws.FnExactTrimGraph", spec := "fnExactTrimGraph", unfollowed := true, recurses := true, plainKeys := false, apart := false, narrowed := true }
def FnExactTrimGraphUptoSaid : Prop := fnExactTrimGraphUptoRow.holds Try.pinned (OpenSpec.upto fnExactTrimGraphSpec)

/-- 'laws.FnExactRenumberGraph', WHERE WHAT IT READS IS OF BULK AT MOST 1048576: true; the input reads as it did. -/
def fnExactRenumberGraphUptoRow : OpenClaim := { program := "ytecceaijdjnflaa", sum := "991cea72fed1d189d8a9943c46b94e2c756acb92c831e2dc0b5e052a67f2926a", func := "loop.example/g02075/laws.FnExactRenumberGraph", spec := "fnExactRenumberGraph", unfollowed := true, recurses := true, plainKeys := false, apart := false, narrowed := true }
def FnExactRenumberGraphUptoSaid : Prop := fnExactRenumberGraphUptoRow.holds Try.pinned (OpenSpec.upto fnExactRenumberGraphSpec)

/-- 'laws.FnExactCanonicalOrder', WHERE WHAT IT READS IS OF BULK AT MOST 1048576: true; the input reads as it did. -/
def fnExactCanonicalOrderUptoRow : OpenClaim := { program := "ytecceaijdjnflaa", sum := "991cea72fed1d189d8a9943c46b94e2c756acb92c831e2dc0b5e052a67f2926a", func := "loop.example/g02075/laws.FnExactCanonicalOrder", spec := "fnExactCanonicalOrder", plainKeys := false, apart := false, narrowed := true }
def FnExactCanonicalOrderUptoSaid : Prop := fnExactCanonicalOrderUptoRow.holds Try.pinned (OpenSpec.upto fnExactCanonicalOrderSpec)

/-- 'laws.FnExactCanonicalGraph', WHERE WHAT IT READS IS OF BULK AT MOST 1048576: true; the input reads as it did. -/
def fnExactCanonicalGraphUptoRow : OpenClaim := { program := "ytecceaijdjnflaa", sum := "991cea72fed1d189d8a9943c46b94e2c756acb92c831e2dc0b5e052a67f2926a", func := "loop.example/g02075/laws.FnExactCanonicalGraph", spec := "fnExactCanonicalGraph", unfollowed := true, recurses := true, plainKeys := false, apart := false, narrowed := true }
def FnExactCanonicalGraphUptoSaid : Prop := fnExactCanonicalGraphUptoRow.holds Try.pinned (OpenSpec.upto fnExactCanonicalGraphSpec)

/-- 'laws.FnExactIsCore', WHERE WHAT IT READS IS OF BULK AT MOST 1048576: true; the input reads as it did. -/
def fnExactIsCoreUptoRow : OpenClaim := { program := "ytecceaijdjnflaa", sum := "991cea72fed1d189d8a9943c46b94e2c756acb92c831e2dc0b5e052a67f2926a", func := "loop.example/g02075/laws.FnExactIsCore", spec := "fnExactIsCore", unfollowed := true, recurses := true, plainKeys := false, apart := false, narrowed := true }
def FnExactIsCoreUptoSaid : Prop := fnExactIsCoreUptoRow.holds Try.pinned (OpenSpec.upto fnExactIsCoreSpec)

/-- 'laws.FnExactIsTree', WHERE WHAT IT READS IS OF BULK AT MOST 1048576: true; the input reads as it did. -/
def fnExactIsTreeUptoRow : OpenClaim := { program := "ytecceaijdjnflaa", sum := "991cea72fed1d189d8a9943c46b94e2c756acb92c831e2dc0b5e052a67f2926a", func := "loop.example/g02075/laws.FnExactIsTree", spec := "fnExactIsTree", plainKeys := false, apart := false, narrowed := true }
def FnExactIsTreeUptoSaid : Prop := fnExactIsTreeUptoRow.holds Try.pinned (OpenSpec.upto fnExactIsTreeSpec)

end Rows
end Go.Proofs.Ytecceaijdjnflaa
