/-
  No cell of these rows narrows 'for every input' (looked for: loops, veiled, ifaces, maps, wideKeys, modest, calm, conditions, laid).
  DERIVED. THE GIVEN ROWS OF THIS SEAT. 9 by the template 'for every input the law returns true; each argument reads behind the call as it read before'; 0 by the template 'total and deterministic' (their statements: YtjnhhhnehkmfmaaTotals.lean).
  GIVEN WITH THE SEED: the statements are not yours to turn. If you find one false, say at which input.
  Laid BY PROGRAM, IN A SANDBOX (cutbox-rows.mjs): the forced cells as the released guide's own fill.sh prints them over the translation cb30a11a1afe8f32… (all of the seat's roots in one cut). By AI agents, Wed Nov 11 2026. No macro, syntax, notation, axiom, sorry.
-/
import Derived.Test.YtjnhhhnehkmfmaaChecked
import GoSem.Claim
import GoSem.ClaimJoined
import GoSem.ClaimMapViews
import Derived.JoinedTies
import Derived.KernelRfl
namespace Go.Proofs.Ytjnhhhnehkmfmaa
/- THE CELL 'sum', in the pinned program and in every row, IS THE sha256 OF THE DUMP (.gsa) THAT YtjnhhhnehkmfmaaProg.lean LOADS. Nothing in Lean hashes anything: it is a label: what it is worth is what the hold of that sum in a sandbox is worth. -/
noncomputable def Try.pinned : Pinned := { name := "ytjnhhhnehkmfmaa", sum := "cb30a11a1afe8f3215fb0cc2c596f2baa723e46cc53f639fb99640c08c0335b0", checked := Try.checked }
namespace Rows
def none {H : Type} : Left H := { results := [], args := [] }

/-- 'laws.FnExactIsSubgroup': WHATEVER THE INPUT: true; the input reads as it did. -/
def fnExactIsSubgroupSpec : ChangeSpec := { name := "fnExactIsSubgroup", fn := fun _ => fun
  | [d] => { results := [.lit (.bool true)], args := [d] }
  | _ => none }
def fnExactIsSubgroupRow : OpenClaim := { program := "ytjnhhhnehkmfmaa", sum := "cb30a11a1afe8f3215fb0cc2c596f2baa723e46cc53f639fb99640c08c0335b0", func := "loop.example/g02075/laws.FnExactIsSubgroup", spec := "fnExactIsSubgroup", unfollowed := true, recurses := true, plainKeys := false, apart := false }
def FnExactIsSubgroupSaid : Prop := fnExactIsSubgroupRow.holds Try.pinned (OpenSpec.ofChange fnExactIsSubgroupSpec)

/-- ITS FALSE NEIGHBOUR: 'it returns false'. Refute it at one input. -/
def fnExactIsSubgroupWrong : ChangeSpec := { name := "fnExactIsSubgroup", fn := fun _ => fun
  | [d] => { results := [.lit (.bool false)], args := [d] }
  | _ => none }
def FnExactIsSubgroupWrongFalsely : Prop := fnExactIsSubgroupRow.holds Try.pinned (OpenSpec.ofChange fnExactIsSubgroupWrong)

/-- 'laws.FnExactContains': WHATEVER THE INPUT: true; the input reads as it did. -/
def fnExactContainsSpec : ChangeSpec := { name := "fnExactContains", fn := fun _ => fun
  | [d1, d2] => { results := [.lit (.bool true)], args := [d1, d2] }
  | _ => none }
def fnExactContainsRow : OpenClaim := { program := "ytjnhhhnehkmfmaa", sum := "cb30a11a1afe8f3215fb0cc2c596f2baa723e46cc53f639fb99640c08c0335b0", func := "loop.example/g02075/laws.FnExactContains", spec := "fnExactContains", unfollowed := true, recurses := true, plainKeys := false, apart := false }
def FnExactContainsSaid : Prop := fnExactContainsRow.holds Try.pinned (OpenSpec.ofChange fnExactContainsSpec)

/-- ITS FALSE NEIGHBOUR: 'it returns false'. Refute it at one input. -/
def fnExactContainsWrong : ChangeSpec := { name := "fnExactContains", fn := fun _ => fun
  | [d1, d2] => { results := [.lit (.bool false)], args := [d1, d2] }
  | _ => none }
def FnExactContainsWrongFalsely : Prop := fnExactContainsRow.holds Try.pinned (OpenSpec.ofChange fnExactContainsWrong)

/-- 'laws.FnExactIsInside': WHATEVER THE INPUT: true; the input reads as it did. -/
def fnExactIsInsideSpec : ChangeSpec := { name := "fnExactIsInside", fn := fun _ => fun
  | [d1, d2] => { results := [.lit (.bool true)], args := [d1, d2] }
  | _ => none }
def fnExactIsInsideRow : OpenClaim := { program := "ytjnhhhnehkmfmaa", sum := "cb30a11a1afe8f3215fb0cc2c596f2baa723e46cc53f639fb99640c08c0335b0", func := "loop.example/g02075/laws.FnExactIsInside", spec := "fnExactIsInside", unfollowed := true, recurses := true, plainKeys := false, apart := false }
def FnExactIsInsideSaid : Prop := fnExactIsInsideRow.holds Try.pinned (OpenSpec.ofChange fnExactIsInsideSpec)

/-- ITS FALSE NEIGHBOUR: 'it returns false'. Refute it at one input. -/
def fnExactIsInsideWrong : ChangeSpec := { name := "fnExactIsInside", fn := fun _ => fun
  | [d1, d2] => { results := [.lit (.bool false)], args := [d1, d2] }
  | _ => none }
def FnExactIsInsideWrongFalsely : Prop := fnExactIsInsideRow.holds Try.pinned (OpenSpec.ofChange fnExactIsInsideWrong)

/-- 'laws.FnExactTrivialSubgroup': WHATEVER THE INPUT: true; the input reads as it did. -/
def fnExactTrivialSubgroupSpec : ChangeSpec := { name := "fnExactTrivialSubgroup", fn := fun _ => fun
  | [d] => { results := [.lit (.bool true)], args := [d] }
  | _ => none }
def fnExactTrivialSubgroupRow : OpenClaim := { program := "ytjnhhhnehkmfmaa", sum := "cb30a11a1afe8f3215fb0cc2c596f2baa723e46cc53f639fb99640c08c0335b0", func := "loop.example/g02075/laws.FnExactTrivialSubgroup", spec := "fnExactTrivialSubgroup", plainKeys := false, apart := false }
def FnExactTrivialSubgroupSaid : Prop := fnExactTrivialSubgroupRow.holds Try.pinned (OpenSpec.ofChange fnExactTrivialSubgroupSpec)

/-- ITS FALSE NEIGHBOUR: 'it returns false'. Refute it at one input. -/
def fnExactTrivialSubgroupWrong : ChangeSpec := { name := "fnExactTrivialSubgroup", fn := fun _ => fun
  | [d] => { results := [.lit (.bool false)], args := [d] }
  | _ => none }
def FnExactTrivialSubgroupWrongFalsely : Prop := fnExactTrivialSubgroupRow.holds Try.pinned (OpenSpec.ofChange fnExactTrivialSubgroupWrong)

/-- 'laws.FnExactWholeGroup': WHATEVER THE INPUT: true; the input reads as it did. -/
def fnExactWholeGroupSpec : ChangeSpec := { name := "fnExactWholeGroup", fn := fun _ => fun
  | [d] => { results := [.lit (.bool true)], args := [d] }
  | _ => none }
def fnExactWholeGroupRow : OpenClaim := { program := "ytjnhhhnehkmfmaa", sum := "cb30a11a1afe8f3215fb0cc2c596f2baa723e46cc53f639fb99640c08c0335b0", func := "loop.example/g02075/laws.FnExactWholeGroup", spec := "fnExactWholeGroup", plainKeys := false, apart := false }
def FnExactWholeGroupSaid : Prop := fnExactWholeGroupRow.holds Try.pinned (OpenSpec.ofChange fnExactWholeGroupSpec)

/-- ITS FALSE NEIGHBOUR: 'it returns false'. Refute it at one input. -/
def fnExactWholeGroupWrong : ChangeSpec := { name := "fnExactWholeGroup", fn := fun _ => fun
  | [d] => { results := [.lit (.bool false)], args := [d] }
  | _ => none }
def FnExactWholeGroupWrongFalsely : Prop := fnExactWholeGroupRow.holds Try.pinned (OpenSpec.ofChange fnExactWholeGroupWrong)

/-- 'laws.FnExactIsTrivial': WHATEVER THE INPUT: true; the input reads as it did. -/
def fnExactIsTrivialSpec : ChangeSpec := { name := "fnExactIsTrivial", fn := fun _ => fun
  | [d] => { results := [.lit (.bool true)], args := [d] }
  | _ => none }
def fnExactIsTrivialRow : OpenClaim := { program := "ytjnhhhnehkmfmaa", sum := "cb30a11a1afe8f3215fb0cc2c596f2baa723e46cc53f639fb99640c08c0335b0", func := "loop.example/g02075/laws.FnExactIsTrivial", spec := "fnExactIsTrivial", plainKeys := false, apart := false }
def FnExactIsTrivialSaid : Prop := fnExactIsTrivialRow.holds Try.pinned (OpenSpec.ofChange fnExactIsTrivialSpec)

/-- ITS FALSE NEIGHBOUR: 'it returns false'. Refute it at one input. -/
def fnExactIsTrivialWrong : ChangeSpec := { name := "fnExactIsTrivial", fn := fun _ => fun
  | [d] => { results := [.lit (.bool false)], args := [d] }
  | _ => none }
def FnExactIsTrivialWrongFalsely : Prop := fnExactIsTrivialRow.holds Try.pinned (OpenSpec.ofChange fnExactIsTrivialWrong)

/-- 'laws.FnExactIsWhole': WHATEVER THE INPUT: true; the input reads as it did. -/
def fnExactIsWholeSpec : ChangeSpec := { name := "fnExactIsWhole", fn := fun _ => fun
  | [d] => { results := [.lit (.bool true)], args := [d] }
  | _ => none }
def fnExactIsWholeRow : OpenClaim := { program := "ytjnhhhnehkmfmaa", sum := "cb30a11a1afe8f3215fb0cc2c596f2baa723e46cc53f639fb99640c08c0335b0", func := "loop.example/g02075/laws.FnExactIsWhole", spec := "fnExactIsWhole", plainKeys := false, apart := false }
def FnExactIsWholeSaid : Prop := fnExactIsWholeRow.holds Try.pinned (OpenSpec.ofChange fnExactIsWholeSpec)

/-- ITS FALSE NEIGHBOUR: 'it returns false'. Refute it at one input. -/
def fnExactIsWholeWrong : ChangeSpec := { name := "fnExactIsWhole", fn := fun _ => fun
  | [d] => { results := [.lit (.bool false)], args := [d] }
  | _ => none }
def FnExactIsWholeWrongFalsely : Prop := fnExactIsWholeRow.holds Try.pinned (OpenSpec.ofChange fnExactIsWholeWrong)

/-- 'laws.FnExactWalkWord': WHATEVER THE INPUT: true; the input reads as it did. -/
def fnExactWalkWordSpec : ChangeSpec := { name := "fnExactWalkWord", fn := fun _ => fun
  | [d1, d2, d3] => { results := [.lit (.bool true)], args := [d1, d2, d3] }
  | _ => none }
def fnExactWalkWordRow : OpenClaim := { program := "ytjnhhhnehkmfmaa", sum := "cb30a11a1afe8f3215fb0cc2c596f2baa723e46cc53f639fb99640c08c0335b0", func := "loop.example/g02075/laws.FnExactWalkWord", spec := "fnExactWalkWord", plainKeys := false, apart := false }
def FnExactWalkWordSaid : Prop := fnExactWalkWordRow.holds Try.pinned (OpenSpec.ofChange fnExactWalkWordSpec)

/-- ITS FALSE NEIGHBOUR: 'it returns false'. Refute it at one input. -/
def fnExactWalkWordWrong : ChangeSpec := { name := "fnExactWalkWord", fn := fun _ => fun
  | [d1, d2, d3] => { results := [.lit (.bool false)], args := [d1, d2, d3] }
  | _ => none }
def FnExactWalkWordWrongFalsely : Prop := fnExactWalkWordRow.holds Try.pinned (OpenSpec.ofChange fnExactWalkWordWrong)

/-- 'laws.FnExactReadLength': WHATEVER THE INPUT: true; the input reads as it did. -/
def fnExactReadLengthSpec : ChangeSpec := { name := "fnExactReadLength", fn := fun _ => fun
  | [d1, d2, d3] => { results := [.lit (.bool true)], args := [d1, d2, d3] }
  | _ => none }
def fnExactReadLengthRow : OpenClaim := { program := "ytjnhhhnehkmfmaa", sum := "cb30a11a1afe8f3215fb0cc2c596f2baa723e46cc53f639fb99640c08c0335b0", func := "loop.example/g02075/laws.FnExactReadLength", spec := "fnExactReadLength", plainKeys := false, apart := false }
def FnExactReadLengthSaid : Prop := fnExactReadLengthRow.holds Try.pinned (OpenSpec.ofChange fnExactReadLengthSpec)

/-- ITS FALSE NEIGHBOUR: 'it returns false'. Refute it at one input. -/
def fnExactReadLengthWrong : ChangeSpec := { name := "fnExactReadLength", fn := fun _ => fun
  | [d1, d2, d3] => { results := [.lit (.bool false)], args := [d1, d2, d3] }
  | _ => none }
def FnExactReadLengthWrongFalsely : Prop := fnExactReadLengthRow.holds Try.pinned (OpenSpec.ofChange fnExactReadLengthWrong)

/- THE SECOND FORM. 'bulk': how many values and letters a reading holds, each counted each time it is reached (what is shared counts as often as it is met; a slice's spare places count too). A statement '..UptoSaid' is the law's where the arguments, and the package variables that the reading takes, are together of bulk at most 1048576: NARROWER than '..Said'. Prove '..Said' where nothing that the law and all that it calls make is longer than what came in: it says more and counts as full. Else prove '..UptoSaid'. A law counts once. -/
mutual
def uptoBulk {H : Type} : DataW H → Nat
  | .lit (.string bytes) => bytes.length + 1
  | .lit _ => 1
  | .nil => 1
  | .ptr d => uptoBulk d + 1
  | .slice elems spare => uptoBulkAll elems + uptoBulkAll spare + 1
  | .agg parts => uptoBulkAll parts + 1
  | .iface _ d => uptoBulk d + 1
  | .map entries => uptoBulkEntries entries + 1
  | .held _ => 1
def uptoBulkAll {H : Type} : List (DataW H) → Nat
  | [] => 0
  | d :: r => uptoBulk d + uptoBulkAll r
def uptoBulkEntries {H : Type} : List (Lit × DataW H) → Nat
  | [] => 0
  | x :: r => uptoBulkEntry x + uptoBulkEntries r
def uptoBulkEntry {H : Type} : Lit × DataW H → Nat
  | (.string bytes, d) => bytes.length + uptoBulk d + 1
  | (_, d) => uptoBulk d + 1
 end
def uptoSmall : (H : Type) → List (DataW H) → Bool := fun _ ds => decide (uptoBulkAll ds ≤ 1048576)
def OpenSpec.upto (s : _root_.Go.ChangeSpec) : _root_.Go.OpenSpec := { _root_.Go.OpenSpec.ofChange s with cond := some uptoSmall }

/-- 'laws.FnExactIsSubgroup', WHERE WHAT IT READS IS OF BULK AT MOST 1048576: true; the input reads as it did. -/
def fnExactIsSubgroupUptoRow : OpenClaim := { program := "ytjnhhhnehkmfmaa", sum := "cb30a11a1afe8f3215fb0cc2c596f2baa723e46cc53f639fb99640c08c0335b0", func := "loop.example/g02075/laws.FnExactIsSubgroup", spec := "fnExactIsSubgroup", unfollowed := true, recurses := true, plainKeys := false, apart := false, narrowed := true }
def FnExactIsSubgroupUptoSaid : Prop := fnExactIsSubgroupUptoRow.holds Try.pinned (OpenSpec.upto fnExactIsSubgroupSpec)

/-- 'laws.FnExactContains', WHERE WHAT IT READS IS OF BULK AT MOST 1048576: true; the input reads as it did. -/
def fnExactContainsUptoRow : OpenClaim := { program := "ytjnhhhnehkmfmaa", sum := "cb30a11a1afe8f3215fb0cc2c596f2baa723e46cc53f639fb99640c08c0335b0", func := "loop.example/g02075/laws.FnExactContains", spec := "fnExactContains", unfollowed := true, recurses := true, plainKeys := false, apart := false, narrowed := true }
def FnExactContainsUptoSaid : Prop := fnExactContainsUptoRow.holds Try.pinned (OpenSpec.upto fnExactContainsSpec)

/-- 'laws.FnExactIsInside', WHERE WHAT IT READS IS OF BULK AT MOST 1048576: true; the input reads as it did. -/
def fnExactIsInsideUptoRow : OpenClaim := { program := "ytjnhhhnehkmfmaa", sum := "cb30a11a1afe8f3215fb0cc2c596f2baa723e46cc53f639fb99640c08c0335b0", func := "loop.example/g02075/laws.FnExactIsInside", spec := "fnExactIsInside", unfollowed := true, recurses := true, plainKeys := false, apart := false, narrowed := true }
def FnExactIsInsideUptoSaid : Prop := fnExactIsInsideUptoRow.holds Try.pinned (OpenSpec.upto fnExactIsInsideSpec)

/-- 'laws.FnExactTrivialSubgroup', WHERE WHAT IT READS IS OF BULK AT MOST 1048576: true; the input reads as it did. -/
def fnExactTrivialSubgroupUptoRow : OpenClaim := { program := "ytjnhhhnehkmfmaa", sum := "cb30a11a1afe8f3215fb0cc2c596f2baa723e46cc53f639fb99640c08c0335b0", func := "loop.example/g02075/laws.FnExactTrivialSubgroup", spec := "fnExactTrivialSubgroup", plainKeys := false, apart := false, narrowed := true }
def FnExactTrivialSubgroupUptoSaid : Prop := fnExactTrivialSubgroupUptoRow.holds Try.pinned (OpenSpec.upto fnExactTrivialSubgroupSpec)

/-- 'laws.FnExactWholeGroup', WHERE WHAT IT READS IS OF BULK AT MOST 1048576: true; the input reads as it did. -/
def fnExactWholeGroupUptoRow : OpenClaim := { program := "ytjnhhhnehkmfmaa", sum := "cb30a11a1afe8f3215fb0cc2c596f2baa723e46cc53f639fb99640c08c0335b0", func := "loop.example/g02075/laws.FnExactWholeGroup", spec := "fnExactWholeGroup", plainKeys := false, apart := false, narrowed := true }
def FnExactWholeGroupUptoSaid : Prop := fnExactWholeGroupUptoRow.holds Try.pinned (OpenSpec.upto fnExactWholeGroupSpec)

/-- 'laws.FnExactIsTrivial', WHERE WHAT IT READS IS OF BULK AT MOST 1048576: true; the input reads as it did. -/
def fnExactIsTrivialUptoRow : OpenClaim := { program := "ytjnhhhnehkmfmaa", sum := "cb30a11a1afe8f3215fb0cc2c596f2baa723e46cc53f639fb99640c08c0335b0", func := "loop.example/g02075/laws.FnExactIsTrivial", spec := "fnExactIsTrivial", plainKeys := false, apart := false, narrowed := true }
def FnExactIsTrivialUptoSaid : Prop := fnExactIsTrivialUptoRow.holds Try.pinned (OpenSpec.upto fnExactIsTrivialSpec)

/-- 'laws.FnExactIsWhole', WHERE WHAT IT READS IS OF BULK AT MOST 1048576: true; the input reads as it did. -/
def fnExactIsWholeUptoRow : OpenClaim := { program := "ytjnhhhnehkmfmaa", sum := "cb30a11a1afe8f3215fb0cc2c596f2baa723e46cc53f639fb99640c08c0335b0", func := "loop.example/g02075/laws.FnExactIsWhole", spec := "fnExactIsWhole", plainKeys := false, apart := false, narrowed := true }
def FnExactIsWholeUptoSaid : Prop := fnExactIsWholeUptoRow.holds Try.pinned (OpenSpec.upto fnExactIsWholeSpec)

/-- 'laws.FnExactWalkWord', WHERE WHAT IT READS IS OF BULK AT MOST 1048576: true; the input reads as it did. -/
def fnExactWalkWordUptoRow : OpenClaim := { program := "ytjnhhhnehkmfmaa", sum := "cb30a11a1afe8f3215fb0cc2c596f2baa723e46cc53f639fb99640c08c0335b0", func := "loop.example/g02075/laws.FnExactWalkWord", spec := "fnExactWalkWord", plainKeys := false, apart := false, narrowed := true }
def FnExactWalkWordUptoSaid : Prop := fnExactWalkWordUptoRow.holds Try.pinned (OpenSpec.upto fnExactWalkWordSpec)

/-- 'laws.FnExactReadLength', WHERE WHAT IT READS IS OF BULK AT MOST 1048576: true; the input reads as it did. -/
def fnExactReadLengthUptoRow : OpenClaim := { program := "ytjnhhhnehkmfmaa", sum := "cb30a11a1afe8f3215fb0cc2c596f2baa723e46cc53f639fb99640c08c0335b0", func := "loop.example/g02075/laws.FnExactReadLength", spec := "fnExactReadLength", plainKeys := false, apart := false, narrowed := true }
def FnExactReadLengthUptoSaid : Prop := fnExactReadLengthUptoRow.holds Try.pinned (OpenSpec.upto fnExactReadLengthSpec)

end Rows
end Go.Proofs.Ytjnhhhnehkmfmaa
