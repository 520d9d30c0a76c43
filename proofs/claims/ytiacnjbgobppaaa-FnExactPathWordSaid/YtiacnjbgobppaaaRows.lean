/-
  No cell of these rows narrows 'for every input' (looked for: loops, veiled, ifaces, maps, wideKeys, modest, calm, conditions, laid).
  DERIVED. THE GIVEN ROWS OF THIS SEAT. 7 by the template 'for every input the law returns true; each argument reads behind the call as it read before'; 0 by the template 'total and deterministic' (their statements: YtiacnjbgobppaaaTotals.lean).
  GIVEN WITH THE SEED: the statements are not yours to turn. If you find one false, say at which input.
  Laid BY PROGRAM, IN A SANDBOX (cutbox-rows.mjs): the forced cells as the released guide's own fill.sh prints them over the translation 01d9d446c11ebac0… (all of the seat's roots in one cut). By AI agents, Wed Nov 11 2026. No macro, syntax, notation, axiom, sorry.
-/
import Derived.Test.YtiacnjbgobppaaaChecked
import GoSem.Claim
import GoSem.ClaimJoined
import GoSem.ClaimMapViews
import Derived.JoinedTies
import Derived.KernelRfl
namespace Go.Proofs.Ytiacnjbgobppaaa
/- THE CELL 'sum', in the pinned program and in every row, IS THE sha256 OF THE DUMP (.gsa) THAT YtiacnjbgobppaaaProg.lean LOADS. Nothing in Lean hashes anything: it is a label: what it is worth is what the hold of that sum in a sandbox is worth. -/
noncomputable def Try.pinned : Pinned := { name := "ytiacnjbgobppaaa", sum := "01d9d446c11ebac0b5ad43c26ed5efa2604b7c4dfb52fd7a9ed625ac12fb2a5d", checked := Try.checked }
namespace Rows
def none {H : Type} : Left H := { results := [], args := [] }

/-- 'laws.FnExactIsFolded': WHATEVER THE INPUT: true; the input reads as it did. -/
def fnExactIsFoldedSpec : ChangeSpec := { name := "fnExactIsFolded", fn := fun _ => fun
  | [d] => { results := [.lit (.bool true)], args := [d] }
  | _ => none }
def fnExactIsFoldedRow : OpenClaim := { program := "ytiacnjbgobppaaa", sum := "01d9d446c11ebac0b5ad43c26ed5efa2604b7c4dfb52fd7a9ed625ac12fb2a5d", func := "loop.example/g02075/laws.FnExactIsFolded", spec := "fnExactIsFolded", plainKeys := false, apart := false }
def FnExactIsFoldedSaid : Prop := fnExactIsFoldedRow.holds Try.pinned (OpenSpec.ofChange fnExactIsFoldedSpec)

/-- ITS FALSE NEIGHBOUR: 'it returns false'. Refute it at one input. -/
def fnExactIsFoldedWrong : ChangeSpec := { name := "fnExactIsFolded", fn := fun _ => fun
  | [d] => { results := [.lit (.bool false)], args := [d] }
  | _ => none }
def FnExactIsFoldedWrongFalsely : Prop := fnExactIsFoldedRow.holds Try.pinned (OpenSpec.ofChange fnExactIsFoldedWrong)

/-- 'laws.FnExactWalkWord': WHATEVER THE INPUT: true; the input reads as it did. -/
def fnExactWalkWordSpec : ChangeSpec := { name := "fnExactWalkWord", fn := fun _ => fun
  | [d1, d2, d3] => { results := [.lit (.bool true)], args := [d1, d2, d3] }
  | _ => none }
def fnExactWalkWordRow : OpenClaim := { program := "ytiacnjbgobppaaa", sum := "01d9d446c11ebac0b5ad43c26ed5efa2604b7c4dfb52fd7a9ed625ac12fb2a5d", func := "loop.example/g02075/laws.FnExactWalkWord", spec := "fnExactWalkWord", plainKeys := false, apart := false }
def FnExactWalkWordSaid : Prop := fnExactWalkWordRow.holds Try.pinned (OpenSpec.ofChange fnExactWalkWordSpec)

/-- ITS FALSE NEIGHBOUR: 'it returns false'. Refute it at one input. -/
def fnExactWalkWordWrong : ChangeSpec := { name := "fnExactWalkWord", fn := fun _ => fun
  | [d1, d2, d3] => { results := [.lit (.bool false)], args := [d1, d2, d3] }
  | _ => none }
def FnExactWalkWordWrongFalsely : Prop := fnExactWalkWordRow.holds Try.pinned (OpenSpec.ofChange fnExactWalkWordWrong)

/-- 'laws.FnExactReadLength': WHATEVER THE INPUT: true; the input reads as it did. -/
def fnExactReadLengthSpec : ChangeSpec := { name := "fnExactReadLength", fn := fun _ => fun
  | [d1, d2, d3] => { results := [.lit (.bool true)], args := [d1, d2, d3] }
  | _ => none }
def fnExactReadLengthRow : OpenClaim := { program := "ytiacnjbgobppaaa", sum := "01d9d446c11ebac0b5ad43c26ed5efa2604b7c4dfb52fd7a9ed625ac12fb2a5d", func := "loop.example/g02075/laws.FnExactReadLength", spec := "fnExactReadLength", plainKeys := false, apart := false }
def FnExactReadLengthSaid : Prop := fnExactReadLengthRow.holds Try.pinned (OpenSpec.ofChange fnExactReadLengthSpec)

/-- ITS FALSE NEIGHBOUR: 'it returns false'. Refute it at one input. -/
def fnExactReadLengthWrong : ChangeSpec := { name := "fnExactReadLength", fn := fun _ => fun
  | [d1, d2, d3] => { results := [.lit (.bool false)], args := [d1, d2, d3] }
  | _ => none }
def FnExactReadLengthWrongFalsely : Prop := fnExactReadLengthRow.holds Try.pinned (OpenSpec.ofChange fnExactReadLengthWrong)

/-- 'laws.FnExactReachedFrom': WHATEVER THE INPUT: true; the input reads as it did. -/
def fnExactReachedFromSpec : ChangeSpec := { name := "fnExactReachedFrom", fn := fun _ => fun
  | [d1, d2] => { results := [.lit (.bool true)], args := [d1, d2] }
  | _ => none }
def fnExactReachedFromRow : OpenClaim := { program := "ytiacnjbgobppaaa", sum := "01d9d446c11ebac0b5ad43c26ed5efa2604b7c4dfb52fd7a9ed625ac12fb2a5d", func := "loop.example/g02075/laws.FnExactReachedFrom", spec := "fnExactReachedFrom", plainKeys := false, apart := false }
def FnExactReachedFromSaid : Prop := fnExactReachedFromRow.holds Try.pinned (OpenSpec.ofChange fnExactReachedFromSpec)

/-- ITS FALSE NEIGHBOUR: 'it returns false'. Refute it at one input. -/
def fnExactReachedFromWrong : ChangeSpec := { name := "fnExactReachedFrom", fn := fun _ => fun
  | [d1, d2] => { results := [.lit (.bool false)], args := [d1, d2] }
  | _ => none }
def FnExactReachedFromWrongFalsely : Prop := fnExactReachedFromRow.holds Try.pinned (OpenSpec.ofChange fnExactReachedFromWrong)

/-- 'laws.FnExactIsConnected': WHATEVER THE INPUT: true; the input reads as it did. -/
def fnExactIsConnectedSpec : ChangeSpec := { name := "fnExactIsConnected", fn := fun _ => fun
  | [d] => { results := [.lit (.bool true)], args := [d] }
  | _ => none }
def fnExactIsConnectedRow : OpenClaim := { program := "ytiacnjbgobppaaa", sum := "01d9d446c11ebac0b5ad43c26ed5efa2604b7c4dfb52fd7a9ed625ac12fb2a5d", func := "loop.example/g02075/laws.FnExactIsConnected", spec := "fnExactIsConnected", plainKeys := false, apart := false }
def FnExactIsConnectedSaid : Prop := fnExactIsConnectedRow.holds Try.pinned (OpenSpec.ofChange fnExactIsConnectedSpec)

/-- ITS FALSE NEIGHBOUR: 'it returns false'. Refute it at one input. -/
def fnExactIsConnectedWrong : ChangeSpec := { name := "fnExactIsConnected", fn := fun _ => fun
  | [d] => { results := [.lit (.bool false)], args := [d] }
  | _ => none }
def FnExactIsConnectedWrongFalsely : Prop := fnExactIsConnectedRow.holds Try.pinned (OpenSpec.ofChange fnExactIsConnectedWrong)

/-- 'laws.FnExactPathWord': WHATEVER THE INPUT: true; the input reads as it did. -/
def fnExactPathWordSpec : ChangeSpec := { name := "fnExactPathWord", fn := fun _ => fun
  | [d1, d2, d3] => { results := [.lit (.bool true)], args := [d1, d2, d3] }
  | _ => none }
def fnExactPathWordRow : OpenClaim := { program := "ytiacnjbgobppaaa", sum := "01d9d446c11ebac0b5ad43c26ed5efa2604b7c4dfb52fd7a9ed625ac12fb2a5d", func := "loop.example/g02075/laws.FnExactPathWord", spec := "fnExactPathWord", unfollowed := true, recurses := true, plainKeys := false, apart := false }
def FnExactPathWordSaid : Prop := fnExactPathWordRow.holds Try.pinned (OpenSpec.ofChange fnExactPathWordSpec)

/-- ITS FALSE NEIGHBOUR: 'it returns false'. Refute it at one input. -/
def fnExactPathWordWrong : ChangeSpec := { name := "fnExactPathWord", fn := fun _ => fun
  | [d1, d2, d3] => { results := [.lit (.bool false)], args := [d1, d2, d3] }
  | _ => none }
def FnExactPathWordWrongFalsely : Prop := fnExactPathWordRow.holds Try.pinned (OpenSpec.ofChange fnExactPathWordWrong)

/-- 'laws.FnExactLoopWords': WHATEVER THE INPUT: true; the input reads as it did. -/
def fnExactLoopWordsSpec : ChangeSpec := { name := "fnExactLoopWords", fn := fun _ => fun
  | [d1, d2, d3] => { results := [.lit (.bool true)], args := [d1, d2, d3] }
  | _ => none }
def fnExactLoopWordsRow : OpenClaim := { program := "ytiacnjbgobppaaa", sum := "01d9d446c11ebac0b5ad43c26ed5efa2604b7c4dfb52fd7a9ed625ac12fb2a5d", func := "loop.example/g02075/laws.FnExactLoopWords", spec := "fnExactLoopWords", plainKeys := false, apart := false }
def FnExactLoopWordsSaid : Prop := fnExactLoopWordsRow.holds Try.pinned (OpenSpec.ofChange fnExactLoopWordsSpec)

/-- ITS FALSE NEIGHBOUR: 'it returns false'. Refute it at one input. -/
def fnExactLoopWordsWrong : ChangeSpec := { name := "fnExactLoopWords", fn := fun _ => fun
  | [d1, d2, d3] => { results := [.lit (.bool false)], args := [d1, d2, d3] }
  | _ => none }
def FnExactLoopWordsWrongFalsely : Prop := fnExactLoopWordsRow.holds Try.pinned (OpenSpec.ofChange fnExactLoopWordsWrong)

/- THE SECOND FORM. 'bulk': how many values and letters a reading holds, each counted each time it is reached (what is shared counts as often as it is met; a slice's spare places count too). A statement '..UptoSaid' is the law's where the arguments, and the package variables that the reading takes, are together of bulk at most 1048576: NARROWER than '..Said'. Prove '..Said' where nothing that the law and all that it calls make is longer than what came in: it says more and counts as full. Else prove '..UptoSaid'. A law counts once. -/
mutual
def uptoBulk {H : Type} : DataW H → Nat
  | .lit (.string bytes) => bytes.length + 1
  | .lit _ => 1
  | .nil => 1
  | .ptr d => uptoBulk d + 1
  | .slice elems spare => uptoBulkAll elems + uptoBulkAll spare + 1
  | .agg parts => uptoBulkAll parts + 1
  | .iface _ d => uptoBulk d + 1
  | .map entries => uptoBulkEntries entries + 1
  | .held _ => 1
def uptoBulkAll {H : Type} : List (DataW H) → Nat
  | [] => 0
  | d :: r => uptoBulk d + uptoBulkAll r
def uptoBulkEntries {H : Type} : List (Lit × DataW H) → Nat
  | [] => 0
  | x :: r => uptoBulkEntry x + uptoBulkEntries r
def uptoBulkEntry {H : Type} : Lit × DataW H → Nat
  | (.string bytes, d) => bytes.length + uptoBulk d + 1
  | (_, d) => uptoBulk d + 1
 end
def uptoSmall : (H : Type) → List (DataW H) → Bool := fun _ ds => decide (uptoBulkAll ds ≤ 1048576)
def OpenSpec.upto (s : _root_.Go.ChangeSpec) : _root_.Go.OpenSpec := { _root_.Go.OpenSpec.ofChange s with cond := some uptoSmall }

/-- 'laws.FnExactIsFolded', WHERE WHAT IT READS IS OF BULK AT MOST 1048576: true; the input reads as it did. -/
def fnExactIsFoldedUptoRow : OpenClaim := { program := "ytiacnjbgobppaaa", sum := "01d9d446c11ebac0b5ad43c26ed5efa2604b7c4dfb52fd7a9ed625ac12fb2a5d", func := "loop.example/g02075/laws.FnExactIsFolded", spec := "fnExactIsFolded", plainKeys := false, apart := false, narrowed := true }
def FnExactIsFoldedUptoSaid : Prop := fnExactIsFoldedUptoRow.holds Try.pinned (OpenSpec.upto fnExactIsFoldedSpec)

/-- 'laws.FnExactWalkWord', WHERE WHAT IT READS IS OF BULK AT MOST 1048576: true; the input reads as it did. -/
def fnExactWalkWordUptoRow : OpenClaim := { program := "ytiacnjbgobppaaa", sum := "01d9d446c11ebac0b5ad43c26ed5efa2604b7c4dfb52fd7a9ed625ac12fb2a5d", func := "loop.example/g02075/laws.FnExactWalkWord", spec := "fnExactWalkWord", plainKeys := false, apart := false, narrowed := true }
def FnExactWalkWordUptoSaid : Prop := fnExactWalkWordUptoRow.holds Try.pinned (OpenSpec.upto fnExactWalkWordSpec)

/-- 'laws.FnExactReadLength', WHERE WHAT IT READS IS OF BULK AT MOST 1048576: true; the input reads as it did. -/
def fnExactReadLengthUptoRow : OpenClaim := { program := "ytiacnjbgobppaaa", sum := "01d9d446c11ebac0b5ad43c26ed5efa2604b7c4dfb52fd7a9ed625ac12fb2a5d", func := "loop.example/g02075/laws.FnExactReadLength", spec := "fnExactReadLength", plainKeys := false, apart := false, narrowed := true }
def FnExactReadLengthUptoSaid : Prop := fnExactReadLengthUptoRow.holds Try.pinned (OpenSpec.upto fnExactReadLengthSpec)

/-- 'laws.FnExactReachedFrom', WHERE WHAT IT READS IS OF BULK AT MOST 1048576: true; the input reads as it did. -/
def fnExactReachedFromUptoRow : OpenClaim := { program := "ytiacnjbgobppaaa", sum := "01d9d446c11ebac0b5ad43c26ed5efa2604b7c4dfb52fd7a9ed625ac12fb2a5d", func := "loop.example/g02075/laws.FnExactReachedFrom", spec := "fnExactReachedFrom", plainKeys := false, apart := false, narrowed := true }
def FnExactReachedFromUptoSaid : Prop := fnExactReachedFromUptoRow.holds Try.pinned (OpenSpec.upto fnExactReachedFromSpec)

/-- 'laws.FnExactIsConnected', WHERE WHAT IT READS IS OF BULK AT MOST 1048576: true; the input reads as it did. -/
def fnExactIsConnectedUptoRow : OpenClaim := { program := "ytiacnjbgobppaaa", sum := "01d9d446c11ebac0b5ad43c26ed5efa2604b7c4dfb52fd7a9ed625ac12fb2a5d", func := "loop.example/g02075/laws.FnExactIsConnected", spec := "fnExactIsConnected", plainKeys := false, apart := false, narrowed := true }
def FnExactIsConnectedUptoSaid : Prop := fnExactIsConnectedUptoRow.holds Try.pinned (OpenSpec.upto fnExactIsConnectedSpec)

/-- 'laws.FnExactPathWord', WHERE WHAT IT READS IS OF BULK AT MOST 1048576: true; the input reads as it did. -/
def fnExactPathWordUptoRow : OpenClaim := { program := "ytiacnjbgobppaaa", sum := "01d9d446c11ebac0b5ad43c26ed5efa2604b7c4dfb52fd7a9ed625ac12fb2a5d", func := "loop.example/g02075/laws.FnExactPathWord", spec := "fnExactPathWord", unfollowed := true, recurses := true, plainKeys := false, apart := false, narrowed := true }
def FnExactPathWordUptoSaid : Prop := fnExactPathWordUptoRow.holds Try.pinned (OpenSpec.upto fnExactPathWordSpec)

/-- 'laws.FnExactLoopWords', WHERE WHAT IT READS IS OF BULK AT MOST 1048576: true; the input reads as it did. -/
def fnExactLoopWordsUptoRow : OpenClaim := { program := "ytiacnjbgobppaaa", sum := "01d9d446c11ebac0b5ad43c26ed5efa2604b7c4dfb52fd7a9ed625ac12fb2a5d", func := "loop.example/g02075/laws.FnExactLoopWords", spec := "fnExactLoopWords", plainKeys := false, apart := false, narrowed := true }
def FnExactLoopWordsUptoSaid : Prop := fnExactLoopWordsUptoRow.holds Try.pinned (OpenSpec.upto fnExactLoopWordsSpec)

end Rows
end Go.Proofs.Ytiacnjbgobppaaa
