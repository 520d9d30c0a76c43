/-
  No cell of these rows narrows 'for every input' (looked for: loops, veiled, ifaces, maps, wideKeys, modest, calm, conditions, laid).
  DERIVED. THE GIVEN ROWS OF THIS SEAT. 8 by the template 'for every input the law returns true; each argument reads behind the call as it read before'; 0 by the template 'total and deterministic' (their statements: YtmecdboeckmmfaaTotals.lean).
  GIVEN WITH THE SEED: the statements are not yours to turn. If you find one false, say at which input.
  Laid BY PROGRAM, IN A SANDBOX (cutbox-rows.mjs): the forced cells as the released guide's own fill.sh prints them over the translation fb0267b09d74b95a… (all of the seat's roots in one cut). By AI agents, Wed Nov 11 2026. No macro, syntax, notation, axiom, sorry.
-/
import Derived.Test.YtmecdboeckmmfaaChecked
import GoSem.Claim
import GoSem.ClaimJoined
import GoSem.ClaimMapViews
import Derived.JoinedTies
import Derived.KernelRfl
namespace Go.Proofs.Ytmecdboeckmmfaa
/- THE CELL 'sum', in the pinned program and in every row, IS THE sha256 OF THE DUMP (.gsa) THAT YtmecdboeckmmfaaProg.lean LOADS. Nothing in Lean hashes anything: it is a label: what it is worth is what the hold of that sum in a sandbox is worth. -/
noncomputable def Try.pinned : Pinned := { name := "ytmecdboeckmmfaa", sum := "fb0267b09d74b95af0d0365a2fc515a6f0084281596d7a355efbaa2128f0428a", checked := Try.checked }
namespace Rows
def none {H : Type} : Left H := { results := [], args := [] }

/-- 'laws.FnExactLoopWords': WHATEVER THE INPUT: true; the input reads as it did. -/
def fnExactLoopWordsSpec : ChangeSpec := { name := "fnExactLoopWords", fn := fun _ => fun
  | [d1, d2, d3] => { results := [.lit (.bool true)], args := [d1, d2, d3] }
  | _ => none }
def fnExactLoopWordsRow : OpenClaim := { program := "ytmecdboeckmmfaa", sum := "fb0267b09d74b95af0d0365a2fc515a6f0084281596d7a355efbaa2128f0428a", func := "loop.example/g02075/laws.FnExactLoopWords", spec := "fnExactLoopWords", plainKeys := false, apart := false }
def FnExactLoopWordsSaid : Prop := fnExactLoopWordsRow.holds Try.pinned (OpenSpec.ofChange fnExactLoopWordsSpec)

/-- ITS FALSE NEIGHBOUR: 'it returns false'. Refute it at one input. -/
def fnExactLoopWordsWrong : ChangeSpec := { name := "fnExactLoopWords", fn := fun _ => fun
  | [d1, d2, d3] => { results := [.lit (.bool false)], args := [d1, d2, d3] }
  | _ => none }
def FnExactLoopWordsWrongFalsely : Prop := fnExactLoopWordsRow.holds Try.pinned (OpenSpec.ofChange fnExactLoopWordsWrong)

/-- 'laws.FnExactAreWords': WHATEVER THE INPUT: true; the input reads as it did. -/
def fnExactAreWordsSpec : ChangeSpec := { name := "fnExactAreWords", fn := fun _ => fun
  | [d1, d2] => { results := [.lit (.bool true)], args := [d1, d2] }
  | _ => none }
def fnExactAreWordsRow : OpenClaim := { program := "ytmecdboeckmmfaa", sum := "fb0267b09d74b95af0d0365a2fc515a6f0084281596d7a355efbaa2128f0428a", func := "loop.example/g02075/laws.FnExactAreWords", spec := "fnExactAreWords", unfollowed := true, recurses := true, plainKeys := false, apart := false }
def FnExactAreWordsSaid : Prop := fnExactAreWordsRow.holds Try.pinned (OpenSpec.ofChange fnExactAreWordsSpec)

/-- ITS FALSE NEIGHBOUR: 'it returns false'. Refute it at one input. -/
def fnExactAreWordsWrong : ChangeSpec := { name := "fnExactAreWords", fn := fun _ => fun
  | [d1, d2] => { results := [.lit (.bool false)], args := [d1, d2] }
  | _ => none }
def FnExactAreWordsWrongFalsely : Prop := fnExactAreWordsRow.holds Try.pinned (OpenSpec.ofChange fnExactAreWordsWrong)

/-- 'laws.FnExactAddPath': WHATEVER THE INPUT: true; the input reads as it did. -/
def fnExactAddPathSpec : ChangeSpec := { name := "fnExactAddPath", fn := fun _ => fun
  | [d1, d2, d3, d4] => { results := [.lit (.bool true)], args := [d1, d2, d3, d4] }
  | _ => none }
def fnExactAddPathRow : OpenClaim := { program := "ytmecdboeckmmfaa", sum := "fb0267b09d74b95af0d0365a2fc515a6f0084281596d7a355efbaa2128f0428a", func := "loop.example/g02075/laws.FnExactAddPath", spec := "fnExactAddPath", unfollowed := true, recurses := true, plainKeys := false, apart := false }
def FnExactAddPathSaid : Prop := fnExactAddPathRow.holds Try.pinned (OpenSpec.ofChange fnExactAddPathSpec)

/-- ITS FALSE NEIGHBOUR: 'it returns false'. Refute it at one input. -/
def fnExactAddPathWrong : ChangeSpec := { name := "fnExactAddPath", fn := fun _ => fun
  | [d1, d2, d3, d4] => { results := [.lit (.bool false)], args := [d1, d2, d3, d4] }
  | _ => none }
def FnExactAddPathWrongFalsely : Prop := fnExactAddPathRow.holds Try.pinned (OpenSpec.ofChange fnExactAddPathWrong)

/-- 'laws.FnExactAddPetal': WHATEVER THE INPUT: true; the input reads as it did. -/
def fnExactAddPetalSpec : ChangeSpec := { name := "fnExactAddPetal", fn := fun _ => fun
  | [d1, d2] => { results := [.lit (.bool true)], args := [d1, d2] }
  | _ => none }
def fnExactAddPetalRow : OpenClaim := { program := "ytmecdboeckmmfaa", sum := "fb0267b09d74b95af0d0365a2fc515a6f0084281596d7a355efbaa2128f0428a", func := "loop.example/g02075/laws.FnExactAddPetal", spec := "fnExactAddPetal", unfollowed := true, recurses := true, plainKeys := false, apart := false }
def FnExactAddPetalSaid : Prop := fnExactAddPetalRow.holds Try.pinned (OpenSpec.ofChange fnExactAddPetalSpec)

/-- ITS FALSE NEIGHBOUR: 'it returns false'. Refute it at one input. -/
def fnExactAddPetalWrong : ChangeSpec := { name := "fnExactAddPetal", fn := fun _ => fun
  | [d1, d2] => { results := [.lit (.bool false)], args := [d1, d2] }
  | _ => none }
def FnExactAddPetalWrongFalsely : Prop := fnExactAddPetalRow.holds Try.pinned (OpenSpec.ofChange fnExactAddPetalWrong)

/-- 'laws.FnExactFlowerOf': WHATEVER THE INPUT: true; the input reads as it did. -/
def fnExactFlowerOfSpec : ChangeSpec := { name := "fnExactFlowerOf", fn := fun _ => fun
  | [d1, d2] => { results := [.lit (.bool true)], args := [d1, d2] }
  | _ => none }
def fnExactFlowerOfRow : OpenClaim := { program := "ytmecdboeckmmfaa", sum := "fb0267b09d74b95af0d0365a2fc515a6f0084281596d7a355efbaa2128f0428a", func := "loop.example/g02075/laws.FnExactFlowerOf", spec := "fnExactFlowerOf", unfollowed := true, recurses := true, plainKeys := false, apart := false }
def FnExactFlowerOfSaid : Prop := fnExactFlowerOfRow.holds Try.pinned (OpenSpec.ofChange fnExactFlowerOfSpec)

/-- ITS FALSE NEIGHBOUR: 'it returns false'. Refute it at one input. -/
def fnExactFlowerOfWrong : ChangeSpec := { name := "fnExactFlowerOf", fn := fun _ => fun
  | [d1, d2] => { results := [.lit (.bool false)], args := [d1, d2] }
  | _ => none }
def FnExactFlowerOfWrongFalsely : Prop := fnExactFlowerOfRow.holds Try.pinned (OpenSpec.ofChange fnExactFlowerOfWrong)

/-- 'laws.FnExactTotalLength': WHATEVER THE INPUT: true; the input reads as it did. -/
def fnExactTotalLengthSpec : ChangeSpec := { name := "fnExactTotalLength", fn := fun _ => fun
  | [d] => { results := [.lit (.bool true)], args := [d] }
  | _ => none }
def fnExactTotalLengthRow : OpenClaim := { program := "ytmecdboeckmmfaa", sum := "fb0267b09d74b95af0d0365a2fc515a6f0084281596d7a355efbaa2128f0428a", func := "loop.example/g02075/laws.FnExactTotalLength", spec := "fnExactTotalLength", plainKeys := false, apart := false }
def FnExactTotalLengthSaid : Prop := fnExactTotalLengthRow.holds Try.pinned (OpenSpec.ofChange fnExactTotalLengthSpec)

/-- ITS FALSE NEIGHBOUR: 'it returns false'. Refute it at one input. -/
def fnExactTotalLengthWrong : ChangeSpec := { name := "fnExactTotalLength", fn := fun _ => fun
  | [d] => { results := [.lit (.bool false)], args := [d] }
  | _ => none }
def FnExactTotalLengthWrongFalsely : Prop := fnExactTotalLengthRow.holds Try.pinned (OpenSpec.ofChange fnExactTotalLengthWrong)

/-- 'laws.FnExactFormatWords': WHATEVER THE INPUT: true; the input reads as it did. -/
def fnExactFormatWordsSpec : ChangeSpec := { name := "fnExactFormatWords", fn := fun _ => fun
  | [d] => { results := [.lit (.bool true)], args := [d] }
  | _ => none }
def fnExactFormatWordsRow : OpenClaim := { program := "ytmecdboeckmmfaa", sum := "fb0267b09d74b95af0d0365a2fc515a6f0084281596d7a355efbaa2128f0428a", func := "loop.example/g02075/laws.FnExactFormatWords", spec := "fnExactFormatWords", inPlace := ["internal/abi.NoEscape", "internal/bytealg.MakeNoZero"], plainKeys := false, apart := false }
def FnExactFormatWordsSaid : Prop := fnExactFormatWordsRow.holds Try.pinned (OpenSpec.ofChange fnExactFormatWordsSpec)

/-- ITS FALSE NEIGHBOUR: 'it returns false'. Refute it at one input. -/
def fnExactFormatWordsWrong : ChangeSpec := { name := "fnExactFormatWords", fn := fun _ => fun
  | [d] => { results := [.lit (.bool false)], args := [d] }
  | _ => none }
def FnExactFormatWordsWrongFalsely : Prop := fnExactFormatWordsRow.holds Try.pinned (OpenSpec.ofChange fnExactFormatWordsWrong)

/-- 'laws.FnExactEqualWordLists': WHATEVER THE INPUT: true; the input reads as it did. -/
def fnExactEqualWordListsSpec : ChangeSpec := { name := "fnExactEqualWordLists", fn := fun _ => fun
  | [d1, d2] => { results := [.lit (.bool true)], args := [d1, d2] }
  | _ => none }
def fnExactEqualWordListsRow : OpenClaim := { program := "ytmecdboeckmmfaa", sum := "fb0267b09d74b95af0d0365a2fc515a6f0084281596d7a355efbaa2128f0428a", func := "loop.example/g02075/laws.FnExactEqualWordLists", spec := "fnExactEqualWordLists", unfollowed := true, recurses := true, plainKeys := false, apart := false }
def FnExactEqualWordListsSaid : Prop := fnExactEqualWordListsRow.holds Try.pinned (OpenSpec.ofChange fnExactEqualWordListsSpec)

/-- ITS FALSE NEIGHBOUR: 'it returns false'. Refute it at one input. -/
def fnExactEqualWordListsWrong : ChangeSpec := { name := "fnExactEqualWordLists", fn := fun _ => fun
  | [d1, d2] => { results := [.lit (.bool false)], args := [d1, d2] }
  | _ => none }
def FnExactEqualWordListsWrongFalsely : Prop := fnExactEqualWordListsRow.holds Try.pinned (OpenSpec.ofChange fnExactEqualWordListsWrong)

/- THE SECOND FORM. 'bulk': how many values and letters a reading holds, each counted each time it is reached (what is shared counts as often as it is met; a slice's spare places count too). A statement '..UptoSaid' is the law's where the arguments, and the package variables that the reading takes, are together of bulk at most 1048576: NARROWER than '..Said'. Prove '..Said' where nothing that the law and all that it calls make is longer than what came in: it says more and counts as full. Else prove '..UptoSaid'. A law counts once. -/
mutual
def uptoBulk {H : Type} : DataW H → Nat
  | .lit (.string bytes) => bytes.length + 1
  | .lit _ => 1
  | .nil => 1
  | .ptr d => uptoBulk d + 1
  | .slice elems spare => uptoBulkAll elems + uptoBulkAll spare + 1
  | .agg parts => uptoBulkAll parts + 1
  | .iface _ d => uptoBulk d + 1
  | .map entries => uptoBulkEntries entries + 1
  | .held _ => 1
def uptoBulkAll {H : Type} : List (DataW H) → Nat
  | [] => 0
  | d :: r => uptoBulk d + uptoBulkAll r
def uptoBulkEntries {H : Type} : List (Lit × DataW H) → Nat
  | [] => 0
  | x :: r => uptoBulkEntry x + uptoBulkEntries r
def uptoBulkEntry {H : Type} : Lit × DataW H → Nat
  | (.string bytes, d) => bytes.length + uptoBulk d + 1
  | (_, d) => uptoBulk d + 1
 end
def uptoSmall : (H : Type) → List (DataW H) → Bool := fun _ ds => decide (uptoBulkAll ds ≤ 1048576)
def OpenSpec.upto (s : _root_.Go.ChangeSpec) : _root_.Go.OpenSpec := { _root_.Go.OpenSpec.ofChange s with cond := some uptoSmall }

/-- 'laws.FnExactLoopWords', WHERE WHAT IT READS IS OF BULK AT MOST 1048576: true; the input reads as it did. -/
def fnExactLoopWordsUptoRow : OpenClaim := { program := "ytmecdboeckmmfaa", sum := "fb0267b09d74b95af0d0365a2fc515a6f0084281596d7a355efbaa2128f0428a", func := "loop.example/g02075/laws.FnExactLoopWords", spec := "fnExactLoopWords", plainKeys := false, apart := false, narrowed := true }
def FnExactLoopWordsUptoSaid : Prop := fnExactLoopWordsUptoRow.holds Try.pinned (OpenSpec.upto fnExactLoopWordsSpec)

/-- 'laws.FnExactAreWords', WHERE WHAT IT READS IS OF BULK AT MOST 1048576: true; the input reads as it did. -/
def fnExactAreWordsUptoRow : OpenClaim := { program := "ytmecdboeckmmfaa", sum := "fb0267b09d74b95af0d0365a2fc515a6f0084281596d7a355efbaa2128f0428a", func := "loop.example/g02075/laws.FnExactAreWords", spec := "fnExactAreWords", unfollowed := true, recurses := true, plainKeys := false, apart := false, narrowed := true }
def FnExactAreWordsUptoSaid : Prop := fnExactAreWordsUptoRow.holds Try.pinned (OpenSpec.upto fnExactAreWordsSpec)

/-- 'laws.FnExactAddPath', WHERE WHAT IT READS IS OF BULK AT MOST 1048576: true; the input reads as it did. -/
def fnExactAddPathUptoRow : OpenClaim := { program := "ytmecdboeckmmfaa", sum := "fb0267b09d74b95af0d0365a2fc515a6f0084281596d7a355efbaa2128f0428a", func := "loop.example/g02075/laws.FnExactAddPath", spec := "fnExactAddPath", unfollowed := true, recurses := true, plainKeys := false, apart := false, narrowed := true }
def FnExactAddPathUptoSaid : Prop := fnExactAddPathUptoRow.holds Try.pinned (OpenSpec.upto fnExactAddPathSpec)

/-- 'laws.FnExactAddPetal', WHERE WHAT IT READS IS OF BULK AT MOST 1048576: true; the input reads as it did. -/
def fnExactAddPetalUptoRow : OpenClaim := { program := "ytmecdboeckmmfaa", sum := "fb0267b09d74b95af0d0365a2fc515a6f0084281596d7a355efbaa2128f0428a", func := "loop.example/g02075/laws.FnExactAddPetal", spec := "fnExactAddPetal", unfollowed := true, recurses := true, plainKeys := false, apart := false, narrowed := true }
def FnExactAddPetalUptoSaid : Prop := fnExactAddPetalUptoRow.holds Try.pinned (OpenSpec.upto fnExactAddPetalSpec)

/-- 'laws.FnExactFlowerOf', WHERE WHAT IT READS IS OF BULK AT MOST 1048576: true; the input reads as it did. -/
def fnExactFlowerOfUptoRow : OpenClaim := { program := "ytmecdboeckmmfaa", sum := "fb0267b09d74b95af0d0365a2fc515a6f0084281596d7a355efbaa2128f0428a", func := "loop.example/g02075/laws.FnExactFlowerOf", spec := "fnExactFlowerOf", unfollowed := true, recurses := true, plainKeys := false, apart := false, narrowed := true }
def FnExactFlowerOfUptoSaid : Prop := fnExactFlowerOfUptoRow.holds Try.pinned (OpenSpec.upto fnExactFlowerOfSpec)

/-- 'laws.FnExactTotalLength', WHERE WHAT IT READS IS OF BULK AT MOST 1048576: true; the input reads as it did. -/
def fnExactTotalLengthUptoRow : OpenClaim := { program := "ytmecdboeckmmfaa", sum := "fb0267b09d74b95af0d0365a2fc515a6f0084281596d7a355efbaa2128f0428a", func := "loop.example/g02075/laws.FnExactTotalLength", spec := "fnExactTotalLength", plainKeys := false, apart := false, narrowed := true }
def FnExactTotalLengthUptoSaid : Prop := fnExactTotalLengthUptoRow.holds Try.pinned (OpenSpec.upto fnExactTotalLengthSpec)

/-- 'laws.FnExactFormatWords', WHERE WHAT IT READS IS OF BULK AT MOST 1048576: true; the input reads as it did. -/
def fnExactFormatWordsUptoRow : OpenClaim := { program := "ytmecdboeckmmfaa", sum := "fb0267b09d74b95af0d0365a2fc515a6f0084281596d7a355efbaa2128f0428a", func := "loop.example/g02075/laws.FnExactFormatWords", spec := "fnExactFormatWords", inPlace := ["internal/abi.NoEscape", "internal/bytealg.MakeNoZero"], plainKeys := false, apart := false, narrowed := true }
def FnExactFormatWordsUptoSaid : Prop := fnExactFormatWordsUptoRow.holds Try.pinned (OpenSpec.upto fnExactFormatWordsSpec)

/-- 'laws.FnExactEqualWordLists', WHERE WHAT IT READS IS OF BULK AT MOST 1048576: true; the input reads as it did. -/
def fnExactEqualWordListsUptoRow : OpenClaim := { program := "ytmecdboeckmmfaa", sum := "fb0267b09d74b95af0d0365a2fc515a6f0084281596d7a355efbaa2128f0428a", func := "loop.example/g02075/laws.FnExactEqualWordLists", spec := "fnExactEqualWordLists", unfollowed := true, recurses := true, plainKeys := false, apart := false, narrowed := true }
def FnExactEqualWordListsUptoSaid : Prop := fnExactEqualWordListsUptoRow.holds Try.pinned (OpenSpec.upto fnExactEqualWordListsSpec)

end Rows
end Go.Proofs.Ytmecdboeckmmfaa
