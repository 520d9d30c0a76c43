/-
  No cell of these rows narrows 'for every input' (looked for: loops, veiled, ifaces, maps, wideKeys, modest, calm, conditions, laid).
  DERIVED. THE GIVEN ROWS OF THIS SEAT. 7 by the template 'for every input the law returns true; each argument reads behind the call as it read before'; 0 by the template 'total and deterministic' (their statements: YtacmpbekgipkfaaTotals.lean).
  GIVEN WITH THE SEED: the statements are not yours to turn. If you find one false, say at which input.
  Laid BY PROGRAM, IN A SANDBOX (cutbox-rows.mjs): the forced cells as the released guide's own fill.sh prints them over the translation c3a3588c0419550c… (all of the seat's roots in one cut). By AI agents, Wed Nov 11 2026. No macro, syntax, notation, axiom, sorry.
-/
import Derived.Test.YtacmpbekgipkfaaChecked
import GoSem.Claim
import GoSem.ClaimJoined
import GoSem.ClaimMapViews
import Derived.JoinedTies
import Derived.KernelRfl
namespace Go.Proofs.Ytacmpbekgipkfaa
/- THE CELL 'sum', in the pinned program and in every row, IS THE sha256 OF THE DUMP (.gsa) THAT YtacmpbekgipkfaaProg.lean LOADS. Nothing in Lean hashes anything: it is a label: what it is worth is what the hold of that sum in a sandbox is worth. -/
noncomputable def Try.pinned : Pinned := { name := "ytacmpbekgipkfaa", sum := "c3a3588c0419550c908e0fb3b38e48592f07d474434283cb0b0ed36425998b32", checked := Try.checked }
namespace Rows
def none {H : Type} : Left H := { results := [], args := [] }

/-- 'laws.FnExactTreeEdges': WHATEVER THE INPUT: true; the input reads as it did. -/
def fnExactTreeEdgesSpec : ChangeSpec := { name := "fnExactTreeEdges", fn := fun _ => fun
  | [d] => { results := [.lit (.bool true)], args := [d] }
  | _ => none }
def fnExactTreeEdgesRow : OpenClaim := { program := "ytacmpbekgipkfaa", sum := "c3a3588c0419550c908e0fb3b38e48592f07d474434283cb0b0ed36425998b32", func := "loop.example/g02075/laws.FnExactTreeEdges", spec := "fnExactTreeEdges", unfollowed := true, recurses := true, plainKeys := false, apart := false }
def FnExactTreeEdgesSaid : Prop := fnExactTreeEdgesRow.holds Try.pinned (OpenSpec.ofChange fnExactTreeEdgesSpec)

/-- ITS FALSE NEIGHBOUR: 'it returns false'. Refute it at one input. -/
def fnExactTreeEdgesWrong : ChangeSpec := { name := "fnExactTreeEdges", fn := fun _ => fun
  | [d] => { results := [.lit (.bool false)], args := [d] }
  | _ => none }
def FnExactTreeEdgesWrongFalsely : Prop := fnExactTreeEdgesRow.holds Try.pinned (OpenSpec.ofChange fnExactTreeEdgesWrong)

/-- 'laws.FnExactExtraEdges': WHATEVER THE INPUT: true; the input reads as it did. -/
def fnExactExtraEdgesSpec : ChangeSpec := { name := "fnExactExtraEdges", fn := fun _ => fun
  | [d] => { results := [.lit (.bool true)], args := [d] }
  | _ => none }
def fnExactExtraEdgesRow : OpenClaim := { program := "ytacmpbekgipkfaa", sum := "c3a3588c0419550c908e0fb3b38e48592f07d474434283cb0b0ed36425998b32", func := "loop.example/g02075/laws.FnExactExtraEdges", spec := "fnExactExtraEdges", unfollowed := true, recurses := true, plainKeys := false, apart := false }
def FnExactExtraEdgesSaid : Prop := fnExactExtraEdgesRow.holds Try.pinned (OpenSpec.ofChange fnExactExtraEdgesSpec)

/-- ITS FALSE NEIGHBOUR: 'it returns false'. Refute it at one input. -/
def fnExactExtraEdgesWrong : ChangeSpec := { name := "fnExactExtraEdges", fn := fun _ => fun
  | [d] => { results := [.lit (.bool false)], args := [d] }
  | _ => none }
def FnExactExtraEdgesWrongFalsely : Prop := fnExactExtraEdgesRow.holds Try.pinned (OpenSpec.ofChange fnExactExtraEdgesWrong)

/-- 'laws.FnExactTreeWord': WHATEVER THE INPUT: true; the input reads as it did. -/
def fnExactTreeWordSpec : ChangeSpec := { name := "fnExactTreeWord", fn := fun _ => fun
  | [d1, d2] => { results := [.lit (.bool true)], args := [d1, d2] }
  | _ => none }
def fnExactTreeWordRow : OpenClaim := { program := "ytacmpbekgipkfaa", sum := "c3a3588c0419550c908e0fb3b38e48592f07d474434283cb0b0ed36425998b32", func := "loop.example/g02075/laws.FnExactTreeWord", spec := "fnExactTreeWord", unfollowed := true, recurses := true, plainKeys := false, apart := false }
def FnExactTreeWordSaid : Prop := fnExactTreeWordRow.holds Try.pinned (OpenSpec.ofChange fnExactTreeWordSpec)

/-- ITS FALSE NEIGHBOUR: 'it returns false'. Refute it at one input. -/
def fnExactTreeWordWrong : ChangeSpec := { name := "fnExactTreeWord", fn := fun _ => fun
  | [d1, d2] => { results := [.lit (.bool false)], args := [d1, d2] }
  | _ => none }
def FnExactTreeWordWrongFalsely : Prop := fnExactTreeWordRow.holds Try.pinned (OpenSpec.ofChange fnExactTreeWordWrong)

/-- 'laws.FnExactLoopOf': WHATEVER THE INPUT: true; the input reads as it did. -/
def fnExactLoopOfSpec : ChangeSpec := { name := "fnExactLoopOf", fn := fun _ => fun
  | [d1, d2] => { results := [.lit (.bool true)], args := [d1, d2] }
  | _ => none }
def fnExactLoopOfRow : OpenClaim := { program := "ytacmpbekgipkfaa", sum := "c3a3588c0419550c908e0fb3b38e48592f07d474434283cb0b0ed36425998b32", func := "loop.example/g02075/laws.FnExactLoopOf", spec := "fnExactLoopOf", unfollowed := true, recurses := true, plainKeys := false, apart := false }
def FnExactLoopOfSaid : Prop := fnExactLoopOfRow.holds Try.pinned (OpenSpec.ofChange fnExactLoopOfSpec)

/-- ITS FALSE NEIGHBOUR: 'it returns false'. Refute it at one input. -/
def fnExactLoopOfWrong : ChangeSpec := { name := "fnExactLoopOf", fn := fun _ => fun
  | [d1, d2] => { results := [.lit (.bool false)], args := [d1, d2] }
  | _ => none }
def FnExactLoopOfWrongFalsely : Prop := fnExactLoopOfRow.holds Try.pinned (OpenSpec.ofChange fnExactLoopOfWrong)

/-- 'laws.FnExactRankOf': WHATEVER THE INPUT: true; the input reads as it did. -/
def fnExactRankOfSpec : ChangeSpec := { name := "fnExactRankOf", fn := fun _ => fun
  | [d] => { results := [.lit (.bool true)], args := [d] }
  | _ => none }
def fnExactRankOfRow : OpenClaim := { program := "ytacmpbekgipkfaa", sum := "c3a3588c0419550c908e0fb3b38e48592f07d474434283cb0b0ed36425998b32", func := "loop.example/g02075/laws.FnExactRankOf", spec := "fnExactRankOf", unfollowed := true, recurses := true, plainKeys := false, apart := false }
def FnExactRankOfSaid : Prop := fnExactRankOfRow.holds Try.pinned (OpenSpec.ofChange fnExactRankOfSpec)

/-- ITS FALSE NEIGHBOUR: 'it returns false'. Refute it at one input. -/
def fnExactRankOfWrong : ChangeSpec := { name := "fnExactRankOf", fn := fun _ => fun
  | [d] => { results := [.lit (.bool false)], args := [d] }
  | _ => none }
def FnExactRankOfWrongFalsely : Prop := fnExactRankOfRow.holds Try.pinned (OpenSpec.ofChange fnExactRankOfWrong)

/-- 'laws.FnExactEulerNumber': WHATEVER THE INPUT: true; the input reads as it did. -/
def fnExactEulerNumberSpec : ChangeSpec := { name := "fnExactEulerNumber", fn := fun _ => fun
  | [d] => { results := [.lit (.bool true)], args := [d] }
  | _ => none }
def fnExactEulerNumberRow : OpenClaim := { program := "ytacmpbekgipkfaa", sum := "c3a3588c0419550c908e0fb3b38e48592f07d474434283cb0b0ed36425998b32", func := "loop.example/g02075/laws.FnExactEulerNumber", spec := "fnExactEulerNumber", plainKeys := false, apart := false }
def FnExactEulerNumberSaid : Prop := fnExactEulerNumberRow.holds Try.pinned (OpenSpec.ofChange fnExactEulerNumberSpec)

/-- ITS FALSE NEIGHBOUR: 'it returns false'. Refute it at one input. -/
def fnExactEulerNumberWrong : ChangeSpec := { name := "fnExactEulerNumber", fn := fun _ => fun
  | [d] => { results := [.lit (.bool false)], args := [d] }
  | _ => none }
def FnExactEulerNumberWrongFalsely : Prop := fnExactEulerNumberRow.holds Try.pinned (OpenSpec.ofChange fnExactEulerNumberWrong)

/-- 'laws.FnExactPathWord': WHATEVER THE INPUT: true; the input reads as it did. -/
def fnExactPathWordSpec : ChangeSpec := { name := "fnExactPathWord", fn := fun _ => fun
  | [d1, d2, d3] => { results := [.lit (.bool true)], args := [d1, d2, d3] }
  | _ => none }
def fnExactPathWordRow : OpenClaim := { program := "ytacmpbekgipkfaa", sum := "c3a3588c0419550c908e0fb3b38e48592f07d474434283cb0b0ed36425998b32", func := "loop.example/g02075/laws.FnExactPathWord", spec := "fnExactPathWord", unfollowed := true, recurses := true, plainKeys := false, apart := false }
def FnExactPathWordSaid : Prop := fnExactPathWordRow.holds Try.pinned (OpenSpec.ofChange fnExactPathWordSpec)

/-- ITS FALSE NEIGHBOUR: 'it returns false'. Refute it at one input. -/
def fnExactPathWordWrong : ChangeSpec := { name := "fnExactPathWord", fn := fun _ => fun
  | [d1, d2, d3] => { results := [.lit (.bool false)], args := [d1, d2, d3] }
  | _ => none }
def FnExactPathWordWrongFalsely : Prop := fnExactPathWordRow.holds Try.pinned (OpenSpec.ofChange fnExactPathWordWrong)

/- THE SECOND FORM. 'bulk': how many values and letters a reading holds, each counted each time it is reached (what is shared counts as often as it is met; a slice's spare places count too). A statement '..UptoSaid' is the law's where the arguments, and the package variables that the reading takes, are together of bulk at most 1048576: NARROWER than '..Said'. Prove '..Said' where nothing that the law and all that it calls make is longer than what came in: it says more and counts as full. Else prove '..UptoSaid'. A law counts once. -/
mutual
def uptoBulk {H : Type} : DataW H → Nat
  | .lit (.string bytes) => bytes.length + 1
  | .lit _ => 1
  | .nil => 1
  | .ptr d => uptoBulk d + 1
  | .slice elems spare => uptoBulkAll elems + uptoBulkAll spare + 1
  | .agg parts => uptoBulkAll parts + 1
  | .iface _ d => uptoBulk d + 1
  | .map entries => uptoBulkEntries entries + 1
  | .held _ => 1
def uptoBulkAll {H : Type} : List (DataW H) → Nat
  | [] => 0
  | d :: r => uptoBulk d + uptoBulkAll r
def uptoBulkEntries {H : Type} : List (Lit × DataW H) → Nat
  | [] => 0
  | x :: r => uptoBulkEntry x + uptoBulkEntries r
def uptoBulkEntry {H : Type} : Lit × DataW H → Nat
  | (.string bytes, d) => bytes.length + uptoBulk d + 1
  | (_, d) => uptoBulk d + 1
 end
def uptoSmall : (H : Type) → List (DataW H) → Bool := fun _ ds => decide (uptoBulkAll ds ≤ 1048576)
def OpenSpec.upto (s : _root_.Go.ChangeSpec) : _root_.Go.OpenSpec := { _root_.Go.OpenSpec.ofChange s with cond := some uptoSmall }

/-- 'laws.FnExactTreeEdges', WHERE WHAT IT READS IS OF BULK AT MOST 1048576: true; the input reads as it did. -/
def fnExactTreeEdgesUptoRow : OpenClaim := { program := "ytacmpbekgipkfaa", sum := "c3a3588c0419550c908e0fb3b38e48592f07d474434283cb0b0ed36425998b32", func := "loop.example/g02075/laws.FnExactTreeEdges", spec := "fnExactTreeEdges", unfollowed := true, recurses := true, plainKeys := false, apart := false, narrowed := true }
def FnExactTreeEdgesUptoSaid : Prop := fnExactTreeEdgesUptoRow.holds Try.pinned (OpenSpec.upto fnExactTreeEdgesSpec)

/-- 'laws.FnExactExtraEdges', WHERE WHAT IT READS IS OF BULK AT MOST 1048576: true; the input reads as it did. -/
def fnExactExtraEdgesUptoRow : OpenClaim := { program := "ytacmpbekgipkfaa", sum := "c3a3588c0419550c908e0fb3b38e48592f07d474434283cb0b0ed36425998b32", func := "loop.example/g02075/laws.FnExactExtraEdges", spec := "fnExactExtraEdges", unfollowed := true, recurses := true, plainKeys := false, apart := false, narrowed := true }
def FnExactExtraEdgesUptoSaid : Prop := fnExactExtraEdgesUptoRow.holds Try.pinned (OpenSpec.upto fnExactExtraEdgesSpec)

/-- 'laws.FnExactTreeWord', WHERE WHAT IT READS IS OF BULK AT MOST 1048576: true; the input reads as it did. -/
def fnExactTreeWordUptoRow : OpenClaim := { program := "ytacmpbekgipkfaa", sum := "c3a3588c0419550c908e0fb3b38e48592f07d474434283cb0b0ed36425998b32", func := "loop.example/g02075/laws.FnExactTreeWord", spec := "fnExactTreeWord", unfollowed := true, recurses := true, plainKeys := false, apart := false, narrowed := true }
def FnExactTreeWordUptoSaid : Prop := fnExactTreeWordUptoRow.holds Try.pinned (OpenSpec.upto fnExactTreeWordSpec)

/-- 'laws.FnExactLoopOf', WHERE WHAT IT READS IS OF BULK AT MOST 1048576: true; the input reads as it did. -/
def fnExactLoopOfUptoRow : OpenClaim := { program := "ytacmpbekgipkfaa", sum := "c3a3588c0419550c908e0fb3b38e48592f07d474434283cb0b0ed36425998b32", func := "loop.example/g02075/laws.FnExactLoopOf", spec := "fnExactLoopOf", unfollowed := true, recurses := true, plainKeys := false, apart := false, narrowed := true }
def FnExactLoopOfUptoSaid : Prop := fnExactLoopOfUptoRow.holds Try.pinned (OpenSpec.upto fnExactLoopOfSpec)

/-- 'laws.FnExactRankOf', WHERE WHAT IT READS IS OF BULK AT MOST 1048576: true; the input reads as it did. -/
def fnExactRankOfUptoRow : OpenClaim := { program := "ytacmpbekgipkfaa", sum := "c3a3588c0419550c908e0fb3b38e48592f07d474434283cb0b0ed36425998b32", func := "loop.example/g02075/laws.FnExactRankOf", spec := "fnExactRankOf", unfollowed := true, recurses := true, plainKeys := false, apart := false, narrowed := true }
def FnExactRankOfUptoSaid : Prop := fnExactRankOfUptoRow.holds Try.pinned (OpenSpec.upto fnExactRankOfSpec)

/-- 'laws.FnExactEulerNumber', WHERE WHAT IT READS IS OF BULK AT MOST 1048576: true; the input reads as it did. -/
def fnExactEulerNumberUptoRow : OpenClaim := { program := "ytacmpbekgipkfaa", sum := "c3a3588c0419550c908e0fb3b38e48592f07d474434283cb0b0ed36425998b32", func := "loop.example/g02075/laws.FnExactEulerNumber", spec := "fnExactEulerNumber", plainKeys := false, apart := false, narrowed := true }
def FnExactEulerNumberUptoSaid : Prop := fnExactEulerNumberUptoRow.holds Try.pinned (OpenSpec.upto fnExactEulerNumberSpec)

/-- 'laws.FnExactPathWord', WHERE WHAT IT READS IS OF BULK AT MOST 1048576: true; the input reads as it did. -/
def fnExactPathWordUptoRow : OpenClaim := { program := "ytacmpbekgipkfaa", sum := "c3a3588c0419550c908e0fb3b38e48592f07d474434283cb0b0ed36425998b32", func := "loop.example/g02075/laws.FnExactPathWord", spec := "fnExactPathWord", unfollowed := true, recurses := true, plainKeys := false, apart := false, narrowed := true }
def FnExactPathWordUptoSaid : Prop := fnExactPathWordUptoRow.holds Try.pinned (OpenSpec.upto fnExactPathWordSpec)

end Rows
end Go.Proofs.Ytacmpbekgipkfaa
