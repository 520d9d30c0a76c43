/-
  No cell of these rows narrows 'for every input' (looked for: loops, veiled, ifaces, maps, wideKeys, modest, calm, conditions, laid).
  DERIVED. THE GIVEN ROWS OF THIS SEAT. 7 by the template 'for every input the law returns true; each argument reads behind the call as it read before'; 0 by the template 'total and deterministic' (their statements: YtkmhncbakfnfeaaTotals.lean).
  GIVEN WITH THE SEED: the statements are not yours to turn. If you find one false, say at which input.
  Laid BY PROGRAM, IN A SANDBOX (cutbox-rows.mjs): the forced cells as the released guide's own fill.sh prints them over the translation 2a6ed6dfcbd05d11… (all of the seat's roots in one cut). By AI agents, Wed Nov 11 2026. No macro, syntax, notation, axiom, sorry.
-/
import Derived.Test.YtkmhncbakfnfeaaChecked
import GoSem.Claim
import GoSem.ClaimJoined
import GoSem.ClaimMapViews
import Derived.JoinedTies
import Derived.KernelRfl
namespace Go.Proofs.Ytkmhncbakfnfeaa
/- THE CELL 'sum', in the pinned program and in every row, IS THE sha256 OF THE DUMP (.gsa) THAT YtkmhncbakfnfeaaProg.lean LOADS. Nothing in Lean hashes anything: it is a label: what it is worth is what the hold of that sum in a sandbox is worth. -/
noncomputable def Try.pinned : Pinned := { name := "ytkmhncbakfnfeaa", sum := "2a6ed6dfcbd05d118faa3f174b00cd9cf2b8e5668739e9fd75922c78dec6ab3b", checked := Try.checked }
namespace Rows
def none {H : Type} : Left H := { results := [], args := [] }

/-- 'laws.FnExactCompareEdges': WHATEVER THE INPUT: true; the input reads as it did. -/
def fnExactCompareEdgesSpec : ChangeSpec := { name := "fnExactCompareEdges", fn := fun _ => fun
  | [d1, d2] => { results := [.lit (.bool true)], args := [d1, d2] }
  | _ => none }
def fnExactCompareEdgesRow : OpenClaim := { program := "ytkmhncbakfnfeaa", sum := "2a6ed6dfcbd05d118faa3f174b00cd9cf2b8e5668739e9fd75922c78dec6ab3b", func := "loop.example/g02075/laws.FnExactCompareEdges", spec := "fnExactCompareEdges", plainKeys := false, apart := false }
def FnExactCompareEdgesSaid : Prop := fnExactCompareEdgesRow.holds Try.pinned (OpenSpec.ofChange fnExactCompareEdgesSpec)

/-- ITS FALSE NEIGHBOUR: 'it returns false'. Refute it at one input. -/
def fnExactCompareEdgesWrong : ChangeSpec := { name := "fnExactCompareEdges", fn := fun _ => fun
  | [d1, d2] => { results := [.lit (.bool false)], args := [d1, d2] }
  | _ => none }
def FnExactCompareEdgesWrongFalsely : Prop := fnExactCompareEdgesRow.holds Try.pinned (OpenSpec.ofChange fnExactCompareEdgesWrong)

/-- 'laws.FnExactNewGraph': WHATEVER THE INPUT: true; the input reads as it did. -/
def fnExactNewGraphSpec : ChangeSpec := { name := "fnExactNewGraph", fn := fun _ => fun
  | [d] => { results := [.lit (.bool true)], args := [d] }
  | _ => none }
def fnExactNewGraphRow : OpenClaim := { program := "ytkmhncbakfnfeaa", sum := "2a6ed6dfcbd05d118faa3f174b00cd9cf2b8e5668739e9fd75922c78dec6ab3b", func := "loop.example/g02075/laws.FnExactNewGraph", spec := "fnExactNewGraph", plainKeys := false, apart := false }
def FnExactNewGraphSaid : Prop := fnExactNewGraphRow.holds Try.pinned (OpenSpec.ofChange fnExactNewGraphSpec)

/-- ITS FALSE NEIGHBOUR: 'it returns false'. Refute it at one input. -/
def fnExactNewGraphWrong : ChangeSpec := { name := "fnExactNewGraph", fn := fun _ => fun
  | [d] => { results := [.lit (.bool false)], args := [d] }
  | _ => none }
def FnExactNewGraphWrongFalsely : Prop := fnExactNewGraphRow.holds Try.pinned (OpenSpec.ofChange fnExactNewGraphWrong)

/-- 'laws.FnExactIsGraph': WHATEVER THE INPUT: true; the input reads as it did. -/
def fnExactIsGraphSpec : ChangeSpec := { name := "fnExactIsGraph", fn := fun _ => fun
  | [d] => { results := [.lit (.bool true)], args := [d] }
  | _ => none }
def fnExactIsGraphRow : OpenClaim := { program := "ytkmhncbakfnfeaa", sum := "2a6ed6dfcbd05d118faa3f174b00cd9cf2b8e5668739e9fd75922c78dec6ab3b", func := "loop.example/g02075/laws.FnExactIsGraph", spec := "fnExactIsGraph", plainKeys := false, apart := false }
def FnExactIsGraphSaid : Prop := fnExactIsGraphRow.holds Try.pinned (OpenSpec.ofChange fnExactIsGraphSpec)

/-- ITS FALSE NEIGHBOUR: 'it returns false'. Refute it at one input. -/
def fnExactIsGraphWrong : ChangeSpec := { name := "fnExactIsGraph", fn := fun _ => fun
  | [d] => { results := [.lit (.bool false)], args := [d] }
  | _ => none }
def FnExactIsGraphWrongFalsely : Prop := fnExactIsGraphRow.holds Try.pinned (OpenSpec.ofChange fnExactIsGraphWrong)

/-- 'laws.FnExactAddEdge': WHATEVER THE INPUT: true; the input reads as it did. -/
def fnExactAddEdgeSpec : ChangeSpec := { name := "fnExactAddEdge", fn := fun _ => fun
  | [d1, d2] => { results := [.lit (.bool true)], args := [d1, d2] }
  | _ => none }
def fnExactAddEdgeRow : OpenClaim := { program := "ytkmhncbakfnfeaa", sum := "2a6ed6dfcbd05d118faa3f174b00cd9cf2b8e5668739e9fd75922c78dec6ab3b", func := "loop.example/g02075/laws.FnExactAddEdge", spec := "fnExactAddEdge", unfollowed := true, recurses := true, plainKeys := false, apart := false }
def FnExactAddEdgeSaid : Prop := fnExactAddEdgeRow.holds Try.pinned (OpenSpec.ofChange fnExactAddEdgeSpec)

/-- ITS FALSE NEIGHBOUR: 'it returns false'. Refute it at one input. -/
def fnExactAddEdgeWrong : ChangeSpec := { name := "fnExactAddEdge", fn := fun _ => fun
  | [d1, d2] => { results := [.lit (.bool false)], args := [d1, d2] }
  | _ => none }
def FnExactAddEdgeWrongFalsely : Prop := fnExactAddEdgeRow.holds Try.pinned (OpenSpec.ofChange fnExactAddEdgeWrong)

/-- 'laws.FnExactAddVertex': WHATEVER THE INPUT: true; the input reads as it did. -/
def fnExactAddVertexSpec : ChangeSpec := { name := "fnExactAddVertex", fn := fun _ => fun
  | [d] => { results := [.lit (.bool true)], args := [d] }
  | _ => none }
def fnExactAddVertexRow : OpenClaim := { program := "ytkmhncbakfnfeaa", sum := "2a6ed6dfcbd05d118faa3f174b00cd9cf2b8e5668739e9fd75922c78dec6ab3b", func := "loop.example/g02075/laws.FnExactAddVertex", spec := "fnExactAddVertex", plainKeys := false, apart := false }
def FnExactAddVertexSaid : Prop := fnExactAddVertexRow.holds Try.pinned (OpenSpec.ofChange fnExactAddVertexSpec)

/-- ITS FALSE NEIGHBOUR: 'it returns false'. Refute it at one input. -/
def fnExactAddVertexWrong : ChangeSpec := { name := "fnExactAddVertex", fn := fun _ => fun
  | [d] => { results := [.lit (.bool false)], args := [d] }
  | _ => none }
def FnExactAddVertexWrongFalsely : Prop := fnExactAddVertexRow.holds Try.pinned (OpenSpec.ofChange fnExactAddVertexWrong)

/-- 'laws.FnExactDegreeOf': WHATEVER THE INPUT: true; the input reads as it did. -/
def fnExactDegreeOfSpec : ChangeSpec := { name := "fnExactDegreeOf", fn := fun _ => fun
  | [d1, d2] => { results := [.lit (.bool true)], args := [d1, d2] }
  | _ => none }
def fnExactDegreeOfRow : OpenClaim := { program := "ytkmhncbakfnfeaa", sum := "2a6ed6dfcbd05d118faa3f174b00cd9cf2b8e5668739e9fd75922c78dec6ab3b", func := "loop.example/g02075/laws.FnExactDegreeOf", spec := "fnExactDegreeOf", plainKeys := false, apart := false }
def FnExactDegreeOfSaid : Prop := fnExactDegreeOfRow.holds Try.pinned (OpenSpec.ofChange fnExactDegreeOfSpec)

/-- ITS FALSE NEIGHBOUR: 'it returns false'. Refute it at one input. -/
def fnExactDegreeOfWrong : ChangeSpec := { name := "fnExactDegreeOf", fn := fun _ => fun
  | [d1, d2] => { results := [.lit (.bool false)], args := [d1, d2] }
  | _ => none }
def FnExactDegreeOfWrongFalsely : Prop := fnExactDegreeOfRow.holds Try.pinned (OpenSpec.ofChange fnExactDegreeOfWrong)

/-- 'laws.FnExactEqualGraphs': WHATEVER THE INPUT: true; the input reads as it did. -/
def fnExactEqualGraphsSpec : ChangeSpec := { name := "fnExactEqualGraphs", fn := fun _ => fun
  | [d1, d2] => { results := [.lit (.bool true)], args := [d1, d2] }
  | _ => none }
def fnExactEqualGraphsRow : OpenClaim := { program := "ytkmhncbakfnfeaa", sum := "2a6ed6dfcbd05d118faa3f174b00cd9cf2b8e5668739e9fd75922c78dec6ab3b", func := "loop.example/g02075/laws.FnExactEqualGraphs", spec := "fnExactEqualGraphs", plainKeys := false, apart := false }
def FnExactEqualGraphsSaid : Prop := fnExactEqualGraphsRow.holds Try.pinned (OpenSpec.ofChange fnExactEqualGraphsSpec)

/-- ITS FALSE NEIGHBOUR: 'it returns false'. Refute it at one input. -/
def fnExactEqualGraphsWrong : ChangeSpec := { name := "fnExactEqualGraphs", fn := fun _ => fun
  | [d1, d2] => { results := [.lit (.bool false)], args := [d1, d2] }
  | _ => none }
def FnExactEqualGraphsWrongFalsely : Prop := fnExactEqualGraphsRow.holds Try.pinned (OpenSpec.ofChange fnExactEqualGraphsWrong)

/- THE SECOND FORM. 'bulk': how many values and letters a reading holds, each counted each time it is reached (what is shared counts as often as it is met; a slice's spare places count too). A statement '..UptoSaid' is the law's where the arguments, and the package variables that the reading takes, are together of bulk at most 1048576: NARROWER than '..Said'. Prove '..Said' where nothing that the law and all that it calls make is longer than what came in: it says more and counts as full. Else prove '..UptoSaid'. A law counts once. -/
mutual
def uptoBulk {H : Type} : DataW H → Nat
  | .lit (.string bytes) => bytes.length + 1
  | .lit _ => 1
  | .nil => 1
  | .ptr d => uptoBulk d + 1
  | .slice elems spare => uptoBulkAll elems + uptoBulkAll spare + 1
  | .agg parts => uptoBulkAll parts + 1
  | .iface _ d => uptoBulk d + 1
  | .map entries => uptoBulkEntries entries + 1
  | .held _ => 1
def uptoBulkAll {H : Type} : List (DataW H) → Nat
  | [] => 0
  | d :: r => uptoBulk d + uptoBulkAll r
def uptoBulkEntries {H : Type} : List (Lit × DataW H) → Nat
  | [] => 0
  | x :: r => uptoBulkEntry x + uptoBulkEntries r
def uptoBulkEntry {H : Type} : Lit × DataW H → Nat
  | (.string bytes, d) => bytes.length + uptoBulk d + 1
  | (_, d) => uptoBulk d + 1
 end
def uptoSmall : (H : Type) → List (DataW H) → Bool := fun _ ds => decide (uptoBulkAll ds ≤ 1048576)
def OpenSpec.upto (s : _root_.Go.ChangeSpec) : _root_.Go.OpenSpec := { _root_.Go.OpenSpec.ofChange s with cond := some uptoSmall }

/-- 'laws.FnExactCompareEdges', WHERE WHAT IT READS IS OF BULK AT MOST 1048576: true; the input reads as it did. -/
def fnExactCompareEdgesUptoRow : OpenClaim := { program := "ytkmhncbakfnfeaa", sum := "2a6ed6dfcbd05d118faa3f174b00cd9cf2b8e5668739e9fd75922c78dec6ab3b", func := "loop.example/g02075/laws.FnExactCompareEdges", spec := "fnExactCompareEdges", plainKeys := false, apart := false, narrowed := true }
def FnExactCompareEdgesUptoSaid : Prop := fnExactCompareEdgesUptoRow.holds Try.pinned (OpenSpec.upto fnExactCompareEdgesSpec)

/-- 'laws.FnExactNewGraph', WHERE WHAT IT READS IS OF BULK AT MOST 1048576: true; the input reads as it did. -/
def fnExactNewGraphUptoRow : OpenClaim := { program := "ytkmhncbakfnfeaa", sum := "2a6ed6dfcbd05d118faa3f174b00cd9cf2b8e5668739e9fd75922c78dec6ab3b", func := "loop.example/g02075/laws.FnExactNewGraph", spec := "fnExactNewGraph", plainKeys := false, apart := false, narrowed := true }
def FnExactNewGraphUptoSaid : Prop := fnExactNewGraphUptoRow.holds Try.pinned (OpenSpec.upto fnExactNewGraphSpec)

/-- 'laws.FnExactIsGraph', WHERE WHAT IT READS IS OF BULK AT MOST 1048576: true; the input reads as it did. -/
def fnExactIsGraphUptoRow : OpenClaim := { program := "ytkmhncbakfnfeaa", sum := "2a6ed6dfcbd05d118faa3f174b00cd9cf2b8e5668739e9fd75922c78dec6ab3b", func := "loop.example/g02075/laws.FnExactIsGraph", spec := "fnExactIsGraph", plainKeys := false, apart := false, narrowed := true }
def FnExactIsGraphUptoSaid : Prop := fnExactIsGraphUptoRow.holds Try.pinned (OpenSpec.upto fnExactIsGraphSpec)

/-- 'laws.FnExactAddEdge', WHERE WHAT IT READS IS OF BULK AT MOST 1048576: true; the input reads as it did. -/
def fnExactAddEdgeUptoRow : OpenClaim := { program := "ytkmhncbakfnfeaa", sum := "2a6ed6dfcbd05d118faa3f174b00cd9cf2b8e5668739e9fd75922c78dec6ab3b", func := "loop.example/g02075/laws.FnExactAddEdge", spec := "fnExactAddEdge", unfollowed := true, recurses := true, plainKeys := false, apart := false, narrowed := true }
def FnExactAddEdgeUptoSaid : Prop := fnExactAddEdgeUptoRow.holds Try.pinned (OpenSpec.upto fnExactAddEdgeSpec)

/-- 'laws.FnExactAddVertex', WHERE WHAT IT READS IS OF BULK AT MOST 1048576: true; the input reads as it did. -/
def fnExactAddVertexUptoRow : OpenClaim := { program := "ytkmhncbakfnfeaa", sum := "2a6ed6dfcbd05d118faa3f174b00cd9cf2b8e5668739e9fd75922c78dec6ab3b", func := "loop.example/g02075/laws.FnExactAddVertex", spec := "fnExactAddVertex", plainKeys := false, apart := false, narrowed := true }
def FnExactAddVertexUptoSaid : Prop := fnExactAddVertexUptoRow.holds Try.pinned (OpenSpec.upto fnExactAddVertexSpec)

/-- 'laws.FnExactDegreeOf', WHERE WHAT IT READS IS OF BULK AT MOST 1048576: true; the input reads as it did. -/
def fnExactDegreeOfUptoRow : OpenClaim := { program := "ytkmhncbakfnfeaa", sum := "2a6ed6dfcbd05d118faa3f174b00cd9cf2b8e5668739e9fd75922c78dec6ab3b", func := "loop.example/g02075/laws.FnExactDegreeOf", spec := "fnExactDegreeOf", plainKeys := false, apart := false, narrowed := true }
def FnExactDegreeOfUptoSaid : Prop := fnExactDegreeOfUptoRow.holds Try.pinned (OpenSpec.upto fnExactDegreeOfSpec)

/-- 'laws.FnExactEqualGraphs', WHERE WHAT IT READS IS OF BULK AT MOST 1048576: true; the input reads as it did. -/
def fnExactEqualGraphsUptoRow : OpenClaim := { program := "ytkmhncbakfnfeaa", sum := "2a6ed6dfcbd05d118faa3f174b00cd9cf2b8e5668739e9fd75922c78dec6ab3b", func := "loop.example/g02075/laws.FnExactEqualGraphs", spec := "fnExactEqualGraphs", plainKeys := false, apart := false, narrowed := true }
def FnExactEqualGraphsUptoSaid : Prop := fnExactEqualGraphsUptoRow.holds Try.pinned (OpenSpec.upto fnExactEqualGraphsSpec)

end Rows
end Go.Proofs.Ytkmhncbakfnfeaa
