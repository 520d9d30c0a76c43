/-
  No cell of these rows narrows 'for every input' (looked for: loops, veiled, ifaces, maps, wideKeys, modest, calm, conditions, laid).
  DERIVED. THE GIVEN ROWS OF THIS SEAT. 6 by the template 'for every input the law returns true; each argument reads behind the call as it read before'; 0 by the template 'total and deterministic' (their statements: YtdeofaimgldklaaTotals.lean).
  GIVEN WITH THE SEED: the statements are not yours to turn. If you find one false, say at which input.
  Laid BY PROGRAM, IN A SANDBOX (cutbox-rows.mjs): the forced cells as the released guide's own fill.sh prints them over the translation 3f36101508258efb… (all of the seat's roots in one cut). By AI agents, Wed Nov 11 2026. No macro, syntax, notation, axiom, sorry.
-/
import Derived.Test.YtdeofaimgldklaaChecked
import GoSem.Claim
import GoSem.ClaimJoined
import GoSem.ClaimMapViews
import Derived.JoinedTies
import Derived.KernelRfl
namespace Go.Proofs.Ytdeofaimgldklaa
/- THE CELL 'sum', in the pinned program and in every row, IS THE sha256 OF THE DUMP (.gsa) THAT YtdeofaimgldklaaProg.lean LOADS. Nothing in Lean hashes anything: it is a label: what it is worth is what the hold of that sum in a sandbox is worth. -/
noncomputable def Try.pinned : Pinned := { name := "ytdeofaimgldklaa", sum := "3f36101508258efbf8e24edebaa8382a3830e95784eb1becb66f0ba6408a482d", checked := Try.checked }
namespace Rows
def none {H : Type} : Left H := { results := [], args := [] }

/-- 'laws.FnExactFirstFold': WHATEVER THE INPUT: true; the input reads as it did. -/
def fnExactFirstFoldSpec : ChangeSpec := { name := "fnExactFirstFold", fn := fun _ => fun
  | [d] => { results := [.lit (.bool true)], args := [d] }
  | _ => none }
def fnExactFirstFoldRow : OpenClaim := { program := "ytdeofaimgldklaa", sum := "3f36101508258efbf8e24edebaa8382a3830e95784eb1becb66f0ba6408a482d", func := "loop.example/g02075/laws.FnExactFirstFold", spec := "fnExactFirstFold", apart := false }
def FnExactFirstFoldSaid : Prop := fnExactFirstFoldRow.holds Try.pinned (OpenSpec.ofChange fnExactFirstFoldSpec)

/-- ITS FALSE NEIGHBOUR: 'it returns false'. Refute it at one input. -/
def fnExactFirstFoldWrong : ChangeSpec := { name := "fnExactFirstFold", fn := fun _ => fun
  | [d] => { results := [.lit (.bool false)], args := [d] }
  | _ => none }
def FnExactFirstFoldWrongFalsely : Prop := fnExactFirstFoldRow.holds Try.pinned (OpenSpec.ofChange fnExactFirstFoldWrong)

/-- 'laws.FnExactMergeVertices': WHATEVER THE INPUT: true; the input reads as it did. -/
def fnExactMergeVerticesSpec : ChangeSpec := { name := "fnExactMergeVertices", fn := fun _ => fun
  | [d1, d2] => { results := [.lit (.bool true)], args := [d1, d2] }
  | _ => none }
def fnExactMergeVerticesRow : OpenClaim := { program := "ytdeofaimgldklaa", sum := "3f36101508258efbf8e24edebaa8382a3830e95784eb1becb66f0ba6408a482d", func := "loop.example/g02075/laws.FnExactMergeVertices", spec := "fnExactMergeVertices", inPlace := ["(*internal/sync.Mutex).Lock", "internal/race.Disable", "sync/atomic.CompareAndSwapInt32", "internal/race.Enable", "internal/race.Acquire", "(*internal/sync.Mutex).lockSlow", "internal/sync.runtime_canSpin", "internal/sync.runtime_doSpin", "internal/sync.throw", "internal/sync.runtime_nanotime", "internal/sync.runtime_SemacquireMutex", "sync/atomic.AddInt32", "(*internal/sync.Mutex).Unlock", "internal/race.ReleaseMerge", "(*internal/sync.Mutex).unlockSlow", "internal/sync.fatal", "internal/sync.runtime_Semrelease"], unfollowed := true, recurses := true, apart := false }
def FnExactMergeVerticesSaid : Prop := fnExactMergeVerticesRow.holds Try.pinned (OpenSpec.ofChange fnExactMergeVerticesSpec)

/-- ITS FALSE NEIGHBOUR: 'it returns false'. Refute it at one input. -/
def fnExactMergeVerticesWrong : ChangeSpec := { name := "fnExactMergeVertices", fn := fun _ => fun
  | [d1, d2] => { results := [.lit (.bool false)], args := [d1, d2] }
  | _ => none }
def FnExactMergeVerticesWrongFalsely : Prop := fnExactMergeVerticesRow.holds Try.pinned (OpenSpec.ofChange fnExactMergeVerticesWrong)

/-- 'laws.FnExactFoldOnce': WHATEVER THE INPUT: true; the input reads as it did. -/
def fnExactFoldOnceSpec : ChangeSpec := { name := "fnExactFoldOnce", fn := fun _ => fun
  | [d] => { results := [.lit (.bool true)], args := [d] }
  | _ => none }
def fnExactFoldOnceRow : OpenClaim := { program := "ytdeofaimgldklaa", sum := "3f36101508258efbf8e24edebaa8382a3830e95784eb1becb66f0ba6408a482d", func := "loop.example/g02075/laws.FnExactFoldOnce", spec := "fnExactFoldOnce", inPlace := ["(*internal/sync.Mutex).Lock", "internal/race.Disable", "sync/atomic.CompareAndSwapInt32", "internal/race.Enable", "internal/race.Acquire", "(*internal/sync.Mutex).lockSlow", "internal/sync.runtime_canSpin", "internal/sync.runtime_doSpin", "internal/sync.throw", "internal/sync.runtime_nanotime", "internal/sync.runtime_SemacquireMutex", "sync/atomic.AddInt32", "(*internal/sync.Mutex).Unlock", "internal/race.ReleaseMerge", "(*internal/sync.Mutex).unlockSlow", "internal/sync.fatal", "internal/sync.runtime_Semrelease"], unfollowed := true, recurses := true, apart := false }
def FnExactFoldOnceSaid : Prop := fnExactFoldOnceRow.holds Try.pinned (OpenSpec.ofChange fnExactFoldOnceSpec)

/-- ITS FALSE NEIGHBOUR: 'it returns false'. Refute it at one input. -/
def fnExactFoldOnceWrong : ChangeSpec := { name := "fnExactFoldOnce", fn := fun _ => fun
  | [d] => { results := [.lit (.bool false)], args := [d] }
  | _ => none }
def FnExactFoldOnceWrongFalsely : Prop := fnExactFoldOnceRow.holds Try.pinned (OpenSpec.ofChange fnExactFoldOnceWrong)

/-- 'laws.FnExactFoldAll': WHATEVER THE INPUT: true; the input reads as it did. -/
def fnExactFoldAllSpec : ChangeSpec := { name := "fnExactFoldAll", fn := fun _ => fun
  | [d] => { results := [.lit (.bool true)], args := [d] }
  | _ => none }
def fnExactFoldAllRow : OpenClaim := { program := "ytdeofaimgldklaa", sum := "3f36101508258efbf8e24edebaa8382a3830e95784eb1becb66f0ba6408a482d", func := "loop.example/g02075/laws.FnExactFoldAll", spec := "fnExactFoldAll", inPlace := ["(*internal/sync.Mutex).Lock", "internal/race.Disable", "sync/atomic.CompareAndSwapInt32", "internal/race.Enable", "internal/race.Acquire", "(*internal/sync.Mutex).lockSlow", "internal/sync.runtime_canSpin", "internal/sync.runtime_doSpin", "internal/sync.throw", "internal/sync.runtime_nanotime", "internal/sync.runtime_SemacquireMutex", "sync/atomic.AddInt32", "(*internal/sync.Mutex).Unlock", "internal/race.ReleaseMerge", "(*internal/sync.Mutex).unlockSlow", "internal/sync.fatal", "internal/sync.runtime_Semrelease"], unfollowed := true, recurses := true, apart := false }
def FnExactFoldAllSaid : Prop := fnExactFoldAllRow.holds Try.pinned (OpenSpec.ofChange fnExactFoldAllSpec)

/-- ITS FALSE NEIGHBOUR: 'it returns false'. Refute it at one input. -/
def fnExactFoldAllWrong : ChangeSpec := { name := "fnExactFoldAll", fn := fun _ => fun
  | [d] => { results := [.lit (.bool false)], args := [d] }
  | _ => none }
def FnExactFoldAllWrongFalsely : Prop := fnExactFoldAllRow.holds Try.pinned (OpenSpec.ofChange fnExactFoldAllWrong)

/-- 'laws.FnExactReplayFolds': WHATEVER THE INPUT: true; the input reads as it did. -/
def fnExactReplayFoldsSpec : ChangeSpec := { name := "fnExactReplayFolds", fn := fun _ => fun
  | [d1, d2] => { results := [.lit (.bool true)], args := [d1, d2] }
  | _ => none }
def fnExactReplayFoldsRow : OpenClaim := { program := "ytdeofaimgldklaa", sum := "3f36101508258efbf8e24edebaa8382a3830e95784eb1becb66f0ba6408a482d", func := "loop.example/g02075/laws.FnExactReplayFolds", spec := "fnExactReplayFolds", inPlace := ["(*internal/sync.Mutex).Lock", "internal/race.Disable", "sync/atomic.CompareAndSwapInt32", "internal/race.Enable", "internal/race.Acquire", "(*internal/sync.Mutex).lockSlow", "internal/sync.runtime_canSpin", "internal/sync.runtime_doSpin", "internal/sync.throw", "internal/sync.runtime_nanotime", "internal/sync.runtime_SemacquireMutex", "sync/atomic.AddInt32", "(*internal/sync.Mutex).Unlock", "internal/race.ReleaseMerge", "(*internal/sync.Mutex).unlockSlow", "internal/sync.fatal", "internal/sync.runtime_Semrelease"], unfollowed := true, recurses := true, apart := false }
def FnExactReplayFoldsSaid : Prop := fnExactReplayFoldsRow.holds Try.pinned (OpenSpec.ofChange fnExactReplayFoldsSpec)

/-- ITS FALSE NEIGHBOUR: 'it returns false'. Refute it at one input. -/
def fnExactReplayFoldsWrong : ChangeSpec := { name := "fnExactReplayFolds", fn := fun _ => fun
  | [d1, d2] => { results := [.lit (.bool false)], args := [d1, d2] }
  | _ => none }
def FnExactReplayFoldsWrongFalsely : Prop := fnExactReplayFoldsRow.holds Try.pinned (OpenSpec.ofChange fnExactReplayFoldsWrong)

/-- 'laws.FnExactFoldInOrder': WHATEVER THE INPUT: true; the input reads as it did. -/
def fnExactFoldInOrderSpec : ChangeSpec := { name := "fnExactFoldInOrder", fn := fun _ => fun
  | [d1, d2] => { results := [.lit (.bool true)], args := [d1, d2] }
  | _ => none }
def fnExactFoldInOrderRow : OpenClaim := { program := "ytdeofaimgldklaa", sum := "3f36101508258efbf8e24edebaa8382a3830e95784eb1becb66f0ba6408a482d", func := "loop.example/g02075/laws.FnExactFoldInOrder", spec := "fnExactFoldInOrder", inPlace := ["(*internal/sync.Mutex).Lock", "internal/race.Disable", "sync/atomic.CompareAndSwapInt32", "internal/race.Enable", "internal/race.Acquire", "(*internal/sync.Mutex).lockSlow", "internal/sync.runtime_canSpin", "internal/sync.runtime_doSpin", "internal/sync.throw", "internal/sync.runtime_nanotime", "internal/sync.runtime_SemacquireMutex", "sync/atomic.AddInt32", "(*internal/sync.Mutex).Unlock", "internal/race.ReleaseMerge", "(*internal/sync.Mutex).unlockSlow", "internal/sync.fatal", "internal/sync.runtime_Semrelease"], unfollowed := true, recurses := true, apart := false }
def FnExactFoldInOrderSaid : Prop := fnExactFoldInOrderRow.holds Try.pinned (OpenSpec.ofChange fnExactFoldInOrderSpec)

/-- ITS FALSE NEIGHBOUR: 'it returns false'. Refute it at one input. -/
def fnExactFoldInOrderWrong : ChangeSpec := { name := "fnExactFoldInOrder", fn := fun _ => fun
  | [d1, d2] => { results := [.lit (.bool false)], args := [d1, d2] }
  | _ => none }
def FnExactFoldInOrderWrongFalsely : Prop := fnExactFoldInOrderRow.holds Try.pinned (OpenSpec.ofChange fnExactFoldInOrderWrong)

/- THE SECOND FORM. 'bulk': how many values and letters a reading holds, each counted each time it is reached (what is shared counts as often as it is met; a slice's spare places count too). A statement '..UptoSaid' is the law's where the arguments, and the package variables that the reading takes, are together of bulk at most 1048576: NARROWER than '..Said'. Prove '..Said' where nothing that the law and all that it calls make is longer than what came in: it says more and counts as full. Else prove '..UptoSaid'. A law counts once. -/
mutual
def uptoBulk {H : Type} : DataW H → Nat
  | .lit (.string bytes) => bytes.length + 1
  | .lit _ => 1
  | .nil => 1
  | .ptr d => uptoBulk d + 1
  | .slice elems spare => uptoBulkAll elems + uptoBulkAll spare + 1
  | .agg parts => uptoBulkAll parts + 1
  | .iface _ d => uptoBulk d + 1
  | .map entries => uptoBulkEntries entries + 1
  | .held _ => 1
def uptoBulkAll {H : Type} : List (DataW H) → Nat
  | [] => 0
  | d :: r => uptoBulk d + uptoBulkAll r
def uptoBulkEntries {H : Type} : List (Lit × DataW H) → Nat
  | [] => 0
  | x :: r => uptoBulkEntry x + uptoBulkEntries r
def uptoBulkEntry {H : Type} : Lit × DataW H → Nat
  | (.string bytes, d) => bytes.length + uptoBulk d + 1
  | (_, d) => uptoBulk d + 1
 end
def uptoSmall : (H : Type) → List (DataW H) → Bool := fun _ ds => decide (uptoBulkAll ds ≤ 1048576)
def OpenSpec.upto (s : _root_.Go.ChangeSpec) : _root_.Go.OpenSpec := { _root_.Go.OpenSpec.ofChange s with cond := some uptoSmall }

/-- 'laws.FnExactFirstFold', WHERE WHAT IT READS IS OF BULK AT MOST 1048576: true; the input reads as it did. -/
def fnExactFirstFoldUptoRow : OpenClaim := { program := "ytdeofaimgldklaa", sum := "3f36101508258efbf8e24edebaa8382a3830e95784eb1becb66f0ba6408a482d", func := "loop.example/g02075/laws.FnExactFirstFold", spec := "fnExactFirstFold", apart := false, narrowed := true }
def FnExactFirstFoldUptoSaid : Prop := fnExactFirstFoldUptoRow.holds Try.pinned (OpenSpec.upto fnExactFirstFoldSpec)

/-- 'laws.FnExactMergeVertices', WHERE WHAT IT READS IS OF BULK AT MOST 1048576: true; the input reads as it did. -/
def fnExactMergeVerticesUptoRow : OpenClaim := { program := "ytdeofaimgldklaa", sum := "3f36101508258efbf8e24edebaa8382a3830e95784eb1becb66f0ba6408a482d", func := "loop.example/g02075/laws.FnExactMergeVertices", spec := "fnExactMergeVertices", inPlace := ["(*internal/sync.Mutex).Lock", "internal/race.Disable", "sync/atomic.CompareAndSwapInt32", "internal/race.Enable", "internal/race.Acquire", "(*internal/sync.Mutex).lockSlow", "internal/sync.runtime_canSpin", "internal/sync.runtime_doSpin", "internal/sync.throw", "internal/sync.runtime_nanotime", "internal/sync.runtime_SemacquireMutex", "sync/atomic.AddInt32", "(*internal/sync.Mutex).Unlock", "internal/race.ReleaseMerge", "(*internal/sync.Mutex).unlockSlow", "internal/sync.fatal", "internal/sync.runtime_Semrelease"], unfollowed := true, recurses := true, apart := false, narrowed := true }
def FnExactMergeVerticesUptoSaid : Prop := fnExactMergeVerticesUptoRow.holds Try.pinned (OpenSpec.upto fnExactMergeVerticesSpec)

/-- 'laws.FnExactFoldOnce', WHERE WHAT IT READS IS OF BULK AT MOST 1048576: true; the input reads as it did. -/
def fnExactFoldOnceUptoRow : OpenClaim := { program := "ytdeofaimgldklaa", sum := "3f36101508258efbf8e24edebaa8382a3830e95784eb1becb66f0ba6408a482d", func := "loop.example/g02075/laws.FnExactFoldOnce", spec := "fnExactFoldOnce", inPlace := ["(*internal/sync.Mutex).Lock", "internal/race.Disable", "sync/atomic.CompareAndSwapInt32", "internal/race.Enable", "internal/race.Acquire", "(*internal/sync.Mutex).lockSlow", "internal/sync.runtime_canSpin", "internal/sync.runtime_doSpin", "internal/sync.throw", "internal/sync.runtime_nanotime", "internal/sync.runtime_SemacquireMutex", "sync/atomic.AddInt32", "(*internal/sync.Mutex).Unlock", "internal/race.ReleaseMerge", "(*internal/sync.Mutex).unlockSlow", "internal/sync.fatal", "internal/sync.runtime_Semrelease"], unfollowed := true, recurses := true, apart := false, narrowed := true }
def FnExactFoldOnceUptoSaid : Prop := fnExactFoldOnceUptoRow.holds Try.pinned (OpenSpec.upto fnExactFoldOnceSpec)

/-- 'laws.FnExactFoldAll', WHERE WHAT IT READS IS OF BULK AT MOST 1048576: true; the input reads as it did. -/
def fnExactFoldAllUptoRow : OpenClaim := { program := "ytdeofaimgldklaa", sum := "3f36101508258efbf8e24edebaa8382a3830e95784eb1becb66f0ba6408a482d", func := "loop.example/g02075/laws.FnExactFoldAll", spec := "fnExactFoldAll", inPlace := ["(*internal/sync.Mutex).Lock", "internal/race.Disable", "sync/atomic.CompareAndSwapInt32", "internal/race.Enable", "internal/race.Acquire", "(*internal/sync.Mutex).lockSlow", "internal/sync.runtime_canSpin", "internal/sync.runtime_doSpin", "internal/sync.throw", "internal/sync.runtime_nanotime", "internal/sync.runtime_SemacquireMutex", "sync/atomic.AddInt32", "(*internal/sync.Mutex).Unlock", "internal/race.ReleaseMerge", "(*internal/sync.Mutex).unlockSlow", "internal/sync.fatal", "internal/sync.runtime_Semrelease"], unfollowed := true, recurses := true, apart := false, narrowed := true }
def FnExactFoldAllUptoSaid : Prop := fnExactFoldAllUptoRow.holds Try.pinned (OpenSpec.upto fnExactFoldAllSpec)

/-- 'laws.FnExactReplayFolds', WHERE WHAT IT READS IS OF BULK AT MOST 1048576: true; the input reads as it did. -/
def fnExactReplayFoldsUptoRow : OpenClaim := { program := "ytdeofaimgldklaa", sum := "3f36101508258efbf8e24edebaa8382a3830e95784eb1becb66f0ba6408a482d", func := "loop.example/g02075/laws.FnExactReplayFolds", spec := "fnExactReplayFolds", inPlace := ["(*internal/sync.Mutex).Lock", "internal/race.Disable", "sync/atomic.CompareAndSwapInt32", "internal/race.Enable", "internal/race.Acquire", "(*internal/sync.Mutex).lockSlow", "internal/sync.runtime_canSpin", "internal/sync.runtime_doSpin", "internal/sync.throw", "internal/sync.runtime_nanotime", "internal/sync.runtime_SemacquireMutex", "sync/atomic.AddInt32", "(*internal/sync.Mutex).Unlock", "internal/race.ReleaseMerge", "(*internal/sync.Mutex).unlockSlow", "internal/sync.fatal", "internal/sync.runtime_Semrelease"], unfollowed := true, recurses := true, apart := false, narrowed := true }
def FnExactReplayFoldsUptoSaid : Prop := fnExactReplayFoldsUptoRow.holds Try.pinned (OpenSpec.upto fnExactReplayFoldsSpec)

/-- 'laws.FnExactFoldInOrder', WHERE WHAT IT READS IS OF BULK AT MOST 1048576: true; the input reads as it did. -/
def fnExactFoldInOrderUptoRow : OpenClaim := { program := "ytdeofaimgldklaa", sum := "3f36101508258efbf8e24edebaa8382a3830e95784eb1becb66f0ba6408a482d", func := "loop.example/g02075/laws.FnExactFoldInOrder", spec := "fnExactFoldInOrder", inPlace := ["(*internal/sync.Mutex).Lock", "internal/race.Disable", "sync/atomic.CompareAndSwapInt32", "internal/race.Enable", "internal/race.Acquire", "(*internal/sync.Mutex).lockSlow", "internal/sync.runtime_canSpin", "internal/sync.runtime_doSpin", "internal/sync.throw", "internal/sync.runtime_nanotime", "internal/sync.runtime_SemacquireMutex", "sync/atomic.AddInt32", "(*internal/sync.Mutex).Unlock", "internal/race.ReleaseMerge", "(*internal/sync.Mutex).unlockSlow", "internal/sync.fatal", "internal/sync.runtime_Semrelease"], unfollowed := true, recurses := true, apart := false, narrowed := true }
def FnExactFoldInOrderUptoSaid : Prop := fnExactFoldInOrderUptoRow.holds Try.pinned (OpenSpec.upto fnExactFoldInOrderSpec)

end Rows
end Go.Proofs.Ytdeofaimgldklaa
