/-
  No cell of these rows narrows 'for every input' (looked for: loops, veiled, ifaces, maps, wideKeys, modest, calm, conditions, laid).
  DERIVED. THE GIVEN ROWS OF THIS SEAT. 5 by the template 'for every input the law returns true; each argument reads behind the call as it read before'; 0 by the template 'total and deterministic' (their statements: YtpjlamnjiilgbaaGreatTotals.lean).
  GIVEN WITH THE SEED: the statements are not yours to turn. If you find one false, say at which input.
  Laid BY PROGRAM, IN A SANDBOX (cutbox-rows.mjs): the forced cells as the released guide's own fill.sh prints them over the translation 4975134a43273bd4… (all of the seat's roots in one cut). By AI agents, Wed Nov 11 2026. No macro, syntax, notation, axiom, sorry.
-/
import Derived.Test.YtpjlamnjiilgbaaGreatChecked
import GoSem.Claim
import GoSem.ClaimJoined
import GoSem.ClaimMapViews
import Derived.JoinedTies
import Derived.KernelRfl
namespace Go.Proofs.YtpjlamnjiilgbaaGreat
/- THE CELL 'sum', in the pinned program and in every row, IS THE sha256 OF THE DUMP (.gsa) THAT YtpjlamnjiilgbaaGreatProg.lean LOADS. Nothing in Lean hashes anything: it is a label: what it is worth is what the hold of that sum in a sandbox is worth. -/
noncomputable def Tryz.pinned : Pinned := { name := "ytpjlamnjiilgbaagreat", sum := "4975134a43273bd49a93de1ba223b4dd2374be187315c5ca315cedd532b28751", checked := Tryz.checked }
namespace Rows
def none {H : Type} : Left H := { results := [], args := [] }

/-- 'laws.FnInclusions': WHATEVER THE INPUT: true; the input reads as it did. -/
def fnInclusionsSpec : ChangeSpec := { name := "fnInclusions", fn := fun _ => fun
  | [d] => { results := [.lit (.bool true)], args := [d] }
  | _ => none }
def fnInclusionsRow : OpenClaim := { program := "ytpjlamnjiilgbaagreat", sum := "4975134a43273bd49a93de1ba223b4dd2374be187315c5ca315cedd532b28751", func := "loop.example/g02075/laws.FnInclusions", spec := "fnInclusions", unfollowed := true, recurses := true, plainKeys := false, apart := false }
def FnInclusionsSaid : Prop := fnInclusionsRow.holds Tryz.pinned (OpenSpec.ofChange fnInclusionsSpec)

/-- ITS FALSE NEIGHBOUR: 'it returns false'. Refute it at one input. -/
def fnInclusionsWrong : ChangeSpec := { name := "fnInclusions", fn := fun _ => fun
  | [d] => { results := [.lit (.bool false)], args := [d] }
  | _ => none }
def FnInclusionsWrongFalsely : Prop := fnInclusionsRow.holds Tryz.pinned (OpenSpec.ofChange fnInclusionsWrong)

/-- 'laws.FnExactBasisOf': WHATEVER THE INPUT: true; the input reads as it did. -/
def fnExactBasisOfSpec : ChangeSpec := { name := "fnExactBasisOf", fn := fun _ => fun
  | [d] => { results := [.lit (.bool true)], args := [d] }
  | _ => none }
def fnExactBasisOfRow : OpenClaim := { program := "ytpjlamnjiilgbaagreat", sum := "4975134a43273bd49a93de1ba223b4dd2374be187315c5ca315cedd532b28751", func := "loop.example/g02075/laws.FnExactBasisOf", spec := "fnExactBasisOf", unfollowed := true, recurses := true, plainKeys := false, apart := false }
def FnExactBasisOfSaid : Prop := fnExactBasisOfRow.holds Tryz.pinned (OpenSpec.ofChange fnExactBasisOfSpec)

/-- ITS FALSE NEIGHBOUR: 'it returns false'. Refute it at one input. -/
def fnExactBasisOfWrong : ChangeSpec := { name := "fnExactBasisOf", fn := fun _ => fun
  | [d] => { results := [.lit (.bool false)], args := [d] }
  | _ => none }
def FnExactBasisOfWrongFalsely : Prop := fnExactBasisOfRow.holds Tryz.pinned (OpenSpec.ofChange fnExactBasisOfWrong)

/-- 'laws.FnExactIsFreeBasis': WHATEVER THE INPUT: true; the input reads as it did. -/
def fnExactIsFreeBasisSpec : ChangeSpec := { name := "fnExactIsFreeBasis", fn := fun _ => fun
  | [d1, d2] => { results := [.lit (.bool true)], args := [d1, d2] }
  | _ => none }
def fnExactIsFreeBasisRow : OpenClaim := { program := "ytpjlamnjiilgbaagreat", sum := "4975134a43273bd49a93de1ba223b4dd2374be187315c5ca315cedd532b28751", func := "loop.example/g02075/laws.FnExactIsFreeBasis", spec := "fnExactIsFreeBasis", inPlace := ["(*internal/sync.Mutex).Lock", "internal/race.Disable", "sync/atomic.CompareAndSwapInt32", "internal/race.Enable", "internal/race.Acquire", "(*internal/sync.Mutex).lockSlow", "internal/sync.runtime_canSpin", "internal/sync.runtime_doSpin", "internal/sync.throw", "internal/sync.runtime_nanotime", "internal/sync.runtime_SemacquireMutex", "sync/atomic.AddInt32", "(*internal/sync.Mutex).Unlock", "internal/race.ReleaseMerge", "(*internal/sync.Mutex).unlockSlow", "internal/sync.fatal", "internal/sync.runtime_Semrelease"], unfollowed := true, recurses := true, plainKeys := false, apart := false }
def FnExactIsFreeBasisSaid : Prop := fnExactIsFreeBasisRow.holds Tryz.pinned (OpenSpec.ofChange fnExactIsFreeBasisSpec)

/-- ITS FALSE NEIGHBOUR: 'it returns false'. Refute it at one input. -/
def fnExactIsFreeBasisWrong : ChangeSpec := { name := "fnExactIsFreeBasis", fn := fun _ => fun
  | [d1, d2] => { results := [.lit (.bool false)], args := [d1, d2] }
  | _ => none }
def FnExactIsFreeBasisWrongFalsely : Prop := fnExactIsFreeBasisRow.holds Tryz.pinned (OpenSpec.ofChange fnExactIsFreeBasisWrong)

/-- 'laws.FnExactGeneratesAll': WHATEVER THE INPUT: true; the input reads as it did. -/
def fnExactGeneratesAllSpec : ChangeSpec := { name := "fnExactGeneratesAll", fn := fun _ => fun
  | [d1, d2] => { results := [.lit (.bool true)], args := [d1, d2] }
  | _ => none }
def fnExactGeneratesAllRow : OpenClaim := { program := "ytpjlamnjiilgbaagreat", sum := "4975134a43273bd49a93de1ba223b4dd2374be187315c5ca315cedd532b28751", func := "loop.example/g02075/laws.FnExactGeneratesAll", spec := "fnExactGeneratesAll", inPlace := ["(*internal/sync.Mutex).Lock", "internal/race.Disable", "sync/atomic.CompareAndSwapInt32", "internal/race.Enable", "internal/race.Acquire", "(*internal/sync.Mutex).lockSlow", "internal/sync.runtime_canSpin", "internal/sync.runtime_doSpin", "internal/sync.throw", "internal/sync.runtime_nanotime", "internal/sync.runtime_SemacquireMutex", "sync/atomic.AddInt32", "(*internal/sync.Mutex).Unlock", "internal/race.ReleaseMerge", "(*internal/sync.Mutex).unlockSlow", "internal/sync.fatal", "internal/sync.runtime_Semrelease"], unfollowed := true, recurses := true, plainKeys := false, apart := false }
def FnExactGeneratesAllSaid : Prop := fnExactGeneratesAllRow.holds Tryz.pinned (OpenSpec.ofChange fnExactGeneratesAllSpec)

/-- ITS FALSE NEIGHBOUR: 'it returns false'. Refute it at one input. -/
def fnExactGeneratesAllWrong : ChangeSpec := { name := "fnExactGeneratesAll", fn := fun _ => fun
  | [d1, d2] => { results := [.lit (.bool false)], args := [d1, d2] }
  | _ => none }
def FnExactGeneratesAllWrongFalsely : Prop := fnExactGeneratesAllRow.holds Tryz.pinned (OpenSpec.ofChange fnExactGeneratesAllWrong)

/-- 'laws.FnExactRewriteIn': WHATEVER THE INPUT: true; the input reads as it did. -/
def fnExactRewriteInSpec : ChangeSpec := { name := "fnExactRewriteIn", fn := fun _ => fun
  | [d1, d2] => { results := [.lit (.bool true)], args := [d1, d2] }
  | _ => none }
def fnExactRewriteInRow : OpenClaim := { program := "ytpjlamnjiilgbaagreat", sum := "4975134a43273bd49a93de1ba223b4dd2374be187315c5ca315cedd532b28751", func := "loop.example/g02075/laws.FnExactRewriteIn", spec := "fnExactRewriteIn", unfollowed := true, recurses := true, plainKeys := false, apart := false }
def FnExactRewriteInSaid : Prop := fnExactRewriteInRow.holds Tryz.pinned (OpenSpec.ofChange fnExactRewriteInSpec)

/-- ITS FALSE NEIGHBOUR: 'it returns false'. Refute it at one input. -/
def fnExactRewriteInWrong : ChangeSpec := { name := "fnExactRewriteIn", fn := fun _ => fun
  | [d1, d2] => { results := [.lit (.bool false)], args := [d1, d2] }
  | _ => none }
def FnExactRewriteInWrongFalsely : Prop := fnExactRewriteInRow.holds Tryz.pinned (OpenSpec.ofChange fnExactRewriteInWrong)

/- THE SECOND FORM. 'bulk': how many values and letters a reading holds, each counted each time it is reached (what is shared counts as often as it is met; a slice's spare places count too). A statement '..UptoSaid' is the law's where the arguments, and the package variables that the reading takes, are together of bulk at most 1048576: NARROWER than '..Said'. Prove '..Said' where nothing that the law and all that it calls make is longer than what came in: it says more and counts as full. Else prove '..UptoSaid'. A law counts once. -/
mutual
def uptoBulk {H : Type} : DataW H → Nat
  | .lit (.string bytes) => bytes.length + 1
  | .lit _ => 1
  | .nil => 1
  | .ptr d => uptoBulk d + 1
  | .slice elems spare => uptoBulkAll elems + uptoBulkAll spare + 1
  | .agg parts => uptoBulkAll parts + 1
  | .iface _ d => uptoBulk d + 1
  | .map entries => uptoBulkEntries entries + 1
  | .held _ => 1
def uptoBulkAll {H : Type} : List (DataW H) → Nat
  | [] => 0
  | d :: r => uptoBulk d + uptoBulkAll r
def uptoBulkEntries {H : Type} : List (Lit × DataW H) → Nat
  | [] => 0
  | x :: r => uptoBulkEntry x + uptoBulkEntries r
def uptoBulkEntry {H : Type} : Lit × DataW H → Nat
  | (.string bytes, d) => bytes.length + uptoBulk d + 1
  | (_, d) => uptoBulk d + 1
 end
def uptoSmall : (H : Type) → List (DataW H) → Bool := fun _ ds => decide (uptoBulkAll ds ≤ 1048576)
def OpenSpec.upto (s : _root_.Go.ChangeSpec) : _root_.Go.OpenSpec := { _root_.Go.OpenSpec.ofChange s with cond := some uptoSmall }

/-- 'laws.FnInclusions', WHERE WHAT IT READS IS OF BULK AT MOST 1048576: true; the input reads as it did. -/
def fnInclusionsUptoRow : OpenClaim := { program := "ytpjlamnjiilgbaagreat", sum := "4975134a43273bd49a93de1ba223b4dd2374be187315c5ca315cedd532b28751", func := "loop.example/g02075/laws.FnInclusions", spec := "fnInclusions", unfollowed := true, recurses := true, plainKeys := false, apart := false, narrowed := true }
def FnInclusionsUptoSaid : Prop := fnInclusionsUptoRow.holds Tryz.pinned (OpenSpec.upto fnInclusionsSpec)

/-- 'laws.FnExactBasisOf', WHERE WHAT IT READS IS OF BULK AT MOST 1048576: true; the input reads as it did. -/
def fnExactBasisOfUptoRow : OpenClaim := { program := "ytpjlamnjiilgbaagreat", sum := "4975134a43273bd49a93de1ba223b4dd2374be187315c5ca315cedd532b28751", func := "loop.example/g02075/laws.FnExactBasisOf", spec := "fnExactBasisOf", unfollowed := true, recurses := true, plainKeys := false, apart := false, narrowed := true }
def FnExactBasisOfUptoSaid : Prop := fnExactBasisOfUptoRow.holds Tryz.pinned (OpenSpec.upto fnExactBasisOfSpec)

/-- 'laws.FnExactIsFreeBasis', WHERE WHAT IT READS IS OF BULK AT MOST 1048576: true; the input reads as it did. -/
def fnExactIsFreeBasisUptoRow : OpenClaim := { program := "ytpjlamnjiilgbaagreat", sum := "4975134a43273bd49a93de1ba223b4dd2374be187315c5ca315cedd532b28751", func := "loop.example/g02075/laws.FnExactIsFreeBasis", spec := "fnExactIsFreeBasis", inPlace := ["(*internal/sync.Mutex).Lock", "internal/race.Disable", "sync/atomic.CompareAndSwapInt32", "internal/race.Enable", "internal/race.Acquire", "(*internal/sync.Mutex).lockSlow", "internal/sync.runtime_canSpin", "internal/sync.runtime_doSpin", "internal/sync.throw", "internal/sync.runtime_nanotime", "internal/sync.runtime_SemacquireMutex", "sync/atomic.AddInt32", "(*internal/sync.Mutex).Unlock", "internal/race.ReleaseMerge", "(*internal/sync.Mutex).unlockSlow", "internal/sync.fatal", "internal/sync.runtime_Semrelease"], unfollowed := true, recurses := true, plainKeys := false, apart := false, narrowed := true }
def FnExactIsFreeBasisUptoSaid : Prop := fnExactIsFreeBasisUptoRow.holds Tryz.pinned (OpenSpec.upto fnExactIsFreeBasisSpec)

/-- 'laws.FnExactGeneratesAll', WHERE WHAT IT READS IS OF BULK AT MOST 1048576: true; the input reads as it did. -/
def fnExactGeneratesAllUptoRow : OpenClaim := { program := "ytpjlamnjiilgbaagreat", sum := "4975134a43273bd49a93de1ba223b4dd2374be187315c5ca315cedd532b28751", func := "loop.example/g02075/laws.FnExactGeneratesAll", spec := "fnExactGeneratesAll", inPlace := ["(*internal/sync.Mutex).Lock", "internal/race.Disable", "sync/atomic.CompareAndSwapInt32", "internal/race.Enable", "internal/race.Acquire", "(*internal/sync.Mutex).lockSlow", "internal/sync.runtime_canSpin", "internal/sync.runtime_doSpin", "internal/sync.throw", "internal/sync.runtime_nanotime", "internal/sync.runtime_SemacquireMutex", "sync/atomic.AddInt32", "(*internal/sync.Mutex).Unlock", "internal/race.ReleaseMerge", "(*internal/sync.Mutex).unlockSlow", "internal/sync.fatal", "internal/sync.runtime_Semrelease"], unfollowed := true, recurses := true, plainKeys := false, apart := false, narrowed := true }
def FnExactGeneratesAllUptoSaid : Prop := fnExactGeneratesAllUptoRow.holds Tryz.pinned (OpenSpec.upto fnExactGeneratesAllSpec)

/-- 'laws.FnExactRewriteIn', WHERE WHAT IT READS IS OF BULK AT MOST 1048576: true; the input reads as it did. -/
def fnExactRewriteInUptoRow : OpenClaim := { program := "ytpjlamnjiilgbaagreat", sum := "4975134a43273bd49a93de1ba223b4dd2374be187315c5ca315cedd532b28751", func := "loop.example/g02075/laws.FnExactRewriteIn", spec := "fnExactRewriteIn", unfollowed := true, recurses := true, plainKeys := false, apart := false, narrowed := true }
def FnExactRewriteInUptoSaid : Prop := fnExactRewriteInUptoRow.holds Tryz.pinned (OpenSpec.upto fnExactRewriteInSpec)

end Rows
end Go.Proofs.YtpjlamnjiilgbaaGreat
