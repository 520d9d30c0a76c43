/- Cyclic words: the program's contracts under the names that the laws' walks use. -/
import Derived.Test.YtcjkgknmpgehbaaWP7
namespace Go.Proofs.Ytcjkgknmpgehbaa
open Go.RowKit
set_option linter.unusedVariables false

theorem iCore (w : World) (v : Value) (z : List Int) (h : ReadI w.heap.size w v z) (hl : z.length ≤ 1048576) (hi : InR z := by assumption) : Calls Try.prog 16 #[v] w (LwInts2 w (coreL z).1 (coreL z).2) := core_any w v z h hi (by omega)
theorem iCLen (w : World) (v : Value) (z : List Int) (h : ReadI w.heap.size w v z) (hl : z.length ≤ 1048576) (hi : InR z := by assumption) : Calls Try.prog 22 #[v] w (LwInt w ((coreL z).1.length : Int)) := clen_any w v z h hi (by omega)
theorem iForm (w : World) (v : Value) (z : List Int) (h : ReadI w.heap.size w v z) (hl : z.length ≤ 1048576) (hi : InR z := by assumption) : Calls Try.prog 27 #[v] w (LwInts w (lrL (coreL z).1).1) := form_any w v z h hi (by omega)
theorem iLR (w : World) (v : Value) (z : List Int) (h : ReadI w.heap.size w v z) (hl : z.length ≤ 1048576) (hi : InR z := by assumption) : Calls Try.prog 30 #[v] w (LwIntsInt w (lrL z).1 (lrL z).2) := least_any w v z h hi (by omega)
theorem iConj (w : World) (v1 v2 : Value) (z1 z2 : List Int) (h1 : ReadI w.heap.size w v1 z1) (h2 : ReadI w.heap.size w v2 z2) (hl1 : z1.length ≤ 1048576) (hl2 : z2.length ≤ 1048576) (hi1 : InR z1 := by assumption) (hi2 : InR z2 := by assumption) : Calls Try.prog 24 #[v1, v2] w (LwIntsBool w (conjW z1 z2).1 (conjW z1 z2).2) := conj_any w v1 v2 z1 z2 h1 h2 hi1 hi2 (by omega) (by omega)
theorem iRot (w : World) (v : Value) (z : List Int) (k : Int) (h : ReadI w.heap.size w v z) (hl : z.length ≤ 1048576) (hk1 : -9223372036854775808 ≤ k) (hk2 : k ≤ 9223372036854775807) : Calls Try.prog 32 #[v, .int .i64 k] w (LwInts w (rotL z k)) := rotate_any w v z k h (by omega) hk1 hk2
theorem iRoot (w : World) (v : Value) (z : List Int) (h : ReadI w.heap.size w v z) (hl : z.length ≤ 1048576) (hi : InR z := by assumption) : Calls Try.prog 36 #[v] w (LwIntsInt w (rootL z).1 (rootL z).2) := root_any w v z h hi (by omega)
theorem iProper (w : World) (v : Value) (z : List Int) (h : ReadI w.heap.size w v z) (hl : z.length ≤ 1048576) (hi : InR z := by assumption) : Calls Try.prog 38 #[v] w (LwBool w (decide (1 < (rootL z).2))) := proper_any w v z h hi (by omega)
theorem iComm (w : World) (v1 v2 : Value) (z1 z2 : List Int) (h1 : ReadI w.heap.size w v1 z1) (h2 : ReadI w.heap.size w v2 z2) (hl1 : z1.length ≤ 1048576) (hl2 : z2.length ≤ 1048576) (hi1 : InR z1 := by assumption) (hi2 : InR z2 := by assumption) : Calls Try.prog 41 #[v1, v2] w (LwBool w (decide (mulL z1 z2 = mulL z2 z1))) := commute_any w v1 v2 z1 z2 h1 h2 hi1 hi2 (by omega) (by omega)
end Go.Proofs.Ytcjkgknmpgehbaa
