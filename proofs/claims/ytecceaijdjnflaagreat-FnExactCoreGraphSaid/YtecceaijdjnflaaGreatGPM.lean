/- Graphs, the program: the map of the ends of edges, its keys. -/
import Derived.Test.YtecceaijdjnflaaGreatQF
import Derived.Maps.OwnSet
import Derived.DeepKeys4
namespace Go.Proofs.YtecceaijdjnflaaGreat
open Go.RowKit Go.Maps
set_option linter.unusedVariables false
set_option linter.unusedSimpArgs false

def kE (p : Int) (b : Bool) : Lit := .string (keyBytes [.int .i64 p, .bool b])
theorem laidOutP : laidOutB Tryz.prog = true := by kernel_rfl
theorem lawK : Keyed Tryz.prog 135 := Keyed.of_law (deep_law_laid laidOutP (m := 2) (by omega) (of_decide_eq_true (by kernel_rfl)) (by kernel_rfl) (by rw [Tryz.underlying135]))
theorem keyTK : Tryz.prog.keyType 135 = true := by kernel_rfl
theorem cellsK : Tryz.prog.cellsOf 135 = 2 := by kernel_rfl
theorem cellsKi : Tryz.prog.cellsOf 3 = 1 := by kernel_rfl
theorem cellsKb : Tryz.prog.cellsOf 4 = 1 := by kernel_rfl
theorem sizeTypes : ∃ d, Tryz.prog.types.size = d + 1 := by
  have h : Tryz.prog.types.size = (Tryz.prog.types.size - 1) + 1 := by
    have : 0 < Tryz.prog.types.size := of_decide_eq_true (by kernel_rfl)
    omega
  exact ⟨_, h⟩
theorem kE_key (p : Int) (b : Bool) (hp : -9223372036854775808 ≤ p ∧ p ≤ 9223372036854775807) : keyOf Tryz.prog 135 (.agg #[.int .i64 p, .bool b]) = some (kE p b) := by
  have hwf : (Lit.int .i64 p).wf = true := WalkArith.wf_i64 hp
  obtain ⟨d, hd⟩ := sizeTypes
  unfold keyOf
  rw [Tryz.underlying135, keyTK, hd]
  simp [Value.formed, Tryz.underlying135, cellsK, cellsKi, cellsKb, Program.keyLits, Tryz.underlying3, Tryz.underlying4, Value.cells, hwf, kE]
theorem kE_inj {p q : Int} {b c : Bool} (hp : -9223372036854775808 ≤ p ∧ p ≤ 9223372036854775807) (hq : -9223372036854775808 ≤ q ∧ q ≤ 9223372036854775807) (h : kE p b = kE q c) : p = q ∧ b = c := by
  have := lawK.inj (kE_key p b hp) (by rw [kE_key q c hq, h])
  simp at this
  exact this
theorem kE_is (p : Int) (b : Bool) (hp : -9223372036854775808 ≤ p ∧ p ≤ 9223372036854775807) : WideAt.IsKeyLit (kE p b) := lawK.key (kE_key p b hp)
end Go.Proofs.YtecceaijdjnflaaGreat
