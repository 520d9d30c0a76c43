/- Graphs, the program: the map of the ends of edges, its keys. -/
import Derived.Test.YtecceaijdjnflaaQF
import Derived.Maps.OwnSet
import Derived.DeepKeys4
namespace Go.Proofs.Ytecceaijdjnflaa
open Go.RowKit Go.Maps
set_option linter.unusedVariables false
set_option linter.unusedSimpArgs false

def kE (p : Int) (b : Bool) : Lit := .string (keyBytes [.int .i64 p, .bool b])
theorem laidOutP : laidOutB Try.prog = true := by kernel_rfl
theorem lawK : Keyed Try.prog 104 := Keyed.of_law (deep_law_laid laidOutP (m := 2) (by omega) (of_decide_eq_true (by kernel_rfl)) (by kernel_rfl) (by rw [Try.underlying104]))
theorem keyTK : Try.prog.keyType 104 = true := by kernel_rfl
theorem cellsK : Try.prog.cellsOf 104 = 2 := by kernel_rfl
theorem cellsKi : Try.prog.cellsOf 3 = 1 := by kernel_rfl
theorem cellsKb : Try.prog.cellsOf 4 = 1 := by kernel_rfl
theorem sizeTypes : ∃ d, Try.prog.types.size = d + 1 := by
  have h : Try.prog.types.size = (Try.prog.types.size - 1) + 1 := by
    have : 0 < Try.prog.types.size := of_decide_eq_true (by kernel_rfl)
    omega
  exact ⟨_, h⟩
theorem kE_key (p : Int) (b : Bool) (hp : -9223372036854775808 ≤ p ∧ p ≤ 9223372036854775807) : keyOf Try.prog 104 (.agg #[.int .i64 p, .bool b]) = some (kE p b) := by
  have hwf : (Lit.int .i64 p).wf = true := WalkArith.wf_i64 hp
  obtain ⟨d, hd⟩ := sizeTypes
  unfold keyOf
  rw [Try.underlying104, keyTK, hd]
  simp [Value.formed, Try.underlying104, cellsK, cellsKi, cellsKb, Program.keyLits, Try.underlying3, Try.underlying4, Value.cells, hwf, kE]
theorem kE_inj {p q : Int} {b c : Bool} (hp : -9223372036854775808 ≤ p ∧ p ≤ 9223372036854775807) (hq : -9223372036854775808 ≤ q ∧ q ≤ 9223372036854775807) (h : kE p b = kE q c) : p = q ∧ b = c := by
  have := lawK.inj (kE_key p b hp) (by rw [kE_key q c hq, h])
  simp at this
  exact this
theorem kE_is (p : Int) (b : Bool) (hp : -9223372036854775808 ≤ p ∧ p ≤ 9223372036854775807) : WideAt.IsKeyLit (kE p b) := lawK.key (kE_key p b hp)
end Go.Proofs.Ytecceaijdjnflaa
