/- Words, the model: EqualWords, the order of letters, CompareWords, PowerWord. -/
import Derived.Test.YtcjkgknmpgehbaaWS2
namespace Go.Proofs.Ytcjkgknmpgehbaa
open Go.RowKit
set_option linter.unusedVariables false

theorem ordI_same {x y : Int} (h : (x == y) = true) : ordI x y = 0 := if_pos (beq_iff_eq.1 h)
set_option maxHeartbeats 1600000 in
theorem specOrd (w : World) (x y : Int) :
    Calls Try.prog 75 #[.int .i64 x, .int .i64 y] w (fun e w' => e = .returned (.int .i64 (ordI x y)) ∧ w' = w) := by
  have hm1 : ∀ a b : Int, max a b = if a ≤ b then b else a := fun a b => by omega
  go_enter Try.func75, Try.ntmps75
  go_wp2
  all_goals go_ret
  all_goals refine ⟨ret_i ?_, rfl⟩
  all_goals try subst_vars
  all_goals unfold ordI ng
  all_goals simp only [beq_iff_eq, beq_eq_false_iff_ne, ne_eq] at *
  all_goals simp only [hm1]
  all_goals (repeat' split) <;> omega
end Go.Proofs.Ytcjkgknmpgehbaa
