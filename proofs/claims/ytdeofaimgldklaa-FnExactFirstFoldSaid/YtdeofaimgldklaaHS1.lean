/- Folding, the model: the number of a vertex behind a fold (l7New). -/
import Derived.Test.YtdeofaimgldklaaHM
import Derived.Test.YtdeofaimgldklaaHFO
import Derived.Test.YtdeofaimgldklaaLW3
namespace Go.Proofs.Ytdeofaimgldklaa
open Go.RowKit
set_option linter.unusedVariables false
set_option linter.unusedSimpArgs false

theorem specNewV (w : World) (v k d : Int) (hv : -9223372036854775807 ≤ v ∧ v ≤ 9223372036854775807) (hk : -9223372036854775807 ≤ k ∧ k ≤ 9223372036854775807) :
    Calls Try.prog 44 #[.int .i64 v, .agg #[.int .i64 k, .int .i64 d]] w (LwInt w (newV k d v)) := by
  obtain ⟨w1, hw1⟩ : ∃ w1, w1 = w.alloc (.cells #[.int .i64 k, .int .i64 d] 27) := ⟨_, rfl⟩
  have hb1 : Below w.heap.size w w1 := by rw [hw1]; exact (Below.refl _ _).alloc (Nat.le_refl _) _
  have hk1 := heap_alloc_new w (.cells #[.int .i64 k, .int .i64 d] 27)
  rw [← hw1] at hk1
  have c0 := cell_of_heap hk1 0
  have c1 := cell_of_heap hk1 1
  simp at c0 c1
  obtain ⟨R, hR⟩ : ∃ R, R = newV k d v := ⟨_, rfl⟩
  rw [← hR]
  replace hk1 := hidI hk1
  by_cases h1 : v = d
  · have t1 : (v == d) = true := by rw [beq_iff_eq]; exact h1
    by_cases h2 : k > d
    · have hsub : IntKind.i64.wrap (k - 1) = k - 1 := IntWalk.i64_in _ (by omega)
      have hRe : R = k - 1 := by rw [hR]; unfold newV; rw [if_pos h1, if_pos h2]
      have hr : LwInt w R (.returned (.int .i64 (k - 1))) w1 := ⟨ret_i hRe.symm, hb1⟩
      replace hR := hidI hR
      replace hRe := hidI hRe
      replace hr := hidI hr
      replace h1 := hidI h1
      go_enter Try.func44, Try.ntmps44
      go_wp2_with fail
      rw [← hw1]
      replace hw1 := hidI hw1
      go_wp2
      go_ret
      exact hr.out
    · have hRe : R = k := by rw [hR]; unfold newV; rw [if_pos h1, if_neg h2]
      have hr : LwInt w R (.returned (.int .i64 k)) w1 := ⟨ret_i hRe.symm, hb1⟩
      replace hR := hidI hR
      replace hRe := hidI hRe
      replace hr := hidI hr
      replace h1 := hidI h1
      go_enter Try.func44, Try.ntmps44
      go_wp2_with fail
      rw [← hw1]
      replace hw1 := hidI hw1
      go_wp2
      go_ret
      exact hr.out
  · have t1 : (v == d) = false := by rw [beq_eq_false_iff_ne]; exact h1
    by_cases h2 : v > d
    · have hsub : IntKind.i64.wrap (v - 1) = v - 1 := IntWalk.i64_in _ (by omega)
      have hRe : R = v - 1 := by rw [hR]; unfold newV; rw [if_neg h1, if_pos h2]
      have hr : LwInt w R (.returned (.int .i64 (v - 1))) w1 := ⟨ret_i hRe.symm, hb1⟩
      replace hR := hidI hR
      replace hRe := hidI hRe
      replace hr := hidI hr
      replace h1 := hidI h1
      go_enter Try.func44, Try.ntmps44
      go_wp2_with fail
      rw [← hw1]
      replace hw1 := hidI hw1
      go_wp2
      go_ret
      exact hr.out
    · have hRe : R = v := by rw [hR]; unfold newV; rw [if_neg h1, if_neg h2]
      have hr : LwInt w R (.returned (.int .i64 v)) w1 := ⟨ret_i hRe.symm, hb1⟩
      replace hR := hidI hR
      replace hRe := hidI hRe
      replace hr := hidI hr
      replace h1 := hidI h1
      go_enter Try.func44, Try.ntmps44
      go_wp2_with fail
      rw [← hw1]
      replace hw1 := hidI hw1
      go_wp2
      go_ret
      exact hr.out
end Go.Proofs.Ytdeofaimgldklaa
