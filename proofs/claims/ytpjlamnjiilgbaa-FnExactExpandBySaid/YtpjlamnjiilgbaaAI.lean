/- areInverse by itself. -/
import Derived.Test.YtpjlamnjiilgbaaWS1
import Derived.Test.YtpjlamnjiilgbaaMX
namespace Go.Proofs.Ytpjlamnjiilgbaa
open Go.RowKit
set_option linter.unusedVariables false

/-- areInverse. -/
theorem areInv (w : World) (y x : Int) (hy : -9223372036854775808 ≤ y ∧ y ≤ 9223372036854775807) (hx : -9223372036854775808 ≤ x ∧ x ≤ 9223372036854775807) (b : Bool) (hb : inv y x = b) :
    Calls Try.prog 22 #[.int .i64 y, .int .i64 x] w fun e w' => e = .returned (.bool b) ∧ w = w' := by
  have he : y = ng x ∧ y ≠ 0 ∧ y ≠ -9223372036854775808 ↔ y + x = 0 ∧ x ≠ 0 := by
    by_cases h1 : x = -9223372036854775808
    · subst h1; rw [ng_min]; omega
    · rw [ng_of (by omega) hx.2]; omega
  by_cases h1 : y = ng x
  · have g1 : (y == wrap64 (-x)) = true := by rw [beq_iff_eq]; exact h1
    by_cases h2 : y = 0
    · have g2 : (y != 0) = false := by rw [bne_eq_false_iff_eq]; exact h2
      have hbb : b = false := by rw [← hb]; unfold inv; rw [decide_eq_false_iff_not, ← he]; exact fun h => h.2.1 h2
      subst hbb
      clear hb he h1 h2
      go_enter Try.func22, Try.ntmps22
      go_wp2
      go_ret
      exact ⟨rfl, rfl⟩
    · have g2 : (y != 0) = true := by rw [bne_iff_ne]; exact h2
      by_cases h3 : y = -9223372036854775808
      · have g3 : (y != -9223372036854775808) = false := by rw [bne_eq_false_iff_eq]; exact h3
        have hbb : b = false := by rw [← hb]; unfold inv; rw [decide_eq_false_iff_not, ← he]; exact fun h => h.2.2 h3
        subst hbb
        clear hb he h1 h2 h3
        go_enter Try.func22, Try.ntmps22
        go_wp2
        go_ret
        exact ⟨rfl, rfl⟩
      · have g3 : (y != -9223372036854775808) = true := by rw [bne_iff_ne]; exact h3
        have hbb : b = true := by rw [← hb]; unfold inv; rw [decide_eq_true_eq, ← he]; exact ⟨h1, h2, h3⟩
        subst hbb
        clear hb he h1 h2 h3
        go_enter Try.func22, Try.ntmps22
        go_wp2
        go_ret
        exact ⟨rfl, rfl⟩
  · have g1 : (y == wrap64 (-x)) = false := by rw [beq_eq_false_iff_ne]; exact h1
    have hbb : b = false := by rw [← hb]; unfold inv; rw [decide_eq_false_iff_not, ← he]; exact fun h => h1 h.1
    subst hbb
    clear hb he h1
    go_enter Try.func22, Try.ntmps22
    go_wp2
    go_ret
    exact ⟨rfl, rfl⟩
end Go.Proofs.Ytpjlamnjiilgbaa
