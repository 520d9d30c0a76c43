/- Words, the program: isRank, isLetter. -/
import Derived.Test.YtmafaglgegimfaaDoorRows
import Derived.WalkKit
namespace Go.Proofs.YtmafaglgegimfaaDoor
open Go.RowKit
set_option linter.unusedVariables false

theorem isRank_yes (w : World) (r : Int) (h1 : 1 ≤ r) (h2 : r ≤ 3) : Calls Tryd.prog 25 #[.int .i64 r] w fun e w' => e = .returned (.bool true) ∧ w = w' := by
  go_enter Tryd.func25, Tryd.ntmps25
  go_wp2
  go_ret
  exact ⟨rfl, rfl⟩
theorem isRank_no (w : World) (r : Int) (h : r < 1 ∨ 3 < r) : Calls Tryd.prog 25 #[.int .i64 r] w fun e w' => e = .returned (.bool false) ∧ w = w' := by
  by_cases h1 : 1 ≤ r
  · have h2 : 3 < r := by omega
    have h3 : decide (r ≤ 3) = false := by simp; omega
    clear h
    go_enter Tryd.func25, Tryd.ntmps25
    go_wp2
    go_ret
    exact ⟨rfl, rfl⟩
  · clear h
    go_enter Tryd.func25, Tryd.ntmps25
    go_wp2
    go_ret
    exact ⟨rfl, rfl⟩
theorem isLetter_yes (w : World) (r x : Int) (hr1 : 1 ≤ r) (hr3 : r ≤ 3) (h0 : x ≠ 0) (h1 : -r ≤ x) (h2 : x ≤ r) : Calls Tryd.prog 33 #[.int .i64 r, .int .i64 x] w fun e w' => e = .returned (.bool true) ∧ w = w' := by
  have g0 : (x != 0) = true := by rw [bne_iff_ne]; exact h0
  clear h0
  go_enter Tryd.func33, Tryd.ntmps33
  go_wp2
  go_ret
  exact ⟨rfl, rfl⟩
theorem isLetter_no (w : World) (r x : Int) (hr1 : 1 ≤ r) (hr3 : r ≤ 3) (h : x = 0 ∨ x < -r ∨ r < x) : Calls Tryd.prog 33 #[.int .i64 r, .int .i64 x] w fun e w' => e = .returned (.bool false) ∧ w = w' := by
  by_cases h0 : x = 0
  · have g0 : (x != 0) = false := by rw [bne_eq_false_iff_eq]; exact h0
    clear h h0
    go_enter Tryd.func33, Tryd.ntmps33
    go_wp2
    go_ret
    exact ⟨rfl, rfl⟩
  · have g0 : (x != 0) = true := by rw [bne_iff_ne]; exact h0
    by_cases h1 : -r ≤ x
    · have h2 : r < x := by omega
      clear h0
      have h3 : decide (x ≤ r) = false := by simp; omega
      clear h
      go_enter Tryd.func33, Tryd.ntmps33
      go_wp2
      go_ret
      exact ⟨rfl, rfl⟩
    · have h3 : decide (-r ≤ x) = false := by simp; omega
      clear h h0
      go_enter Tryd.func33, Tryd.ntmps33
      go_wp2
      go_ret
      exact ⟨rfl, rfl⟩
end Go.Proofs.YtmafaglgegimfaaDoor
