/- DecodeHex, spec and impl. -/
import Derived.Test.YtdacfnoemjleiaaDoorHexE
import Derived.Lib.OthersKept
import Derived.WalkSmall
namespace Go.Proofs.YtdacfnoemjleiaaDoor
open Go.RowKit
set_option linter.unusedVariables false

theorem hexValue_yes (c : UInt8) (w : World) (h : isH c = true) :
    Calls Tryd.prog 27 #[.int .i32 (c.toNat : Int)] w fun e w' => e = .returned (.tuple #[.int .u8 (dgt c : Int), .bool true]) ∧ w = w' := by
  have hu := unhex_eq h
  unfold unhex at hu
  by_cases h1 : 48 ≤ c.toNat ∧ c.toNat ≤ 57
  · rw [if_pos h1] at hu
    have hu2 : (dgt c : Int) = (c.toNat : Int) - 48 := by omega
    obtain ⟨h3, h4⟩ := h1
    rw [hu2]
    clear hu hu2
    go_enter Tryd.func27, Tryd.ntmps27
    go_wp2
    go_ret2
    exact ⟨rfl, rfl⟩
  · rw [if_neg h1] at hu
    by_cases h2 : 97 ≤ c.toNat ∧ c.toNat ≤ 102
    · rw [if_pos h2] at hu
      have hu2 : (dgt c : Int) = (c.toNat : Int) - 97 + 10 := by omega
      obtain ⟨h3, h4⟩ := h2
      have h5 : decide ((c.toNat : Int) ≤ 57) = false := by simp; omega
      rw [hu2]
      clear hu hu2 h1
      go_enter Tryd.func27, Tryd.ntmps27
      go_wp2
      go_ret2
      exact ⟨rfl, rfl⟩
    · rw [if_neg h2] at hu
      omega
theorem hexValue_no (r : Int) (w : World) (h : ¬ (48 ≤ r ∧ r ≤ 57)) (h' : ¬ (97 ≤ r ∧ r ≤ 102)) :
    Calls Tryd.prog 27 #[.int .i32 r] w fun e w' => e = .returned (.tuple #[.int .u8 0, .bool false]) ∧ w = w' := by
  by_cases h1 : 48 ≤ r
  · have h2 : decide (r ≤ 57) = false := by simp; omega
    by_cases h3 : 97 ≤ r
    · have h4 : decide (r ≤ 102) = false := by simp; omega
      clear h h'
      go_enter Tryd.func27, Tryd.ntmps27
      go_wp2
      go_ret2
      exact ⟨rfl, rfl⟩
    · clear h h'
      go_enter Tryd.func27, Tryd.ntmps27
      go_wp2
      go_ret2
      exact ⟨rfl, rfl⟩
  · have h3 : ¬ 97 ≤ r := by omega
    clear h h'
    go_enter Tryd.func27, Tryd.ntmps27
    go_wp2
    go_ret2
    exact ⟨rfl, rfl⟩
theorem isH_iff (c : UInt8) : isH c = true ↔ (48 ≤ c.toNat ∧ c.toNat ≤ 57) ∨ (97 ≤ c.toNat ∧ c.toNat ≤ 102) := by
  unfold isH unhex
  rw [decide_eq_true_iff]
  split
  · omega
  · split <;> omega

end Go.Proofs.YtdacfnoemjleiaaDoor
