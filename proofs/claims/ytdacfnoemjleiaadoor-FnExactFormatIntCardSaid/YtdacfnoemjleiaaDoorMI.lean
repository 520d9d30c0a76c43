/- Plain mathematics of decimal numerals. -/
import Derived.Test.YtdacfnoemjleiaaDoorM
import Derived.Lib.ItoaNum
namespace Go.Proofs.YtdacfnoemjleiaaDoor
open Go.RowKit
theorem dd_one {q : Nat} (h : q < 10) : Lib.decDigits q = [UInt8.ofNat (48 + q)] := Lib.decDigits_one h
theorem dd_more {q : Nat} (h : ¬ q < 10) : Lib.decDigits q = Lib.decDigits (q / 10) ++ [UInt8.ofNat (48 + q % 10)] := by rw [Lib.decDigits, dif_neg h]
theorem dd_length_le : ∀ (k q : Nat), q < 10 ^ (k + 1) → (Lib.decDigits q).length ≤ k + 1
  | 0, q, h => by rw [dd_one (by simpa using h)]; simp
  | k + 1, q, h => by
    by_cases h1 : q < 10
    · rw [dd_one h1]; simp
    · rw [dd_more h1, List.length_append]
      have := dd_length_le k (q / 10) (by rw [Nat.pow_succ] at h; omega)
      simp
      omega
/-- What is left of the number u is q; the digits behind are acc. -/
def Rest (u q : Nat) (acc : List UInt8) : Prop := (q = 0 → acc = Lib.decDigits u) ∧ (1 ≤ q → Lib.decDigits q ++ acc = Lib.decDigits u)
theorem Rest.start {u : Nat} (h : 1 ≤ u) : Rest u u [] := ⟨fun h0 => by omega, fun _ => by simp⟩
theorem Rest.step {u q : Nat} {acc : List UInt8} (h : Rest u q acc) (hq : 1 ≤ q) : Rest u (q / 10) (UInt8.ofNat (48 + q % 10) :: acc) := by
  have h1 := h.2 hq
  by_cases h2 : q < 10
  · rw [dd_one h2] at h1
    refine ⟨fun _ => ?_, fun h3 => by omega⟩
    rw [Nat.mod_eq_of_lt h2]
    exact h1
  · rw [dd_more h2] at h1
    refine ⟨fun h3 => by omega, fun _ => ?_⟩
    rw [← h1]
    simp
theorem Rest.length {u q : Nat} {acc : List UInt8} (h : Rest u q acc) (hu : u ≤ 9223372036854775808) : acc.length ≤ 20 := by
  have hl := dd_length_le 19 u (by omega)
  by_cases hq : q = 0
  · rw [h.1 hq]; omega
  · have h1 := congrArg List.length (h.2 (by omega))
    rw [List.length_append] at h1
    omega
theorem itoa_zero : Lib.itoa 0 = [48] := by unfold Lib.itoa; rw [if_neg (by omega)]; exact dd_one (by decide)
theorem itoa_pos {n : Int} (h : 0 ≤ n) : Lib.itoa n = Lib.decDigits n.toNat := by unfold Lib.itoa; rw [if_neg (by omega)]
theorem itoa_neg' {n : Int} (h : n < 0) : Lib.itoa n = 45 :: Lib.decDigits n.natAbs := by unfold Lib.itoa; rw [if_pos h]
/-- The number to format, as bytes. -/
def fmtB (n : Int) : ByteArray := ⟨(Lib.itoa n).toArray⟩
end Go.Proofs.YtdacfnoemjleiaaDoor
