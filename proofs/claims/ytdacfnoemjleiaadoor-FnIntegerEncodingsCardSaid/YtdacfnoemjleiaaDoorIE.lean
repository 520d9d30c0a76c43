/- Contracts for laws.FnIntegerEncodings. -/
import Derived.Test.YtdacfnoemjleiaaDoorDrE
import Derived.Test.YtdacfnoemjleiaaDoorEncF
import Derived.Test.YtdacfnoemjleiaaDoorDecF
import Derived.Test.YtdacfnoemjleiaaDoorDecV
import Derived.Test.YtdacfnoemjleiaaDoorHexE
import Derived.Test.YtdacfnoemjleiaaDoorHexI
import Derived.Test.YtdacfnoemjleiaaDoorParI
namespace Go.Proofs.YtdacfnoemjleiaaDoor
open Go.RowKit
set_option linter.unusedVariables false
def AnyPair (w : World) (e : Ending) (w' : World) : Prop := ∃ (y : Int) (b : Bool), e = .returned (.tuple #[.int .i64 y, .bool b]) ∧ w = w'
theorem implDecF_any (s : ByteArray) (x : Int) (w : World) (hs : s.size ≤ 1048576) :
    Calls Tryd.prog 13 #[.string s, .int .i64 x] w (AnyPair w) := by
  by_cases h : (x < 1 ∨ 7 < x) ∨ (s.size : Int) < x
  · exact (implDecF_no s x w h hs).mono fun e w' ⟨h1, h2⟩ => ⟨_, _, h1, h2⟩
  · obtain ⟨n, rfl⟩ := Int.eq_ofNat_of_zero_le (show 0 ≤ x by omega)
    exact (implDecF_yes s n w (by omega) (by omega) (by omega) hs).mono fun e w' ⟨h1, h2⟩ => ⟨_, _, h1, h2⟩
/-- What EncodeFixed returns, whatever the arguments. -/
def encFI (n x : Int) : ByteArray := if 1 ≤ x ∧ x ≤ 7 ∧ 0 ≤ n then encF n.toNat x.toNat else ⟨#[]⟩
theorem implEncF_all (n x : Int) (w : World) (hf : Fit n) :
    Calls Tryd.prog 12 #[.int .i64 n, .int .i64 x] w fun e w' => e = .returned (.string (encFI n x)) ∧ Below w.heap.size w w' := by
  by_cases h : 1 ≤ x ∧ x ≤ 7 ∧ 0 ≤ n
  · obtain ⟨k, rfl⟩ := Int.eq_ofNat_of_zero_le (show 0 ≤ x by omega)
    obtain ⟨m, rfl⟩ := Int.eq_ofNat_of_zero_le h.2.2
    unfold encFI
    rw [if_pos h]
    exact implEncF_yes m k w (by omega) (by omega) (by have := hf.2; omega)
  · unfold encFI
    rw [if_neg h]
    exact (implEncF_no n x w (by omega)).mono fun e w' ⟨h1, h2⟩ => ⟨h1, by rw [← h2]; exact Below.refl _ _⟩
theorem specEncF_all (n x : Int) (w : World) (hf : Fit n) :
    Calls Tryd.prog 14 #[.int .i64 n, .int .i64 x] w fun e w' => e = .returned (.string (encFI n x)) ∧ Below w.heap.size w w' := by
  by_cases h : 1 ≤ x ∧ x ≤ 7 ∧ 0 ≤ n
  · obtain ⟨k, rfl⟩ := Int.eq_ofNat_of_zero_le (show 0 ≤ x by omega)
    obtain ⟨m, rfl⟩ := Int.eq_ofNat_of_zero_le h.2.2
    unfold encFI
    rw [if_pos h]
    exact specEncF_yes m k w (by omega) (by omega) (by have := hf.2; omega)
  · unfold encFI
    rw [if_neg h]
    exact (specEncF_no n x w (by omega)).mono fun e w' ⟨h1, h2⟩ => ⟨h1, by rw [← h2]; exact Below.refl _ _⟩
/-- Either nothing is encoded, or the bytes of a number of x bytes. -/
theorem encFI_cases (n x : Int) : encFI n x = ⟨#[]⟩ ∨ ∃ m k : Nat, n = (m : Int) ∧ x = (k : Int) ∧ 1 ≤ k ∧ k ≤ 7 ∧ m / 256 ^ k = 0 ∧ encFI n x = ⟨(low m k).toArray⟩ := by
  by_cases h : 1 ≤ x ∧ x ≤ 7 ∧ 0 ≤ n
  · obtain ⟨k, rfl⟩ := Int.eq_ofNat_of_zero_le (show 0 ≤ x by omega)
    obtain ⟨m, rfl⟩ := Int.eq_ofNat_of_zero_le h.2.2
    unfold encFI
    rw [if_pos h]
    by_cases hz : m / 256 ^ k = 0
    · refine .inr ⟨m, k, rfl, rfl, by omega, by omega, hz, ?_⟩
      exact encF_fits hz
    · refine .inl ?_
      exact encF_not hz
  · unfold encFI
    rw [if_neg h]
    exact .inl rfl
theorem encFI_size (n x : Int) : (encFI n x).size ≤ 7 := by
  rcases encFI_cases n x with h | ⟨m, k, _, _, _, hk, _, h⟩
  · rw [h]; exact Nat.zero_le _
  · rw [h]
    show (low m k).toArray.size ≤ 7
    rw [List.size_toArray, low_length]
    exact hk
theorem encV_size (n : Int) : (encV n).size ≤ 7 := by
  unfold encV
  split
  · show (leb n.toNat).toArray.size ≤ 7
    rw [List.size_toArray]
    exact leb_length_le 6 n.toNat (by omega)
  · exact Nat.zero_le _
end Go.Proofs.YtdacfnoemjleiaaDoor
