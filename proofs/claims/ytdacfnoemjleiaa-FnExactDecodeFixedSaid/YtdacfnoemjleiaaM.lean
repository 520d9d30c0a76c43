/- Plain mathematics of chapter 1: numbers and their bytes. Nothing of the program is imported. -/
import Derived.RowKit
import Derived.Below
import Derived.Laws.BitsLemmas
import Derived.IntWalk
namespace Go.Proofs.Ytdacfnoemjleiaa
open Go.RowKit

/-- The number that the bytes encode, most significant byte first. -/
def dec256 (l : List UInt8) : Nat := l.foldl (fun n c => n * 256 + c.toNat) 0
theorem dec256_nil : dec256 [] = 0 := rfl
theorem dec256_snoc (l : List UInt8) (c : UInt8) : dec256 (l ++ [c]) = dec256 l * 256 + c.toNat := by simp [dec256, List.foldl_append]
theorem toNat_lt (c : UInt8) : c.toNat < 256 := c.toNat_lt
theorem dec256_lt (l : List UInt8) : dec256 l < 256 ^ l.length := by
  suffices h : ∀ r : List UInt8, dec256 r.reverse < 256 ^ r.length by
    have := h l.reverse
    simpa using this
  intro r
  induction r with
  | nil => simp [dec256]
  | cons c r ih =>
    rw [List.reverse_cons, dec256_snoc, List.length_cons, Nat.pow_succ]
    have := toNat_lt c
    omega
theorem pow_le7 (k : Nat) (h : k ≤ 6) : 256 ^ k ≤ 281474976710656 := by
  have := Nat.pow_le_pow_right (n := 256) (by decide) h
  simpa using this
theorem dec256_lt6 (l : List UInt8) (h : l.length ≤ 6) : dec256 l < 281474976710656 := Nat.lt_of_lt_of_le (dec256_lt l) (pow_le7 _ h)
theorem dec256_lt7 (l : List UInt8) (h : l.length ≤ 7) : dec256 l < 72057594037927936 := by
  have := Nat.pow_le_pow_right (n := 256) (by decide) h
  have h2 := dec256_lt l
  have h3 : (256 : Nat) ^ 7 = 72057594037927936 := by decide
  omega
theorem take_snoc (s : ByteArray) (k : Nat) (h : k < s.size) : s.data.toList.take (k + 1) = s.data.toList.take k ++ [s[k]] := by
  rw [List.take_succ_eq_append_getElem (by simpa using h)]; rfl
theorem hid {p : Prop} (h : p) : Hid p := h
theorem ret_int {k : IntKind} {a b : Int} (h : a = b) : Ending.returned (.int k a) = .returned (.int k b) := by rw [h]
theorem wraps_i64 (n : Int) (h₀ : 0 ≤ n) (h₁ : n < 2 ^ 63) : IntKind.i64.wrap n = n := IntWalk.i64_in n (by simp at h₁; omega)
/-- A byte below a multiple of 256. -/
theorem i64_or8 (a b : Nat) (ha : a < 281474976710656) (hb : b < 256) : bits .or .i64 ((a : Int) * 256) (b : Int) = ((a * 256 + b : Nat) : Int) := by
  rw [bits_join .i64 63 (by decide) wraps_i64 8 _ _ (by omega) (by omega) (by simp; omega) (by omega) (by simp; omega) (by simp; omega)]
  simp
end Go.Proofs.Ytdacfnoemjleiaa
