/- Plain mathematics of chapter 1: numbers and their bytes. Nothing of the program is imported. -/
import Derived.RowKit
import Derived.Below
import Derived.Laws.BitsLemmas
import Derived.IntWalk
namespace Go.Proofs.Ytdacfnoemjleiaa
open Go.RowKit

/-- The number that the bytes encode, most significant byte first. -/
def dec256 (l : List UInt8) : Nat := l.foldl (fun n c => n * 256 + c.toNat) 0
theorem dec256_nil : dec256 [] = 0 := rfl
theorem dec256_snoc (l : List UInt8) (c : UInt8) : dec256 (l ++ [c]) = dec256 l * 256 + c.toNat := by simp [dec256, List.foldl_append]
theorem toNat_lt (c : UInt8) : c.toNat < 256 := c.toNat_lt
theorem dec256_lt (l : List UInt8) : dec256 l < 256 ^ l.length := by
  suffices h : ∀ r : List UInt8, dec256 r.reverse < 256 ^ r.length by
    have := h l.reverse
    simpa using this
  intro r
  induction r with
  | nil => simp [dec256]
  | cons c r ih =>
    rw [List.reverse_cons, dec256_snoc, List.length_cons, Nat.pow_succ]
    have := toNat_lt c
    omega
theorem pow_le7 (k : Nat) (h : k ≤ 6) : 256 ^ k ≤ 281474976710656 := by
  have := Nat.pow_le_pow_right (n := 256) (by decide) h
  simpa using this
theorem dec256_lt6 (l : List UInt8) (h : l.length ≤ 6) : dec256 l < 281474976710656 := Nat.lt_of_lt_of_le (dec256_lt l) (pow_le7 _ h)
theorem dec256_lt7 (l : List UInt8) (h : l.length ≤ 7) : dec256 l < 72057594037927936 := by
  have := Nat.pow_le_pow_right (n := 256) (by decide) h
  have h2 := dec256_lt l
  have h3 : (256 : Nat) ^ 7 = 72057594037927936 := by decide
  omega
theorem take_snoc (s : ByteArray) (k : Nat) (h : k < s.size) : s.data.toList.take (k + 1) = s.data.toList.take k ++ [s[k]] := by
  rw [List.take_succ_eq_append_getElem (by simpa using h)]; rfl
theorem hid {p : Prop} (h : p) : Hid p := h
theorem ret_int {k : IntKind} {a b : Int} (h : a = b) : Ending.returned (.int k a) = .returned (.int k b) := by rw [h]
theorem wraps_i64 (n : Int) (h₀ : 0 ≤ n) (h₁ : n < 2 ^ 63) : IntKind.i64.wrap n = n := IntWalk.i64_in n (by simp at h₁; omega)
/-- A byte below a multiple of 256. -/
theorem i64_or8 (a b : Nat) (ha : a < 281474976710656) (hb : b < 256) : bits .or .i64 ((a : Int) * 256) (b : Int) = ((a * 256 + b : Nat) : Int) := by
  rw [bits_join .i64 63 (by decide) wraps_i64 8 _ _ (by omega) (by omega) (by simp; omega) (by omega) (by simp; omega) (by simp; omega)]
  simp
/-- The low k bytes of n, most significant byte first. -/
def low (n : Nat) : Nat → List UInt8
  | 0 => []
  | k + 1 => UInt8.ofNat (n / 256 ^ k) :: low n k
theorem low_length (n : Nat) : ∀ k, (low n k).length = k
  | 0 => rfl
  | k + 1 => by simp [low, low_length n k]
/-- What EncodeFixed returns for a number that is not negative and a width from 1 to 7. -/
def encF (n x : Nat) : ByteArray := if n / 256 ^ x = 0 then ⟨(low n x).toArray⟩ else ByteArray.empty
theorem encF_fits {n x : Nat} (h : n / 256 ^ x = 0) : encF n x = ⟨(low n x).toArray⟩ := if_pos h
theorem encF_not {n x : Nat} (h : ¬ n / 256 ^ x = 0) : encF n x = ⟨#[]⟩ := if_neg h
theorem div_pow_succ (n k : Nat) : n / 256 ^ k / 256 = n / 256 ^ (k + 1) := by rw [Nat.div_div_eq_div_mul, Nat.pow_succ]
theorem str_cons (b : UInt8) (l : List UInt8) : (ByteArray.mk #[b]) ++ ByteArray.mk l.toArray = ByteArray.mk (b :: l).toArray := by
  apply ByteArray.ext; simp [ByteArray.data_append]
theorem ret_str {a b : ByteArray} (h : a = b) : Ending.returned (.string a) = .returned (.string b) := by rw [h]
theorem pow_shift (k : Nat) : 2 ^ (8 * k) = 256 ^ k := by rw [Nat.pow_mul]
theorem shift_nat (n k : Nat) : (n : Int) / 2 ^ (8 * k) = ((n / 256 ^ k : Nat) : Int) := by
  rw [← pow_shift]; simp
/-- The slice that impl.EncodeFixed fills, after k rounds. -/
def pad (n x k : Nat) : List UInt8 := List.replicate (x - k) 0 ++ low n k
theorem pad_length (n x k : Nat) (h : k ≤ x) : (pad n x k).length = x := by simp [pad, low_length]; omega
theorem pad_zero (n x : Nat) : pad n x 0 = List.replicate x 0 := by simp [pad, low]
theorem pad_full (n x : Nat) : pad n x x = low n x := by simp [pad]
theorem pad_step (n x k : Nat) (h : k < x) : (pad n x k).set (x - 1 - k) (UInt8.ofNat (n / 256 ^ k)) = pad n x (k + 1) := by
  have e : x - k = (x - 1 - k) + 1 := by omega
  unfold pad
  rw [e, List.replicate_succ', List.append_assoc, List.set_append_right _ _ (by simp), List.length_replicate, Nat.sub_self]
  have e2 : x - (k + 1) = x - 1 - k := by omega
  rw [e2]
  rfl
/-- The varint of n. -/
def leb (n : Nat) : List UInt8 := if n < 128 then [UInt8.ofNat n] else UInt8.ofNat (128 + n % 128) :: leb (n / 128)
termination_by n
decreasing_by omega
theorem leb_lt {n : Nat} (h : n < 128) : leb n = [UInt8.ofNat n] := by rw [leb, if_pos h]
theorem leb_ge {n : Nat} (h : ¬ n < 128) : leb n = UInt8.ofNat (128 + n % 128) :: leb (n / 128) := by rw [leb, if_neg h]
theorem leb_pos (n : Nat) : 1 ≤ (leb n).length := by
  by_cases h : n < 128
  · rw [leb_lt h]; simp
  · rw [leb_ge h]; simp
theorem leb_length_le : ∀ (k n : Nat), n < 128 ^ (k + 1) → (leb n).length ≤ k + 1
  | 0, n, h => by rw [leb_lt (by simpa using h)]; simp
  | k + 1, n, h => by
    by_cases h1 : n < 128
    · rw [leb_lt h1]; simp
    · rw [leb_ge h1, List.length_cons]
      have := leb_length_le k (n / 128) (by rw [Nat.pow_succ] at h; omega)
      omega
/-- Not beyond MaxVarint (a name: the walk does not look into it). -/
def Vlim (q : Nat) : Prop := q ≤ 562949953421311
/-- What EncodeVarint returns. -/
def encV (n : Int) : ByteArray := if 0 ≤ n ∧ n ≤ 562949953421311 then ⟨(leb n.toNat).toArray⟩ else ⟨#[]⟩
theorem encV_in {n : Nat} (h : n ≤ 562949953421311) : encV (n : Int) = ⟨(leb n).toArray⟩ := by
  unfold encV; rw [if_pos (by omega)]; simp
theorem encV_out {n : Int} (h : n < 0 ∨ 562949953421311 < n) : encV n = ⟨#[]⟩ := by
  unfold encV; rw [if_neg (by omega)]
end Go.Proofs.Ytdacfnoemjleiaa
