/- Plain mathematics of chapter 1: numbers and their bytes. Nothing of the program is imported. -/
import Derived.RowKit
import Derived.Below
import Derived.Laws.BitsLemmas
import Derived.IntWalk
import Derived.Lib.Strings
namespace Go.Proofs.YtpjlamnjiilgbaaDoor
open Go.RowKit

/-- The number that the bytes encode, most significant byte first. -/
def dec256 (l : List UInt8) : Nat := l.foldl (fun n c => n * 256 + c.toNat) 0
theorem dec256_nil : dec256 [] = 0 := rfl
theorem dec256_snoc (l : List UInt8) (c : UInt8) : dec256 (l ++ [c]) = dec256 l * 256 + c.toNat := by simp [dec256, List.foldl_append]
theorem toNat_lt (c : UInt8) : c.toNat < 256 := c.toNat_lt
theorem dec256_lt (l : List UInt8) : dec256 l < 256 ^ l.length := by
  suffices h : ∀ r : List UInt8, dec256 r.reverse < 256 ^ r.length by
    have := h l.reverse
    simpa using this
  intro r
  induction r with
  | nil => simp [dec256]
  | cons c r ih =>
    rw [List.reverse_cons, dec256_snoc, List.length_cons, Nat.pow_succ]
    have := toNat_lt c
    omega
theorem pow_le7 (k : Nat) (h : k ≤ 6) : 256 ^ k ≤ 281474976710656 := by
  have := Nat.pow_le_pow_right (n := 256) (by decide) h
  simpa using this
theorem dec256_lt6 (l : List UInt8) (h : l.length ≤ 6) : dec256 l < 281474976710656 := Nat.lt_of_lt_of_le (dec256_lt l) (pow_le7 _ h)
theorem dec256_lt7 (l : List UInt8) (h : l.length ≤ 7) : dec256 l < 72057594037927936 := by
  have := Nat.pow_le_pow_right (n := 256) (by decide) h
  have h2 := dec256_lt l
  have h3 : (256 : Nat) ^ 7 = 72057594037927936 := by decide
  omega
theorem take_snoc (s : ByteArray) (k : Nat) (h : k < s.size) : s.data.toList.take (k + 1) = s.data.toList.take k ++ [s[k]] := by
  rw [List.take_succ_eq_append_getElem (by simpa using h)]; rfl
theorem hid {p : Prop} (h : p) : Hid p := h
theorem ret_int {k : IntKind} {a b : Int} (h : a = b) : Ending.returned (.int k a) = .returned (.int k b) := by rw [h]
theorem wraps_i64 (n : Int) (h₀ : 0 ≤ n) (h₁ : n < 2 ^ 63) : IntKind.i64.wrap n = n := IntWalk.i64_in n (by simp at h₁; omega)
/-- A byte below a multiple of 256. -/
theorem i64_or8 (a b : Nat) (ha : a < 281474976710656) (hb : b < 256) : bits .or .i64 ((a : Int) * 256) (b : Int) = ((a * 256 + b : Nat) : Int) := by
  rw [bits_join .i64 63 (by decide) wraps_i64 8 _ _ (by omega) (by omega) (by simp; omega) (by omega) (by simp; omega) (by simp; omega)]
  simp
/-- The low k bytes of n, most significant byte first. -/
def low (n : Nat) : Nat → List UInt8
  | 0 => []
  | k + 1 => UInt8.ofNat (n / 256 ^ k) :: low n k
theorem low_length (n : Nat) : ∀ k, (low n k).length = k
  | 0 => rfl
  | k + 1 => by simp [low, low_length n k]
/-- What EncodeFixed returns for a number that is not negative and a width from 1 to 7. -/
def encF (n x : Nat) : ByteArray := if n / 256 ^ x = 0 then ⟨(low n x).toArray⟩ else ByteArray.empty
theorem encF_fits {n x : Nat} (h : n / 256 ^ x = 0) : encF n x = ⟨(low n x).toArray⟩ := if_pos h
theorem encF_not {n x : Nat} (h : ¬ n / 256 ^ x = 0) : encF n x = ⟨#[]⟩ := if_neg h
theorem div_pow_succ (n k : Nat) : n / 256 ^ k / 256 = n / 256 ^ (k + 1) := by rw [Nat.div_div_eq_div_mul, Nat.pow_succ]
theorem str_cons (b : UInt8) (l : List UInt8) : (ByteArray.mk #[b]) ++ ByteArray.mk l.toArray = ByteArray.mk (b :: l).toArray := by
  apply ByteArray.ext; simp [ByteArray.data_append]
theorem ret_str {a b : ByteArray} (h : a = b) : Ending.returned (.string a) = .returned (.string b) := by rw [h]
theorem pow_shift (k : Nat) : 2 ^ (8 * k) = 256 ^ k := by rw [Nat.pow_mul]
theorem shift_nat (n k : Nat) : (n : Int) / 2 ^ (8 * k) = ((n / 256 ^ k : Nat) : Int) := by
  rw [← pow_shift]; simp
/-- The slice that impl.EncodeFixed fills, after k rounds. -/
def pad (n x k : Nat) : List UInt8 := List.replicate (x - k) 0 ++ low n k
theorem pad_length (n x k : Nat) (h : k ≤ x) : (pad n x k).length = x := by simp [pad, low_length]; omega
theorem pad_zero (n x : Nat) : pad n x 0 = List.replicate x 0 := by simp [pad, low]
theorem pad_full (n x : Nat) : pad n x x = low n x := by simp [pad]
theorem pad_step (n x k : Nat) (h : k < x) : (pad n x k).set (x - 1 - k) (UInt8.ofNat (n / 256 ^ k)) = pad n x (k + 1) := by
  have e : x - k = (x - 1 - k) + 1 := by omega
  unfold pad
  rw [e, List.replicate_succ', List.append_assoc, List.set_append_right _ _ (by simp), List.length_replicate, Nat.sub_self]
  have e2 : x - (k + 1) = x - 1 - k := by omega
  rw [e2]
  rfl
/-- The varint of n. -/
def leb (n : Nat) : List UInt8 := if n < 128 then [UInt8.ofNat n] else UInt8.ofNat (128 + n % 128) :: leb (n / 128)
termination_by n
decreasing_by omega
theorem leb_lt {n : Nat} (h : n < 128) : leb n = [UInt8.ofNat n] := by rw [leb, if_pos h]
theorem leb_ge {n : Nat} (h : ¬ n < 128) : leb n = UInt8.ofNat (128 + n % 128) :: leb (n / 128) := by rw [leb, if_neg h]
theorem leb_pos (n : Nat) : 1 ≤ (leb n).length := by
  by_cases h : n < 128
  · rw [leb_lt h]; simp
  · rw [leb_ge h]; simp
theorem leb_length_le : ∀ (k n : Nat), n < 128 ^ (k + 1) → (leb n).length ≤ k + 1
  | 0, n, h => by rw [leb_lt (by simpa using h)]; simp
  | k + 1, n, h => by
    by_cases h1 : n < 128
    · rw [leb_lt h1]; simp
    · rw [leb_ge h1, List.length_cons]
      have := leb_length_le k (n / 128) (by rw [Nat.pow_succ] at h; omega)
      omega
/-- Not beyond MaxVarint (a name: the walk does not look into it). -/
def Vlim (q : Nat) : Prop := q ≤ 562949953421311
/-- What EncodeVarint returns. -/
def encV (n : Int) : ByteArray := if 0 ≤ n ∧ n ≤ 562949953421311 then ⟨(leb n.toNat).toArray⟩ else ⟨#[]⟩
theorem encV_in {n : Nat} (h : n ≤ 562949953421311) : encV (n : Int) = ⟨(leb n).toArray⟩ := by
  unfold encV; rw [if_pos (by omega)]; simp
theorem encV_out {n : Int} (h : n < 0 ∨ 562949953421311 < n) : encV n = ⟨#[]⟩ := by
  unfold encV; rw [if_neg (by omega)]
/-- The number that seven bits of each byte make, least significant first. -/
def val7 : List UInt8 → Nat
  | [] => 0
  | c :: t => c.toNat % 128 + 128 * val7 t
theorem val7_snoc (l : List UInt8) (c : UInt8) : val7 (l ++ [c]) = val7 l + c.toNat % 128 * 128 ^ l.length := by
  induction l with
  | nil => simp [val7]
  | cons d l ih =>
    rw [List.cons_append, val7, ih, val7, List.length_cons, Nat.pow_succ, Nat.mul_add, Nat.add_assoc]
    congr 2
    rw [Nat.mul_comm (128 ^ l.length) 128, Nat.mul_left_comm]
theorem val7_lt (l : List UInt8) : val7 l < 128 ^ l.length := by
  induction l with
  | nil => simp [val7]
  | cons c l ih =>
    rw [val7, List.length_cons, Nat.pow_succ]
    have := Nat.mod_lt c.toNat (show 0 < 128 by decide)
    omega
theorem val7_lt7 (l : List UInt8) (h : l.length ≤ 7) : val7 l ≤ 562949953421311 := by
  have h1 := val7_lt l
  have h2 := Nat.pow_le_pow_right (n := 128) (by decide) h
  have h3 : (128 : Nat) ^ 7 = 562949953421312 := by decide
  omega
/-- In the varint of a number only the last byte is below 128. -/
theorem leb_bytes : ∀ (f n : Nat), n < f → ∀ (j : Nat) (c : UInt8), (leb n)[j]? = some c → (c.toNat < 128 ↔ j + 1 = (leb n).length)
  | 0, n, h => by omega
  | f + 1, n, h => by
    intro j c hj
    by_cases h1 : n < 128
    · rw [leb_lt h1] at hj ⊢
      match j, hj with
      | 0, hj =>
        simp at hj
        subst hj
        simp
        omega
      | j + 1, hj => simp at hj
    · rw [leb_ge h1] at hj ⊢
      have hp := leb_pos (n / 128)
      match j, hj with
      | 0, hj =>
        simp only [List.getElem?_cons_zero, Option.some.injEq] at hj
        subst hj
        have e : (UInt8.ofNat (128 + n % 128)).toNat = 128 + n % 128 := by simp; omega
        rw [e, List.length_cons]
        omega
      | j + 1, hj =>
        rw [List.getElem?_cons_succ] at hj
        have := leb_bytes f (n / 128) (by omega) j c hj
        rw [this, List.length_cons]
        omega
theorem leb_byte {n j : Nat} {c : UInt8} (h : (leb n)[j]? = some c) : c.toNat < 128 ↔ j + 1 = (leb n).length := leb_bytes (n + 1) n (by omega) j c h
/-- What DecodeVarint finds from prefix k on, with f prefixes to try. -/
def decVF (l : List UInt8) : Nat → Nat → Nat × Nat
  | 0, _ => (0, 0)
  | f + 1, k => if k ≤ l.length then (if leb (val7 (l.take k)) = l.take k then (val7 (l.take k), k) else decVF l f (k + 1)) else (0, 0)
/-- What DecodeVarint returns. -/
def decV (l : List UInt8) : Nat × Nat := decVF l 7 1
theorem decVF_short {l : List UInt8} {f k : Nat} (h : l.length < k) : decVF l f k = (0, 0) := by
  cases f with
  | zero => rfl
  | succ f => rw [decVF, if_neg (by omega)]
theorem decVF_hit {l : List UInt8} {f k : Nat} (h : k ≤ l.length) (he : leb (val7 (l.take k)) = l.take k) : decVF l (f + 1) k = (val7 (l.take k), k) := by
  rw [decVF, if_pos h, if_pos he]
theorem decVF_miss {l : List UInt8} {f k : Nat} (h : k ≤ l.length) (he : ¬ leb (val7 (l.take k)) = l.take k) : decVF l (f + 1) k = decVF l f (k + 1) := by
  rw [decVF, if_pos h, if_neg he]
/-- A last byte from 128 on ends no varint. -/
theorem no_end {l : List UInt8} {i : Nat} (h : i < l.length) (hc : ¬ (l[i]).toNat < 128) : ¬ leb (val7 (l.take (i + 1))) = l.take (i + 1) := by
  intro he
  have h1 : (leb (val7 (l.take (i + 1))))[i]? = some l[i] := by rw [he, List.getElem?_take, if_pos (by omega), List.getElem?_eq_getElem h]
  have h2 := (leb_byte h1).2 (by rw [he, List.length_take]; omega)
  exact hc h2
/-- Behind a byte below 128 no varint goes on. -/
theorem decVF_past {l : List UInt8} {i : Nat} (h : i < l.length) (hc : (l[i]).toNat < 128) : ∀ (f k : Nat), i + 1 < k → decVF l f k = (0, 0)
  | 0, _, _ => rfl
  | f + 1, k, hk => by
    by_cases hl : k ≤ l.length
    · rw [decVF_miss hl, decVF_past h hc f (k + 1) (by omega)]
      intro he
      have h1 : (leb (val7 (l.take k)))[i]? = some l[i] := by rw [he, List.getElem?_take, if_pos (by omega), List.getElem?_eq_getElem h]
      have h2 := (leb_byte h1).1 hc
      rw [he, List.length_take] at h2
      omega
    · exact decVF_short (by omega)
theorem val7_drop (l : List UInt8) (j : Nat) (h : j < l.length) : val7 (l.drop j) = (l[j]).toNat % 128 + 128 * val7 (l.drop (j + 1)) := by
  rw [List.drop_eq_getElem_cons h, val7]
theorem val7_drop_lt (l : List UInt8) (j : Nat) (h : l.length ≤ 7) : val7 (l.drop j) ≤ 562949953421311 := val7_lt7 _ (by rw [List.length_drop]; omega)
theorem val7_drop_lt6 (l : List UInt8) (j : Nat) (h : l.length ≤ 7) : val7 (l.drop (j + 1)) < 4398046511104 := by
  have h1 := val7_lt (l.drop (j + 1))
  have h2 := Nat.pow_le_pow_right (n := 128) (by decide) (show (l.drop (j + 1)).length ≤ 6 by rw [List.length_drop]; omega)
  have h3 : (128 : Nat) ^ 6 = 4398046511104 := by decide
  omega
/-- The comparison of DecodeVarint, as the walk writes it. -/
theorem cmpV {s : ByteArray} {L : List UInt8} (hL : L = s.data.toList) (q k : Nat) (hq : q ≤ 562949953421311) :
    ((encV (q : Int)).toList == (s.extract 0 k).toList) = decide (leb q = L.take k) := by
  rw [encV_in hq, ByteArray.toList_mk, Lib.extract_toList, hL, List.drop_zero, Nat.sub_zero, Bool.eq_iff_iff]
  simp
theorem decV_found {L : List UInt8} {r : Nat × Nat} {k : Nat} (hk : k ≤ 7) (hl : k ≤ L.length) (hd : decVF L (8 - k) k = r) (he : leb (val7 (L.take k)) = L.take k) : r = (val7 (L.take k), k) := by
  rw [← hd, show 8 - k = (7 - k) + 1 by omega, decVF_hit hl he]
theorem decV_next {L : List UInt8} {r : Nat × Nat} {k : Nat} (hk : k ≤ 7) (hl : k ≤ L.length) (hd : decVF L (8 - k) k = r) (he : ¬ leb (val7 (L.take k)) = L.take k) : decVF L (8 - (k + 1)) (k + 1) = r := by
  rw [← hd, show 8 - k = (8 - (k + 1)) + 1 by omega, decVF_miss hl he]
theorem val7_take_le (L : List UInt8) (k : Nat) (hk : k ≤ 7) : val7 (L.take k) ≤ 562949953421311 := val7_lt7 _ (by rw [List.length_take]; omega)
theorem ret_two {a b c d : Int} (h1 : a = c) (h2 : b = d) : Ending.returned (.tuple #[.int .i64 a, .int .i64 b]) = .returned (.tuple #[.int .i64 c, .int .i64 d]) := by rw [h1, h2]
theorem bits_or_comm (k : IntKind) (x y : Int) : bits .or k x y = bits .or k y x := by simp only [bits, BitVec.or_comm]
/-- Seven bits above what has been read. -/
theorem i64_or7 (n c i : Nat) (hi : i ≤ 6) (hn : n < 128 ^ i) : bits .or .i64 (n : Int) (wrap64 ((c : Int) % 128 * 2 ^ (7 * i))) = ((n + c % 128 * 128 ^ i : Nat) : Int) := by
  have hc : c % 128 < 128 := Nat.mod_lt _ (by decide)
  have e : (128 : Nat) ^ i = 2 ^ (7 * i) := by rw [Nat.pow_mul]
  have h2 := Nat.pow_le_pow_right (n := 128) (by decide) hi
  have h3 : (128 : Nat) ^ 6 = 4398046511104 := by decide
  have hc2 : c % 128 * 128 ^ i ≤ 127 * 128 ^ i := Nat.mul_le_mul_right _ (by omega)
  have ec : ((c : Int) % 128 * 2 ^ (7 * i)) = ((c % 128 * 2 ^ (7 * i) : Nat) : Int) := by simp
  rw [e] at hn h2 hc2
  rw [bits_or_comm, ec, IntWalk.wrap64_in _ ⟨by omega, by omega⟩, bits_join .i64 63 (by decide) wraps_i64 (7 * i) _ _ (by omega) (by exact_mod_cast (Nat.mul_mod_left (c % 128) (2 ^ (7 * i)))) (by simp only [Int.reducePow]; omega) (by omega) (by exact_mod_cast hn) (by simp only [Int.reducePow]; omega), e]
  omega
/-- The digits of a byte. -/
def hexd (k : Nat) : UInt8 := if k < 10 then UInt8.ofNat (48 + k) else UInt8.ofNat (87 + k)
def hexL : List UInt8 → List UInt8
  | [] => []
  | c :: l => hexd (c.toNat / 16) :: hexd (c.toNat % 16) :: hexL l
theorem hexL_snoc (l : List UInt8) (c : UInt8) : hexL (l ++ [c]) = hexL l ++ [hexd (c.toNat / 16), hexd (c.toNat % 16)] := by
  induction l with
  | nil => rfl
  | cons d l ih => simp [hexL, ih]
theorem hexL_length (l : List UInt8) : (hexL l).length = 2 * l.length := by
  induction l with
  | nil => rfl
  | cons d l ih => simp [hexL, ih]; omega
theorem hex_at_fin : ∀ k : Fin 16, (ByteArray.mk #[48, 49, 50, 51, 52, 53, 54, 55, 56, 57, 97, 98, 99, 100, 101, 102])[k.val]'(k.isLt) = hexd k.val := by decide
theorem hex_at (k : Nat) (h : k < (ByteArray.mk #[48, 49, 50, 51, 52, 53, 54, 55, 56, 57, 97, 98, 99, 100, 101, 102]).size) : (ByteArray.mk #[48, 49, 50, 51, 52, 53, 54, 55, 56, 57, 97, 98, 99, 100, 101, 102])[k] = hexd k := hex_at_fin ⟨k, h⟩
/-- The value of a hexadecimal digit; -1 for any other byte. -/
def unhex (c : UInt8) : Int := if 48 ≤ c.toNat ∧ c.toNat ≤ 57 then (c.toNat : Int) - 48 else if 97 ≤ c.toNat ∧ c.toNat ≤ 102 then (c.toNat : Int) - 87 else -1
theorem unhex_hexd_fin : ∀ k : Fin 16, unhex (hexd k.val) = (k.val : Int) := by decide
theorem unhex_hexd (k : Nat) (h : k < 16) : unhex (hexd k) = (k : Int) := unhex_hexd_fin ⟨k, h⟩
theorem hexd_toNat (d : Nat) (h : d < 16) : (hexd d).toNat = if d < 10 then 48 + d else 87 + d := by
  unfold hexd
  split <;> simp <;> omega
theorem unhex_lt (c : UInt8) : unhex c < 16 := by unfold unhex; split <;> (try split) <;> omega
theorem unhex_ge (c : UInt8) : -1 ≤ unhex c := by unfold unhex; split <;> (try split) <;> omega
theorem hexd_unhex (c : UInt8) (h : 0 ≤ unhex c) : hexd (unhex c).toNat = c := by
  have hl := unhex_lt c
  apply UInt8.toNat.inj
  rw [hexd_toNat _ (by omega)]
  unfold unhex at h hl ⊢
  split at h
  · rename_i h1
    rw [if_pos h1] at hl ⊢
    rw [if_pos (by omega)]
    omega
  · rename_i h1
    rw [if_neg h1] at hl ⊢
    split at h
    · rename_i h2
      rw [if_pos h2] at hl ⊢
      rw [if_neg (by omega)]
      omega
    · omega
/-- No digit up to k is c, so far. -/
theorem unhex_none (c : UInt8) (h : ∀ j, j < 16 → hexd j ≠ c) : unhex c = -1 := by
  have h1 := unhex_ge c
  have h2 := unhex_lt c
  rcases Int.lt_or_le (unhex c) 0 with h3 | h3
  · omega
  · exact absurd (hexd_unhex c h3) (h _ (by omega))
def dgt (c : UInt8) : Nat := (unhex c).toNat
def isH (c : UInt8) : Bool := decide (0 ≤ unhex c)
theorem dgt_lt (c : UInt8) : dgt c < 16 := by have := unhex_lt c; unfold dgt; omega
theorem unhex_eq {c : UInt8} (h : isH c = true) : unhex c = (dgt c : Int) := by
  unfold isH at h; have := of_decide_eq_true h; unfold dgt; omega
theorem unhex_not {c : UInt8} (h : isH c = false) : unhex c = -1 := by
  unfold isH at h; have := of_decide_eq_false h; have := unhex_ge c; omega
/-- The bytes of pairs of digits. -/
def decH : List UInt8 → List UInt8
  | a :: b :: t => UInt8.ofNat (16 * dgt a + dgt b) :: decH t
  | _ => []
theorem decH_snoc2 : ∀ (l : List UInt8) (a b : UInt8), l.length % 2 = 0 → decH (l ++ [a, b]) = decH l ++ [UInt8.ofNat (16 * dgt a + dgt b)]
  | [], a, b, _ => rfl
  | [x], a, b, h => by simp at h
  | x :: y :: t, a, b, h => by
    have := decH_snoc2 t a b (by simp at h; omega)
    simp only [List.cons_append, decH, this]
/-- The slice of n bytes that impl.DecodeHex fills, behind the digits l. -/
def stp : List UInt8 → Nat → List UInt8
  | [], n => List.replicate n 0
  | [a], n => UInt8.ofNat (dgt a) :: List.replicate (n - 1) 0
  | a :: b :: t, n => UInt8.ofNat (16 * dgt a + dgt b) :: stp t (n - 1)
theorem stp_length : ∀ (l : List UInt8) (n : Nat), l.length ≤ 2 * n → (stp l n).length = n
  | [], n, _ => by simp [stp]
  | [a], n, h => by simp [stp] at h ⊢; omega
  | a :: b :: t, n, h => by
    simp only [List.length_cons] at h
    rw [stp, List.length_cons, stp_length t (n - 1) (by omega)]
    omega
theorem stp_full : ∀ (l : List UInt8) (n : Nat), l.length = 2 * n → stp l n = decH l
  | [], n, h => by
    have : n = 0 := by simp only [List.length_nil] at h; omega
    subst this
    rfl
  | [a], n, h => by simp at h; omega
  | a :: b :: t, n, h => by
    simp only [List.length_cons] at h
    rw [stp, decH, stp_full t (n - 1) (by omega)]
/-- What the place of the next digit holds, and what it holds behind it. -/
theorem stp_step : ∀ (l : List UInt8) (n : Nat) (c : UInt8), l.length < 2 * n →
    ∃ x, x < 16 ∧ (stp l n)[l.length / 2]? = some (UInt8.ofNat x) ∧ (stp l n).set (l.length / 2) (UInt8.ofNat (x * 16 + dgt c)) = stp (l ++ [c]) n
  | [], n, c, h => by
    obtain ⟨m, rfl⟩ : ∃ m, n = m + 1 := ⟨n - 1, by simp at h; omega⟩
    exact ⟨0, by omega, by simp [stp, List.replicate_succ], by simp [stp, List.replicate_succ]⟩
  | [a], n, c, h => by
    refine ⟨dgt a, dgt_lt a, by simp [stp], ?_⟩
    obtain ⟨m, rfl⟩ : ∃ m, n = m + 1 := ⟨n - 1, by simp at h; omega⟩
    simp [stp, Nat.mul_comm]
  | a :: b :: t, n, c, h => by
    simp only [List.length_cons] at h
    obtain ⟨x, hx, h1, h2⟩ := stp_step t (n - 1) c (by omega)
    have e : (a :: b :: t).length / 2 = t.length / 2 + 1 := by simp only [List.length_cons]; omega
    refine ⟨x, hx, ?_, ?_⟩
    · rw [e, stp, List.getElem?_cons_succ]
      exact h1
    · rw [e, stp, List.set_cons_succ, h2]
      rfl
/-- What DecodeHex returns. -/
def decHex (l : List UInt8) : List UInt8 × Bool := if l.length % 2 = 0 ∧ l.all isH = true then (decH l, true) else ([], false)
theorem decHex_yes {l : List UInt8} (h1 : l.length % 2 = 0) (h2 : l.all isH = true) : decHex l = (decH l, true) := if_pos ⟨h1, h2⟩
theorem decHex_odd {l : List UInt8} (h1 : ¬ l.length % 2 = 0) : decHex l = ([], false) := if_neg (fun h => h1 h.1)
theorem decHex_bad {l : List UInt8} {i : Nat} (hi : i < l.length) (h2 : isH l[i] = false) : decHex l = ([], false) :=
  if_neg (fun h => by have := List.all_eq_true.1 h.2 l[i] (List.getElem_mem hi); rw [this] at h2; cases h2)
theorem ret_sb {a b : ByteArray} {x y : Bool} (h1 : a = b) (h2 : x = y) : Ending.returned (.tuple #[.string a, .bool x]) = .returned (.tuple #[.string b, .bool y]) := by rw [h1, h2]
theorem all_snoc2 {l : List UInt8} {a b : UInt8} (h : l.all isH = true) (ha : isH a = true) (hb : isH b = true) : (l ++ [a, b]).all isH = true := by
  simp [List.all_append, h, ha, hb]
theorem all_snoc1 {l : List UInt8} {a : UInt8} (h : l.all isH = true) (ha : isH a = true) : (l ++ [a]).all isH = true := by
  simp [List.all_append, h, ha]
theorem take_two (l : List UInt8) (k : Nat) (h : k + 1 < l.length) : l.take (k + 2) = l.take k ++ [l[k], l[k + 1]] := by
  rw [List.take_succ_eq_append_getElem h, List.take_succ_eq_append_getElem (by omega), List.append_assoc]
  rfl
theorem byte_pair (a b : UInt8) : (UInt8.ofNat (16 * dgt a + dgt b)).toNat = 16 * dgt a + dgt b := by
  have := dgt_lt a
  have := dgt_lt b
  simp; omega
end Go.Proofs.YtpjlamnjiilgbaaDoor
