/- Small contracts of stage 1. Plain mathematics of chapter 1: numbers and their bytes. Nothing of the program is imported. Strings out of byte slices, at this program. The cursor of the drawn inputs (spec/l01_draw.go): l1New, l1Byte, l1Below. The drawn numbers and texts (spec/l01_draw.go, spec/l01_num.go): l1New, l1Below, l1PickInt. The drawn numbers and texts (spec/l01_num.go): l1Num, l1Text and the drawers of chapter 1. -/
import Derived.Test.YtgngfffmkjckdaaGreatDoorRows
import Derived.WalkKit
import Derived.WalkLawsBesides
import Derived.WalkSpells
import Derived.ProofKit
import Derived.Outline
import Derived.RowKit
import Derived.Below
import Derived.Laws.BitsLemmas
import Derived.IntWalk
import Derived.Lib.Strings
import Derived.Laws.IdiomStrings
import Derived.Deep.RegionLaw
import Derived.Lib.OthersKept
import Derived.Deep.QuietTactic
import Derived.BigQuiet
namespace Go.Proofs.YtgngfffmkjckdaaGreatDoor
open Go.RowKit

def inB (x lo hi : Int) : Bool := decide (lo ≤ x ∧ x ≤ hi)
theorem inB_yes {x lo hi : Int} (h1 : lo ≤ x) (h2 : x ≤ hi) : inB x lo hi = true := by simp [inB, h1, h2]
theorem inB_no {x lo hi : Int} (h : x < lo ∨ hi < x) : inB x lo hi = false := by simp [inB]; omega

theorem l1In_yes (x lo hi : Int) (w : World) (h1 : lo ≤ x) (h2 : x ≤ hi) :
    Calls Tryz.prog 34 #[.int .i64 x, .int .i64 lo, .int .i64 hi] w fun e w' => e = .returned (.bool true) ∧ w = w' := by
  go_enter Tryz.func34, Tryz.ntmps34
  go_wp2
  go_ret
  exact ⟨rfl, rfl⟩
theorem l1In_no (x lo hi : Int) (w : World) (h : x < lo ∨ hi < x) :
    Calls Tryz.prog 34 #[.int .i64 x, .int .i64 lo, .int .i64 hi] w fun e w' => e = .returned (.bool false) ∧ w = w' := by
  by_cases h1 : lo ≤ x
  · have h2 : hi < x := by omega
    have h3 : decide (x ≤ hi) = false := by simp; omega
    clear h
    go_enter Tryz.func34, Tryz.ntmps34
    go_wp2
    go_ret
    exact ⟨rfl, rfl⟩
  · clear h
    go_enter Tryz.func34, Tryz.ntmps34
    go_wp2
    go_ret
    exact ⟨rfl, rfl⟩
end Go.Proofs.YtgngfffmkjckdaaGreatDoor

namespace Go.Proofs.YtgngfffmkjckdaaGreatDoor
open Go.RowKit

/-- The number that the bytes encode, most significant byte first. -/
def dec256 (l : List UInt8) : Nat := l.foldl (fun n c => n * 256 + c.toNat) 0
theorem dec256_nil : dec256 [] = 0 := rfl
theorem dec256_snoc (l : List UInt8) (c : UInt8) : dec256 (l ++ [c]) = dec256 l * 256 + c.toNat := by simp [dec256, List.foldl_append]
theorem toNat_lt (c : UInt8) : c.toNat < 256 := c.toNat_lt
theorem dec256_lt (l : List UInt8) : dec256 l < 256 ^ l.length := by
  suffices h : ∀ r : List UInt8, dec256 r.reverse < 256 ^ r.length by
    have := h l.reverse
    simpa using this
  intro r
  induction r with
  | nil => simp [dec256]
  | cons c r ih =>
    rw [List.reverse_cons, dec256_snoc, List.length_cons, Nat.pow_succ]
    have := toNat_lt c
    omega
theorem pow_le7 (k : Nat) (h : k ≤ 6) : 256 ^ k ≤ 281474976710656 := by
  have := Nat.pow_le_pow_right (n := 256) (by decide) h
  simpa using this
theorem dec256_lt6 (l : List UInt8) (h : l.length ≤ 6) : dec256 l < 281474976710656 := Nat.lt_of_lt_of_le (dec256_lt l) (pow_le7 _ h)
theorem dec256_lt7 (l : List UInt8) (h : l.length ≤ 7) : dec256 l < 72057594037927936 := by
  have := Nat.pow_le_pow_right (n := 256) (by decide) h
  have h2 := dec256_lt l
  have h3 : (256 : Nat) ^ 7 = 72057594037927936 := by decide
  omega
theorem take_snoc (s : ByteArray) (k : Nat) (h : k < s.size) : s.data.toList.take (k + 1) = s.data.toList.take k ++ [s[k]] := by
  rw [List.take_succ_eq_append_getElem (by simpa using h)]; rfl
theorem hid {p : Prop} (h : p) : Hid p := h
theorem ret_int {k : IntKind} {a b : Int} (h : a = b) : Ending.returned (.int k a) = .returned (.int k b) := by rw [h]
theorem wraps_i64 (n : Int) (h₀ : 0 ≤ n) (h₁ : n < 2 ^ 63) : IntKind.i64.wrap n = n := IntWalk.i64_in n (by simp at h₁; omega)
/-- A byte below a multiple of 256. -/
theorem i64_or8 (a b : Nat) (ha : a < 281474976710656) (hb : b < 256) : bits .or .i64 ((a : Int) * 256) (b : Int) = ((a * 256 + b : Nat) : Int) := by
  rw [bits_join .i64 63 (by decide) wraps_i64 8 _ _ (by omega) (by omega) (by simp; omega) (by omega) (by simp; omega) (by simp; omega)]
  simp
/-- The low k bytes of n, most significant byte first. -/
def low (n : Nat) : Nat → List UInt8
  | 0 => []
  | k + 1 => UInt8.ofNat (n / 256 ^ k) :: low n k
theorem low_length (n : Nat) : ∀ k, (low n k).length = k
  | 0 => rfl
  | k + 1 => by simp [low, low_length n k]
/-- What EncodeFixed returns for a number that is not negative and a width from 1 to 7. -/
def encF (n x : Nat) : ByteArray := if n / 256 ^ x = 0 then ⟨(low n x).toArray⟩ else ByteArray.empty
theorem encF_fits {n x : Nat} (h : n / 256 ^ x = 0) : encF n x = ⟨(low n x).toArray⟩ := if_pos h
theorem encF_not {n x : Nat} (h : ¬ n / 256 ^ x = 0) : encF n x = ⟨#[]⟩ := if_neg h
theorem div_pow_succ (n k : Nat) : n / 256 ^ k / 256 = n / 256 ^ (k + 1) := by rw [Nat.div_div_eq_div_mul, Nat.pow_succ]
theorem str_cons (b : UInt8) (l : List UInt8) : (ByteArray.mk #[b]) ++ ByteArray.mk l.toArray = ByteArray.mk (b :: l).toArray := by
  apply ByteArray.ext; simp [ByteArray.data_append]
theorem ret_str {a b : ByteArray} (h : a = b) : Ending.returned (.string a) = .returned (.string b) := by rw [h]
theorem pow_shift (k : Nat) : 2 ^ (8 * k) = 256 ^ k := by rw [Nat.pow_mul]
theorem shift_nat (n k : Nat) : (n : Int) / 2 ^ (8 * k) = ((n / 256 ^ k : Nat) : Int) := by
  rw [← pow_shift]; simp
/-- The slice that impl.EncodeFixed fills, after k rounds. -/
def pad (n x k : Nat) : List UInt8 := List.replicate (x - k) 0 ++ low n k
theorem pad_length (n x k : Nat) (h : k ≤ x) : (pad n x k).length = x := by simp [pad, low_length]; omega
theorem pad_zero (n x : Nat) : pad n x 0 = List.replicate x 0 := by simp [pad, low]
theorem pad_full (n x : Nat) : pad n x x = low n x := by simp [pad]
theorem pad_step (n x k : Nat) (h : k < x) : (pad n x k).set (x - 1 - k) (UInt8.ofNat (n / 256 ^ k)) = pad n x (k + 1) := by
  have e : x - k = (x - 1 - k) + 1 := by omega
  unfold pad
  rw [e, List.replicate_succ', List.append_assoc, List.set_append_right _ _ (by simp), List.length_replicate, Nat.sub_self]
  have e2 : x - (k + 1) = x - 1 - k := by omega
  rw [e2]
  rfl
/-- The varint of n. -/
def leb (n : Nat) : List UInt8 := if n < 128 then [UInt8.ofNat n] else UInt8.ofNat (128 + n % 128) :: leb (n / 128)
termination_by n
decreasing_by omega
theorem leb_lt {n : Nat} (h : n < 128) : leb n = [UInt8.ofNat n] := by rw [leb, if_pos h]
theorem leb_ge {n : Nat} (h : ¬ n < 128) : leb n = UInt8.ofNat (128 + n % 128) :: leb (n / 128) := by rw [leb, if_neg h]
theorem leb_pos (n : Nat) : 1 ≤ (leb n).length := by
  by_cases h : n < 128
  · rw [leb_lt h]; simp
  · rw [leb_ge h]; simp
theorem leb_length_le : ∀ (k n : Nat), n < 128 ^ (k + 1) → (leb n).length ≤ k + 1
  | 0, n, h => by rw [leb_lt (by simpa using h)]; simp
  | k + 1, n, h => by
    by_cases h1 : n < 128
    · rw [leb_lt h1]; simp
    · rw [leb_ge h1, List.length_cons]
      have := leb_length_le k (n / 128) (by rw [Nat.pow_succ] at h; omega)
      omega
/-- Not beyond MaxVarint (a name: the walk does not look into it). -/
def Vlim (q : Nat) : Prop := q ≤ 562949953421311
/-- What EncodeVarint returns. -/
def encV (n : Int) : ByteArray := if 0 ≤ n ∧ n ≤ 562949953421311 then ⟨(leb n.toNat).toArray⟩ else ⟨#[]⟩
theorem encV_in {n : Nat} (h : n ≤ 562949953421311) : encV (n : Int) = ⟨(leb n).toArray⟩ := by
  unfold encV; rw [if_pos (by omega)]; simp
theorem encV_out {n : Int} (h : n < 0 ∨ 562949953421311 < n) : encV n = ⟨#[]⟩ := by
  unfold encV; rw [if_neg (by omega)]
/-- The number that seven bits of each byte make, least significant first. -/
def val7 : List UInt8 → Nat
  | [] => 0
  | c :: t => c.toNat % 128 + 128 * val7 t
theorem val7_snoc (l : List UInt8) (c : UInt8) : val7 (l ++ [c]) = val7 l + c.toNat % 128 * 128 ^ l.length := by
  induction l with
  | nil => simp [val7]
  | cons d l ih =>
    rw [List.cons_append, val7, ih, val7, List.length_cons, Nat.pow_succ, Nat.mul_add, Nat.add_assoc]
    congr 2
    rw [Nat.mul_comm (128 ^ l.length) 128, Nat.mul_left_comm]
theorem val7_lt (l : List UInt8) : val7 l < 128 ^ l.length := by
  induction l with
  | nil => simp [val7]
  | cons c l ih =>
    rw [val7, List.length_cons, Nat.pow_succ]
    have := Nat.mod_lt c.toNat (show 0 < 128 by decide)
    omega
theorem val7_lt7 (l : List UInt8) (h : l.length ≤ 7) : val7 l ≤ 562949953421311 := by
  have h1 := val7_lt l
  have h2 := Nat.pow_le_pow_right (n := 128) (by decide) h
  have h3 : (128 : Nat) ^ 7 = 562949953421312 := by decide
  omega
/-- In the varint of a number only the last byte is below 128. -/
theorem leb_bytes : ∀ (f n : Nat), n < f → ∀ (j : Nat) (c : UInt8), (leb n)[j]? = some c → (c.toNat < 128 ↔ j + 1 = (leb n).length)
  | 0, n, h => by omega
  | f + 1, n, h => by
    intro j c hj
    by_cases h1 : n < 128
    · rw [leb_lt h1] at hj ⊢
      match j, hj with
      | 0, hj =>
        simp at hj
        subst hj
        simp
        omega
      | j + 1, hj => simp at hj
    · rw [leb_ge h1] at hj ⊢
      have hp := leb_pos (n / 128)
      match j, hj with
      | 0, hj =>
        simp only [List.getElem?_cons_zero, Option.some.injEq] at hj
        subst hj
        have e : (UInt8.ofNat (128 + n % 128)).toNat = 128 + n % 128 := by simp; omega
        rw [e, List.length_cons]
        omega
      | j + 1, hj =>
        rw [List.getElem?_cons_succ] at hj
        have := leb_bytes f (n / 128) (by omega) j c hj
        rw [this, List.length_cons]
        omega
theorem leb_byte {n j : Nat} {c : UInt8} (h : (leb n)[j]? = some c) : c.toNat < 128 ↔ j + 1 = (leb n).length := leb_bytes (n + 1) n (by omega) j c h
/-- What DecodeVarint finds from prefix k on, with f prefixes to try. -/
def decVF (l : List UInt8) : Nat → Nat → Nat × Nat
  | 0, _ => (0, 0)
  | f + 1, k => if k ≤ l.length then (if leb (val7 (l.take k)) = l.take k then (val7 (l.take k), k) else decVF l f (k + 1)) else (0, 0)
/-- What DecodeVarint returns. -/
def decV (l : List UInt8) : Nat × Nat := decVF l 7 1
theorem decVF_short {l : List UInt8} {f k : Nat} (h : l.length < k) : decVF l f k = (0, 0) := by
  cases f with
  | zero => rfl
  | succ f => rw [decVF, if_neg (by omega)]
theorem decVF_hit {l : List UInt8} {f k : Nat} (h : k ≤ l.length) (he : leb (val7 (l.take k)) = l.take k) : decVF l (f + 1) k = (val7 (l.take k), k) := by
  rw [decVF, if_pos h, if_pos he]
theorem decVF_miss {l : List UInt8} {f k : Nat} (h : k ≤ l.length) (he : ¬ leb (val7 (l.take k)) = l.take k) : decVF l (f + 1) k = decVF l f (k + 1) := by
  rw [decVF, if_pos h, if_neg he]
/-- A last byte from 128 on ends no varint. -/
theorem no_end {l : List UInt8} {i : Nat} (h : i < l.length) (hc : ¬ (l[i]).toNat < 128) : ¬ leb (val7 (l.take (i + 1))) = l.take (i + 1) := by
  intro he
  have h1 : (leb (val7 (l.take (i + 1))))[i]? = some l[i] := by rw [he, List.getElem?_take, if_pos (by omega), List.getElem?_eq_getElem h]
  have h2 := (leb_byte h1).2 (by rw [he, List.length_take]; omega)
  exact hc h2
/-- Behind a byte below 128 no varint goes on. -/
theorem decVF_past {l : List UInt8} {i : Nat} (h : i < l.length) (hc : (l[i]).toNat < 128) : ∀ (f k : Nat), i + 1 < k → decVF l f k = (0, 0)
  | 0, _, _ => rfl
  | f + 1, k, hk => by
    by_cases hl : k ≤ l.length
    · rw [decVF_miss hl, decVF_past h hc f (k + 1) (by omega)]
      intro he
      have h1 : (leb (val7 (l.take k)))[i]? = some l[i] := by rw [he, List.getElem?_take, if_pos (by omega), List.getElem?_eq_getElem h]
      have h2 := (leb_byte h1).1 hc
      rw [he, List.length_take] at h2
      omega
    · exact decVF_short (by omega)
theorem val7_drop (l : List UInt8) (j : Nat) (h : j < l.length) : val7 (l.drop j) = (l[j]).toNat % 128 + 128 * val7 (l.drop (j + 1)) := by
  rw [List.drop_eq_getElem_cons h, val7]
theorem val7_drop_lt (l : List UInt8) (j : Nat) (h : l.length ≤ 7) : val7 (l.drop j) ≤ 562949953421311 := val7_lt7 _ (by rw [List.length_drop]; omega)
theorem val7_drop_lt6 (l : List UInt8) (j : Nat) (h : l.length ≤ 7) : val7 (l.drop (j + 1)) < 4398046511104 := by
  have h1 := val7_lt (l.drop (j + 1))
  have h2 := Nat.pow_le_pow_right (n := 128) (by decide) (show (l.drop (j + 1)).length ≤ 6 by rw [List.length_drop]; omega)
  have h3 : (128 : Nat) ^ 6 = 4398046511104 := by decide
  omega
/-- The comparison of DecodeVarint, as the walk writes it. -/
theorem cmpV {s : ByteArray} {L : List UInt8} (hL : L = s.data.toList) (q k : Nat) (hq : q ≤ 562949953421311) :
    ((encV (q : Int)).toList == (s.extract 0 k).toList) = decide (leb q = L.take k) := by
  rw [encV_in hq, ByteArray.toList_mk, Lib.extract_toList, hL, List.drop_zero, Nat.sub_zero, Bool.eq_iff_iff]
  simp
theorem decV_found {L : List UInt8} {r : Nat × Nat} {k : Nat} (hk : k ≤ 7) (hl : k ≤ L.length) (hd : decVF L (8 - k) k = r) (he : leb (val7 (L.take k)) = L.take k) : r = (val7 (L.take k), k) := by
  rw [← hd, show 8 - k = (7 - k) + 1 by omega, decVF_hit hl he]
theorem decV_next {L : List UInt8} {r : Nat × Nat} {k : Nat} (hk : k ≤ 7) (hl : k ≤ L.length) (hd : decVF L (8 - k) k = r) (he : ¬ leb (val7 (L.take k)) = L.take k) : decVF L (8 - (k + 1)) (k + 1) = r := by
  rw [← hd, show 8 - k = (8 - (k + 1)) + 1 by omega, decVF_miss hl he]
theorem val7_take_le (L : List UInt8) (k : Nat) (hk : k ≤ 7) : val7 (L.take k) ≤ 562949953421311 := val7_lt7 _ (by rw [List.length_take]; omega)
theorem ret_two {a b c d : Int} (h1 : a = c) (h2 : b = d) : Ending.returned (.tuple #[.int .i64 a, .int .i64 b]) = .returned (.tuple #[.int .i64 c, .int .i64 d]) := by rw [h1, h2]
theorem bits_or_comm (k : IntKind) (x y : Int) : bits .or k x y = bits .or k y x := by simp only [bits, BitVec.or_comm]
/-- Seven bits above what has been read. -/
theorem i64_or7 (n c i : Nat) (hi : i ≤ 6) (hn : n < 128 ^ i) : bits .or .i64 (n : Int) (wrap64 ((c : Int) % 128 * 2 ^ (7 * i))) = ((n + c % 128 * 128 ^ i : Nat) : Int) := by
  have hc : c % 128 < 128 := Nat.mod_lt _ (by decide)
  have e : (128 : Nat) ^ i = 2 ^ (7 * i) := by rw [Nat.pow_mul]
  have h2 := Nat.pow_le_pow_right (n := 128) (by decide) hi
  have h3 : (128 : Nat) ^ 6 = 4398046511104 := by decide
  have hc2 : c % 128 * 128 ^ i ≤ 127 * 128 ^ i := Nat.mul_le_mul_right _ (by omega)
  have ec : ((c : Int) % 128 * 2 ^ (7 * i)) = ((c % 128 * 2 ^ (7 * i) : Nat) : Int) := by simp
  rw [e] at hn h2 hc2
  rw [bits_or_comm, ec, IntWalk.wrap64_in _ ⟨by omega, by omega⟩, bits_join .i64 63 (by decide) wraps_i64 (7 * i) _ _ (by omega) (by exact_mod_cast (Nat.mul_mod_left (c % 128) (2 ^ (7 * i)))) (by simp only [Int.reducePow]; omega) (by omega) (by exact_mod_cast hn) (by simp only [Int.reducePow]; omega), e]
  omega
/-- The digits of a byte. -/
def hexd (k : Nat) : UInt8 := if k < 10 then UInt8.ofNat (48 + k) else UInt8.ofNat (87 + k)
def hexL : List UInt8 → List UInt8
  | [] => []
  | c :: l => hexd (c.toNat / 16) :: hexd (c.toNat % 16) :: hexL l
theorem hexL_snoc (l : List UInt8) (c : UInt8) : hexL (l ++ [c]) = hexL l ++ [hexd (c.toNat / 16), hexd (c.toNat % 16)] := by
  induction l with
  | nil => rfl
  | cons d l ih => simp [hexL, ih]
theorem hexL_length (l : List UInt8) : (hexL l).length = 2 * l.length := by
  induction l with
  | nil => rfl
  | cons d l ih => simp [hexL, ih]; omega
theorem hex_at_fin : ∀ k : Fin 16, (ByteArray.mk #[48, 49, 50, 51, 52, 53, 54, 55, 56, 57, 97, 98, 99, 100, 101, 102])[k.val]'(k.isLt) = hexd k.val := by decide
theorem hex_at (k : Nat) (h : k < (ByteArray.mk #[48, 49, 50, 51, 52, 53, 54, 55, 56, 57, 97, 98, 99, 100, 101, 102]).size) : (ByteArray.mk #[48, 49, 50, 51, 52, 53, 54, 55, 56, 57, 97, 98, 99, 100, 101, 102])[k] = hexd k := hex_at_fin ⟨k, h⟩
/-- The value of a hexadecimal digit; -1 for any other byte. -/
def unhex (c : UInt8) : Int := if 48 ≤ c.toNat ∧ c.toNat ≤ 57 then (c.toNat : Int) - 48 else if 97 ≤ c.toNat ∧ c.toNat ≤ 102 then (c.toNat : Int) - 87 else -1
theorem unhex_hexd_fin : ∀ k : Fin 16, unhex (hexd k.val) = (k.val : Int) := by decide
theorem unhex_hexd (k : Nat) (h : k < 16) : unhex (hexd k) = (k : Int) := unhex_hexd_fin ⟨k, h⟩
theorem hexd_toNat (d : Nat) (h : d < 16) : (hexd d).toNat = if d < 10 then 48 + d else 87 + d := by
  unfold hexd
  split <;> simp <;> omega
theorem unhex_lt (c : UInt8) : unhex c < 16 := by unfold unhex; split <;> (try split) <;> omega
theorem unhex_ge (c : UInt8) : -1 ≤ unhex c := by unfold unhex; split <;> (try split) <;> omega
theorem hexd_unhex (c : UInt8) (h : 0 ≤ unhex c) : hexd (unhex c).toNat = c := by
  have hl := unhex_lt c
  apply UInt8.toNat.inj
  rw [hexd_toNat _ (by omega)]
  unfold unhex at h hl ⊢
  split at h
  · rename_i h1
    rw [if_pos h1] at hl ⊢
    rw [if_pos (by omega)]
    omega
  · rename_i h1
    rw [if_neg h1] at hl ⊢
    split at h
    · rename_i h2
      rw [if_pos h2] at hl ⊢
      rw [if_neg (by omega)]
      omega
    · omega
/-- No digit up to k is c, so far. -/
theorem unhex_none (c : UInt8) (h : ∀ j, j < 16 → hexd j ≠ c) : unhex c = -1 := by
  have h1 := unhex_ge c
  have h2 := unhex_lt c
  rcases Int.lt_or_le (unhex c) 0 with h3 | h3
  · omega
  · exact absurd (hexd_unhex c h3) (h _ (by omega))
def dgt (c : UInt8) : Nat := (unhex c).toNat
def isH (c : UInt8) : Bool := decide (0 ≤ unhex c)
theorem dgt_lt (c : UInt8) : dgt c < 16 := by have := unhex_lt c; unfold dgt; omega
theorem unhex_eq {c : UInt8} (h : isH c = true) : unhex c = (dgt c : Int) := by
  unfold isH at h; have := of_decide_eq_true h; unfold dgt; omega
theorem unhex_not {c : UInt8} (h : isH c = false) : unhex c = -1 := by
  unfold isH at h; have := of_decide_eq_false h; have := unhex_ge c; omega
/-- The bytes of pairs of digits. -/
def decH : List UInt8 → List UInt8
  | a :: b :: t => UInt8.ofNat (16 * dgt a + dgt b) :: decH t
  | _ => []
theorem decH_snoc2 : ∀ (l : List UInt8) (a b : UInt8), l.length % 2 = 0 → decH (l ++ [a, b]) = decH l ++ [UInt8.ofNat (16 * dgt a + dgt b)]
  | [], a, b, _ => rfl
  | [x], a, b, h => by simp at h
  | x :: y :: t, a, b, h => by
    have := decH_snoc2 t a b (by simp at h; omega)
    simp only [List.cons_append, decH, this]
/-- The slice of n bytes that impl.DecodeHex fills, behind the digits l. -/
def stp : List UInt8 → Nat → List UInt8
  | [], n => List.replicate n 0
  | [a], n => UInt8.ofNat (dgt a) :: List.replicate (n - 1) 0
  | a :: b :: t, n => UInt8.ofNat (16 * dgt a + dgt b) :: stp t (n - 1)
theorem stp_length : ∀ (l : List UInt8) (n : Nat), l.length ≤ 2 * n → (stp l n).length = n
  | [], n, _ => by simp [stp]
  | [a], n, h => by simp [stp] at h ⊢; omega
  | a :: b :: t, n, h => by
    simp only [List.length_cons] at h
    rw [stp, List.length_cons, stp_length t (n - 1) (by omega)]
    omega
theorem stp_full : ∀ (l : List UInt8) (n : Nat), l.length = 2 * n → stp l n = decH l
  | [], n, h => by
    have : n = 0 := by simp only [List.length_nil] at h; omega
    subst this
    rfl
  | [a], n, h => by simp at h; omega
  | a :: b :: t, n, h => by
    simp only [List.length_cons] at h
    rw [stp, decH, stp_full t (n - 1) (by omega)]
/-- What the place of the next digit holds, and what it holds behind it. -/
theorem stp_step : ∀ (l : List UInt8) (n : Nat) (c : UInt8), l.length < 2 * n →
    ∃ x, x < 16 ∧ (stp l n)[l.length / 2]? = some (UInt8.ofNat x) ∧ (stp l n).set (l.length / 2) (UInt8.ofNat (x * 16 + dgt c)) = stp (l ++ [c]) n
  | [], n, c, h => by
    obtain ⟨m, rfl⟩ : ∃ m, n = m + 1 := ⟨n - 1, by simp at h; omega⟩
    exact ⟨0, by omega, by simp [stp, List.replicate_succ], by simp [stp, List.replicate_succ]⟩
  | [a], n, c, h => by
    refine ⟨dgt a, dgt_lt a, by simp [stp], ?_⟩
    obtain ⟨m, rfl⟩ : ∃ m, n = m + 1 := ⟨n - 1, by simp at h; omega⟩
    simp [stp, Nat.mul_comm]
  | a :: b :: t, n, c, h => by
    simp only [List.length_cons] at h
    obtain ⟨x, hx, h1, h2⟩ := stp_step t (n - 1) c (by omega)
    have e : (a :: b :: t).length / 2 = t.length / 2 + 1 := by simp only [List.length_cons]; omega
    refine ⟨x, hx, ?_, ?_⟩
    · rw [e, stp, List.getElem?_cons_succ]
      exact h1
    · rw [e, stp, List.set_cons_succ, h2]
      rfl
/-- What DecodeHex returns. -/
def decHex (l : List UInt8) : List UInt8 × Bool := if l.length % 2 = 0 ∧ l.all isH = true then (decH l, true) else ([], false)
theorem decHex_yes {l : List UInt8} (h1 : l.length % 2 = 0) (h2 : l.all isH = true) : decHex l = (decH l, true) := if_pos ⟨h1, h2⟩
theorem decHex_odd {l : List UInt8} (h1 : ¬ l.length % 2 = 0) : decHex l = ([], false) := if_neg (fun h => h1 h.1)
theorem decHex_bad {l : List UInt8} {i : Nat} (hi : i < l.length) (h2 : isH l[i] = false) : decHex l = ([], false) :=
  if_neg (fun h => by have := List.all_eq_true.1 h.2 l[i] (List.getElem_mem hi); rw [this] at h2; cases h2)
theorem ret_sb {a b : ByteArray} {x y : Bool} (h1 : a = b) (h2 : x = y) : Ending.returned (.tuple #[.string a, .bool x]) = .returned (.tuple #[.string b, .bool y]) := by rw [h1, h2]
theorem all_snoc2 {l : List UInt8} {a b : UInt8} (h : l.all isH = true) (ha : isH a = true) (hb : isH b = true) : (l ++ [a, b]).all isH = true := by
  simp [List.all_append, h, ha, hb]
theorem all_snoc1 {l : List UInt8} {a : UInt8} (h : l.all isH = true) (ha : isH a = true) : (l ++ [a]).all isH = true := by
  simp [List.all_append, h, ha]
theorem take_two (l : List UInt8) (k : Nat) (h : k + 1 < l.length) : l.take (k + 2) = l.take k ++ [l[k], l[k + 1]] := by
  rw [List.take_succ_eq_append_getElem h, List.take_succ_eq_append_getElem (by omega), List.append_assoc]
  rfl
theorem byte_pair (a b : UInt8) : (UInt8.ofNat (16 * dgt a + dgt b)).toNat = 16 * dgt a + dgt b := by
  have := dgt_lt a
  have := dgt_lt b
  simp; omega
end Go.Proofs.YtgngfffmkjckdaaGreatDoor

namespace Go.Proofs.YtgngfffmkjckdaaGreatDoor
open Go.RowKit
set_option linter.unusedVariables false

/-- The value of a byte. -/
def bv (b : UInt8) : Value := .int .u8 (b.toNat : Int)

/-- string([]byte{b}) in a block that the call has just laid. -/
theorem conv_one (w : World) (n : Int) (b : UInt8) (h : n = (b.toNat : Int)) :
    (convert 22 9 (.slice (some ⟨w.heap.size, 0, none⟩) 1 1)).run Tryz.prog (w.alloc (.cells #[.int .u8 n] 5)) = .ok (.string ⟨#[b]⟩) (w.alloc (.cells #[.int .u8 n] 5)) := by
  subst h
  exact run_convert_bytes_back (P := Tryz.prog) (w.alloc (.cells #[.int .u8 (b.toNat : Int)] 5)) 22 9 5 ⟨w.heap.size, 0, none⟩ 1 [b] Tryz.underlying22 Tryz.underlying5 Tryz.underlying9 (by
    intro j hj
    simp at hj
    subst hj
    simp [Addr.add])

/-- string(v) where v owns the bytes bs. -/
theorem conv_own {w : World} {base : Nat} {v : Value} {bs : List UInt8} (h : w.ownsRow base 5 1 v bs.length (bs.map bv)) :
    (convert 22 9 v).run Tryz.prog w = .ok (.string ⟨bs.toArray⟩) w := by
  have hcs : ∀ g, v.ownBlock = some g → _ := fun g hg => h.cells (g := g) hg
  obtain ⟨hlen, ⟨rfl, hn⟩ | ⟨g, cap, cur, rfl, hg, hh, hcap, hmax, hsz, htk⟩⟩ := h
  · have : bs = [] := List.length_eq_zero_iff.1 hn
    subst this
    rw [run_convert_bytes_string w 22 9 5 none 0 0 Tryz.underlying22 Tryz.underlying5 Tryz.underlying9]
    simp [Conv.bytesToString, Sem.run_pure]
    rfl
  · exact run_convert_bytes_back (P := Tryz.prog) w 22 9 5 ⟨g, 0, none⟩ cap bs Tryz.underlying22 Tryz.underlying5 Tryz.underlying9 (by
      intro j hj
      exact hcs g rfl j _ (by simp [hj, bv]))
theorem info8 : (Tryz.prog.info? 5).map (fun i => (i.zero, i.size, i.bytes)) = some (some (.int .u8 0), 1, 1) := by kernel_rfl
theorem made_bytes (n : Nat) : (madeCells #[Value.int .u8 0] n).toList = (List.replicate n (0 : UInt8)).map bv := by
  rw [toList_madeCells_one]
  simp [bv]
theorem bv_ofNat (n : Nat) : bv (UInt8.ofNat n) = .int .u8 ((n % 256 : Nat) : Int) := by simp [bv]
theorem bv_shift (n k : Nat) : Value.int .u8 ((n : Int) / 2 ^ (8 * k) % 256) = bv (UInt8.ofNat (n / 256 ^ k)) := by
  rw [shift_nat, bv_ofNat]; rfl
/-- v is a slice of the call's own (in a block from base on) that holds the bytes bs. -/
def OwnsB (w : World) (base : Nat) (v : Value) (bs : List UInt8) : Prop := w.ownsRow base 5 1 v bs.length (bs.map bv)
theorem OwnsB.conv {w : World} {base : Nat} {v : Value} {bs : List UInt8} (h : OwnsB w base v bs) :
    (convert 22 9 v).run Tryz.prog w = .ok (.string ⟨bs.toArray⟩) w := conv_own h
theorem OwnsB.lit (w : World) : OwnsB (w.alloc (.cells #[] 5)) w.heap.size (.slice (some ⟨w.heap.size, 0, none⟩) 0 0) [] := World.ownsRow_lit w #[] 0 (Nat.le_refl _) (Nat.zero_le _) rfl
/-- out = append(out, b) on a slice of bytes of the call's own. -/
theorem wpList_push {w0 : World} {ops : Array Oper} {rest : List Oper} {o : Oper} {a : Act} {Q : Exit → Act → World → Prop} (hgd : o.guard = none) (s x : Operand)
    (ho : o.op = .call { callee := .builtin .append, args := #[s, x], argTypes := #[22, 22] }) (base : Nat) (v : Value) (bs : List UInt8) (b : UInt8) (N : Int) (hN : N = (b.toNat : Int))
    (hs : a.eval s = v) (hx : a.eval x = .slice (some ⟨w0.heap.size, 0, none⟩) 1 1) (hown : OwnsB w0 base v bs) (hl : bs.length ≤ 1000000000) (hbase : base ≤ w0.heap.size)
    (h : ∀ v' w', OwnsB w' base v' (bs ++ [b]) → Below base w0 w' → wpList Tryz.prog ops Q rest (a.put o.dst v') w') :
    wpList Tryz.prog ops Q (o :: rest) a (w0.alloc (.cells #[.int .u8 N] 5)) := by
  subst hN
  obtain ⟨i0, hi, hz0, hz1, hz2⟩ := info_parts info8
  refine wpList_append_own _ hgd s x 22 ho base 5 i0 (.int .u8 0) 1 1 Tryz.underlying22 hi hz0 hz1 hz2 rfl (by decide) v bs.length (bs.map bv) hs (World.ownsRow.alloc hown _) ⟨w0.heap.size, 0, none⟩ 1 1 [bv b] hx rfl ?_ ?_ ?_ ?_ ?_ ?_
  · intro j u hj
    match j, hj with
    | 0, hj =>
      simp at hj
      subst hj
      simp [Addr.add, bv]
  · intro u hu
    simp at hu
    subst hu
    rfl
  · unfold maxLen; omega
  · omega
  · simp; omega
  · intro v' w' ho' hg _
    refine h v' w' (by unfold OwnsB; simpa using ho') ?_
    refine ((Below.refl base w0).alloc hbase _).grown hg (by simp; omega) (fun k hk => (World.ownsRow.lt hown k hk).1)
/-- out = append(out, b, c) on a slice of bytes of the call's own, as one step of a region that draws its order. -/
theorem step_push2 {w0 W : World} {ops : Array Oper} {o : Oper} {a : Act} {K : Act → World → Prop} {Q : Exit → Act → World → Prop} {E : Prop} (hgd : o.guard = none) (s x : Operand)
    (ho : o.op = .call { callee := .builtin .append, args := #[s, x], argTypes := #[22, 22] }) (base : Nat) (v : Value) (bs : List UInt8) (b c : UInt8) (B C : Int)
    (hW : W = w0.alloc (.cells #[.int .u8 B, .int .u8 C] 5)) (hB : B = (b.toNat : Int)) (hC : C = (c.toNat : Int))
    (hs : a.eval s = v) (hx : a.eval x = .slice (some ⟨w0.heap.size, 0, none⟩) 2 2) (hown : OwnsB w0 base v bs) (hl : bs.length ≤ 1000000000) (hbase : base ≤ w0.heap.size)
    (h : ∀ v' w', OwnsB w' base v' (bs ++ [b, c]) → Below base w0 w' → K (a.put o.dst v') w') :
    if Region.wanted o (yielded ops a.tmps) = true then Oper.wp Tryz.prog o a W K Q else E := by
  have hw : Region.wanted o (yielded ops a.tmps) = true := by simp [Region.wanted, hgd]
  rw [if_pos hw]
  subst hW
  subst hB
  subst hC
  obtain ⟨i0, hi, hz0, hz1, hz2⟩ := info_parts info8
  refine wp_append_own _ s x 22 ho base 5 i0 (.int .u8 0) 1 1 Tryz.underlying22 hi hz0 hz1 hz2 rfl (by decide) v bs.length (bs.map bv) hs (World.ownsRow.alloc hown _) ⟨w0.heap.size, 0, none⟩ 2 2 [bv b, bv c] hx rfl ?_ ?_ ?_ ?_ ?_ ?_
  · intro j u hj
    match j, hj with
    | 0, hj =>
      simp at hj
      subst hj
      simp [Addr.add, bv]
    | 1, hj =>
      simp at hj
      subst hj
      simp [Addr.add, bv]
  · intro u hu
    simp at hu
    rcases hu with rfl | rfl <;> rfl
  · unfold maxLen; omega
  · omega
  · simp; omega
  · intro v' w' ho' hg _
    refine h v' w' (by unfold OwnsB; simpa using ho') ?_
    refine ((Below.refl base w0).alloc hbase _).grown hg (by simp; omega) (fun k hk => (World.ownsRow.lt hown k hk).1)
theorem OwnsB.drew {w : World} {base : Nat} {v : Value} {bs : List UInt8} (h : OwnsB w base v bs) : OwnsB w.drew base v bs := h
/-- Moving an iterator on turns its block alone. -/
theorem grown_iterAt (w : World) (J : Nat) (s : ByteArray) (p : Nat) : w.grownBy (w.iterAt J s p) (some J) :=
  ⟨rfl, rfl, rfl, by rw [Lib.iterAt_size]; exact Nat.le_refl _, fun i _ hne => Lib.iterAt_other w J i s p (fun e => hne (by rw [e]))⟩
theorem iter_setCell {w : World} {J : Nat} {o : Obj} (h : w.heap[J]? = some o) (a : Addr) (ha : a.block ≠ J) (v : Value) : (w.setCell a v).heap[J]? = some o := by
  rw [Below.heap_setCell _ _ _ _ (Ne.symm ha)]; exact h
end Go.Proofs.YtgngfffmkjckdaaGreatDoor

namespace Go.Proofs.YtgngfffmkjckdaaGreatDoor
open Go.RowKit
set_option linter.unusedVariables false

/-- The drawn code can be read: its bytes lie below block B. -/
def CodeIn (B : Nat) (w : World) (a : Option Addr) (len : Nat) : Prop :=
  len ≤ 1048576 ∧ (len = 0 ∨ ∃ b off, a = some ⟨b, off, none⟩ ∧ b < B ∧ ∀ i, i < len → ∃ c : UInt8, w.cell? ⟨b, off + i, none⟩ = some (.int .u8 (c.toNat : Int)))
theorem CodeIn.below {B : Nat} {w w' : World} {a : Option Addr} {len : Nat} (h : CodeIn B w a len) (hb : Below B w w') : CodeIn B w' a len := by
  refine ⟨h.1, h.2.imp id ?_⟩
  rintro ⟨b, off, ha, hB, hc⟩
  refine ⟨b, off, ha, hB, fun i hi => ?_⟩
  obtain ⟨c, hcell⟩ := hc i hi
  exact ⟨c, by rw [hb.cell (p := ⟨b, off + i, none⟩) hB]; exact hcell⟩
/-- Block g is a cursor over the code. -/
def CurAt (B : Nat) (w : World) (g : Nat) (a : Option Addr) (len cap : Nat) : Prop :=
  B ≤ g ∧ ∃ (i : Nat) (h : Int), i ≤ len ∧ w.heap[g]? = some (.cells #[.slice a len cap, .int .i64 i, .int .i64 h] 82 (0, 0))
theorem grown_trans {w w1 w2 : World} {row : Option Nat} (h : w.grownBy w1 row) (k : w1.grownBy w2 row) : w.grownBy w2 row :=
  ⟨k.os.trans h.os, k.tape.trans h.tape, k.output.trans h.output, Nat.le_trans h.size k.size, fun i hi hne => (k.block i (Nat.lt_of_lt_of_le hi h.size) hne).trans (h.block i hi hne)⟩
theorem CurAt.below {B : Nat} {w w' : World} {g : Nat} {a : Option Addr} {len cap : Nat} (h : CurAt B w g a len cap) (hg : w.grownBy w' (some g)) : Below B w w' := by
  obtain ⟨hB, i, hh, hi, hheap⟩ := h
  have hlt : g < w.heap.size := (Array.getElem?_eq_some_iff.1 hheap).1
  exact ⟨hg.os, hg.tape, hg.output, hg.size, fun k hk => hg.block k (by omega) (fun e => by cases e; omega)⟩
theorem and255 (y : Int) : ∃ n : Nat, n < 256 ∧ bits .and .i64 y 255 = (n : Int) := by
  refine ⟨(BitVec.ofInt 64 y &&& 255#64).toNat, ?_, ?_⟩
  · rw [BitVec.toNat_and]
    exact Nat.lt_of_le_of_lt Nat.and_le_right (by decide)
  · show IntKind.i64.wrap _ = _
    have hlt : (BitVec.ofInt 64 y &&& 255#64).toNat < 256 := by
      rw [BitVec.toNat_and]
      exact Nat.lt_of_le_of_lt Nat.and_le_right (by decide)
    exact IntWalk.i64_in _ (by have : ((BitVec.ofInt 64 y &&& 255#64).toNat : Int) < 256 := by omega
                               constructor
                               · exact Int.le_trans (by decide) (Int.natCast_nonneg _)
                               · exact Int.le_trans (Int.le_of_lt this) (by decide))
/-- What l1Byte leaves. -/
def ByteRet (B : Nat) (w : World) (g : Nat) (a : Option Addr) (len cap : Nat) (e : Ending) (w' : World) : Prop :=
  ∃ x : Nat, x < 256 ∧ e = .returned (.int .i64 (x : Int)) ∧ w.grownBy w' (some g) ∧ CurAt B w' g a len cap

theorem grown_set (w : World) (g j : Nat) (v : Value) : w.grownBy (w.setCell ⟨g, j, none⟩ v) (some g) :=
  ⟨rfl, rfl, rfl, by simp [World.setCell], fun k _ hne => Below.heap_setCell _ _ _ _ (fun e => hne (by rw [e]))⟩
theorem grown_drewN (w : World) (n : Nat) (row : Option Nat) : w.grownBy (w.drewN n) row := ⟨rfl, rfl, rfl, Nat.le_refl _, fun _ _ _ => rfl⟩
theorem byteRet_end {B : Nat} {w : World} {g : Nat} {a : Option Addr} {len cap i : Nat} {h : Int} (hB : B ≤ g) (hi : i ≤ len) (hheap : w.heap[g]? = some (.cells #[.slice a len cap, .int .i64 i, .int .i64 h] 82 (0, 0))) (y h' : Int) (n m : Nat) :
    ByteRet B w g a len cap (.returned (.int .i64 (bits .and .i64 y 255))) (((w.setCell ⟨g, 2, none⟩ (.int .i64 h')).drewN n).drewN m) := by
  obtain ⟨x, hx, he⟩ := and255 y
  refine ⟨x, hx, by rw [he], grown_trans (grown_trans (grown_set w g 2 _) (grown_drewN _ _ _)) (grown_drewN _ _ _), hB, i, h', hi, ?_⟩
  exact heap_setCell_same w g 2 _ _ _ hheap
theorem byteRet_next {B : Nat} {w : World} {g : Nat} {a : Option Addr} {len cap i : Nat} {h : Int} (hB : B ≤ g) (hi : i < len) (hheap : w.heap[g]? = some (.cells #[.slice a len cap, .int .i64 i, .int .i64 h] 82 (0, 0))) (y h' : Int) (n : Nat) :
    ByteRet B w g a len cap (.returned (.int .i64 (bits .and .i64 y 255))) (((w.setCell ⟨g, 2, none⟩ (.int .i64 h')).drewN n).setCell ⟨g, 1, none⟩ (.int .i64 ((i : Int) + 1))) := by
  obtain ⟨x, hx, he⟩ := and255 y
  refine ⟨x, hx, by rw [he], grown_trans (grown_trans (grown_set w g 2 _) (grown_drewN _ _ _)) (grown_set _ g 1 _), hB, i + 1, h', hi, ?_⟩
  exact heap_setCell_same _ g 1 _ _ _ (show ((w.setCell ⟨g, 2, none⟩ (.int .i64 h')).drewN n).heap[g]? = _ from heap_setCell_same w g 2 _ _ _ hheap)

set_option maxHeartbeats 1000000 in
theorem l1Byte_end (B : Nat) (w : World) (g : Nat) (a : Option Addr) (len cap : Nat) (hc : CurAt B w g a len cap) (hcode : CodeIn B w a len) :
    Calls Tryz.prog 72 #[.pointer (some ⟨g, 0, none⟩)] w (ByteRet B w g a len cap) := by
  obtain ⟨hB, i, h, hi, hheap⟩ := hc
  have c0 : w.cell? ⟨g, 0, none⟩ = some (.slice a len cap) := by simp [World.cell?, hheap]
  have c1 : w.cell? ⟨g, 1, none⟩ = some (.int .i64 i) := by simp [World.cell?, hheap]
  have c2 : w.cell? ⟨g, 2, none⟩ = some (.int .i64 h) := by simp [World.cell?, hheap]
  have f1 : w.frozen? ⟨g, 1, none⟩ = false := by simp [World.frozen?, hheap]
  have f2 : w.frozen? ⟨g, 2, none⟩ = false := by simp [World.frozen?, hheap]
  replace hheap := hid hheap
  replace hcode := hid hcode
  by_cases hil : i < len
  · obtain ⟨hcl, hcc⟩ := hcode.out
    rcases hcc with hcc | ⟨b, off, rfl, hbB, hcell⟩
    · omega
    · obtain ⟨c, hci⟩ := hcell i hil
      have hci2 : ∀ v, (w.setCell ⟨g, 2, none⟩ v).cell? ⟨b, off + i, none⟩ = some (.int .u8 (c.toNat : Int)) := by
        intro v
        rw [World.cell?_setCell_other _ _ _ _ (by simp only [ne_eq, Addr.mk.injEq]; omega)]
        exact hci
      have hcb := toNat_lt c
      clear hcell hci hcode
      have hil2 : (i : Int) < (len : Int) := by omega
      go_enter Tryz.func72, Tryz.ntmps72
      go_wp2
      go_quiet (fail)
      go_wp2
      go_quiet (fail)
      go_wp2
      go_quiet (fail)
      go_wp2
      go_ret
      exact byteRet_next hB hil hheap.out _ _ _
  · obtain rfl : i = len := by omega
    go_enter Tryz.func72, Tryz.ntmps72
    go_wp2
    go_quiet (fail)
    go_wp2
    go_quiet (fail)
    go_wp2
    go_ret
    exact byteRet_end hB (Nat.le_refl _) hheap.out _ _ _ _
end Go.Proofs.YtgngfffmkjckdaaGreatDoor

namespace Go.Proofs.YtgngfffmkjckdaaGreatDoor
open Go.RowKit
set_option linter.unusedVariables false

/-- A number that fits an int. -/
def Fit (x : Int) : Prop := -9223372036854775808 ≤ x ∧ x ≤ 9223372036854775807
/-- A number from lo to hi comes back; the cursor has moved. -/
def RangeRet (lo hi : Int) (B : Nat) (w : World) (g : Nat) (a : Option Addr) (len cap : Nat) (e : Ending) (w' : World) : Prop :=
  ∃ x : Int, lo ≤ x ∧ x ≤ hi ∧ e = .returned (.int .i64 x) ∧ w.grownBy w' (some g) ∧ CurAt B w' g a len cap
theorem RangeRet.mk' {lo hi : Int} {B : Nat} {w : World} {g : Nat} {a : Option Addr} {len cap : Nat} {x : Int} {w' : World} (h1 : lo ≤ x) (h2 : x ≤ hi) (hg : w.grownBy w' (some g)) (hc : CurAt B w' g a len cap) : RangeRet lo hi B w g a len cap (.returned (.int .i64 x)) w' :=
  ⟨x, h1, h2, rfl, hg, hc⟩

theorem l1Below_zero (w : World) (g : Nat) (n : Int) (hn : n ≤ 0) :
    Calls Tryz.prog 44 #[.pointer (some ⟨g, 0, none⟩), .int .i64 n] w fun e w' => e = .returned (.int .i64 0) ∧ w = w' := by
  go_enter Tryz.func44, Tryz.ntmps44
  go_wp2
  go_ret
  exact ⟨rfl, rfl⟩
set_option maxHeartbeats 800000 in
theorem l1Below_small (B : Nat) (w : World) (g : Nat) (a : Option Addr) (len cap : Nat) (hc : CurAt B w g a len cap) (hcode : CodeIn B w a len) (n : Nat) (hn : 1 ≤ n) (hn2 : n ≤ 256) :
    Calls Tryz.prog 44 #[.pointer (some ⟨g, 0, none⟩), .int .i64 n] w (RangeRet 0 ((n : Int) - 1) B w g a len cap) := by
  replace hc := hid hc
  replace hcode := hid hcode
  go_enter Tryz.func44, Tryz.ntmps44
  go_wp2_with fail
  refine (l1Byte_end B _ g a len cap hc.out hcode.out).mono ?_
  rintro e w1 ⟨x, hx, rfl, hg, hc1⟩
  have hm1 : 0 ≤ (x : Int) % (n : Int) := Int.emod_nonneg _ (by omega)
  have hm2 : (x : Int) % (n : Int) < (n : Int) := Int.emod_lt_of_pos _ (by omega)
  replace hc1 := hid hc1
  go_wp2_with fail
  go_ret
  exact RangeRet.mk' hm1 (by omega) hg hc1.out
set_option maxHeartbeats 1600000 in
theorem l1Below_large (B : Nat) (w : World) (g : Nat) (a : Option Addr) (len cap : Nat) (hc : CurAt B w g a len cap) (hcode : CodeIn B w a len) (n : Nat) (hn : 256 < n) (hn2 : n ≤ 4294967296) :
    Calls Tryz.prog 44 #[.pointer (some ⟨g, 0, none⟩), .int .i64 n] w (RangeRet 0 ((n : Int) - 1) B w g a len cap) := by
  replace hc := hid hc
  replace hcode := hid hcode
  go_enter Tryz.func44, Tryz.ntmps44
  go_wp2_with fail
  refine (l1Byte_end B _ g a len cap hc.out hcode.out).mono ?_
  rintro e w1 ⟨x1, hx1, rfl, hg1, hc1⟩
  have hcode1 := hid (hcode.out.below (hc.out.below hg1))
  replace hc1 := hid hc1
  go_wp2_with fail
  refine (l1Byte_end B _ g a len cap hc1.out hcode1.out).mono ?_
  rintro e w2 ⟨x2, hx2, rfl, hg2, hc2⟩
  have hcode2 := hid (hcode1.out.below (hc1.out.below hg2))
  replace hc2 := hid hc2
  go_wp2_with fail
  refine (l1Byte_end B _ g a len cap hc2.out hcode2.out).mono ?_
  rintro e w3 ⟨x3, hx3, rfl, hg3, hc3⟩
  have hcode3 := hid (hcode2.out.below (hc2.out.below hg3))
  replace hc3 := hid hc3
  go_wp2_with fail
  refine (l1Byte_end B _ g a len cap hc3.out hcode3.out).mono ?_
  rintro e w4 ⟨x4, hx4, rfl, hg4, hc4⟩
  replace hc4 := hid hc4
  have hg := grown_trans (grown_trans (grown_trans hg1 hg2) hg3) hg4
  have hm1 : 0 ≤ ((x1 : Int) * 16777216 + (x2 : Int) * 65536 + (x3 : Int) * 256 + (x4 : Int)) % (n : Int) := Int.emod_nonneg _ (by omega)
  have hm2 : ((x1 : Int) * 16777216 + (x2 : Int) * 65536 + (x3 : Int) * 256 + (x4 : Int)) % (n : Int) < (n : Int) := Int.emod_lt_of_pos _ (by omega)
  clear hg1 hg2 hg3 hg4
  go_wp2_with fail
  go_ret
  exact RangeRet.mk' hm1 (by omega) hg hc4.out
theorem l1Below_any (B : Nat) (w : World) (g : Nat) (a : Option Addr) (len cap : Nat) (hc : CurAt B w g a len cap) (hcode : CodeIn B w a len) (n : Nat) (hn : 1 ≤ n) (hn2 : n ≤ 4294967296) :
    Calls Tryz.prog 44 #[.pointer (some ⟨g, 0, none⟩), .int .i64 n] w (RangeRet 0 ((n : Int) - 1) B w g a len cap) := by
  by_cases h : n ≤ 256
  · exact l1Below_small B w g a len cap hc hcode n hn h
  · exact l1Below_large B w g a len cap hc hcode n (by omega) hn2

/-- What l1New leaves. -/
def NewRet (w : World) (a : Option Addr) (len cap : Nat) (e : Ending) (w' : World) : Prop :=
  ∃ g : Nat, e = .returned (.pointer (some ⟨g, 0, none⟩)) ∧ Below w.heap.size w w' ∧ CurAt w.heap.size w' g a len cap
theorem newRet_end (w : World) (a : Option Addr) (len cap : Nat) (h : Int) : NewRet w a len cap (.returned (.pointer (some ⟨w.heap.size, 0, none⟩))) (w.alloc (.cells #[.slice a len cap, .int .i64 0, .int .i64 h] 82)) :=
  ⟨w.heap.size, rfl, (Below.refl _ _).alloc (Nat.le_refl _) _, Nat.le_refl _, 0, h, Nat.zero_le _, heap_alloc_new w _⟩
set_option maxHeartbeats 800000 in
set_option maxRecDepth 100000 in
theorem l1New_any (w : World) (a : Option Addr) (len cap : Nat) (hcode : CodeIn w.heap.size w a len) :
    Calls Tryz.prog 27 #[.slice a len cap] w (NewRet w a len cap) := by
  obtain ⟨hlen, hcc⟩ := hcode
  replace hcc := hid hcc
  go_enter Tryz.func27, Tryz.ntmps27
  go_wp2
  go_loop [3, 4] (fun h i => ∃ (k : Nat) (hh : Int), k ≤ len ∧ i = .int .i64 k ∧ h = .int .i64 hh) (fun _ i => len - (intOf i).toNat)
  case atStart => exact ⟨0, _, Nat.zero_le _, rfl, rfl⟩
  case round =>
    obtain ⟨k, hh, hk, rfl, rfl⟩ := hrel
    by_cases hgo : k < len ∧ k < 4000
    · obtain ⟨hg1, hg2⟩ := hgo
      rcases hcc.out with h0 | ⟨b, off, rfl, hb, hcell⟩
      · omega
      · obtain ⟨c, hci⟩ := hcell k hg1
        have hcb := toNat_lt c
        clear hcell
        go_wp2
        go_round
        case rel => exact ⟨k + 1, _, by omega, by go_num, rfl⟩
        case measure => simp [intOf]; omega
    · by_cases hk2 : k < len
      · have hk3 : ¬ k < 4000 := by omega
        clear hgo
        go_wp2
        go_ret
        exact newRet_end _ _ _ _ _
      · clear hgo
        go_wp2
        go_ret
        exact newRet_end _ _ _ _ _

/-- A list of numbers in a block of its own. -/
def Ints (w : World) (gl n : Nat) : Prop := ∀ j, j < n → ∃ v : Int, Fit v ∧ w.cell? ⟨gl, j, none⟩ = some (.int .i64 v)
set_option maxHeartbeats 800000 in
theorem l1PickInt_any (B : Nat) (w : World) (g : Nat) (a : Option Addr) (len cap : Nat) (hc : CurAt B w g a len cap) (hcode : CodeIn B w a len) (gl n : Nat) (hn : 1 ≤ n) (hn2 : n ≤ 256) (hgl : gl ≠ g) (hl : Ints w gl n) :
    Calls Tryz.prog 52 #[.pointer (some ⟨g, 0, none⟩), .slice (some ⟨gl, 0, none⟩) n n] w (RangeRet (-9223372036854775808) 9223372036854775807 B w g a len cap) := by
  replace hc := hid hc
  replace hcode := hid hcode
  replace hl := hid hl
  go_enter Tryz.func52, Tryz.ntmps52
  go_wp2_with fail
  refine (l1Below_small B _ g a len cap hc.out hcode.out n hn hn2).mono ?_
  rintro e w1 ⟨x, hx0, hx1, rfl, hg, hc1⟩
  obtain ⟨j, rfl⟩ := Int.eq_ofNat_of_zero_le hx0
  have hj : j < n := by omega
  obtain ⟨v, hv, hcell⟩ := hl.out j hj
  have hcell1 : w1.cell? ⟨gl, j, none⟩ = some (.int .i64 v) := hg.cell hcell (by simp; omega)
  replace hc1 := hid hc1
  replace hcell := hid hcell
  go_wp2_with fail
  go_ret
  exact RangeRet.mk' hv.1 hv.2 hg hc1.out
end Go.Proofs.YtgngfffmkjckdaaGreatDoor

namespace Go.Proofs.YtgngfffmkjckdaaGreatDoor
open Go.RowKit
set_option linter.unusedVariables false

theorem l1Below_lit (B : Nat) (w : World) (g : Nat) (a : Option Addr) (len cap : Nat) (hc : CurAt B w g a len cap) (hcode : CodeIn B w a len) (N : Int) (n : Nat) (hN : N = (n : Int)) (hn : 1 ≤ n) (hn2 : n ≤ 4294967296) :
    Calls Tryz.prog 44 #[.pointer (some ⟨g, 0, none⟩), .int .i64 N] w (RangeRet 0 (N - 1) B w g a len cap) := by
  subst hN
  exact l1Below_any B w g a len cap hc hcode n hn hn2
theorem CurAt.lt {B : Nat} {w : World} {g : Nat} {a : Option Addr} {len cap : Nat} (h : CurAt B w g a len cap) : g < w.heap.size := by
  obtain ⟨_, i, hh, _, hheap⟩ := h
  exact (Array.getElem?_eq_some_iff.1 hheap).1
theorem CurAt.alloc {B : Nat} {w : World} {g : Nat} {a : Option Addr} {len cap : Nat} (h : CurAt B w g a len cap) (o : Obj) : CurAt B (w.alloc o) g a len cap := by
  have hlt := h.lt
  obtain ⟨hB, i, hh, hi, hheap⟩ := h
  exact ⟨hB, i, hh, hi, by rw [Below.heap_alloc _ _ _ hlt]; exact hheap⟩
/-- The cursor stands where the call writes from base on. -/
theorem CurAt.over {B base : Nat} {w w' : World} {g : Nat} {a : Option Addr} {len cap : Nat} (h : CurAt B w g a len cap) (hg : g < base) (hb : Below base w w') : CurAt B w' g a len cap := by
  obtain ⟨hB, i, hh, hi, hheap⟩ := h
  exact ⟨hB, i, hh, hi, by rw [hb.block g hg]; exact hheap⟩
theorem ints_lit (w : World) (zs : List Int) (C : Array Value) (hC : C = (zs.map (Value.int .i64)).toArray) (hz : ∀ z ∈ zs, Fit z) : Ints (w.alloc (.cells C 3)) w.heap.size zs.length := by
  subst hC
  intro j hj
  refine ⟨zs[j], hz _ (List.getElem_mem hj), ?_⟩
  rw [World.cell?_alloc_new]
  simp [hj]
def edges : List Int := [-1, 0, 127, 128, 255, 256, 16383, 16384, 65535, 65536, 562949953421311, 562949953421312, 999999999, 1000000000, -999999999, 9223372036854775807, -9223372036854775808]
theorem edges_fit : ∀ z ∈ edges, Fit z := by
  intro z hz
  have h : edges.all (fun z => decide (-9223372036854775808 ≤ z ∧ z ≤ 9223372036854775807)) = true := by decide
  have h2 := List.all_eq_true.1 h z hz
  have h3 : -9223372036854775808 ≤ z ∧ z ≤ 9223372036854775807 := of_decide_eq_true h2
  exact h3
/-- What l1Num leaves. -/
def NumRet (B : Nat) (w : World) (g : Nat) (a : Option Addr) (len cap : Nat) (e : Ending) (w' : World) : Prop :=
  ∃ x : Int, Fit x ∧ e = .returned (.int .i64 x) ∧ Below B w w' ∧ CurAt B w' g a len cap
theorem NumRet.mk' {B : Nat} {w : World} {g : Nat} {a : Option Addr} {len cap : Nat} {x : Int} {w' : World} (h1 : Fit x) (hg : Below B w w') (hc : CurAt B w' g a len cap) : NumRet B w g a len cap (.returned (.int .i64 x)) w' :=
  ⟨x, h1, rfl, hg, hc⟩
theorem prod_bd {x y : Int} (hx0 : 0 ≤ x) (hx1 : x ≤ 999999999) (hy0 : 0 ≤ y) (hy1 : y ≤ 999999999) : 0 ≤ x * y ∧ x * y ≤ 999999998000000001 := by
  refine ⟨Int.mul_nonneg hx0 hy0, ?_⟩
  have := Int.mul_le_mul hx1 hy1 hy0 (by omega)
  omega

end Go.Proofs.YtgngfffmkjckdaaGreatDoor
