/- Plain mathematics of decimal numerals. Plain mathematics of the texts of words. FormatInt, spec and impl. Folds, their text: mathematics, and FormatFolds of the model (tools/hn.py). Folds, their text: FormatFolds of the program (tools/hn.py). -/
import Derived.Test.YtgngfffmkjckdaaGreatDoorRA
import Derived.Lib.ItoaNum
import Derived.Test.YtgngfffmkjckdaaGreatDoorQA
import Derived.Test.YtgngfffmkjckdaaGreatDoorShelf
import Derived.Lib.AppendIntMem
import Derived.Test.YtgngfffmkjckdaaGreatDoorHF
import Derived.Test.YtgngfffmkjckdaaGreatDoorQB
import Derived.Lib.Join
import Derived.Deep.LoopGhost
import Derived.Deep.RegionHeld3
import Derived.Laws.OwnMore
namespace Go.Proofs.YtgngfffmkjckdaaGreatDoor
open Go.RowKit
theorem dd_one {q : Nat} (h : q < 10) : Lib.decDigits q = [UInt8.ofNat (48 + q)] := Lib.decDigits_one h
theorem dd_more {q : Nat} (h : ¬ q < 10) : Lib.decDigits q = Lib.decDigits (q / 10) ++ [UInt8.ofNat (48 + q % 10)] := by rw [Lib.decDigits, dif_neg h]
theorem dd_length_le : ∀ (k q : Nat), q < 10 ^ (k + 1) → (Lib.decDigits q).length ≤ k + 1
  | 0, q, h => by rw [dd_one (by simpa using h)]; simp
  | k + 1, q, h => by
    by_cases h1 : q < 10
    · rw [dd_one h1]; simp
    · rw [dd_more h1, List.length_append]
      have := dd_length_le k (q / 10) (by rw [Nat.pow_succ] at h; omega)
      simp
      omega
/-- What is left of the number u is q; the digits behind are acc. -/
def Rest (u q : Nat) (acc : List UInt8) : Prop := (q = 0 → acc = Lib.decDigits u) ∧ (1 ≤ q → Lib.decDigits q ++ acc = Lib.decDigits u)
theorem Rest.start {u : Nat} (h : 1 ≤ u) : Rest u u [] := ⟨fun h0 => by omega, fun _ => by simp⟩
theorem Rest.step {u q : Nat} {acc : List UInt8} (h : Rest u q acc) (hq : 1 ≤ q) : Rest u (q / 10) (UInt8.ofNat (48 + q % 10) :: acc) := by
  have h1 := h.2 hq
  by_cases h2 : q < 10
  · rw [dd_one h2] at h1
    refine ⟨fun _ => ?_, fun h3 => by omega⟩
    rw [Nat.mod_eq_of_lt h2]
    exact h1
  · rw [dd_more h2] at h1
    refine ⟨fun h3 => by omega, fun _ => ?_⟩
    rw [← h1]
    simp
theorem Rest.length {u q : Nat} {acc : List UInt8} (h : Rest u q acc) (hu : u ≤ 9223372036854775808) : acc.length ≤ 20 := by
  have hl := dd_length_le 19 u (by omega)
  by_cases hq : q = 0
  · rw [h.1 hq]; omega
  · have h1 := congrArg List.length (h.2 (by omega))
    rw [List.length_append] at h1
    omega
theorem itoa_zero : Lib.itoa 0 = [48] := by unfold Lib.itoa; rw [if_neg (by omega)]; exact dd_one (by decide)
theorem itoa_pos {n : Int} (h : 0 ≤ n) : Lib.itoa n = Lib.decDigits n.toNat := by unfold Lib.itoa; rw [if_neg (by omega)]
theorem itoa_neg' {n : Int} (h : n < 0) : Lib.itoa n = 45 :: Lib.decDigits n.natAbs := by unfold Lib.itoa; rw [if_pos h]
/-- The number to format, as bytes. -/
def fmtB (n : Int) : ByteArray := ⟨(Lib.itoa n).toArray⟩
/-! ### ParseInt -/
def isD (c : UInt8) : Bool := decide (48 ≤ c.toNat ∧ c.toNat ≤ 57)
theorem isD_yes {c : UInt8} (h1 : 48 ≤ c.toNat) (h2 : c.toNat ≤ 57) : isD c = true := by simp [isD, h1, h2]
theorem isD_no {c : UInt8} (h : c.toNat < 48 ∨ 57 < c.toNat) : isD c = false := by simp [isD]; omega
theorem isD_iff {c : UInt8} : isD c = true ↔ 48 ≤ c.toNat ∧ c.toNat ≤ 57 := by simp [isD]
def pstep (n : Nat) (c : UInt8) : Nat := if isD c = true then n * 10 + (c.toNat - 48) else n
/-- The number of the digits among the bytes. -/
def pv (l : List UInt8) : Nat := l.foldl pstep 0
/-- How many digits there are. -/
def pk (l : List UInt8) : Nat := (l.filter isD).length
theorem pv_snoc (l : List UInt8) (c : UInt8) : pv (l ++ [c]) = pstep (pv l) c := by simp [pv, List.foldl_append]
theorem pk_snoc (l : List UInt8) (c : UInt8) : pk (l ++ [c]) = pk l + if isD c = true then 1 else 0 := by
  unfold pk
  rw [List.filter_append, List.length_append]
  by_cases h : isD c = true <;> simp [h]
theorem pk_le (l : List UInt8) : pk l ≤ l.length := List.length_filter_le _ _
theorem pk_all {l : List UInt8} (h : l.all isD = true) : pk l = l.length := by
  unfold pk
  rw [List.filter_eq_self.2 (fun c hc => List.all_eq_true.1 h c hc)]
theorem pstep_dig {n : Nat} {c : UInt8} (h : isD c = true) : pstep n c = n * 10 + (c.toNat - 48) := if_pos h
theorem pstep_not {n : Nat} {c : UInt8} (h : isD c = false) : pstep n c = n := by unfold pstep; rw [h]; rfl
theorem pv_lt (l : List UInt8) : pv l < 10 ^ l.length := by
  suffices h : ∀ r : List UInt8, pv r.reverse < 10 ^ r.length by
    have := h l.reverse
    simpa using this
  intro r
  induction r with
  | nil => simp [pv]
  | cons c r ih =>
    rw [List.reverse_cons, pv_snoc, List.length_cons, Nat.pow_succ]
    unfold pstep
    split
    · rename_i h
      have := isD_iff.1 h
      omega
    · omega
theorem dd_digits (q : Nat) : (Lib.decDigits q).all isD = true := by
  induction q using Nat.strongRecOn with
  | _ q ih =>
    by_cases h : q < 10
    · rw [dd_one h]
      simp [isD]
      omega
    · rw [dd_more h, List.all_append, ih (q / 10) (by omega)]
      simp [isD]
      omega
/-- A numeral that does not begin with '-' has digits alone. -/
theorem itoa_digits {n : Int} {l : List UInt8} (h : Lib.itoa n = l) (hh : l.head? ≠ some 45) : l.all isD = true := by
  rcases Int.lt_or_le n 0 with h1 | h1
  · rw [itoa_neg' h1] at h
    rw [← h] at hh
    simp at hh
  · rw [itoa_pos h1] at h
    rw [← h]
    exact dd_digits _
theorem itoa_minus {n : Int} {t : List UInt8} (h : Lib.itoa n = 45 :: t) : t.all isD = true := by
  rcases Int.lt_or_le n 0 with h1 | h1
  · rw [itoa_neg' h1] at h
    rw [← (List.cons.inj h).2]
    exact dd_digits _
  · rw [itoa_pos h1] at h
    have := dd_digits n.toNat
    rw [h] at this
    simp [isD] at this
def pnum (l : List UInt8) : Int := if l.head? = some 45 then -(pv (l.take 11) : Int) else (pv (l.take 11) : Int)
/-- What ParseInt returns. -/
def parseI (l : List UInt8) : Int × Bool := if pk (l.take 11) ≤ 9 ∧ l.length ≤ 10 ∧ Lib.itoa (pnum l) = l then (pnum l, true) else (0, false)
theorem parseI_yes {l : List UInt8} (h1 : pk (l.take 11) ≤ 9) (h2 : l.length ≤ 10) (h3 : Lib.itoa (pnum l) = l) : parseI l = (pnum l, true) := if_pos ⟨h1, h2, h3⟩
theorem parseI_many {l : List UInt8} (h : ¬ pk (l.take 11) ≤ 9) : parseI l = (0, false) := if_neg (fun h' => h h'.1)
theorem parseI_long {l : List UInt8} (h : ¬ l.length ≤ 10) : parseI l = (0, false) := if_neg (fun h' => h h'.2.1)
theorem parseI_other {l : List UInt8} (h : ¬ Lib.itoa (pnum l) = l) : parseI l = (0, false) := if_neg (fun h' => h h'.2.2)
/-- No '-' ahead: a byte that is no digit, or ten bytes: nothing is parsed. -/
theorem parseI_plain_bad {l : List UInt8} (hh : l.head? ≠ some 45) (h : l.all isD = false ∨ 9 < l.length) : parseI l = (0, false) := by
  by_cases h1 : Lib.itoa (pnum l) = l
  · have hd := itoa_digits h1 hh
    rcases h with h | h
    · rw [hd] at h; cases h
    · by_cases h2 : l.length ≤ 10
      · refine parseI_many ?_
        have e : l.take 11 = l := List.take_of_length_le (by omega)
        rw [e, pk_all hd]
        omega
      · exact parseI_long h2
  · exact parseI_other h1
theorem parseI_minus_bad {t : List UInt8} (h : t.all isD = false ∨ 9 < t.length) : parseI (45 :: t) = (0, false) := by
  rcases h with h | h
  · refine parseI_other (fun h1 => ?_)
    rw [itoa_minus h1] at h
    cases h
  · exact parseI_long (by simp; omega)
theorem pv_minus (t : List UInt8) : pv (45 :: t) = pv t := by
  unfold pv
  rw [List.foldl_cons]
  rfl
theorem pk_minus (t : List UInt8) : pk (45 :: t) = pk t := by
  unfold pk
  rw [List.filter_cons]
  rfl
theorem pnum_plain {l : List UInt8} (hh : l.head? ≠ some 45) (hl : l.length ≤ 9) : pnum l = (pv l : Int) := by
  unfold pnum
  rw [if_neg hh, List.take_of_length_le (by omega)]
theorem pnum_minus {t : List UInt8} (hl : t.length ≤ 9) : pnum (45 :: t) = -(pv t : Int) := by
  unfold pnum
  rw [List.take_of_length_le (by simp; omega), pv_minus]
  rfl
theorem parseI_plain {l : List UInt8} (hh : l.head? ≠ some 45) (hl : l.length ≤ 9) (he : Lib.itoa (pv l : Int) = l) : parseI l = ((pv l : Int), true) := by
  rw [parseI_yes (by rw [List.take_of_length_le (by omega)]; have := pk_le l; omega) (by omega) (by rw [pnum_plain hh hl]; exact he), pnum_plain hh hl]
theorem parseI_plain_not {l : List UInt8} (hh : l.head? ≠ some 45) (hl : l.length ≤ 9) (he : ¬ Lib.itoa (pv l : Int) = l) : parseI l = (0, false) :=
  parseI_other (by rw [pnum_plain hh hl]; exact he)
theorem parseI_minus {t : List UInt8} (hl : t.length ≤ 9) (he : Lib.itoa (-(pv t : Int)) = 45 :: t) : parseI (45 :: t) = (-(pv t : Int), true) := by
  rw [parseI_yes (by rw [List.take_of_length_le (by simp; omega), pk_minus]; have := pk_le t; omega) (by simp; omega) (by rw [pnum_minus hl]; exact he), pnum_minus hl]
theorem parseI_minus_not {t : List UInt8} (hl : t.length ≤ 9) (he : ¬ Lib.itoa (-(pv t : Int)) = 45 :: t) : parseI (45 :: t) = (0, false) :=
  parseI_other (by rw [pnum_minus hl]; exact he)
theorem pv_small {l : List UInt8} (h : l.length ≤ 11) : pv l < 100000000000 := by
  have h1 := pv_lt l
  have h2 := Nat.pow_le_pow_right (n := 10) (by decide) h
  have h3 : (10 : Nat) ^ 11 = 100000000000 := by decide
  omega
theorem fmtB_cmp {s : ByteArray} {L : List UInt8} (hL : L = s.data.toList) (n : Int) : ((fmtB n).toList == s.toList) = decide (Lib.itoa n = L) := by
  unfold fmtB
  rw [ByteArray.toList_mk, Lib.toList_data, hL, Bool.eq_iff_iff]
  simp
theorem ret_ib {a c : Int} {x y : Bool} (h1 : a = c) (h2 : x = y) : Ending.returned (.tuple #[.int .i64 a, .bool x]) = .returned (.tuple #[.int .i64 c, .bool y]) := by rw [h1, h2]
theorem fmtB_size {n : Int} (h : -9223372036854775808 ≤ n ∧ n ≤ 9223372036854775807) : (fmtB n).size ≤ 1048576 := by
  show (Lib.itoa n).toArray.size ≤ 1048576
  rw [List.size_toArray]
  rcases Int.lt_or_le n 0 with h1 | h1
  · rw [itoa_neg' h1]
    have := dd_length_le 19 n.natAbs (by omega)
    simp
    omega
  · rw [itoa_pos h1]
    have := dd_length_le 19 n.toNat (by omega)
    omega
/-! ### Round trips -/
theorem val7_leb : ∀ (f n : Nat), n < f → val7 (leb n) = n
  | 0, n, h => by omega
  | f + 1, n, h => by
    by_cases h1 : n < 128
    · rw [leb_lt h1]
      simp [val7]
      omega
    · rw [leb_ge h1, val7, val7_leb f (n / 128) (by omega)]
      have : (UInt8.ofNat (128 + n % 128)).toNat = 128 + n % 128 := by simp; omega
      rw [this]
      omega
theorem decVF_leb (q : Nat) (T : List UInt8) : ∀ (f k : Nat), 1 ≤ k → k ≤ (leb q).length → (leb q).length < k + f → decVF (leb q ++ T) f k = (q, (leb q).length)
  | 0, k, _, h2, h3 => by omega
  | f + 1, k, h1, h2, h3 => by
    have hl : k ≤ (leb q ++ T).length := by rw [List.length_append]; omega
    by_cases hk : k = (leb q).length
    · have htk : (leb q ++ T).take k = leb q := by rw [hk]; exact List.take_left
      rw [decVF_hit hl (by rw [htk, val7_leb (q + 1) q (by omega)]), htk, val7_leb (q + 1) q (by omega), hk]
    · obtain ⟨i, rfl⟩ : ∃ i, k = i + 1 := ⟨k - 1, by omega⟩
      have hi : i < (leb q).length := by omega
      have hge : ¬ ((leb q)[i]).toNat < 128 := fun h => hk ((leb_byte (List.getElem?_eq_getElem hi)).1 h)
      rw [decVF_miss hl (no_end (i := i) (by rw [List.length_append]; omega) (by rw [List.getElem_append_left hi]; exact hge)), decVF_leb q T f (i + 1 + 1) (by omega) (by omega) (by omega)]
theorem decV_leb {q : Nat} (T : List UInt8) (hq : q ≤ 562949953421311) : decV (leb q ++ T) = (q, (leb q).length) := by
  have h1 := leb_pos q
  have h2 := leb_length_le 6 q (by omega)
  exact decVF_leb q T 7 1 (by omega) h1 (by omega)
theorem dec256_append (a : List UInt8) : ∀ b : List UInt8, dec256 (a ++ b) = dec256 a * 256 ^ b.length + dec256 b := by
  intro b
  suffices h : ∀ r : List UInt8, dec256 (a ++ r.reverse) = dec256 a * 256 ^ r.length + dec256 r.reverse by
    have := h b.reverse
    simpa using this
  intro r
  induction r with
  | nil => simp [dec256_nil]
  | cons c r ih =>
    rw [List.reverse_cons, ← List.append_assoc, dec256_snoc, ih, dec256_snoc, List.length_cons, Nat.pow_succ]
    rw [Nat.add_mul, Nat.mul_assoc]
    omega
theorem dec256_low (n : Nat) : ∀ k, dec256 (low n k) = n % 256 ^ k
  | 0 => by simp [low, dec256_nil, Nat.mod_one]
  | k + 1 => by
    have e : low n (k + 1) = [UInt8.ofNat (n / 256 ^ k)] ++ low n k := rfl
    have e1 : dec256 [UInt8.ofNat (n / 256 ^ k)] = n / 256 ^ k % 256 := by simp [dec256]
    rw [e, dec256_append, e1, dec256_low n k, low_length, Nat.pow_succ, Nat.mod_mul, Nat.mul_comm (256 ^ k)]
    omega
theorem low_back {n k : Nat} (h : n / 256 ^ k = 0) : dec256 (low n k) = n := by
  rw [dec256_low, Nat.mod_eq_of_lt]
  exact (Nat.div_eq_zero_iff_lt (Nat.pow_pos (by decide))).1 h
theorem isH_hexd {k : Nat} (h : k < 16) : isH (hexd k) = true := by unfold isH; rw [unhex_hexd k h]; simp
theorem dgt_hexd {k : Nat} (h : k < 16) : dgt (hexd k) = k := by unfold dgt; rw [unhex_hexd k h]; simp
theorem hexL_all (T : List UInt8) : (hexL T).all isH = true := by
  induction T with
  | nil => rfl
  | cons c t ih =>
    have := toNat_lt c
    simp only [hexL, List.all_cons, ih, isH_hexd (show c.toNat / 16 < 16 by omega), isH_hexd (show c.toNat % 16 < 16 by omega), Bool.and_self]
theorem decH_hexL (T : List UInt8) : decH (hexL T) = T := by
  induction T with
  | nil => rfl
  | cons c t ih =>
    have := toNat_lt c
    rw [hexL, decH, ih, dgt_hexd (show c.toNat / 16 < 16 by omega), dgt_hexd (show c.toNat % 16 < 16 by omega)]
    congr 1
    apply UInt8.toNat.inj
    rw [UInt8.toNat_ofNat']
    omega
theorem decHex_hexL (T : List UInt8) : decHex (hexL T) = (T, true) := by
  rw [decHex_yes (by rw [hexL_length]; omega) (hexL_all T), decH_hexL]
theorem pv_dd (q : Nat) : pv (Lib.decDigits q) = q := by
  induction q using Nat.strongRecOn with
  | _ q ih =>
    by_cases h : q < 10
    · rw [dd_one h]
      have hd : isD (UInt8.ofNat (48 + q)) = true := isD_yes (by simp; omega) (by simp; omega)
      show pstep 0 _ = q
      rw [pstep_dig hd]
      simp
      omega
    · have hd : isD (UInt8.ofNat (48 + q % 10)) = true := isD_yes (by simp; omega) (by simp; omega)
      rw [dd_more h, pv_snoc, ih (q / 10) (by omega), pstep_dig hd]
      have : (UInt8.ofNat (48 + q % 10)).toNat = 48 + q % 10 := by simp; omega
      rw [this]
      omega
theorem dd_length_ge (k q : Nat) (h : 10 ^ k ≤ q) : k + 1 ≤ (Lib.decDigits q).length := by
  have h1 := pv_lt (Lib.decDigits q)
  rw [pv_dd] at h1
  have h2 : 10 ^ k < 10 ^ (Lib.decDigits q).length := by omega
  have := (Nat.pow_lt_pow_iff_right (show 1 < 10 by decide)).1 h2
  omega
theorem dd_head (q : Nat) : (Lib.decDigits q).head? ≠ some 45 := by
  intro h
  have hd := dd_digits q
  cases hl : Lib.decDigits q with
  | nil => rw [hl] at h; cases h
  | cons a t =>
    rw [hl] at h hd
    have ha : a = 45 := by simpa using h
    subst ha
    simp [isD] at hd
theorem parseI_itoa_in {n : Int} (h1 : -1000000000 < n) (h2 : n < 1000000000) : parseI (Lib.itoa n) = (n, true) := by
  rcases Int.lt_or_le n 0 with h | h
  · have hl := dd_length_le 8 n.natAbs (by omega)
    have e : -(pv (Lib.decDigits n.natAbs) : Int) = n := by rw [pv_dd]; omega
    rw [itoa_neg' h, parseI_minus hl (by rw [e, itoa_neg' h]), e]
  · have hl := dd_length_le 8 n.toNat (by omega)
    have e : (pv (Lib.decDigits n.toNat) : Int) = n := by rw [pv_dd]; omega
    rw [itoa_pos h, parseI_plain (dd_head _) hl (by rw [e, itoa_pos h]), e]
theorem parseI_itoa_out {n : Int} (h : n ≤ -1000000000 ∨ 1000000000 ≤ n) : parseI (Lib.itoa n) = (0, false) := by
  rcases Int.lt_or_le n 0 with h1 | h1
  · rw [itoa_neg' h1]
    exact parseI_minus_bad (.inr (by have := dd_length_ge 9 n.natAbs (by omega); omega))
  · rw [itoa_pos h1]
    exact parseI_plain_bad (dd_head _) (.inr (by have := dd_length_ge 9 n.toNat (by omega); omega))
end Go.Proofs.YtgngfffmkjckdaaGreatDoor

namespace Go.Proofs.YtgngfffmkjckdaaGreatDoor
open Go.RowKit
set_option linter.unusedVariables false

def lettB (x : Int) : Bool := decide (x ≠ 0 ∧ -3 ≤ x ∧ x ≤ 3)
theorem lettB_iff {x : Int} : lettB x = true ↔ x ≠ 0 ∧ -3 ≤ x ∧ x ≤ 3 := by unfold lettB; rw [decide_eq_true_eq]
theorem lettB_no {x : Int} : lettB x = false ↔ x = 0 ∨ x < -3 ∨ 3 < x := by unfold lettB; rw [decide_eq_false_iff_not]; omega
def chr (x : Int) : UInt8 := if x < 0 then UInt8.ofNat (64 + x.natAbs) else UInt8.ofNat (96 + x.natAbs)
theorem chr_neg {x : Int} (h : x < 0) (h2 : -3 ≤ x) : ((chr x).toNat : Int) = 64 - x := by
  unfold chr
  rw [if_pos h, UInt8.toNat_ofNat']
  omega
theorem chr_pos {x : Int} (h : 0 < x) (h2 : x ≤ 3) : ((chr x).toNat : Int) = 96 + x := by
  unfold chr
  rw [if_neg (by omega), UInt8.toNat_ofNat']
  omega
def fmtW (zs : List Int) : List UInt8 := if zs = [] then [49] else if zs.all lettB = true then zs.map chr else []
theorem fmtW_nil : fmtW [] = [49] := rfl
theorem fmtW_good {zs : List Int} (h0 : zs ≠ []) (h : ∀ i, i < zs.length → lettB (zs.getD i 0) = true) : fmtW zs = zs.map chr := by
  unfold fmtW
  rw [if_neg h0, if_pos]
  rw [List.all_eq_true]
  intro x hx
  obtain ⟨i, hi, rfl⟩ := List.mem_iff_getElem.1 hx
  have := h i hi
  simpa [List.getD_eq_getElem?_getD, hi] using this
theorem fmtW_bad {zs : List Int} {i : Nat} (hi : i < zs.length) (h : lettB (zs.getD i 0) = false) : fmtW zs = [] := by
  unfold fmtW
  rw [if_neg (by intro e; rw [e] at hi; simp at hi), if_neg]
  intro hall
  rw [List.all_eq_true] at hall
  have := hall zs[i] (List.getElem_mem hi)
  simp [List.getD_eq_getElem?_getD, hi] at h
  rw [this] at h
  cases h
theorem fmtW_length (zs : List Int) : (fmtW zs).length ≤ zs.length + 1 := by
  unfold fmtW
  split
  · simp
  · split <;> simp
theorem map_chr_take {zs : List Int} {k : Nat} (h : k < zs.length) : (zs.take (k + 1)).map chr = (zs.take k).map chr ++ [chr (zs.getD k 0)] := by
  have e : zs.getD k 0 = zs[k] := by simp [List.getD_eq_getElem?_getD, h]
  rw [List.take_succ_eq_append_getElem h, List.map_append, e]
  rfl
/-- The letter that a byte names; 0 where it names none. -/
def unch (c : UInt8) : Int := if 97 ≤ c.toNat ∧ c.toNat ≤ 99 then (c.toNat : Int) - 96 else if 65 ≤ c.toNat ∧ c.toNat ≤ 67 then 64 - (c.toNat : Int) else 0
theorem unch_low {c : UInt8} (h : 97 ≤ c.toNat ∧ c.toNat ≤ 99) : unch c = (c.toNat : Int) - 96 := if_pos h
theorem unch_up {c : UInt8} (h : 65 ≤ c.toNat ∧ c.toNat ≤ 67) : unch c = 64 - (c.toNat : Int) := by unfold unch; rw [if_neg (by omega), if_pos h]
theorem unch_no {c : UInt8} (h : ¬ (97 ≤ c.toNat ∧ c.toNat ≤ 99)) (h' : ¬ (65 ≤ c.toNat ∧ c.toNat ≤ 67)) : unch c = 0 := by unfold unch; rw [if_neg h, if_neg h']
theorem unch_bd (c : UInt8) : -3 ≤ unch c ∧ unch c ≤ 3 := by
  unfold unch
  split
  · omega
  · split <;> omega
theorem unch_zero {c : UInt8} : unch c = 0 ↔ ¬ (97 ≤ c.toNat ∧ c.toNat ≤ 99) ∧ ¬ (65 ≤ c.toNat ∧ c.toNat ≤ 67) := by
  unfold unch
  by_cases h : 97 ≤ c.toNat ∧ c.toNat ≤ 99
  · rw [if_pos h]; omega
  · rw [if_neg h]
    by_cases h2 : 65 ≤ c.toNat ∧ c.toNat ≤ 67
    · rw [if_pos h2]; omega
    · rw [if_neg h2]; omega
theorem chr_unch {c : UInt8} (h : unch c ≠ 0) : chr (unch c) = c := by
  apply UInt8.toNat.inj
  by_cases h1 : 97 ≤ c.toNat ∧ c.toNat ≤ 99
  · have := chr_pos (x := unch c) (by rw [unch_low h1]; omega) (by rw [unch_low h1]; omega)
    rw [unch_low h1] at this ⊢
    omega
  · by_cases h2 : 65 ≤ c.toNat ∧ c.toNat ≤ 67
    · have := chr_neg (x := unch c) (by rw [unch_up h2]; omega) (by rw [unch_up h2]; omega)
      rw [unch_up h2] at this ⊢
      omega
    · exact absurd (unch_no h1 h2) h
theorem unch_chr {x : Int} (h : lettB x = true) : unch (chr x) = x := by
  obtain ⟨h0, h1, h2⟩ := lettB_iff.1 h
  by_cases hn : x < 0
  · have := chr_neg hn h1
    rw [unch_up (by omega)]
    omega
  · have := chr_pos (x := x) (by omega) h2
    rw [unch_low (by omega)]
    omega
theorem lettB_unch {c : UInt8} (h : unch c ≠ 0) : lettB (unch c) = true := by
  have := unch_bd c
  exact lettB_iff.2 ⟨h, this.1, this.2⟩
/-- Do all bytes name letters? -/
def goodB (L : List UInt8) : Bool := L.all fun c => decide (unch c ≠ 0)
theorem goodB_at {L : List UInt8} : goodB L = true ↔ ∀ c ∈ L, unch c ≠ 0 := by
  unfold goodB
  rw [List.all_eq_true]
  simp
theorem map_chr_unch {L : List UInt8} (h : goodB L = true) : (L.map unch).map chr = L := by
  rw [List.map_map]
  have : ∀ c ∈ L, (chr ∘ unch) c = id c := fun c hc => chr_unch (goodB_at.1 h c hc)
  rw [List.map_congr_left this, List.map_id]
theorem fmtW_unch {L : List UInt8} (h0 : L ≠ []) (h : goodB L = true) : fmtW (L.map unch) = L := by
  rw [fmtW_good (by intro e; exact h0 (List.map_eq_nil_iff.1 e)), map_chr_unch h]
  intro i hi
  rw [List.length_map] at hi
  have : (L.map unch).getD i 0 = unch L[i] := by simp [List.getD_eq_getElem?_getD, hi]
  rw [this]
  exact lettB_unch (goodB_at.1 h _ (List.getElem_mem hi))
theorem fmtW_ne {L : List UInt8} (h : L = [] ∨ goodB L = false) : fmtW (L.map unch) ≠ L := by
  rcases h with rfl | h
  · rw [List.map_nil, fmtW_nil]
    intro e
    cases e
  · have h1 : ∃ i, ∃ hi : i < L.length, unch L[i] = 0 := by
      unfold goodB at h
      rw [← Bool.not_eq_true, List.all_eq_true] at h
      simp only [decide_eq_true_eq] at h
      apply Classical.byContradiction
      intro hc
      refine h (fun c hc' => ?_)
      obtain ⟨i, hi, rfl⟩ := List.mem_iff_getElem.1 hc'
      exact fun e => hc ⟨i, hi, e⟩
    obtain ⟨i, hi, e⟩ := h1
    have hb := fmtW_bad (zs := L.map unch) (i := i) (by rw [List.length_map]; exact hi) (by
      have : (L.map unch).getD i 0 = unch L[i] := by simp [List.getD_eq_getElem?_getD, hi]
      rw [this, e]
      rfl)
    rw [hb]
    intro e2
    rw [← e2] at hi
    simp at hi
theorem map_unch_in (L : List UInt8) : InR (L.map unch) := by
  intro x hx
  obtain ⟨c, _, rfl⟩ := List.mem_map.1 hx
  have := unch_bd c
  omega
end Go.Proofs.YtgngfffmkjckdaaGreatDoor

namespace Go.Proofs.YtgngfffmkjckdaaGreatDoor
open Go.RowKit
set_option linter.unusedVariables false
set_option maxRecDepth 100000

theorem implFmt (n : Int) (h0 : -9223372036854775808 ≤ n) (h1 : n ≤ 9223372036854775807) (w : World) (htab : Lib.TabIs Tryz.prog w "internal/strconv.uint64pow10" .u64 Lib.pow10Tab) :
    Calls Tryz.prog 29 #[.int .i64 n] w fun e w' => e = .returned (.string (fmtB n)) ∧ Below w.heap.size w w' := by
  go_enter Tryz.func29, Tryz.ntmps29
  go_wp2_with fail
  refine (Tryz.strconv_Itoa n h0 h1 _ htab).mono ?_
  rintro e w' ⟨rfl, k, os, rfl⟩
  have hb := Lib.below_grow w.heap.size w (Nat.le_refl _) k os
  go_wp2_with fail
  go_ret
  exact ⟨rfl, hb⟩

theorem specFmt_zero (w : World) :
    Calls Tryz.prog 31 #[.int .i64 0] w fun e w' => e = .returned (.string (fmtB 0)) ∧ Below w.heap.size w w' := by
  go_enter Tryz.func31, Tryz.ntmps31
  go_wp2
  go_ret
  exact ⟨ret_str (by unfold fmtB; rw [itoa_zero]), Below.refl _ _⟩

set_option maxHeartbeats 800000 in
theorem specFmt_pos (u : Nat) (hu1 : 1 ≤ u) (hu2 : u ≤ 9223372036854775807) (w : World) :
    Calls Tryz.prog 31 #[.int .i64 u] w fun e w' => e = .returned (.string (fmtB u)) ∧ Below w.heap.size w w' := by
  have hz : ((u : Int) == 0) = false := by rw [beq_eq_false_iff_ne]; omega
  have hneg : decide ((u : Int) < 0) = false := by simp
  go_enter Tryz.func31, Tryz.ntmps31
  go_wp2
  go_loopw [0, 3, 5] (fun m o _ wr => ∃ (q : Nat) (acc : List UInt8), q ≤ u ∧ m = .int .i64 q ∧ o = .string ⟨acc.toArray⟩ ∧ Rest u q acc ∧ Below w.heap.size w wr) (fun m _ _ _ => (intOf m).toNat)
  case atStart => exact ⟨u, [], Nat.le_refl _, rfl, rfl, Rest.start hu1, Below.refl _ _⟩
  case round =>
    obtain ⟨q, acc, hq, rfl, rfl, hr, hb⟩ := hrel
    have hal := hr.length (by omega)
    by_cases hq1 : 1 ≤ q
    · have hne : ((q : Int) != 0) = true := by rw [bne_iff_ne]; omega
      have hcv := conv_one wr (48 + (q : Int) % 10) (UInt8.ofNat (48 + q % 10)) (by simp; omega)
      have hst := hr.step hq1
      obtain ⟨d, hd⟩ : ∃ d, d = UInt8.ofNat (48 + q % 10) := ⟨_, rfl⟩
      rw [← hd] at hcv hst
      clear hr hd
      replace hst := hid hst
      go_wp2
      go_roundw
      case rel => exact ⟨q / 10, d :: acc, by omega, by go_num, by rw [str_cons], hst.out, hb.alloc hb.size _⟩
      case measure => simp [intOf]; omega
    · obtain rfl : q = 0 := by omega
      have hacc := hid (hr.1 rfl)
      clear hr
      go_wp2
      go_ret
      exact ⟨ret_str (by unfold fmtB; rw [itoa_pos (by omega), hacc.out]; simp), hb⟩

set_option maxHeartbeats 800000 in
theorem specFmt_neg (u : Nat) (hu1 : 1 ≤ u) (hu2 : u ≤ 9223372036854775808) (n : Int) (hn : n = -(u : Int)) (w : World) :
    Calls Tryz.prog 31 #[.int .i64 n] w fun e w' => e = .returned (.string (fmtB n)) ∧ Below w.heap.size w w' := by
  have hz : (n == 0) = false := by rw [beq_eq_false_iff_ne]; omega
  have hneg : n < 0 := by omega
  have hfb : fmtB n = ⟨(45 :: Lib.decDigits u).toArray⟩ := by
    unfold fmtB
    rw [itoa_neg' hneg, show n.natAbs = u by omega]
  replace hfb := hid hfb
  replace hn := hid hn
  go_enter Tryz.func31, Tryz.ntmps31
  go_wp2
  go_loopw [0, 3, 5] (fun m o _ wr => ∃ (x : Int) (q : Nat) (acc : List UInt8), x = -(q : Int) ∧ q ≤ u ∧ m = .int .i64 x ∧ o = .string ⟨acc.toArray⟩ ∧ Rest u q acc ∧ Below w.heap.size w wr) (fun m _ _ _ => (intOf m).natAbs)
  case atStart => exact ⟨n, u, [], hn.out, Nat.le_refl _, rfl, rfl, Rest.start hu1, Below.refl _ _⟩
  case round =>
    obtain ⟨x, q, acc, hx, hq, rfl, rfl, hr, hb⟩ := hrel
    have hal := hr.length hu2
    have hx0 : x ≤ 0 := by omega
    have hx1 : -9223372036854775808 ≤ x := by omega
    by_cases hq1 : 1 ≤ q
    · have hne : (x != 0) = true := by rw [bne_iff_ne]; omega
      obtain ⟨r, hr'⟩ : ∃ r : Nat, r = q % 10 := ⟨_, rfl⟩
      obtain ⟨y, hy⟩ : ∃ y : Int, y = -((q / 10 : Nat) : Int) := ⟨_, rfl⟩
      have hm : x.tmod 10 = -(r : Int) := by rw [hx, Int.neg_tmod, Int.tmod_eq_emod_of_nonneg (by omega)]; omega
      have hdv : x.tdiv 10 = y := by rw [hx, Int.neg_tdiv, Int.tdiv_eq_ediv_of_nonneg (by omega)]; omega
      have hy0 : y ≤ 0 := by omega
      have hy1 : -9223372036854775808 ≤ y := by omega
      have hyx : y.natAbs < x.natAbs := by omega
      have hr9 : r ≤ 9 := by omega
      have hcv := conv_one wr (48 + (r : Int)) (UInt8.ofNat (48 + q % 10)) (by simp; omega)
      have hst := hr.step hq1
      obtain ⟨d, hd⟩ : ∃ d, d = UInt8.ofNat (48 + q % 10) := ⟨_, rfl⟩
      rw [← hd] at hcv hst
      clear hr hd
      replace hst := hid hst
      replace hx := hid hx
      replace hy := hid hy
      replace hr' := hid hr'
      replace hyx := hid hyx
      by_cases hr0 : 1 ≤ r
      · go_wp2
        go_roundw
        case rel => exact ⟨y, q / 10, d :: acc, hy.out, by omega, rfl, by rw [str_cons], hst.out, hb.alloc hb.size _⟩
        case measure => exact hyx.out
      · obtain rfl : r = 0 := by omega
        have hm0 : x.tmod 10 = 0 := by rw [hm]; rfl
        have hcv0 : (convert 22 9 (.slice (some ⟨wr.heap.size, 0, none⟩) 1 1)).run Tryz.prog (wr.alloc (.cells #[.int .u8 48] 5)) = .ok (.string ⟨#[d]⟩) (wr.alloc (.cells #[.int .u8 48] 5)) := by simpa using hcv
        clear hm hcv
        go_wp2
        go_roundw
        case rel => exact ⟨y, q / 10, d :: acc, hy.out, by omega, rfl, by rw [str_cons], hst.out, hb.alloc hb.size _⟩
        case measure => exact hyx.out
    · obtain rfl : q = 0 := by omega
      obtain rfl : x = 0 := by omega
      have hacc := hid (hr.1 rfl)
      clear hr hx0 hx1 hx hq1
      go_wp2
      go_ret
      exact ⟨ret_str (by rw [str_cons, hfb.out, hacc.out]), hb⟩
theorem specFmt (n : Int) (h0 : -9223372036854775808 ≤ n) (h1 : n ≤ 9223372036854775807) (w : World) :
    Calls Tryz.prog 31 #[.int .i64 n] w fun e w' => e = .returned (.string (fmtB n)) ∧ Below w.heap.size w w' := by
  rcases Int.lt_trichotomy n 0 with h | rfl | h
  · exact specFmt_neg n.natAbs (by omega) (by omega) n (by omega) w
  · exact specFmt_zero w
  · obtain ⟨u, rfl⟩ := Int.eq_ofNat_of_zero_le (show 0 ≤ n by omega)
    exact specFmt_pos u (by omega) (by omega) w
end Go.Proofs.YtgngfffmkjckdaaGreatDoor

namespace Go.Proofs.YtgngfffmkjckdaaGreatDoor
open Go.RowKit
set_option linter.unusedVariables false
set_option linter.unusedSimpArgs false

def LwStr (w : World) (s : ByteArray) (e : Ending) (w' : World) : Prop := e = .returned (.string s) ∧ Below w.heap.size w w'
theorem str_is {a T : ByteArray} (h : a.data.toList = T.data.toList) : Ending.returned (.string a) = .returned (.string T) := by
  have : a = T := by apply ByteArray.ext; exact Array.toList_inj.1 h
  rw [this]
theorem str_size (a : ByteArray) : a.size = a.data.toList.length := by rw [Array.length_toList]; rfl
theorem fmtB_text (n : Int) : (fmtB n).data.toList = Lib.itoa n := by simp [fmtB]
/-- The text of a fold. -/
def pieceF (f : tupF) : List UInt8 := Lib.itoa f.1 ++ 61 :: Lib.itoa f.2
def fmtFs (zs : List tupF) : List UInt8 := if zs = [] then [110, 111, 110, 101] else Lib.join (zs.map pieceF) [32]
def textF (zs : List tupF) : ByteArray := ⟨(fmtFs zs).toArray⟩
theorem textF_list (zs : List tupF) : (textF zs).data.toList = fmtFs zs := by simp [textF]
theorem pieceF_ne (f : tupF) : pieceF f ≠ [] := by unfold pieceF; simp
theorem jnF_snoc {xs : List (List UInt8)} {y : List UInt8} (h : xs ≠ []) : Lib.join (xs ++ [y]) [32] = Lib.join xs [32] ++ [32] ++ y := by
  obtain ⟨x, r, rfl⟩ := List.exists_cons_of_ne_nil h
  rw [List.cons_append, Lib.join_cons, Lib.join_cons]
  simp [Lib.joinTail]
theorem jnF_ne {zs : List tupF} (h : zs ≠ []) : Lib.join (zs.map pieceF) [32] ≠ [] := by
  obtain ⟨x, r, rfl⟩ := List.exists_cons_of_ne_nil h
  rw [List.map_cons, Lib.join_cons]
  intro e
  exact pieceF_ne x (List.append_eq_nil_iff.1 e).1
theorem take_F {zs : List tupF} {k : Nat} (h : k < zs.length) : (zs.take (k + 1)).map pieceF = (zs.take k).map pieceF ++ [pieceF (zs.getD k zeroF)] := by
  rw [List.take_add_one, List.getElem?_eq_getElem h, List.map_append, List.getD_eq_getElem?_getD, List.getElem?_eq_getElem h]
  rfl
theorem itoa_len {n : Int} (h : -9223372036854775808 ≤ n ∧ n ≤ 9223372036854775807) : (Lib.itoa n).length ≤ 1048576 := by
  have := fmtB_size h
  rw [str_size, fmtB_text] at this
  exact this
theorem pieceF_len {f : tupF} (h : (-9223372036854775808 ≤ f.1 ∧ f.1 ≤ 9223372036854775807) ∧ (-9223372036854775808 ≤ f.2 ∧ f.2 ≤ 9223372036854775807)) : (pieceF f).length ≤ 2097153 := by
  have h1 := itoa_len h.1
  have h2 := itoa_len h.2
  unfold pieceF
  rw [List.length_append, List.length_cons]
  omega
theorem lensF_le : ∀ zs : List tupF, InF zs → Lib.lens (zs.map pieceF) ≤ zs.length * 2097153 := by
  intro zs
  induction zs with
  | nil => intro _; simp [Lib.lens]
  | cons z zs ih =>
    intro h
    have h1 := ih (fun e he => h e (List.mem_cons_of_mem _ he))
    have h2 := pieceF_len (h z List.mem_cons_self)
    unfold Lib.lens at h1 ⊢
    simp only [List.map_cons, List.sum_cons, List.length_cons] at h1 ⊢
    omega
theorem jnF_len {zs : List tupF} (h : InF zs) : (Lib.join (zs.map pieceF) [32]).length ≤ zs.length * 2097154 := by
  have h1 := lensF_le zs h
  cases zs with
  | nil => simp [Lib.join_nil]
  | cons z zs =>
    rw [List.map_cons] at h1 ⊢
    rw [Lib.join_length]
    simp only [List.length_map, List.length_cons, List.length_nil] at h1 ⊢
    omega
theorem jnF_take {zs : List tupF} (h : InF zs) (k : Nat) : (Lib.join ((zs.take k).map pieceF) [32]).length ≤ k * 2097154 := by
  have h1 := jnF_len (zs := zs.take k) (fun e he => h e (List.mem_of_mem_take he))
  rw [List.length_take] at h1
  exact Nat.le_trans h1 (Nat.mul_le_mul_right _ (Nat.min_le_left _ _))
set_option maxRecDepth 100000 in
set_option maxHeartbeats 6400000 in
theorem specFmtFs (w : World) (v : Value) (zs : List tupF) (h : ReadF w.heap.size w v zs) (hi : InF zs) (hl : zs.length ≤ 1048576) :
    Calls Tryz.prog 10 #[v] w (LwStr w (textF zs)) := by
  obtain ⟨a, cap, rfl, hnc⟩ := h.form
  obtain ⟨n, hn⟩ : ∃ n, n = zs.length := ⟨_, rfl⟩
  have hrd : Hid (ReadF w.heap.size w (.slice a n cap) zs) := hidI (by rw [hn]; exact h)
  rw [← hn] at hl hnc ⊢
  clear h
  obtain ⟨T, hT⟩ : ∃ T, T = textF zs := ⟨_, rfl⟩
  rw [← hT]
  replace hn := hidI hn
  replace hT := hidI hT
  replace hi := hidI hi
  go_enter Tryz.func10, Tryz.ntmps10
  go_wp2
  go_loopg [3, 4] n (fun g s i wr => ∃ (k : Nat) (A : ByteArray), k + g = n ∧ i = .int .i64 k ∧ s = .string A ∧ Hid (A.data.toList = Lib.join ((zs.take k).map pieceF) [32]) ∧ Hid (Below w.heap.size w wr))
  case atStart => exact ⟨0, ⟨#[]⟩, by omega, rfl, rfl, hidI (by rw [List.take_zero]; rfl), hidI (Below.refl _ _)⟩
  case round =>
    obtain ⟨k, A, hk, rfl, rfl, hA, hb⟩ := hrel
    by_cases hlt : k < n
    · have hki : (k : Int) < (n : Int) := by omega
      have hkl : k < zs.length := by have := hn.out; omega
      have hAz : A.size ≤ 2199025352704 := by
        have := jnF_take hi.out k
        rw [← hA.out, ← str_size] at this
        omega
      obtain ⟨b, off, hab, hB, c0, c1⟩ := ReadF.cells (hrd.out.below hb.out) k hkl
      subst hab
      have hin := hi.out.at_ hkl
      have hpc : pieceF (zs.getD k zeroF) = Lib.itoa (zs.getD k zeroF).1 ++ 61 :: Lib.itoa (zs.getD k zeroF).2 := rfl
      have hstep := take_F hkl
      rw [hpc] at hstep
      obtain ⟨f0, hf0⟩ : ∃ z, z = (zs.getD k zeroF).1 := ⟨_, rfl⟩
      obtain ⟨f1, hf1⟩ : ∃ z, z = (zs.getD k zeroF).2 := ⟨_, rfl⟩
      rw [← hf0] at c0 hin hstep
      rw [← hf1] at c1 hin hstep
      have hc0 := fun x => specFmt f0 hin.1.1 hin.1.2 x
      have hc1 := fun x => specFmt f1 hin.2.1 hin.2.2 x
      obtain ⟨F0, hF0⟩ : ∃ F, F = fmtB f0 := ⟨_, rfl⟩
      obtain ⟨F1, hF1⟩ : ∃ F, F = fmtB f1 := ⟨_, rfl⟩
      have hz0 := fmtB_size hin.1
      have hz1 := fmtB_size hin.2
      rw [← hF0] at hz0 hc0
      rw [← hF1] at hz1 hc1
      have ht0 : F0.data.toList = Lib.itoa f0 := by rw [hF0]; exact fmtB_text _
      have ht1 : F1.data.toList = Lib.itoa f1 := by rw [hF1]; exact fmtB_text _
      obtain ⟨wd, hwd⟩ : ∃ z, z = wr.drew := ⟨_, rfl⟩
      have hbd : Below wr.heap.size wr wd := by rw [hwd]; exact below_dn (Below.refl _ _) 1
      have hsr := hb.out.size
      have hltd : b < wd.heap.size := by have := hbd.size; omega
      replace c0 := below_cell c0 hbd (by omega)
      replace c1 := below_cell c1 hbd (by omega)
      clear hpc hin
      replace hf0 := hidI hf0
      replace hf1 := hidI hf1
      replace hF0 := hidI hF0
      replace hF1 := hidI hF1
      replace ht0 := hidI ht0
      replace ht1 := hidI ht1
      replace hstep := hidI hstep
      replace hwd := hidI hwd
      replace hk := hidI hk
      by_cases hk0 : k = 0
      · subst hk0
        have hkm : ¬ (0 : Int) < ((0 : Nat) : Int) := by omega
        have hA0 : A.data.toList = [] := by rw [hA.out, List.take_zero]; rfl
        have hA' : Hid ((A ++ F0 ++ ⟨#[61]⟩ ++ F1).data.toList = Lib.join ((zs.take (0 + 1)).map pieceF) [32]) := hidI (by
          rw [hstep.out, List.take_zero, List.map_nil, List.nil_append, Lib.join_one, ← ht0.out, ← ht1.out]
          simp [hA0])
        have k1 : ¬ 9223372036854775807 < A.size + F0.size := by omega
        have k2 : ¬ 9223372036854775807 < A.size + F0.size + 1 := by omega
        have k3 : ¬ 9223372036854775807 < A.size + F0.size + 1 + F1.size := by omega
        replace hA0 := hidI hA0
        simp only [Nat.zero_mul, Nat.add_zero] at c0 c1
        go_wp2
        refine hideQ (fun _ _ d _ _ h => by cases d <;> exact h) (fun Q' hnorm hpan => ?_)
        refine wp_region_held_drew (S := (fun z => z.cell? ⟨b, off, none⟩ = some (.int .i64 f0) ∧ z.cell? ⟨b, off + 1, none⟩ = some (.int .i64 f1))) (by kernel_rfl) ?_ (fun hHeld => ?_)
        · try dsimp only
          first | ((repeat' apply And.intro) <;> assumption) | (rw [← hwd.out]; ((repeat' apply And.intro) <;> assumption))
        rw [← hwd.out] at hHeld ⊢
        refine tk 0 15 ?_
        refine tk 1 16 ?_
        refine tk 2 17 ?_
        refine tk 3 18 ?_
        refine tk 4 19 ?_
        refine tk 5 20 ?_
        refine tk 9 24 ?_
        refine tk 10 25 ?_
        refine tk 11 26 ?_
        refine tk 12 27 ?_
        refine tk 13 28 ?_
        refine rd 6 (fun K hK => ?_)
        rw [if_pos (by rfl)]
        go_simp
        refine (hc0 wd).mono ?_
        rintro e v3 ⟨rfl, hb3⟩
        have y0 := below_cell c0 hb3 hltd
        have y1 := below_cell c1 hb3 hltd
        have hs3 := hb3.size
        refine hK.out _ _ ?_ (fun hHeld => ?_)
        · try dsimp only
          first | ((repeat' apply And.intro) <;> assumption) | (rw [← hwd.out]; ((repeat' apply And.intro) <;> assumption))
        clear hK
        try simp only [Act.put, List.setIfInBounds_toArray, List.set_cons_zero, List.set_cons_succ]
        refine tk 7 22 ?_
        refine tk 8 23 ?_
        refine rd 14 (fun K hK => ?_)
        rw [if_pos (by rfl)]
        go_simp
        refine (hc1 v3).mono ?_
        rintro e v4 ⟨rfl, hb4⟩
        have z0 := below_cell y0 hb4 (by omega)
        have z1 := below_cell y1 hb4 (by omega)
        refine hK.out _ _ ?_ (fun hHeld => ?_)
        · try dsimp only
          first | ((repeat' apply And.intro) <;> assumption) | (rw [← hwd.out]; ((repeat' apply And.intro) <;> assumption))
        clear hK
        try simp only [Act.put, List.setIfInBounds_toArray, List.set_cons_zero, List.set_cons_succ]
        refine tk 15 30 ?_
        refine tk 16 3 ?_
        refine wpAnyH_done (by kernel_rfl) ?_ _
        refine hnorm _ _ ?_
        clear hnorm hpan
        repeat clear hHeld
        try simp only [Exit.then]
        have hbz := hidI (hb.out.trans ((hbd.trans ((hb3.trans (hb4.mono hb3.size)).mono hbd.size)).mono hsr))
        clear hb3 hb4 c0 c1 y0 y1 z0 z1 hs3
        go_wp2
        go_roundg (n - (0 + 1))
        case rel => exact ⟨0 + 1, _, by have := hk.out; omega, by go_num, rfl, hA', hbz⟩
        case measure => have := hk.out; omega
      · have hkm : (0 : Int) < (k : Int) := by omega
        have hA' : Hid ((A ++ ⟨#[32]⟩ ++ F0 ++ ⟨#[61]⟩ ++ F1).data.toList = Lib.join ((zs.take (k + 1)).map pieceF) [32]) := hidI (by
          rw [hstep.out, jnF_snoc (by
            intro e
            have e2 := congrArg List.length e
            rw [List.length_map, List.length_take] at e2
            have e3 : min k zs.length = 0 := e2
            omega), ← hA.out, ← ht0.out, ← ht1.out]
          simp)
        have k0 : ¬ 9223372036854775807 < A.size + 1 := by omega
        have k1 : ¬ 9223372036854775807 < A.size + 1 + F0.size := by omega
        have k2 : ¬ 9223372036854775807 < A.size + 1 + F0.size + 1 := by omega
        have k3 : ¬ 9223372036854775807 < A.size + 1 + F0.size + 1 + F1.size := by omega
        replace hk0 := hidI hk0
        go_wp2
        refine hideQ (fun _ _ d _ _ h => by cases d <;> exact h) (fun Q' hnorm hpan => ?_)
        refine wp_region_held_drew (S := (fun z => z.cell? ⟨b, off + k * 2, none⟩ = some (.int .i64 f0) ∧ z.cell? ⟨b, off + k * 2 + 1, none⟩ = some (.int .i64 f1))) (by kernel_rfl) ?_ (fun hHeld => ?_)
        · try dsimp only
          first | ((repeat' apply And.intro) <;> assumption) | (rw [← hwd.out]; ((repeat' apply And.intro) <;> assumption))
        rw [← hwd.out] at hHeld ⊢
        refine tk 0 15 ?_
        refine tk 1 16 ?_
        refine tk 2 17 ?_
        refine tk 3 18 ?_
        refine tk 4 19 ?_
        refine tk 5 20 ?_
        refine tk 9 24 ?_
        refine tk 10 25 ?_
        refine tk 11 26 ?_
        refine tk 12 27 ?_
        refine tk 13 28 ?_
        refine rd 6 (fun K hK => ?_)
        rw [if_pos (by rfl)]
        go_simp
        refine (hc0 wd).mono ?_
        rintro e v3 ⟨rfl, hb3⟩
        have y0 := below_cell c0 hb3 hltd
        have y1 := below_cell c1 hb3 hltd
        have hs3 := hb3.size
        refine hK.out _ _ ?_ (fun hHeld => ?_)
        · try dsimp only
          first | ((repeat' apply And.intro) <;> assumption) | (rw [← hwd.out]; ((repeat' apply And.intro) <;> assumption))
        clear hK
        try simp only [Act.put, List.setIfInBounds_toArray, List.set_cons_zero, List.set_cons_succ]
        refine tk 7 22 ?_
        refine tk 8 23 ?_
        refine rd 14 (fun K hK => ?_)
        rw [if_pos (by rfl)]
        go_simp
        refine (hc1 v3).mono ?_
        rintro e v4 ⟨rfl, hb4⟩
        have z0 := below_cell y0 hb4 (by omega)
        have z1 := below_cell y1 hb4 (by omega)
        refine hK.out _ _ ?_ (fun hHeld => ?_)
        · try dsimp only
          first | ((repeat' apply And.intro) <;> assumption) | (rw [← hwd.out]; ((repeat' apply And.intro) <;> assumption))
        clear hK
        try simp only [Act.put, List.setIfInBounds_toArray, List.set_cons_zero, List.set_cons_succ]
        refine tk 15 30 ?_
        refine tk 16 3 ?_
        refine wpAnyH_done (by kernel_rfl) ?_ _
        refine hnorm _ _ ?_
        clear hnorm hpan
        repeat clear hHeld
        try simp only [Exit.then]
        have hbz := hidI (hb.out.trans ((hbd.trans ((hb3.trans (hb4.mono hb3.size)).mono hbd.size)).mono hsr))
        clear hb3 hb4 c0 c1 y0 y1 z0 z1 hs3
        go_wp2
        go_roundg (n - (k + 1))
        case rel => exact ⟨k + 1, _, by have := hk.out; omega, by go_num, rfl, hA', hbz⟩
        case measure => have := hk.out; omega
    · obtain rfl : k = n := by omega
      have hki : ¬ (k : Int) < (k : Int) := by omega
      have hfull : zs.take k = zs := List.take_of_length_le (by rw [← hn.out]; omega)
      rw [hfull] at hA
      replace hfull := hidI hfull
      replace hk := hidI hk
      by_cases h0 : zs = []
      · have hA0 : A = ⟨#[]⟩ := by
          apply ByteArray.ext
          apply Array.toList_inj.1
          rw [hA.out, h0]
          rfl
        subst hA0
        have hr : LwStr w T (.returned (.string ⟨#[110, 111, 110, 101]⟩)) wr := ⟨str_is (by rw [hT.out, textF_list, fmtFs, if_pos h0]), hb.out⟩
        replace hr := hidI hr
        replace h0 := hidI h0
        go_wp2
        go_ret
        exact hr.out
      · have hAi : A.toList.isEmpty = false := by
          rw [show A.toList = A.data.toList by first | exact Lib.toList_data A | exact (Lib.toList_data A).symm | simp [Lib.toList_data], hA.out, List.isEmpty_eq_false_iff]
          exact jnF_ne h0
        have hr : LwStr w T (.returned (.string A)) wr := ⟨str_is (by rw [hT.out, textF_list, fmtFs, if_neg h0]; exact hA.out), hb.out⟩
        replace hr := hidI hr
        replace h0 := hidI h0
        go_wp2
        go_ret
        exact hr.out
end Go.Proofs.YtgngfffmkjckdaaGreatDoor

namespace Go.Proofs.YtgngfffmkjckdaaGreatDoor
open Go.RowKit
set_option linter.unusedVariables false
set_option linter.unusedSimpArgs false

abbrev Tab (w : World) : Prop := Lib.TabIs Tryz.prog w "internal/strconv.uint64pow10" .u64 Lib.pow10Tab
theorem Tab.below {w w' : World} (h : Tab w) (hb : Below w.heap.size w w') : Tab w' := Lib.tabBelow_of_tabIs h w' hb
theorem infoTx : (Tryz.prog.info? 9).map (fun i => (i.zero, i.size, i.bytes)) = some (some (.string ⟨#[]⟩), 1, 16) := by kernel_rfl
/-- The first texts, then empty ones. -/
def padB (xs : List ByteArray) (n : Nat) : List Value := xs.map Value.string ++ List.replicate (n - xs.length) (.string ⟨#[]⟩)
theorem padB_set {xs : List ByteArray} {n : Nat} (x : ByteArray) (h : xs.length < n) : (padB xs n).set xs.length (.string x) = padB (xs ++ [x]) n := by
  unfold padB
  have hl : (xs.map Value.string).length = xs.length := List.length_map _
  conv => lhs; arg 2; rw [← hl]
  rw [List.set_append_right _ _ (Nat.le_refl _), Nat.sub_self, show n - xs.length = (n - (xs ++ [x]).length) + 1 by simp; omega, List.replicate_succ, List.set_cons_zero, List.map_append, List.append_assoc]
  rfl
theorem padB_length {xs : List ByteArray} {n : Nat} (h : xs.length ≤ n) : (padB xs n).length = n := by
  unfold padB
  rw [List.length_append, List.length_map, List.length_replicate]
  omega
/-- The text of a fold, as the program writes it. -/
def pieceB (f : tupF) : ByteArray := fmtB f.1 ++ ⟨#[61]⟩ ++ fmtB f.2
theorem pieceB_list (f : tupF) : (pieceB f).data.toList = pieceF f := by unfold pieceB pieceF; simp [fmtB_text]
theorem piecesB (zs : List tupF) : (zs.map pieceB).map (·.data.toList) = zs.map pieceF := by
  rw [List.map_map]
  exact List.map_congr_left fun z _ => pieceB_list z
theorem take_B {zs : List tupF} {k : Nat} (h : k < zs.length) : (zs.take (k + 1)).map pieceB = (zs.take k).map pieceB ++ [fmtB (zs.getD k zeroF).1 ++ ⟨#[61]⟩ ++ fmtB (zs.getD k zeroF).2] := by
  rw [List.take_add_one, List.getElem?_eq_getElem h, List.map_append, List.getD_eq_getElem?_getD, List.getElem?_eq_getElem h]
  rfl
set_option maxRecDepth 100000 in
set_option maxHeartbeats 6400000 in
theorem progFmtFs (w : World) (v : Value) (zs : List tupF) (h : ReadF w.heap.size w v zs) (hi : InF zs) (hl : zs.length ≤ 1048576) (htab : Tab w) :
    Calls Tryz.prog 9 #[v] w (LwStr w (textF zs)) := by
  obtain ⟨a, cap, rfl, hnc⟩ := h.form
  obtain ⟨n, hn⟩ : ∃ n, n = zs.length := ⟨_, rfl⟩
  have hrd : Hid (ReadF w.heap.size w (.slice a n cap) zs) := hidI (by rw [hn]; exact h)
  rw [← hn] at hl hnc ⊢
  clear h
  obtain ⟨T, hT⟩ : ∃ T, T = textF zs := ⟨_, rfl⟩
  rw [← hT]
  replace hi := hidI hi
  replace htab := hidI htab
  by_cases h0 : n = 0
  · have hz : zs = [] := List.length_eq_zero_iff.1 (by omega)
    have hr : LwStr w T (.returned (.string ⟨#[110, 111, 110, 101]⟩)) w := ⟨str_is (by rw [hT, textF_list, fmtFs, if_pos hz]), Below.refl _ _⟩
    have hn0 : ((n : Int) == 0) = true := by rw [beq_iff_eq]; omega
    replace hr := hidI hr
    replace hz := hidI hz
    replace hn := hidI hn
    replace hT := hidI hT
    replace h0 := hidI h0
    go_enter Tryz.func9, Tryz.ntmps9
    go_wp2
    go_ret
    exact hr.out
  · have hn0 : ((n : Int) == 0) = false := by rw [beq_eq_false_iff_ne]; omega
    obtain ⟨i0, hj, hz0, hz1, hz2⟩ := info_parts infoTx
    replace hn := hidI hn
    replace hT := hidI hT
    go_enter Tryz.func9, Tryz.ntmps9
    go_wp2_with (at_make; go_must (refine wpList_make_full _ rfl _ _ 56 rfl w.heap.size 9 i0 (.string ⟨#[]⟩) 1 Tryz.underlying56 hj hz0 hz1 .i64 .i64 _ _ n rfl rfl rfl rfl ?c1 ?c2 ?c3 ?_))
    case c1 => rw [hz2]; omega
    case c2 => unfold maxLen; omega
    case c3 => exact Nat.le_refl _
    intro w1 hown hg
    rw [toList_madeCells_one] at hown
    have hb := (Below.refl w.heap.size w).grown hg (Nat.le_refl _) (by intro k hk; cases hk)
    have hlt1 : w.heap.size < w1.heap.size := (World.ownsRow.lt hown _ rfl).2
    clear hg hj hz0 hz1 hz2
    have hst0 : Hid (w1.ownsRow w.heap.size 9 1 (.slice (some ⟨w.heap.size, 0, none⟩) n n) n (padB ((zs.take 0).map pieceB) n)) := hidI hown
    clear hown
    go_wp2
    go_loopg [4, 5, 14] n (fun g x y i wr => ∃ k : Nat, k + g = n ∧ i = .int .i64 k ∧ Hid (wr.ownsRow w.heap.size 9 1 (.slice (some ⟨w.heap.size, 0, none⟩) n n) n (padB ((zs.take k).map pieceB) n)) ∧ Hid (Below w.heap.size w wr) ∧ w.heap.size < wr.heap.size)
    case atStart => exact ⟨0, by omega, rfl, hst0, hidI hb, hlt1⟩
    case round =>
      clear hst0 hb hlt1
      obtain ⟨k, hk, rfl, hst, hb, hlw⟩ := hrel
      by_cases hlt : k < n
      · have hki : (k : Int) < (n : Int) := by omega
        have hkl : k < zs.length := by have := hn.out; omega
        obtain ⟨b, off, hab, hB, c0, c1⟩ := ReadF.cells (hrd.out.below hb.out) k hkl
        subst hab
        have hin := hi.out.at_ hkl
        have hstep := take_B hkl
        obtain ⟨f0, hf0⟩ : ∃ z, z = (zs.getD k zeroF).1 := ⟨_, rfl⟩
        obtain ⟨f1, hf1⟩ : ∃ z, z = (zs.getD k zeroF).2 := ⟨_, rfl⟩
        rw [← hf0] at c0 hin hstep
        rw [← hf1] at c1 hin hstep
        have hc0 := fun x (h : Tab x) => implFmt f0 hin.1.1 hin.1.2 x h
        have hc1 := fun x (h : Tab x) => implFmt f1 hin.2.1 hin.2.2 x h
        obtain ⟨F0, hF0⟩ : ∃ F, F = fmtB f0 := ⟨_, rfl⟩
        obtain ⟨F1, hF1⟩ : ∃ F, F = fmtB f1 := ⟨_, rfl⟩
        have hz0 := fmtB_size hin.1
        have hz1 := fmtB_size hin.2
        rw [← hF0] at hz0 hc0 hstep
        rw [← hF1] at hz1 hc1 hstep
        have k1 : ¬ 9223372036854775807 < F0.size + 1 := by omega
        have k2 : ¬ 9223372036854775807 < F0.size + 1 + F1.size := by omega
        have hlk : ((zs.take k).map pieceB).length = k := by rw [List.length_map, List.length_take]; omega
        have hset := padB_set (xs := (zs.take k).map pieceB) (n := n) (F0 ++ ⟨#[61]⟩ ++ F1) (by rw [hlk]; exact hlt)
        rw [hlk, ← hstep] at hset
        have hpl := padB_length (xs := (zs.take k).map pieceB) (n := n) (by rw [hlk]; omega)
        obtain ⟨wn, hwn⟩ : ∃ z, z = wr.alloc (.cells #[.int .i64 f0, .int .i64 f1] 37) := ⟨_, rfl⟩
        have hbn : Below wr.heap.size wr wn := by rw [hwn]; exact (Below.refl _ _).alloc (Nat.le_refl _) _
        have hsn : wr.heap.size < wn.heap.size := by rw [hwn]; simp
        have hkn := heap_alloc_new wr (.cells #[.int .i64 f0, .int .i64 f1] 37)
        rw [← hwn] at hkn
        have u0 : wn.cell? ⟨wr.heap.size, 0, none⟩ = some (.int .i64 f0) := by simpa using cell_of_heap hkn 0
        have u1 : wn.cell? ⟨wr.heap.size, 1, none⟩ = some (.int .i64 f1) := by simpa using cell_of_heap hkn 1
        clear hkn
        obtain ⟨wd, hwd⟩ : ∃ z, z = wn.drew := ⟨_, rfl⟩
        have hbd : Below wn.heap.size wn wd := by rw [hwd]; exact below_dn (Below.refl _ _) 1
        have hsd := hbd.size
        have hsb := hb.out.size
        have x0 := below_cell u0 hbd hsn
        have x1 := below_cell u1 hbd hsn
        have htn : Hid (Tab wd) := hidI (htab.out.below (hb.out.trans ((hbn.trans (hbd.mono hbn.size)).mono hb.out.size)))
        have hltd : wr.heap.size < wd.heap.size := by omega
        replace hf0 := hidI hf0
        replace hf1 := hidI hf1
        replace hF0 := hidI hF0
        replace hF1 := hidI hF1
        replace hstep := hidI hstep
        replace hset := hidI hset
        replace hlk := hidI hlk
        replace hpl := hidI hpl
        replace hwn := hidI hwn
        replace hwd := hidI hwd
        replace hk := hidI hk
        clear hin
        go_wp2
        rw [← hwn.out]
        clear u0 u1 c0 c1
        refine hideQ (fun _ _ d _ _ h => by cases d <;> exact h) (fun Q' hnorm hpan => ?_)
        refine wp_region_held_drew (S := (fun z => z.cell? ⟨wr.heap.size, 0, none⟩ = some (.int .i64 f0) ∧ z.cell? ⟨wr.heap.size, 1, none⟩ = some (.int .i64 f1))) (by kernel_rfl) ?_ (fun hHeld => ?_)
        · try dsimp only
          first | ((repeat' apply And.intro) <;> assumption) | (rw [← hwd.out]; ((repeat' apply And.intro) <;> assumption))
        rw [← hwd.out] at hHeld ⊢
        refine tk 0 19 ?_
        refine tk 1 20 ?_
        refine tk 2 21 ?_
        refine tk 3 22 ?_
        refine tk 6 25 ?_
        refine tk 7 26 ?_
        refine rd 4 (fun K hK => ?_)
        rw [if_pos (by rfl)]
        go_simp
        refine (hc0 wd htn.out).mono ?_
        rintro e v3 ⟨rfl, hb3⟩
        have y0 := below_cell x0 hb3 hltd
        have y1 := below_cell x1 hb3 hltd
        have hs3 := hb3.size
        have htv := hidI (htn.out.below hb3)
        refine hK.out _ _ ?_ (fun hHeld => ?_)
        · try dsimp only
          first | ((repeat' apply And.intro) <;> assumption) | (rw [← hwd.out]; ((repeat' apply And.intro) <;> assumption))
        clear hK
        try simp only [Act.put, List.setIfInBounds_toArray, List.set_cons_zero, List.set_cons_succ]
        refine tk 5 24 ?_
        refine rd 8 (fun K hK => ?_)
        rw [if_pos (by rfl)]
        go_simp
        refine (hc1 v3 htv.out).mono ?_
        rintro e v4 ⟨rfl, hb4⟩
        have z0 := below_cell y0 hb4 (by omega)
        have z1 := below_cell y1 hb4 (by omega)
        have hs4 := hb4.size
        have hown2 : v4.ownsRow w.heap.size 9 1 (.slice (some ⟨w.heap.size, 0, none⟩) n n) n (padB ((zs.take k).map pieceB) n) := by
          obtain ⟨q1, q2 | ⟨g, cap', cur, e, hg, hh, hr⟩⟩ := hst.out
          · exact ⟨q1, .inl q2⟩
          · cases e
            exact ⟨q1, .inr ⟨_, _, cur, rfl, hg, ((hb4.block _ (by omega)).trans ((hb3.block _ (by omega)).trans ((hbd.block _ (by omega)).trans (hbn.block _ (by omega))))).trans hh, hr⟩⟩
        obtain ⟨x9, hx0⟩ : ∃ x, v4.cell? ⟨w.heap.size, k, none⟩ = some x := by
          rw [hown2.cellAt k (by omega)]
          exact ⟨_, List.getElem?_eq_getElem (by rw [hpl.out]; omega)⟩
        have hf9 := hown2.frozenAt k
        have hs5 := hidI (by have := (hown2.stored k (.string (F0 ++ ⟨#[61]⟩ ++ F1))).1; rw [hset.out] at this; exact this)
        have t0 : (v4.setCell ⟨w.heap.size, k, none⟩ (.string (F0 ++ ⟨#[61]⟩ ++ F1))).cell? ⟨wr.heap.size, 0, none⟩ = some (.int .i64 f0) := (World.cell?_of_block (w := v4) (a := ⟨wr.heap.size, 0, none⟩) (Below.heap_setCell _ _ _ _ (show wr.heap.size ≠ w.heap.size by omega))).trans z0
        have t1 : (v4.setCell ⟨w.heap.size, k, none⟩ (.string (F0 ++ ⟨#[61]⟩ ++ F1))).cell? ⟨wr.heap.size, 1, none⟩ = some (.int .i64 f1) := (World.cell?_of_block (w := v4) (a := ⟨wr.heap.size, 1, none⟩) (Below.heap_setCell _ _ _ _ (show wr.heap.size ≠ w.heap.size by omega))).trans z1
        replace hown2 := hidI hown2
        refine hK.out _ _ ?_ (fun hHeld => ?_)
        · try dsimp only
          first | ((repeat' apply And.intro) <;> assumption) | (rw [← hwd.out]; ((repeat' apply And.intro) <;> assumption))
        clear hK
        try simp only [Act.put, List.setIfInBounds_toArray, List.set_cons_zero, List.set_cons_succ]
        refine tk 9 28 ?_
        refine tk 10 29 ?_
        refine rd 11 (fun K hK => ?_)
        rw [if_pos (by rfl)]
        go_simp
        skip
        refine hK.out _ _ ?_ (fun hHeld => ?_)
        · try dsimp only
          first | ((repeat' apply And.intro) <;> assumption) | (rw [← hwd.out]; ((repeat' apply And.intro) <;> assumption))
        clear hK
        try simp only [Act.put, List.setIfInBounds_toArray, List.set_cons_zero, List.set_cons_succ]
        refine wpAnyH_done (by kernel_rfl) ?_ _
        refine hnorm _ _ ?_
        clear hnorm hpan
        repeat clear hHeld
        try simp only [Exit.then]
        have hbz : Below w.heap.size w v4 := hb.out.trans ((hbn.trans ((hbd.trans ((hb3.trans (hb4.mono hb3.size)).mono hbd.size)).mono hbn.size)).mono hb.out.size)
        have hb5 : Hid (Below w.heap.size w (v4.setCell ⟨w.heap.size, k, none⟩ (.string (F0 ++ ⟨#[61]⟩ ++ F1)))) := hidI (hbz.setCell (p := ⟨w.heap.size, k, none⟩) (Nat.le_refl _) _)
        have hlw5 : w.heap.size < (v4.setCell ⟨w.heap.size, k, none⟩ (.string (F0 ++ ⟨#[61]⟩ ++ F1))).heap.size := by
          have : (v4.setCell ⟨w.heap.size, k, none⟩ (.string (F0 ++ ⟨#[61]⟩ ++ F1))).heap.size = v4.heap.size := by simp [World.setCell]
          rw [this]; have := hb3.size; have := hb4.size; omega
        replace hlw5 := hidI hlw5
        clear hst hb hb3 hb4 hbn hbd x0 x1 y0 y1 z0 z1 t0 t1 hs3 hs4 hx0 hf9
        go_wp2
        go_roundg (n - (k + 1))
        case rel => exact ⟨k + 1, by have := hk.out; omega, by go_num, hs5, hb5, hlw5.out⟩
        case measure => have := hk.out; omega
      · obtain rfl : k = n := by omega
        have hki : ¬ (k : Int) < (k : Int) := by omega
        have hfull : zs.take k = zs := List.take_of_length_le (by have := hn.out; omega)
        rw [hfull] at hst
        have hz : zs ≠ [] := by intro e; have := hn.out; rw [e] at this; exact h0 this
        obtain ⟨X, hX⟩ : ∃ X : List ByteArray, X = zs.map pieceB := ⟨_, rfl⟩
        have hXl : X.length = k := by rw [hX, List.length_map]; exact hn.out.symm
        have hXm : X.map (·.data.toList) = zs.map pieceF := by rw [hX]; exact piecesB zs
        have hcell : ∀ (j : Nat) x, X[j]? = some x → wr.cell? ⟨w.heap.size, 0 + j, none⟩ = some (.string x) := fun j x hx => by
          have hj := (List.getElem?_eq_some_iff.1 hx).1
          rw [Nat.zero_add, hst.out.cellAt j (by omega)]
          unfold padB
          rw [← hX, List.getElem?_append_left (by rw [List.length_map]; omega), List.getElem?_map, hx]
          rfl
        have hjl := jnF_len hi.out
        have hcall := Tryz.strings_Join w.heap.size 0 k X ⟨#[32]⟩ wr hcell hlw (by omega) (by omega) (by rw [show ((⟨#[32]⟩ : ByteArray).data.toList) = [32] from rfl, hXm]; have := hn.out; omega)
        rw [show ((⟨#[32]⟩ : ByteArray).data.toList) = [32] from rfl, hXm, hXl] at hcall
        have hTx : T = ⟨(Lib.join (zs.map pieceF) [32]).toArray⟩ := by rw [hT.out, textF, fmtFs, if_neg hz]
        rw [← hTx] at hcall
        have hbr := hb.out
        replace hTx := hidI hTx
        replace hX := hidI hX
        replace hXl := hidI hXl
        replace hXm := hidI hXm
        replace hcell := hidI hcell
        replace hjl := hidI hjl
        replace hz := hidI hz
        replace hk := hidI hk
        replace hfull := hidI hfull
        go_wp2_with fail
        refine hcall.mono ?_
        rintro e w6 ⟨rfl, hb6⟩
        have hbq := hbr.trans (hb6.mono hbr.size)
        clear hcall
        go_wp2
        go_ret
        exact ⟨rfl, hbq⟩
end Go.Proofs.YtgngfffmkjckdaaGreatDoor
