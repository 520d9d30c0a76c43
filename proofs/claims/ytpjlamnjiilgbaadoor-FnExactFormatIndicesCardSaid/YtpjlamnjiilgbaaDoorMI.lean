/- Plain mathematics of decimal numerals. -/
import Derived.Test.YtpjlamnjiilgbaaDoorM
import Derived.Lib.ItoaNum
namespace Go.Proofs.YtpjlamnjiilgbaaDoor
open Go.RowKit
theorem dd_one {q : Nat} (h : q < 10) : Lib.decDigits q = [UInt8.ofNat (48 + q)] := Lib.decDigits_one h
theorem dd_more {q : Nat} (h : ¬ q < 10) : Lib.decDigits q = Lib.decDigits (q / 10) ++ [UInt8.ofNat (48 + q % 10)] := by rw [Lib.decDigits, dif_neg h]
theorem dd_length_le : ∀ (k q : Nat), q < 10 ^ (k + 1) → (Lib.decDigits q).length ≤ k + 1
  | 0, q, h => by rw [dd_one (by simpa using h)]; simp
  | k + 1, q, h => by
    by_cases h1 : q < 10
    · rw [dd_one h1]; simp
    · rw [dd_more h1, List.length_append]
      have := dd_length_le k (q / 10) (by rw [Nat.pow_succ] at h; omega)
      simp
      omega
/-- What is left of the number u is q; the digits behind are acc. -/
def Rest (u q : Nat) (acc : List UInt8) : Prop := (q = 0 → acc = Lib.decDigits u) ∧ (1 ≤ q → Lib.decDigits q ++ acc = Lib.decDigits u)
theorem Rest.start {u : Nat} (h : 1 ≤ u) : Rest u u [] := ⟨fun h0 => by omega, fun _ => by simp⟩
theorem Rest.step {u q : Nat} {acc : List UInt8} (h : Rest u q acc) (hq : 1 ≤ q) : Rest u (q / 10) (UInt8.ofNat (48 + q % 10) :: acc) := by
  have h1 := h.2 hq
  by_cases h2 : q < 10
  · rw [dd_one h2] at h1
    refine ⟨fun _ => ?_, fun h3 => by omega⟩
    rw [Nat.mod_eq_of_lt h2]
    exact h1
  · rw [dd_more h2] at h1
    refine ⟨fun h3 => by omega, fun _ => ?_⟩
    rw [← h1]
    simp
theorem Rest.length {u q : Nat} {acc : List UInt8} (h : Rest u q acc) (hu : u ≤ 9223372036854775808) : acc.length ≤ 20 := by
  have hl := dd_length_le 19 u (by omega)
  by_cases hq : q = 0
  · rw [h.1 hq]; omega
  · have h1 := congrArg List.length (h.2 (by omega))
    rw [List.length_append] at h1
    omega
theorem itoa_zero : Lib.itoa 0 = [48] := by unfold Lib.itoa; rw [if_neg (by omega)]; exact dd_one (by decide)
theorem itoa_pos {n : Int} (h : 0 ≤ n) : Lib.itoa n = Lib.decDigits n.toNat := by unfold Lib.itoa; rw [if_neg (by omega)]
theorem itoa_neg' {n : Int} (h : n < 0) : Lib.itoa n = 45 :: Lib.decDigits n.natAbs := by unfold Lib.itoa; rw [if_pos h]
/-- The number to format, as bytes. -/
def fmtB (n : Int) : ByteArray := ⟨(Lib.itoa n).toArray⟩
/-! ### ParseInt -/
def isD (c : UInt8) : Bool := decide (48 ≤ c.toNat ∧ c.toNat ≤ 57)
theorem isD_yes {c : UInt8} (h1 : 48 ≤ c.toNat) (h2 : c.toNat ≤ 57) : isD c = true := by simp [isD, h1, h2]
theorem isD_no {c : UInt8} (h : c.toNat < 48 ∨ 57 < c.toNat) : isD c = false := by simp [isD]; omega
theorem isD_iff {c : UInt8} : isD c = true ↔ 48 ≤ c.toNat ∧ c.toNat ≤ 57 := by simp [isD]
def pstep (n : Nat) (c : UInt8) : Nat := if isD c = true then n * 10 + (c.toNat - 48) else n
/-- The number of the digits among the bytes. -/
def pv (l : List UInt8) : Nat := l.foldl pstep 0
/-- How many digits there are. -/
def pk (l : List UInt8) : Nat := (l.filter isD).length
theorem pv_snoc (l : List UInt8) (c : UInt8) : pv (l ++ [c]) = pstep (pv l) c := by simp [pv, List.foldl_append]
theorem pk_snoc (l : List UInt8) (c : UInt8) : pk (l ++ [c]) = pk l + if isD c = true then 1 else 0 := by
  unfold pk
  rw [List.filter_append, List.length_append]
  by_cases h : isD c = true <;> simp [h]
theorem pk_le (l : List UInt8) : pk l ≤ l.length := List.length_filter_le _ _
theorem pk_all {l : List UInt8} (h : l.all isD = true) : pk l = l.length := by
  unfold pk
  rw [List.filter_eq_self.2 (fun c hc => List.all_eq_true.1 h c hc)]
theorem pstep_dig {n : Nat} {c : UInt8} (h : isD c = true) : pstep n c = n * 10 + (c.toNat - 48) := if_pos h
theorem pstep_not {n : Nat} {c : UInt8} (h : isD c = false) : pstep n c = n := by unfold pstep; rw [h]; rfl
theorem pv_lt (l : List UInt8) : pv l < 10 ^ l.length := by
  suffices h : ∀ r : List UInt8, pv r.reverse < 10 ^ r.length by
    have := h l.reverse
    simpa using this
  intro r
  induction r with
  | nil => simp [pv]
  | cons c r ih =>
    rw [List.reverse_cons, pv_snoc, List.length_cons, Nat.pow_succ]
    unfold pstep
    split
    · rename_i h
      have := isD_iff.1 h
      omega
    · omega
theorem dd_digits (q : Nat) : (Lib.decDigits q).all isD = true := by
  induction q using Nat.strongRecOn with
  | _ q ih =>
    by_cases h : q < 10
    · rw [dd_one h]
      simp [isD]
      omega
    · rw [dd_more h, List.all_append, ih (q / 10) (by omega)]
      simp [isD]
      omega
/-- A numeral that does not begin with '-' has digits alone. -/
theorem itoa_digits {n : Int} {l : List UInt8} (h : Lib.itoa n = l) (hh : l.head? ≠ some 45) : l.all isD = true := by
  rcases Int.lt_or_le n 0 with h1 | h1
  · rw [itoa_neg' h1] at h
    rw [← h] at hh
    simp at hh
  · rw [itoa_pos h1] at h
    rw [← h]
    exact dd_digits _
theorem itoa_minus {n : Int} {t : List UInt8} (h : Lib.itoa n = 45 :: t) : t.all isD = true := by
  rcases Int.lt_or_le n 0 with h1 | h1
  · rw [itoa_neg' h1] at h
    rw [← (List.cons.inj h).2]
    exact dd_digits _
  · rw [itoa_pos h1] at h
    have := dd_digits n.toNat
    rw [h] at this
    simp [isD] at this
def pnum (l : List UInt8) : Int := if l.head? = some 45 then -(pv (l.take 11) : Int) else (pv (l.take 11) : Int)
/-- What ParseInt returns. -/
def parseI (l : List UInt8) : Int × Bool := if pk (l.take 11) ≤ 9 ∧ l.length ≤ 10 ∧ Lib.itoa (pnum l) = l then (pnum l, true) else (0, false)
theorem parseI_yes {l : List UInt8} (h1 : pk (l.take 11) ≤ 9) (h2 : l.length ≤ 10) (h3 : Lib.itoa (pnum l) = l) : parseI l = (pnum l, true) := if_pos ⟨h1, h2, h3⟩
theorem parseI_many {l : List UInt8} (h : ¬ pk (l.take 11) ≤ 9) : parseI l = (0, false) := if_neg (fun h' => h h'.1)
theorem parseI_long {l : List UInt8} (h : ¬ l.length ≤ 10) : parseI l = (0, false) := if_neg (fun h' => h h'.2.1)
theorem parseI_other {l : List UInt8} (h : ¬ Lib.itoa (pnum l) = l) : parseI l = (0, false) := if_neg (fun h' => h h'.2.2)
/-- No '-' ahead: a byte that is no digit, or ten bytes: nothing is parsed. -/
theorem parseI_plain_bad {l : List UInt8} (hh : l.head? ≠ some 45) (h : l.all isD = false ∨ 9 < l.length) : parseI l = (0, false) := by
  by_cases h1 : Lib.itoa (pnum l) = l
  · have hd := itoa_digits h1 hh
    rcases h with h | h
    · rw [hd] at h; cases h
    · by_cases h2 : l.length ≤ 10
      · refine parseI_many ?_
        have e : l.take 11 = l := List.take_of_length_le (by omega)
        rw [e, pk_all hd]
        omega
      · exact parseI_long h2
  · exact parseI_other h1
theorem parseI_minus_bad {t : List UInt8} (h : t.all isD = false ∨ 9 < t.length) : parseI (45 :: t) = (0, false) := by
  rcases h with h | h
  · refine parseI_other (fun h1 => ?_)
    rw [itoa_minus h1] at h
    cases h
  · exact parseI_long (by simp; omega)
theorem pv_minus (t : List UInt8) : pv (45 :: t) = pv t := by
  unfold pv
  rw [List.foldl_cons]
  rfl
theorem pk_minus (t : List UInt8) : pk (45 :: t) = pk t := by
  unfold pk
  rw [List.filter_cons]
  rfl
theorem pnum_plain {l : List UInt8} (hh : l.head? ≠ some 45) (hl : l.length ≤ 9) : pnum l = (pv l : Int) := by
  unfold pnum
  rw [if_neg hh, List.take_of_length_le (by omega)]
theorem pnum_minus {t : List UInt8} (hl : t.length ≤ 9) : pnum (45 :: t) = -(pv t : Int) := by
  unfold pnum
  rw [List.take_of_length_le (by simp; omega), pv_minus]
  rfl
theorem parseI_plain {l : List UInt8} (hh : l.head? ≠ some 45) (hl : l.length ≤ 9) (he : Lib.itoa (pv l : Int) = l) : parseI l = ((pv l : Int), true) := by
  rw [parseI_yes (by rw [List.take_of_length_le (by omega)]; have := pk_le l; omega) (by omega) (by rw [pnum_plain hh hl]; exact he), pnum_plain hh hl]
theorem parseI_plain_not {l : List UInt8} (hh : l.head? ≠ some 45) (hl : l.length ≤ 9) (he : ¬ Lib.itoa (pv l : Int) = l) : parseI l = (0, false) :=
  parseI_other (by rw [pnum_plain hh hl]; exact he)
theorem parseI_minus {t : List UInt8} (hl : t.length ≤ 9) (he : Lib.itoa (-(pv t : Int)) = 45 :: t) : parseI (45 :: t) = (-(pv t : Int), true) := by
  rw [parseI_yes (by rw [List.take_of_length_le (by simp; omega), pk_minus]; have := pk_le t; omega) (by simp; omega) (by rw [pnum_minus hl]; exact he), pnum_minus hl]
theorem parseI_minus_not {t : List UInt8} (hl : t.length ≤ 9) (he : ¬ Lib.itoa (-(pv t : Int)) = 45 :: t) : parseI (45 :: t) = (0, false) :=
  parseI_other (by rw [pnum_minus hl]; exact he)
theorem pv_small {l : List UInt8} (h : l.length ≤ 11) : pv l < 100000000000 := by
  have h1 := pv_lt l
  have h2 := Nat.pow_le_pow_right (n := 10) (by decide) h
  have h3 : (10 : Nat) ^ 11 = 100000000000 := by decide
  omega
theorem fmtB_cmp {s : ByteArray} {L : List UInt8} (hL : L = s.data.toList) (n : Int) : ((fmtB n).toList == s.toList) = decide (Lib.itoa n = L) := by
  unfold fmtB
  rw [ByteArray.toList_mk, Lib.toList_data, hL, Bool.eq_iff_iff]
  simp
theorem ret_ib {a c : Int} {x y : Bool} (h1 : a = c) (h2 : x = y) : Ending.returned (.tuple #[.int .i64 a, .bool x]) = .returned (.tuple #[.int .i64 c, .bool y]) := by rw [h1, h2]
theorem fmtB_size {n : Int} (h : -9223372036854775808 ≤ n ∧ n ≤ 9223372036854775807) : (fmtB n).size ≤ 1048576 := by
  show (Lib.itoa n).toArray.size ≤ 1048576
  rw [List.size_toArray]
  rcases Int.lt_or_le n 0 with h1 | h1
  · rw [itoa_neg' h1]
    have := dd_length_le 19 n.natAbs (by omega)
    simp
    omega
  · rw [itoa_pos h1]
    have := dd_length_le 19 n.toNat (by omega)
    omega
/-! ### Round trips -/
theorem val7_leb : ∀ (f n : Nat), n < f → val7 (leb n) = n
  | 0, n, h => by omega
  | f + 1, n, h => by
    by_cases h1 : n < 128
    · rw [leb_lt h1]
      simp [val7]
      omega
    · rw [leb_ge h1, val7, val7_leb f (n / 128) (by omega)]
      have : (UInt8.ofNat (128 + n % 128)).toNat = 128 + n % 128 := by simp; omega
      rw [this]
      omega
theorem decVF_leb (q : Nat) (T : List UInt8) : ∀ (f k : Nat), 1 ≤ k → k ≤ (leb q).length → (leb q).length < k + f → decVF (leb q ++ T) f k = (q, (leb q).length)
  | 0, k, _, h2, h3 => by omega
  | f + 1, k, h1, h2, h3 => by
    have hl : k ≤ (leb q ++ T).length := by rw [List.length_append]; omega
    by_cases hk : k = (leb q).length
    · have htk : (leb q ++ T).take k = leb q := by rw [hk]; exact List.take_left
      rw [decVF_hit hl (by rw [htk, val7_leb (q + 1) q (by omega)]), htk, val7_leb (q + 1) q (by omega), hk]
    · obtain ⟨i, rfl⟩ : ∃ i, k = i + 1 := ⟨k - 1, by omega⟩
      have hi : i < (leb q).length := by omega
      have hge : ¬ ((leb q)[i]).toNat < 128 := fun h => hk ((leb_byte (List.getElem?_eq_getElem hi)).1 h)
      rw [decVF_miss hl (no_end (i := i) (by rw [List.length_append]; omega) (by rw [List.getElem_append_left hi]; exact hge)), decVF_leb q T f (i + 1 + 1) (by omega) (by omega) (by omega)]
theorem decV_leb {q : Nat} (T : List UInt8) (hq : q ≤ 562949953421311) : decV (leb q ++ T) = (q, (leb q).length) := by
  have h1 := leb_pos q
  have h2 := leb_length_le 6 q (by omega)
  exact decVF_leb q T 7 1 (by omega) h1 (by omega)
theorem dec256_append (a : List UInt8) : ∀ b : List UInt8, dec256 (a ++ b) = dec256 a * 256 ^ b.length + dec256 b := by
  intro b
  suffices h : ∀ r : List UInt8, dec256 (a ++ r.reverse) = dec256 a * 256 ^ r.length + dec256 r.reverse by
    have := h b.reverse
    simpa using this
  intro r
  induction r with
  | nil => simp [dec256_nil]
  | cons c r ih =>
    rw [List.reverse_cons, ← List.append_assoc, dec256_snoc, ih, dec256_snoc, List.length_cons, Nat.pow_succ]
    rw [Nat.add_mul, Nat.mul_assoc]
    omega
theorem dec256_low (n : Nat) : ∀ k, dec256 (low n k) = n % 256 ^ k
  | 0 => by simp [low, dec256_nil, Nat.mod_one]
  | k + 1 => by
    have e : low n (k + 1) = [UInt8.ofNat (n / 256 ^ k)] ++ low n k := rfl
    have e1 : dec256 [UInt8.ofNat (n / 256 ^ k)] = n / 256 ^ k % 256 := by simp [dec256]
    rw [e, dec256_append, e1, dec256_low n k, low_length, Nat.pow_succ, Nat.mod_mul, Nat.mul_comm (256 ^ k)]
    omega
theorem low_back {n k : Nat} (h : n / 256 ^ k = 0) : dec256 (low n k) = n := by
  rw [dec256_low, Nat.mod_eq_of_lt]
  exact (Nat.div_eq_zero_iff_lt (Nat.pow_pos (by decide))).1 h
theorem isH_hexd {k : Nat} (h : k < 16) : isH (hexd k) = true := by unfold isH; rw [unhex_hexd k h]; simp
theorem dgt_hexd {k : Nat} (h : k < 16) : dgt (hexd k) = k := by unfold dgt; rw [unhex_hexd k h]; simp
theorem hexL_all (T : List UInt8) : (hexL T).all isH = true := by
  induction T with
  | nil => rfl
  | cons c t ih =>
    have := toNat_lt c
    simp only [hexL, List.all_cons, ih, isH_hexd (show c.toNat / 16 < 16 by omega), isH_hexd (show c.toNat % 16 < 16 by omega), Bool.and_self]
theorem decH_hexL (T : List UInt8) : decH (hexL T) = T := by
  induction T with
  | nil => rfl
  | cons c t ih =>
    have := toNat_lt c
    rw [hexL, decH, ih, dgt_hexd (show c.toNat / 16 < 16 by omega), dgt_hexd (show c.toNat % 16 < 16 by omega)]
    congr 1
    apply UInt8.toNat.inj
    rw [UInt8.toNat_ofNat']
    omega
theorem decHex_hexL (T : List UInt8) : decHex (hexL T) = (T, true) := by
  rw [decHex_yes (by rw [hexL_length]; omega) (hexL_all T), decH_hexL]
theorem pv_dd (q : Nat) : pv (Lib.decDigits q) = q := by
  induction q using Nat.strongRecOn with
  | _ q ih =>
    by_cases h : q < 10
    · rw [dd_one h]
      have hd : isD (UInt8.ofNat (48 + q)) = true := isD_yes (by simp; omega) (by simp; omega)
      show pstep 0 _ = q
      rw [pstep_dig hd]
      simp
      omega
    · have hd : isD (UInt8.ofNat (48 + q % 10)) = true := isD_yes (by simp; omega) (by simp; omega)
      rw [dd_more h, pv_snoc, ih (q / 10) (by omega), pstep_dig hd]
      have : (UInt8.ofNat (48 + q % 10)).toNat = 48 + q % 10 := by simp; omega
      rw [this]
      omega
theorem dd_length_ge (k q : Nat) (h : 10 ^ k ≤ q) : k + 1 ≤ (Lib.decDigits q).length := by
  have h1 := pv_lt (Lib.decDigits q)
  rw [pv_dd] at h1
  have h2 : 10 ^ k < 10 ^ (Lib.decDigits q).length := by omega
  have := (Nat.pow_lt_pow_iff_right (show 1 < 10 by decide)).1 h2
  omega
theorem dd_head (q : Nat) : (Lib.decDigits q).head? ≠ some 45 := by
  intro h
  have hd := dd_digits q
  cases hl : Lib.decDigits q with
  | nil => rw [hl] at h; cases h
  | cons a t =>
    rw [hl] at h hd
    have ha : a = 45 := by simpa using h
    subst ha
    simp [isD] at hd
theorem parseI_itoa_in {n : Int} (h1 : -1000000000 < n) (h2 : n < 1000000000) : parseI (Lib.itoa n) = (n, true) := by
  rcases Int.lt_or_le n 0 with h | h
  · have hl := dd_length_le 8 n.natAbs (by omega)
    have e : -(pv (Lib.decDigits n.natAbs) : Int) = n := by rw [pv_dd]; omega
    rw [itoa_neg' h, parseI_minus hl (by rw [e, itoa_neg' h]), e]
  · have hl := dd_length_le 8 n.toNat (by omega)
    have e : (pv (Lib.decDigits n.toNat) : Int) = n := by rw [pv_dd]; omega
    rw [itoa_pos h, parseI_plain (dd_head _) hl (by rw [e, itoa_pos h]), e]
theorem parseI_itoa_out {n : Int} (h : n ≤ -1000000000 ∨ 1000000000 ≤ n) : parseI (Lib.itoa n) = (0, false) := by
  rcases Int.lt_or_le n 0 with h1 | h1
  · rw [itoa_neg' h1]
    exact parseI_minus_bad (.inr (by have := dd_length_ge 9 n.natAbs (by omega); omega))
  · rw [itoa_pos h1]
    exact parseI_plain_bad (dd_head _) (.inr (by have := dd_length_ge 9 n.toNat (by omega); omega))
end Go.Proofs.YtpjlamnjiilgbaaDoor
