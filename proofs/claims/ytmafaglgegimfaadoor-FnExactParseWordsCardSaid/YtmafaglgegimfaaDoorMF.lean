/- Plain mathematics of the texts of words. -/
import Derived.Test.YtmafaglgegimfaaDoorMX
namespace Go.Proofs.YtmafaglgegimfaaDoor
open Go.RowKit
set_option linter.unusedVariables false

def lettB (x : Int) : Bool := decide (x ≠ 0 ∧ -3 ≤ x ∧ x ≤ 3)
theorem lettB_iff {x : Int} : lettB x = true ↔ x ≠ 0 ∧ -3 ≤ x ∧ x ≤ 3 := by unfold lettB; rw [decide_eq_true_eq]
theorem lettB_no {x : Int} : lettB x = false ↔ x = 0 ∨ x < -3 ∨ 3 < x := by unfold lettB; rw [decide_eq_false_iff_not]; omega
def chr (x : Int) : UInt8 := if x < 0 then UInt8.ofNat (64 + x.natAbs) else UInt8.ofNat (96 + x.natAbs)
theorem chr_neg {x : Int} (h : x < 0) (h2 : -3 ≤ x) : ((chr x).toNat : Int) = 64 - x := by
  unfold chr
  rw [if_pos h, UInt8.toNat_ofNat']
  omega
theorem chr_pos {x : Int} (h : 0 < x) (h2 : x ≤ 3) : ((chr x).toNat : Int) = 96 + x := by
  unfold chr
  rw [if_neg (by omega), UInt8.toNat_ofNat']
  omega
def fmtW (zs : List Int) : List UInt8 := if zs = [] then [49] else if zs.all lettB = true then zs.map chr else []
theorem fmtW_nil : fmtW [] = [49] := rfl
theorem fmtW_good {zs : List Int} (h0 : zs ≠ []) (h : ∀ i, i < zs.length → lettB (zs.getD i 0) = true) : fmtW zs = zs.map chr := by
  unfold fmtW
  rw [if_neg h0, if_pos]
  rw [List.all_eq_true]
  intro x hx
  obtain ⟨i, hi, rfl⟩ := List.mem_iff_getElem.1 hx
  have := h i hi
  simpa [List.getD_eq_getElem?_getD, hi] using this
theorem fmtW_bad {zs : List Int} {i : Nat} (hi : i < zs.length) (h : lettB (zs.getD i 0) = false) : fmtW zs = [] := by
  unfold fmtW
  rw [if_neg (by intro e; rw [e] at hi; simp at hi), if_neg]
  intro hall
  rw [List.all_eq_true] at hall
  have := hall zs[i] (List.getElem_mem hi)
  simp [List.getD_eq_getElem?_getD, hi] at h
  rw [this] at h
  cases h
theorem fmtW_length (zs : List Int) : (fmtW zs).length ≤ zs.length + 1 := by
  unfold fmtW
  split
  · simp
  · split <;> simp
theorem map_chr_take {zs : List Int} {k : Nat} (h : k < zs.length) : (zs.take (k + 1)).map chr = (zs.take k).map chr ++ [chr (zs.getD k 0)] := by
  have e : zs.getD k 0 = zs[k] := by simp [List.getD_eq_getElem?_getD, h]
  rw [List.take_succ_eq_append_getElem h, List.map_append, e]
  rfl
/-- The letter that a byte names; 0 where it names none. -/
def unch (c : UInt8) : Int := if 97 ≤ c.toNat ∧ c.toNat ≤ 99 then (c.toNat : Int) - 96 else if 65 ≤ c.toNat ∧ c.toNat ≤ 67 then 64 - (c.toNat : Int) else 0
theorem unch_low {c : UInt8} (h : 97 ≤ c.toNat ∧ c.toNat ≤ 99) : unch c = (c.toNat : Int) - 96 := if_pos h
theorem unch_up {c : UInt8} (h : 65 ≤ c.toNat ∧ c.toNat ≤ 67) : unch c = 64 - (c.toNat : Int) := by unfold unch; rw [if_neg (by omega), if_pos h]
theorem unch_no {c : UInt8} (h : ¬ (97 ≤ c.toNat ∧ c.toNat ≤ 99)) (h' : ¬ (65 ≤ c.toNat ∧ c.toNat ≤ 67)) : unch c = 0 := by unfold unch; rw [if_neg h, if_neg h']
theorem unch_bd (c : UInt8) : -3 ≤ unch c ∧ unch c ≤ 3 := by
  unfold unch
  split
  · omega
  · split <;> omega
theorem unch_zero {c : UInt8} : unch c = 0 ↔ ¬ (97 ≤ c.toNat ∧ c.toNat ≤ 99) ∧ ¬ (65 ≤ c.toNat ∧ c.toNat ≤ 67) := by
  unfold unch
  by_cases h : 97 ≤ c.toNat ∧ c.toNat ≤ 99
  · rw [if_pos h]; omega
  · rw [if_neg h]
    by_cases h2 : 65 ≤ c.toNat ∧ c.toNat ≤ 67
    · rw [if_pos h2]; omega
    · rw [if_neg h2]; omega
theorem chr_unch {c : UInt8} (h : unch c ≠ 0) : chr (unch c) = c := by
  apply UInt8.toNat.inj
  by_cases h1 : 97 ≤ c.toNat ∧ c.toNat ≤ 99
  · have := chr_pos (x := unch c) (by rw [unch_low h1]; omega) (by rw [unch_low h1]; omega)
    rw [unch_low h1] at this ⊢
    omega
  · by_cases h2 : 65 ≤ c.toNat ∧ c.toNat ≤ 67
    · have := chr_neg (x := unch c) (by rw [unch_up h2]; omega) (by rw [unch_up h2]; omega)
      rw [unch_up h2] at this ⊢
      omega
    · exact absurd (unch_no h1 h2) h
theorem unch_chr {x : Int} (h : lettB x = true) : unch (chr x) = x := by
  obtain ⟨h0, h1, h2⟩ := lettB_iff.1 h
  by_cases hn : x < 0
  · have := chr_neg hn h1
    rw [unch_up (by omega)]
    omega
  · have := chr_pos (x := x) (by omega) h2
    rw [unch_low (by omega)]
    omega
theorem lettB_unch {c : UInt8} (h : unch c ≠ 0) : lettB (unch c) = true := by
  have := unch_bd c
  exact lettB_iff.2 ⟨h, this.1, this.2⟩
/-- Do all bytes name letters? -/
def goodB (L : List UInt8) : Bool := L.all fun c => decide (unch c ≠ 0)
theorem goodB_at {L : List UInt8} : goodB L = true ↔ ∀ c ∈ L, unch c ≠ 0 := by
  unfold goodB
  rw [List.all_eq_true]
  simp
theorem map_chr_unch {L : List UInt8} (h : goodB L = true) : (L.map unch).map chr = L := by
  rw [List.map_map]
  have : ∀ c ∈ L, (chr ∘ unch) c = id c := fun c hc => chr_unch (goodB_at.1 h c hc)
  rw [List.map_congr_left this, List.map_id]
theorem fmtW_unch {L : List UInt8} (h0 : L ≠ []) (h : goodB L = true) : fmtW (L.map unch) = L := by
  rw [fmtW_good (by intro e; exact h0 (List.map_eq_nil_iff.1 e)), map_chr_unch h]
  intro i hi
  rw [List.length_map] at hi
  have : (L.map unch).getD i 0 = unch L[i] := by simp [List.getD_eq_getElem?_getD, hi]
  rw [this]
  exact lettB_unch (goodB_at.1 h _ (List.getElem_mem hi))
theorem fmtW_ne {L : List UInt8} (h : L = [] ∨ goodB L = false) : fmtW (L.map unch) ≠ L := by
  rcases h with rfl | h
  · rw [List.map_nil, fmtW_nil]
    intro e
    cases e
  · have h1 : ∃ i, ∃ hi : i < L.length, unch L[i] = 0 := by
      unfold goodB at h
      rw [← Bool.not_eq_true, List.all_eq_true] at h
      simp only [decide_eq_true_eq] at h
      apply Classical.byContradiction
      intro hc
      refine h (fun c hc' => ?_)
      obtain ⟨i, hi, rfl⟩ := List.mem_iff_getElem.1 hc'
      exact fun e => hc ⟨i, hi, e⟩
    obtain ⟨i, hi, e⟩ := h1
    have hb := fmtW_bad (zs := L.map unch) (i := i) (by rw [List.length_map]; exact hi) (by
      have : (L.map unch).getD i 0 = unch L[i] := by simp [List.getD_eq_getElem?_getD, hi]
      rw [this, e]
      rfl)
    rw [hb]
    intro e2
    rw [← e2] at hi
    simp at hi
theorem map_unch_in (L : List UInt8) : InR (L.map unch) := by
  intro x hx
  obtain ⟨c, _, rfl⟩ := List.mem_map.1 hx
  have := unch_bd c
  omega
end Go.Proofs.YtmafaglgegimfaaDoor
