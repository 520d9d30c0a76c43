import Derived.Test.YtpjlamnjiilgbaaGreatJ5Ba
import Derived.Test.YtpjlamnjiilgbaaGreatJ9Ba
namespace Go.Proofs.YtpjlamnjiilgbaaGreat
open Go.RowKit
set_option linter.unusedVariables false
set_option linter.unusedSimpArgs false
theorem vts_at {S : List Ar} {i : Nat} (h : i < S.length) : (vts S).getD i 0 = (S.getD i d0).1.1 := by
 unfold vts
 rw [List.getD_eq_getElem?_getD, List.getElem?_map, List.getElem?_eq_getElem h, List.getD_eq_getElem?_getD, List.getElem?_eq_getElem h]; rfl
theorem vts_arr1 (es : List Ed) (i : Nat) (S : List Ar) (l : Int) : vts (arr1 es i S l) = coS es (S.getD i d0).1.1 (vts S) l := by
 unfold arr1 coS
 split
 · unfold vts; rw [List.map_append]; rfl
 · rfl
theorem arr1_at (es : List Ed) {i j : Nat} {S : List Ar} (l : Int) (h : j < S.length) : (arr1 es i S l).getD j d0 = S.getD j d0 := by
 unfold arr1
 split
 · exact getD_left h
 · rfl
theorem vts_fold (es : List Ed) (i : Nat) : ∀ (ls : List Int) (S : List Ar), i < S.length → vts (ls.foldl (arr1 es i) S) = ls.foldl (coS es (S.getD i d0).1.1) (vts S) := by
 intro ls
 induction ls with
 | nil => intro S _; rfl
 | cons l ls ih =>
  intro S h
  rw [List.foldl_cons, List.foldl_cons, ih _ (Nat.lt_of_lt_of_le h (arr1_le es i S l)), vts_arr1, arr1_at es l h]
theorem vts_arrN (es : List Ed) (ls : List Int) : ∀ k, vts (arrN es ls 0 k) = coN es ls k := by
 intro k
 induction k with
 | zero => rfl
 | succ k ih =>
  have hl : (arrN es ls 0 k).length = (coN es ls k).length := by rw [← ih]; simp [vts]
  unfold arrN coN
  rw [← hl]
  by_cases h : k < (arrN es ls 0 k).length
  · rw [if_pos h, if_pos h, vts_fold es k ls _ h, ih, coR, List.take_length, ← ih, vts_at h]
  · rw [if_neg h, if_neg h]; exact ih
theorem found_order {r s : Int} {es : List Ed} (h : isFo r s es = true) : ((foundA r es 0).map (·.1)).map (·.1) = coL r s es (letsN r.toNat) := by
 have hg : isGr r s es = true := by unfold isFo at h; rw [Bool.and_eq_true] at h; exact h.1
 have hl := isGr_lim hg
 have hgood := good_arrN (s := s.toNat) (u := 0) (es := es) (ls := letsN r.toNat) (by omega) (fun l hl => by have := letsN_in r.toNat l hl; omega) (nx_lt h)
 have hend := arrN_end (es := es) (ls := letsN r.toNat) (u := 0) (k := 40) (by have := (hgood 40).length; omega) (by omega)
 unfold coL foundA
 rw [if_pos h, hend, ← vts_arrN, List.map_map]; rfl
end Go.Proofs.YtpjlamnjiilgbaaGreat
