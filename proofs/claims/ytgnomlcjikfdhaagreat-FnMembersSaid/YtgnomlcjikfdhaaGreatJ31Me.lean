import Derived.Test.YtgnomlcjikfdhaaGreatJ30Me
import Derived.Test.YtgnomlcjikfdhaaGreatJ22Me
namespace Go.Proofs.YtgnomlcjikfdhaaGreat
open Go.RowKit
set_option linter.unusedVariables false
set_option linter.unusedSimpArgs false
theorem L9 {S : List Ar} {i : Nat} (h : i < S.length) : (jh S).getD i 0 = (S.getD i d0).1.1 := by
 unfold jh; rw [gD, List.getElem?_map, gE h, gD, gE h]; rfl
theorem Jg (es : List Ed) (i : Nat) (S : List Ar) (l : Int) : jh (arr1 es i S l) = iJ es (S.getD i d0).1.1 (jh S) l := by
 unfold arr1 iJ; split
 · unfold jh; rw [List.map_append]; rfl
 · rfl
theorem Kv (es : List Ed) {i j : Nat} {S : List Ar} (l : Int) (h : j < S.length) : (arr1 es i S l).getD j d0 = S.getD j d0 := by
 unfold arr1; split
 · exact jc h
 · rfl
theorem IG (es : List Ed) (i : Nat) : ∀ (ls : List Int) (S : List Ar), i < S.length → jh (ls.foldl (arr1 es i) S) = ls.foldl (iJ es (S.getD i d0).1.1) (jh S) := by
 intro ls
 induction ls with
 | nil => intro S _; rfl
 | cons l ls ih =>
  intro S h; rw [List.foldl_cons, List.foldl_cons, ih _ (Nat.lt_of_lt_of_le h (yT es i S l)), Jg, Kv es l h]
theorem Jm (es : List Ed) (ls : List Int) : ∀ k, jh (gY es ls 0 k) = dh es ls k := by
 intro k
 induction k with
 | zero => rfl
 | succ k ih =>
  have hl : (gY es ls 0 k).length = (dh es ls k).length := by rw [← ih]; simp [jh]
  unfold gY dh; rw [← hl]; by_cases h : k < (gY es ls 0 k).length
  · rw [if_pos h, if_pos h, IG es k ls _ h, ih, jI, List.take_length, ← ih, L9 h]
  · rw [if_neg h, if_neg h]; exact ih
theorem CJ {r s : Int} {es : List Ed} (h : bJ r s es = true) : ((lW r es 0).map (·.1)).map (·.1) = mJ r s es (bH r.toNat) := by
 have hg : aK r s es = true := by unfold bJ at h; rw [Bool.and_eq_true] at h; exact h.1
 have hl := aZ hg; have hgood := tX (s := s.toNat) (u := 0) (es := es) (ls := bH r.toNat) (by omega) (fun l hl => by have := oL r.toNat l hl; omega) (ED h)
 have hend := BR (es := es) (ls := bH r.toNat) (u := 0) (k := 40) (by have := (hgood 40).length; omega) (by omega)
 unfold mJ lW; rw [if_pos h, hend, ← Jm, List.map_map]; rfl
end Go.Proofs.YtgnomlcjikfdhaaGreat
