/- Folded graphs, the program: readFrom, WalkWord, ReadLength. -/
import Derived.Test.YtecceaijdjnflaaGreatFP1
import Derived.Test.YtecceaijdjnflaaGreatQE
namespace Go.Proofs.YtecceaijdjnflaaGreat
open Go.RowKit Go.Maps
set_option linter.unusedVariables false
set_option linter.unusedSimpArgs false

def endV (r s : Int) (es : List Ed) (x : Int) (zs : List Int) : Int := if okWk r s es x then (wk es x zs).1 else -1
theorem wkAt_vert {r s : Int} {es : List Ed} (hg : isGr r s es = true) (hf : foldB es es.length = true) {x y z : Int} (hz : -9223372036854775808 ≤ z ∧ z ≤ 9223372036854775807) (h : ¬ nxV es y z < 0) : 0 ≤ nxV es y z ∧ nxV es y z < s := by
  rcases nx_cases hg hf (v := y) (l := z) hz with h1 | h1
  · exact h1.2
  · have := h1.1; omega
theorem wk_nonneg (es : List Ed) : ∀ (w : List Int) (v : Int), 0 ≤ v → 0 ≤ (wk es v w).1 := by
  intro w
  induction w with
  | nil => intro v h; simpa [wk] using h
  | cons x w ih =>
    intro v h
    rw [wk]
    split
    · exact h
    · exact ih _ (by omega)
theorem endV_cases (r s : Int) (es : List Ed) (x : Int) (zs : List Int) :
    (endV r s es x zs = -1 ∧ walkV r s es x zs = -1 ∧ walkB r s es x zs = false) ∨
    (endV r s es x zs ≠ -1 ∧ readN r s es x zs < (zs.length : Int) ∧ walkV r s es x zs = -1 ∧ walkB r s es x zs = false) ∨
    (endV r s es x zs ≠ -1 ∧ ¬ readN r s es x zs < (zs.length : Int) ∧ walkV r s es x zs = endV r s es x zs ∧ walkB r s es x zs = true) := by
  cases h : okWk r s es x with
  | false => exact .inl ⟨by unfold endV; rw [h]; rfl, (walkB_no h).2.1, (walkB_no h).1⟩
  | true =>
    have hle := wk_le es zs x
    have hx : 0 ≤ x := by
      unfold okWk isVx at h
      rw [Bool.and_eq_true, decide_eq_true_eq] at h
      exact h.2.1
    have hn := wk_nonneg es zs x hx
    obtain ⟨y, k, hyk⟩ : ∃ y k, wk es x zs = (y, k) := ⟨_, _, rfl⟩
    rw [hyk] at hle hn
    have hE : endV r s es x zs = y := by unfold endV; rw [h, hyk]; rfl
    have hR : readN r s es x zs = (k : Int) := by unfold readN; rw [h, hyk]; rfl
    have hy : y ≠ -1 := by simp at hn; omega
    by_cases hk : k < zs.length
    · have hq := walkB_stop h hyk hk
      exact .inr (.inl ⟨by rw [hE]; exact hy, by rw [hR]; omega, hq.2.1, hq.1⟩)
    · have hk2 : k = zs.length := by simp at hle; omega
      have hq := walkB_end h (show wk es x zs = (y, zs.length) by rw [hyk, hk2])
      exact .inr (.inr ⟨by rw [hE]; exact hy, by rw [hR]; omega, by rw [hE]; exact hq.2.1, hq.1⟩)
end Go.Proofs.YtecceaijdjnflaaGreat
