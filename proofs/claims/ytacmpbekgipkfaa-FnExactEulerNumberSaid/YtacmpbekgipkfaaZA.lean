/- Subgroups, the model: IsSubgroup, IsTrivial, IsWhole. -/
import Derived.Test.YtacmpbekgipkfaaZN
namespace Go.Proofs.Ytacmpbekgipkfaa
open Go.RowKit
set_option linter.unusedVariables false
set_option linter.unusedSimpArgs false

set_option maxHeartbeats 3200000 in
theorem specIsSub (w : World) (r s : Int) (v : Value) (es : List Ed) (h : ReadE w.heap.size w v es) (hs : -9223372036854775808 ≤ s ∧ s ≤ 9223372036854775807) (hl : es.length ≤ 10000000) :
    Calls Try.prog 49 #[.agg #[.int .i64 r, .int .i64 s, v]] w (LwBool w (isCo r s es)) := by
  obtain ⟨a, cap, rfl, hnc⟩ := h.form
  obtain ⟨n, hn⟩ : ∃ n, n = es.length := ⟨_, rfl⟩
  rw [← hn] at hl hnc ⊢
  rw [← hn] at h
  obtain ⟨w1, hw1⟩ : ∃ w1, w1 = w.alloc (.cells #[.int .i64 r, .int .i64 s, .slice a n cap] 29) := ⟨_, rfl⟩
  have hb1 : Below w.heap.size w w1 := by rw [hw1]; exact (Below.refl _ _).alloc (Nat.le_refl _) _
  have hs1 : w.heap.size < w1.heap.size := by rw [hw1]; simp
  obtain ⟨g0, g1, g2⟩ := box3 hw1
  have hco := specIsCo w1 r s (.slice a n cap) es (by have := (h.below hb1).mono hb1.size; exact this) hs (by omega)
  obtain ⟨B, hB⟩ : ∃ B, B = isCo r s es := ⟨_, rfl⟩
  rw [← hB] at hco ⊢
  replace hB := hidI hB
  replace hn := hidI hn
  replace h := hidI h
  replace hw1 := hidI hw1
  go_enter Try.func49, Try.ntmps49
  go_wp2_with fail
  rw [← hw1.out]
  refine hco.mono ?_
  rintro e w2 ⟨rfl, hb2⟩
  clear hco g0 g1 g2
  have hbq := hb1.trans (hb2.mono hb1.size)
  go_wp2
  go_ret
  exact ⟨ret_bool rfl, hbq⟩
end Go.Proofs.Ytacmpbekgipkfaa
