/- Subgroups, the model: IsSubgroup, IsTrivial, IsWhole. -/
import Derived.Test.YtjnhhhnehkmfmaaZN
namespace Go.Proofs.Ytjnhhhnehkmfmaa
open Go.RowKit
set_option linter.unusedVariables false
set_option linter.unusedSimpArgs false

set_option maxHeartbeats 3200000 in
theorem specIsSub (w : World) (r s : Int) (v : Value) (es : List Ed) (h : ReadE w.heap.size w v es) (hs : -9223372036854775808 ≤ s ∧ s ≤ 9223372036854775807) (hl : es.length ≤ 10000000) :
    Calls Try.prog 13 #[.agg #[.int .i64 r, .int .i64 s, v]] w (LwBool w (isCo r s es)) := by
  obtain ⟨a, cap, rfl, hnc⟩ := h.form
  obtain ⟨n, hn⟩ : ∃ n, n = es.length := ⟨_, rfl⟩
  rw [← hn] at hl hnc ⊢
  rw [← hn] at h
  obtain ⟨w1, hw1⟩ : ∃ w1, w1 = w.alloc (.cells #[.int .i64 r, .int .i64 s, .slice a n cap] 29) := ⟨_, rfl⟩
  have hb1 : Below w.heap.size w w1 := by rw [hw1]; exact (Below.refl _ _).alloc (Nat.le_refl _) _
  have hs1 : w.heap.size < w1.heap.size := by rw [hw1]; simp
  obtain ⟨g0, g1, g2⟩ := box3 hw1
  have hco := specIsCo w1 r s (.slice a n cap) es (by have := (h.below hb1).mono hb1.size; exact this) hs (by omega)
  obtain ⟨B, hB⟩ : ∃ B, B = isCo r s es := ⟨_, rfl⟩
  rw [← hB] at hco ⊢
  replace hB := hidI hB
  replace hn := hidI hn
  replace h := hidI h
  replace hw1 := hidI hw1
  go_enter Try.func13, Try.ntmps13
  go_wp2_with fail
  rw [← hw1.out]
  refine hco.mono ?_
  rintro e w2 ⟨rfl, hb2⟩
  clear hco g0 g1 g2
  have hbq := hb1.trans (hb2.mono hb1.size)
  go_wp2
  go_ret
  exact ⟨ret_bool rfl, hbq⟩
set_option maxHeartbeats 3200000 in
theorem specIsTriv (w : World) (r s : Int) (v : Value) (es : List Ed) (h : ReadE w.heap.size w v es) (hs : -9223372036854775808 ≤ s ∧ s ≤ 9223372036854775807) (hl : es.length ≤ 10000000) :
    Calls Try.prog 29 #[.agg #[.int .i64 r, .int .i64 s, v]] w (LwBool w (suTr r s es)) := by
  obtain ⟨a, cap, rfl, hnc⟩ := h.form
  obtain ⟨n, hn⟩ : ∃ n, n = es.length := ⟨_, rfl⟩
  rw [← hn] at hl hnc ⊢
  rw [← hn] at h
  obtain ⟨w1, hw1⟩ : ∃ w1, w1 = w.alloc (.cells #[.int .i64 r, .int .i64 s, .slice a n cap] 29) := ⟨_, rfl⟩
  have hb1 : Below w.heap.size w w1 := by rw [hw1]; exact (Below.refl _ _).alloc (Nat.le_refl _) _
  have hs1 : w.heap.size < w1.heap.size := by rw [hw1]; simp
  obtain ⟨g0, g1, g2⟩ := box3 hw1
  have hco := specIsSub w1 r s (.slice a n cap) es ((h.below hb1).mono hb1.size) hs (by omega)
  obtain ⟨B, hB⟩ : ∃ B, B = isCo r s es := ⟨_, rfl⟩
  rw [← hB] at hco
  obtain ⟨F, hF⟩ : ∃ F, F = suTr r s es := ⟨_, rfl⟩
  rw [← hF]
  have hFe : F = (B && decide ((n : Int) = 0)) := by rw [hF, hB, hn]; rfl
  replace hFe := hidI hFe
  replace hF := hidI hF
  replace hB := hidI hB
  replace hn := hidI hn
  replace h := hidI h
  replace hw1 := hidI hw1
  go_enter Try.func29, Try.ntmps29
  go_wp2_with fail
  rw [← hw1.out]
  refine hco.mono ?_
  rintro e w2 ⟨rfl, hb2⟩
  clear hco
  have p0 := below_cell g0 hb2 hs1
  have p1 := below_cell g1 hb2 hs1
  have p2 := below_cell g2 hb2 hs1
  have hbq := hb1.trans (hb2.mono hb1.size)
  clear g0 g1 g2
  cases B with
  | false =>
    have hfin : Hid (F = false) := hidI hFe.out
    replace hFe := hidI hFe
    replace hB := hidI hB
    go_wp2
    go_ret
    exact ⟨ret_bool hfin.out.symm, hbq⟩
  | true =>
    replace hB := hidI hB
    by_cases e : (n : Int) = 0
    · have hfin : Hid (F = true) := hidI (by rw [hFe.out, decide_eq_true e]; rfl)
      have he : ((n : Int) == 0) = true := by rw [beq_iff_eq]; exact e
      replace e := hidI e
      replace hFe := hidI hFe
      go_wp2
      go_ret
      exact ⟨ret_bool hfin.out.symm, hbq⟩
    · have hfin : Hid (F = false) := hidI (by rw [hFe.out, decide_eq_false e]; rfl)
      have he : ((n : Int) == 0) = false := by rw [beq_eq_false_iff_ne]; exact e
      replace e := hidI e
      replace hFe := hidI hFe
      go_wp2
      go_ret
      exact ⟨ret_bool hfin.out.symm, hbq⟩
set_option maxHeartbeats 3200000 in
theorem specIsWhole (w : World) (r s : Int) (v : Value) (es : List Ed) (h : ReadE w.heap.size w v es) (hs : -9223372036854775808 ≤ s ∧ s ≤ 9223372036854775807) (hl : es.length ≤ 10000000) :
    Calls Try.prog 31 #[.agg #[.int .i64 r, .int .i64 s, v]] w (LwBool w (suWh r s es)) := by
  obtain ⟨a, cap, rfl, hnc⟩ := h.form
  obtain ⟨n, hn⟩ : ∃ n, n = es.length := ⟨_, rfl⟩
  rw [← hn] at hl hnc ⊢
  rw [← hn] at h
  obtain ⟨w1, hw1⟩ : ∃ w1, w1 = w.alloc (.cells #[.int .i64 r, .int .i64 s, .slice a n cap] 29) := ⟨_, rfl⟩
  have hb1 : Below w.heap.size w w1 := by rw [hw1]; exact (Below.refl _ _).alloc (Nat.le_refl _) _
  have hs1 : w.heap.size < w1.heap.size := by rw [hw1]; simp
  obtain ⟨g0, g1, g2⟩ := box3 hw1
  have hco := specIsSub w1 r s (.slice a n cap) es ((h.below hb1).mono hb1.size) hs (by omega)
  obtain ⟨B, hB⟩ : ∃ B, B = isCo r s es := ⟨_, rfl⟩
  rw [← hB] at hco
  obtain ⟨F, hF⟩ : ∃ F, F = suWh r s es := ⟨_, rfl⟩
  rw [← hF]
  have hFe : F = (B && decide (s = 1) && decide ((n : Int) = r)) := by rw [hF, hB, hn]; rfl
  replace hFe := hidI hFe
  replace hF := hidI hF
  replace hB := hidI hB
  replace hn := hidI hn
  replace h := hidI h
  replace hw1 := hidI hw1
  go_enter Try.func31, Try.ntmps31
  go_wp2_with fail
  rw [← hw1.out]
  refine hco.mono ?_
  rintro e w2 ⟨rfl, hb2⟩
  clear hco
  have p0 := below_cell g0 hb2 hs1
  have p1 := below_cell g1 hb2 hs1
  have p2 := below_cell g2 hb2 hs1
  have hbq := hb1.trans (hb2.mono hb1.size)
  clear g0 g1 g2
  cases B with
  | false =>
    have hfin : Hid (F = false) := hidI hFe.out
    replace hFe := hidI hFe
    replace hB := hidI hB
    go_wp2
    go_ret
    exact ⟨ret_bool hfin.out.symm, hbq⟩
  | true =>
    replace hB := hidI hB
    by_cases e1 : s = 1
    · have he1 : (s == 1) = true := by rw [beq_iff_eq]; exact e1
      by_cases e : (n : Int) = r
      · have hfin : Hid (F = true) := hidI (by rw [hFe.out, decide_eq_true e, decide_eq_true e1]; rfl)
        have he : ((n : Int) == r) = true := by rw [beq_iff_eq]; exact e
        replace e := hidI e
        replace e1 := hidI e1
        replace hFe := hidI hFe
        go_wp2
        go_ret
        exact ⟨ret_bool hfin.out.symm, hbq⟩
      · have hfin : Hid (F = false) := hidI (by rw [hFe.out, decide_eq_false e, decide_eq_true e1]; rfl)
        have he : ((n : Int) == r) = false := by rw [beq_eq_false_iff_ne]; exact e
        replace e := hidI e
        replace e1 := hidI e1
        replace hFe := hidI hFe
        go_wp2
        go_ret
        exact ⟨ret_bool hfin.out.symm, hbq⟩
    · have hfin : Hid (F = false) := hidI (by rw [hFe.out, decide_eq_false e1]; rfl)
      have he1 : (s == 1) = false := by rw [beq_eq_false_iff_ne]; exact e1
      replace e1 := hidI e1
      replace hFe := hidI hFe
      go_wp2
      go_ret
      exact ⟨ret_bool hfin.out.symm, hbq⟩
end Go.Proofs.Ytjnhhhnehkmfmaa
