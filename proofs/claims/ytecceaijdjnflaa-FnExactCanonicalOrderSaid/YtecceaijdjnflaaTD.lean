/- Cores, the model: IsTree. -/
import Derived.Test.YtecceaijdjnflaaFS5
namespace Go.Proofs.Ytecceaijdjnflaa
open Go.RowKit
set_option linter.unusedVariables false
set_option linter.unusedSimpArgs false

def treG (r s : Int) (es : List Ed) : Bool := conG r s es && decide ((es.length : Int) = s - 1)
set_option maxHeartbeats 3200000 in
theorem specTree (w : World) (r s : Int) (v : Value) (es : List Ed) (h : ReadE w.heap.size w v es) (hs : -9223372036854775808 ≤ s ∧ s ≤ 9223372036854775807) (hl : es.length ≤ 10000000) :
    Calls Try.prog 28 #[.agg #[.int .i64 r, .int .i64 s, v]] w (LwBool w (treG r s es)) := by
  obtain ⟨a, cap, rfl, hnc⟩ := h.form
  obtain ⟨n, hn⟩ : ∃ n, n = es.length := ⟨_, rfl⟩
  rw [← hn] at hl hnc ⊢
  rw [← hn] at h
  obtain ⟨w1, hw1⟩ : ∃ w1, w1 = w.alloc (.cells #[.int .i64 r, .int .i64 s, .slice a n cap] 28) := ⟨_, rfl⟩
  have hb1 : Below w.heap.size w w1 := by rw [hw1]; exact (Below.refl _ _).alloc (Nat.le_refl _) _
  have hs1 : w.heap.size < w1.heap.size := by rw [hw1]; simp
  obtain ⟨g0, g1, g2⟩ := box3 hw1
  have hco := specCon w1 r s (.slice a n cap) es ((h.below hb1).mono hb1.size) hs (by omega)
  obtain ⟨B, hB⟩ : ∃ B, B = conG r s es := ⟨_, rfl⟩
  rw [← hB] at hco
  obtain ⟨F, hF⟩ : ∃ F, F = treG r s es := ⟨_, rfl⟩
  rw [← hF]
  have hFe : F = (B && decide ((n : Int) = s - 1)) := by rw [hF, hB, hn]; rfl
  have hsr : B = true → 1 ≤ s ∧ s ≤ 40 := fun hb => by
    rw [hB, conG, Bool.and_eq_true] at hb
    have := isGr_iff.1 hb.1
    omega
  replace hFe := hidI hFe
  replace hF := hidI hF
  replace hB := hidI hB
  replace hn := hidI hn
  replace h := hidI h
  replace hw1 := hidI hw1
  replace hsr := hidI hsr
  go_enter Try.func28, Try.ntmps28
  go_wp2_with fail
  rw [← hw1.out]
  refine hco.mono ?_
  rintro e w2 ⟨rfl, hb2⟩
  clear hco
  have p0 := below_cell g0 hb2 hs1
  have p1 := below_cell g1 hb2 hs1
  have p2 := below_cell g2 hb2 hs1
  have hbq := hb1.trans (hb2.mono hb1.size)
  clear g0 g1 g2
  cases B with
  | false =>
    have hfin : Hid (F = false) := hidI hFe.out
    replace hFe := hidI hFe
    replace hB := hidI hB
    replace hsr := hidI hsr
    go_wp2
    go_ret
    exact ⟨ret_bool hfin.out.symm, hbq⟩
  | true =>
    have hsl := hsr.out rfl
    have hsub : IntKind.i64.wrap (s - 1) = s - 1 := IntWalk.i64_in _ (by omega)
    replace hB := hidI hB
    by_cases e : (n : Int) = s - 1
    · have hfin : Hid (F = true) := hidI (by rw [hFe.out, decide_eq_true e]; rfl)
      have he : ((n : Int) == s - 1) = true := by rw [beq_iff_eq]; exact e
      replace e := hidI e
      replace hFe := hidI hFe
      replace hsr := hidI hsr
      go_wp2
      go_ret
      exact ⟨ret_bool hfin.out.symm, hbq⟩
    · have hfin : Hid (F = false) := hidI (by rw [hFe.out, decide_eq_false e]; rfl)
      have he : ((n : Int) == s - 1) = false := by rw [beq_eq_false_iff_ne]; exact e
      replace e := hidI e
      replace hFe := hidI hFe
      replace hsr := hidI hsr
      go_wp2
      go_ret
      exact ⟨ret_bool hfin.out.symm, hbq⟩
end Go.Proofs.Ytecceaijdjnflaa
