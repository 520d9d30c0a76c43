/- Trees, the model: EulerNumber, RankOf. -/
import Derived.Test.YtacmpbekgipkfaaZA
import Derived.Test.YtacmpbekgipkfaaQC
namespace Go.Proofs.Ytacmpbekgipkfaa
open Go.RowKit
set_option linter.unusedVariables false
set_option linter.unusedSimpArgs false

/-- EulerNumber's answer. -/
def euN (r s : Int) (es : List Ed) : Int := if isGr r s es = true then s - (es.length : Int) else 0
/-- RankOf's answer. -/
def rkN (r s : Int) (es : List Ed) : Int := if isCo r s es = true then (es.length : Int) - s + 1 else -1
set_option maxHeartbeats 3200000 in
theorem specEuler (w : World) (r s : Int) (v : Value) (es : List Ed) (h : ReadE w.heap.size w v es) (hs : -9223372036854775808 ≤ s ∧ s ≤ 9223372036854775807) (hl : es.length ≤ 10000000) :
    Calls Try.prog 31 #[.agg #[.int .i64 r, .int .i64 s, v]] w (LwInt w (euN r s es)) := by
  obtain ⟨a, cap, rfl, hnc⟩ := h.form
  obtain ⟨n, hn⟩ : ∃ n, n = es.length := ⟨_, rfl⟩
  rw [← hn] at hl hnc ⊢
  rw [← hn] at h
  obtain ⟨w1, hw1⟩ : ∃ w1, w1 = w.alloc (.cells #[.int .i64 r, .int .i64 s, .slice a n cap] 29) := ⟨_, rfl⟩
  have hb1 : Below w.heap.size w w1 := by rw [hw1]; exact (Below.refl _ _).alloc (Nat.le_refl _) _
  have hs1 : w.heap.size < w1.heap.size := by rw [hw1]; simp
  obtain ⟨g0, g1, g2⟩ := box3 hw1
  have hco := specIsGr w1 r s (.slice a n cap) es ((h.below hb1).mono hb1.size) hs (by omega)
  obtain ⟨B, hB⟩ : ∃ B, B = isGr r s es := ⟨_, rfl⟩
  obtain ⟨F, hF⟩ : ∃ F, F = euN r s es := ⟨_, rfl⟩
  rw [← hB] at hco
  rw [← hF]
  have hno : B = false → F = 0 := fun q => by rw [hF]; unfold euN; rw [← hB, q]; rfl
  have hyes : B = true → F = s - (n : Int) ∧ 1 ≤ s ∧ s ≤ 40 := fun q => by
    have hl := isGr_lim (hB ▸ q : isGr r s es = true)
    rw [hF]; unfold euN; rw [← hB, q, hn]; exact ⟨rfl, by omega, by omega⟩
  replace hno := hidI hno
  replace hyes := hidI hyes
  replace hF := hidI hF
  replace hB := hidI hB
  replace hn := hidI hn
  replace h := hidI h
  replace hw1 := hidI hw1
  go_enter Try.func31, Try.ntmps31
  go_wp2_with fail
  rw [← hw1.out]
  refine hco.mono ?_
  rintro e w2 ⟨rfl, hb2⟩
  clear hco
  have p0 := below_cell g0 hb2 hs1
  have p1 := below_cell g1 hb2 hs1
  have p2 := below_cell g2 hb2 hs1
  have hbq := hidI (hb1.trans (hb2.mono hb1.size))
  clear g0 g1 g2 hb2
  cases B with
  | false =>
    have hfin : Hid (F = 0) := hidI (hno.out rfl)
    replace hB := hidI hB
    go_wp2
    go_ret
    exact ⟨ret_i hfin.out.symm, hbq.out⟩
  | true =>
    obtain ⟨h1, h2, h3⟩ := hyes.out rfl
    have hfin := hidI h1
    have hw : IntKind.i64.wrap (s - (n : Int)) = s - (n : Int) := IntWalk.i64_in _ ⟨by omega, by omega⟩
    replace hB := hidI hB
    clear h1
    go_wp2
    go_ret
    exact ⟨ret_i hfin.out.symm, hbq.out⟩
set_option maxHeartbeats 3200000 in
theorem specRankOf (w : World) (r s : Int) (v : Value) (es : List Ed) (h : ReadE w.heap.size w v es) (hs : -9223372036854775808 ≤ s ∧ s ≤ 9223372036854775807) (hl : es.length ≤ 10000000) :
    Calls Try.prog 29 #[.agg #[.int .i64 r, .int .i64 s, v]] w (LwInt w (rkN r s es)) := by
  obtain ⟨a, cap, rfl, hnc⟩ := h.form
  obtain ⟨n, hn⟩ : ∃ n, n = es.length := ⟨_, rfl⟩
  rw [← hn] at hl hnc ⊢
  rw [← hn] at h
  obtain ⟨w1, hw1⟩ : ∃ w1, w1 = w.alloc (.cells #[.int .i64 r, .int .i64 s, .slice a n cap] 29) := ⟨_, rfl⟩
  have hb1 : Below w.heap.size w w1 := by rw [hw1]; exact (Below.refl _ _).alloc (Nat.le_refl _) _
  have hs1 : w.heap.size < w1.heap.size := by rw [hw1]; simp
  obtain ⟨g0, g1, g2⟩ := box3 hw1
  have hco := specIsSub w1 r s (.slice a n cap) es ((h.below hb1).mono hb1.size) hs (by omega)
  obtain ⟨B, hB⟩ : ∃ B, B = isCo r s es := ⟨_, rfl⟩
  obtain ⟨F, hF⟩ : ∃ F, F = rkN r s es := ⟨_, rfl⟩
  rw [← hB] at hco
  rw [← hF]
  have hno : B = false → F = -1 := fun q => by rw [hF]; unfold rkN; rw [← hB, q]; rfl
  have hyes : B = true → F = (n : Int) - s + 1 ∧ 1 ≤ s ∧ s ≤ 40 := fun q => by
    have hl := co_lim (hB ▸ q : isCo r s es = true)
    rw [hF]; unfold rkN; rw [← hB, q, hn]; exact ⟨rfl, by omega, by omega⟩
  replace hno := hidI hno
  replace hyes := hidI hyes
  replace hF := hidI hF
  replace hB := hidI hB
  replace hn := hidI hn
  replace h := hidI h
  replace hw1 := hidI hw1
  go_enter Try.func29, Try.ntmps29
  go_wp2_with fail
  rw [← hw1.out]
  refine hco.mono ?_
  rintro e w2 ⟨rfl, hb2⟩
  clear hco
  have p0 := below_cell g0 hb2 hs1
  have p1 := below_cell g1 hb2 hs1
  have p2 := below_cell g2 hb2 hs1
  have hbq := hidI (hb1.trans (hb2.mono hb1.size))
  clear g0 g1 g2 hb2
  cases B with
  | false =>
    have hfin : Hid (F = -1) := hidI (hno.out rfl)
    replace hB := hidI hB
    go_wp2
    go_ret
    exact ⟨ret_i hfin.out.symm, hbq.out⟩
  | true =>
    obtain ⟨h1, h2, h3⟩ := hyes.out rfl
    have hfin := hidI h1
    have hw : IntKind.i64.wrap ((n : Int) - s) = (n : Int) - s := IntWalk.i64_in _ ⟨by omega, by omega⟩
    have hw2 : IntKind.i64.wrap ((n : Int) - s + 1) = (n : Int) - s + 1 := IntWalk.i64_in _ ⟨by omega, by omega⟩
    replace hB := hidI hB
    clear h1
    go_wp2
    go_ret
    exact ⟨ret_i hfin.out.symm, hbq.out⟩
end Go.Proofs.Ytacmpbekgipkfaa
