/- Trees, the program: EulerNumber, RankOf. -/
import Derived.Test.YtacmpbekgipkfaaEA
import Derived.Test.YtacmpbekgipkfaaYA
import Derived.Test.YtacmpbekgipkfaaQF
import Derived.Deep.Cut
namespace Go.Proofs.Ytacmpbekgipkfaa
open Go.RowKit
set_option linter.unusedVariables false
set_option linter.unusedSimpArgs false

set_option maxHeartbeats 3200000 in
theorem progEuler (w : World) (r s : Int) (v : Value) (es : List Ed) (h : ReadE w.heap.size w v es) (hl : es.length ≤ 10000000) :
    Calls Try.prog 32 #[.agg #[.int .i64 r, .int .i64 s, v]] w (LwInt w (euN r s es)) := by
  obtain ⟨a, cap, rfl, hnc⟩ := h.form
  obtain ⟨n, hn⟩ : ∃ n, n = es.length := ⟨_, rfl⟩
  rw [← hn] at hl hnc ⊢
  rw [← hn] at h
  obtain ⟨w1, hw1⟩ : ∃ w1, w1 = w.alloc (.cells #[.int .i64 r, .int .i64 s, .slice a n cap] 29) := ⟨_, rfl⟩
  have hb1 : Below w.heap.size w w1 := by rw [hw1]; exact (Below.refl _ _).alloc (Nat.le_refl _) _
  have hs1 : w.heap.size < w1.heap.size := by rw [hw1]; simp
  obtain ⟨g0, g1, g2⟩ := box3 hw1
  have hco := progIsGr w1 r s (.slice a n cap) es ((h.below hb1).mono hb1.size) (by omega)
  obtain ⟨B, hB⟩ : ∃ B, B = isGr r s es := ⟨_, rfl⟩
  obtain ⟨F, hF⟩ : ∃ F, F = euN r s es := ⟨_, rfl⟩
  rw [← hB] at hco
  rw [← hF]
  have hno : B = false → F = 0 := fun q => by rw [hF]; unfold euN; rw [← hB, q]; rfl
  have hyes : B = true → F = s - (n : Int) ∧ 1 ≤ s ∧ s ≤ 40 := fun q => by
    have hl := isGr_lim (hB ▸ q : isGr r s es = true)
    rw [hF]; unfold euN; rw [← hB, q, hn]; exact ⟨rfl, by omega, by omega⟩
  replace hno := hidI hno
  replace hyes := hidI hyes
  replace hF := hidI hF
  replace hB := hidI hB
  replace hn := hidI hn
  replace h := hidI h
  have hw1' := hidI hw1.symm
  replace hw1 := hidI hw1
  go_enter Try.func32, Try.ntmps32
  go_upto_region 1 with fail
  rw [hw1'.out]
  go_wp2_with fail
  refine hco.mono ?_
  rintro e w2 ⟨rfl, hb2⟩
  clear hco
  have p0 := below_cell g0 hb2 hs1
  have p1 := below_cell g1 hb2 hs1
  have p2 := below_cell g2 hb2 hs1
  have hbq := hidI (hb1.trans (hb2.mono hb1.size))
  clear g0 g1 g2 hb2
  cases B with
  | false =>
    have hfin : Hid (F = 0) := hidI (hno.out rfl)
    replace hB := hidI hB
    go_wp2
    go_ret
    exact ⟨ret_i hfin.out.symm, hbq.out⟩
  | true =>
    obtain ⟨h1, h2, h3⟩ := hyes.out rfl
    have hfin := hidI h1
    have hw : IntKind.i64.wrap (s - (n : Int)) = s - (n : Int) := IntWalk.i64_in _ ⟨by omega, by omega⟩
    replace hB := hidI hB
    clear h1
    go_wp2
    go_ret
    exact ⟨ret_i hfin.out.symm, hbq.out⟩
set_option maxHeartbeats 3200000 in
theorem progRankOf (w : World) (r s : Int) (v : Value) (es : List Ed) (h : ReadE w.heap.size w v es) (hl : es.length ≤ 10000000) :
    Calls Try.prog 30 #[.agg #[.int .i64 r, .int .i64 s, v]] w (LwInt w (rkN r s es)) := by
  obtain ⟨a, cap, rfl, hnc⟩ := h.form
  obtain ⟨n, hn⟩ : ∃ n, n = es.length := ⟨_, rfl⟩
  rw [← hn] at hl hnc ⊢
  rw [← hn] at h
  obtain ⟨w1, hw1⟩ : ∃ w1, w1 = w.alloc (.cells #[.int .i64 r, .int .i64 s, .slice a n cap] 29) := ⟨_, rfl⟩
  have hb1 : Below w.heap.size w w1 := by rw [hw1]; exact (Below.refl _ _).alloc (Nat.le_refl _) _
  have hs1 : w.heap.size < w1.heap.size := by rw [hw1]; simp
  obtain ⟨g0, g1, g2⟩ := box3 hw1
  have hco := progIsSub w1 r s (.slice a n cap) es ((h.below hb1).mono hb1.size) (by omega)
  obtain ⟨B, hB⟩ : ∃ B, B = isCo r s es := ⟨_, rfl⟩
  obtain ⟨F, hF⟩ : ∃ F, F = rkN r s es := ⟨_, rfl⟩
  rw [← hB] at hco
  rw [← hF]
  have hno : B = false → F = -1 := fun q => by rw [hF]; unfold rkN; rw [← hB, q]; rfl
  have hyes : B = true → ∃ E, E = euN r s es ∧ F = 1 - E ∧ -200 ≤ E ∧ E ≤ 200 := fun q => by
    have hl := co_lim (hB ▸ q : isCo r s es = true)
    refine ⟨_, rfl, ?_⟩
    rw [hF]; unfold rkN euN; rw [← hB, q, hl.1, if_pos rfl, if_pos rfl]; omega
  have hsec := fun (W : World) (hW : Below w.heap.size w W) => progEuler W r s (.slice a n cap) es ((h.below hW).mono hW.size) (by omega)
  replace hsec := hidI hsec
  replace hno := hidI hno
  replace hyes := hidI hyes
  replace hF := hidI hF
  replace hB := hidI hB
  replace hn := hidI hn
  replace h := hidI h
  have hw1' := hidI hw1.symm
  replace hw1 := hidI hw1
  go_enter Try.func30, Try.ntmps30
  go_upto_region 1 with fail
  rw [hw1'.out]
  go_wp2_with fail
  refine hco.mono ?_
  rintro e w2 ⟨rfl, hb2⟩
  clear hco
  have p0 := below_cell g0 hb2 hs1
  have p1 := below_cell g1 hb2 hs1
  have p2 := below_cell g2 hb2 hs1
  have hbq := hidI (hb1.trans (hb2.mono hb1.size))
  clear g0 g1 g2 hb2
  cases B with
  | false =>
    have hfin : Hid (F = -1) := hidI (hno.out rfl)
    replace hB := hidI hB
    go_wp2
    go_ret
    exact ⟨ret_i hfin.out.symm, hbq.out⟩
  | true =>
    obtain ⟨E, hE, hFE, h2, h3⟩ := hyes.out rfl
    have hfin := hidI hFE
    have hw : IntKind.i64.wrap (1 - E) = 1 - E := IntWalk.i64_in _ ⟨by omega, by omega⟩
    have hcall := hsec.out w2 hbq.out
    rw [← hE] at hcall
    replace hB := hidI hB
    replace hE := hidI hE
    clear hFE
    go_wp2_with fail
    refine hcall.mono ?_
    rintro e w3 ⟨rfl, hb3⟩
    have hbz := hidI (hbq.out.trans (hb3.mono hbq.out.size))
    clear hcall hb3
    go_wp2
    go_ret
    exact ⟨ret_i hfin.out.symm, hbz.out⟩
end Go.Proofs.Ytacmpbekgipkfaa
