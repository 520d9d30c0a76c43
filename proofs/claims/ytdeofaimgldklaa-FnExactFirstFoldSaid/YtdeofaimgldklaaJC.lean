/- Folding, the program: FirstFold. -/
import Derived.Test.YtdeofaimgldklaaJB
namespace Go.Proofs.Ytdeofaimgldklaa
open Go.RowKit
set_option linter.unusedVariables false
set_option linter.unusedSimpArgs false

theorem ff_pf (r s : Int) (es : List Ed) : ffB r s es = decide ((pfL r s es).length ≠ 0) ∧ ffF r s es = (pfL r s es).getD 0 zeroF := by
  unfold ffF ffB pfL
  cases h : isGr r s es with
  | false => simp [List.getD]
  | true =>
    by_cases h0 : (foldsF es).length = 0
    · have := List.eq_nil_of_length_eq_zero h0
      rw [this]
      simp [List.getD]
    · simp [h0]
theorem pf_len (r s : Int) (es : List Ed) : (pfL r s es).length ≤ 28800 := by
  unfold pfL
  split
  · rename_i h
    have h5 := (isGr_iff.1 h).2.2.2.2.2
    have h1 := foldsF_length es
    have : es.length * es.length ≤ 120 * 120 := Nat.mul_le_mul h5 h5
    omega
  · simp
set_option maxRecDepth 100000 in
set_option maxHeartbeats 3200000 in
theorem progFirst (w : World) (r s : Int) (v : Value) (es : List Ed) (h : ReadE w.heap.size w v es) (hl : es.length ≤ 100000000) :
    Calls Try.prog 12 #[.agg #[.int .i64 r, .int .i64 s, v]] w (LwFoldBool w (ffF r s es) (ffB r s es)) := by
  obtain ⟨a, cap, rfl, hnc⟩ := h.form
  obtain ⟨n, hn⟩ : ∃ n, n = es.length := ⟨_, rfl⟩
  rw [← hn] at hl hnc ⊢
  rw [← hn] at h
  obtain ⟨w0, hw0⟩ : ∃ w0, w0 = w.alloc (.cells #[.int .i64 r, .int .i64 s, .slice a n cap] 32) := ⟨_, rfl⟩
  have hb0 : Below w.heap.size w w0 := by rw [hw0]; exact (Below.refl _ _).alloc (Nat.le_refl _) _
  have hs0 : w0.heap.size = w.heap.size + 1 := by rw [hw0]; simp
  obtain ⟨g0, g1, g2⟩ := box3 hw0
  obtain ⟨w1, hw1⟩ : ∃ z, z = w0.alloc (.cells #[.int .i64 0, .int .i64 0] 27) := ⟨_, rfl⟩
  have hb01 : Below w0.heap.size w0 w1 := by rw [hw1]; exact (Below.refl _ _).alloc (Nat.le_refl _) _
  have hs1 : w1.heap.size = w.heap.size + 1 + 1 := by rw [hw1]; simp; omega
  have hk1 := heap_alloc_new w0 (.cells #[.int .i64 0, .int .i64 0] 27)
  rw [← hw1, hs0] at hk1
  have hlt0 : w.heap.size < w0.heap.size := by omega
  replace g0 := below_cell g0 hb01 hlt0
  replace g1 := below_cell g1 hb01 hlt0
  replace g2 := below_cell g2 hb01 hlt0
  have hb1 : Below w.heap.size w w1 := hb0.trans (hb01.mono (by omega))
  have hcf := progFolds w1 r s (.slice a n cap) es ((h.below hb1).mono hb1.size) (by omega)
  obtain ⟨L, hL⟩ : ∃ L, L = pfL r s es := ⟨_, rfl⟩
  obtain ⟨hB, hF⟩ := ff_pf r s es
  have hLl := pf_len r s es
  rw [← hL] at hcf hB hF hLl
  obtain ⟨F, hFF⟩ : ∃ F, F = L.getD 0 zeroF := ⟨_, rfl⟩
  obtain ⟨C, hC⟩ : ∃ C, C = decide (L.length ≠ 0) := ⟨_, rfl⟩
  rw [← hC] at hB
  rw [← hFF] at hF
  rw [hB, hF]
  replace hFF := hidI hFF
  replace hC := hidI hC
  have hend : ∀ (W : World) (x y : Int), Below w.heap.size w W → Below w.heap.size w ((W.setCell ⟨w.heap.size + 1, 0, none⟩ (.int .i64 x)).setCell ⟨w.heap.size + 1, 1, none⟩ (.int .i64 y)) := fun W x y hW =>
    (hW.setCell (p := ⟨w.heap.size + 1, 0, none⟩) (by simp) _).setCell (p := ⟨w.heap.size + 1, 1, none⟩) (by simp) _
  replace hn := hidI hn
  replace hL := hidI hL
  replace hB := hidI hB
  replace hF := hidI hF
  replace h := hidI h
  replace hk1 := hidI hk1
  replace hend := hidI hend
  have hww : (w.alloc (.cells #[.int .i64 r, .int .i64 s, .slice a n cap] 32)).alloc (.cells #[.int .i64 0, .int .i64 0] 27) = w1 := by rw [hw1, hw0]
  replace hww := hidI hww
  replace hw0 := hidI hw0
  replace hw1 := hidI hw1
  replace hs0 := hidI hs0
  replace hs1 := hidI hs1
  clear hb01
  go_enter Try.func12, Try.ntmps12
  go_upto_region 1 with fail
  rw [hww.out]
  go_wp2_with fail
  refine hcf.mono ?_
  rintro e w3 ⟨aL, capL, rfl, hrow, hb3⟩
  clear hcf g0 g1 g2
  have hlt2 : w.heap.size + 1 < w1.heap.size := by have := hs1.out; omega
  have hk3 := hidI (show w3.heap[w.heap.size + 1]? = some (.cells #[.int .i64 0, .int .i64 0] 27 (0, 0)) by rw [hb3.block _ hlt2]; exact hk1.out)
  have hb13 := hidI (hb1.trans (hb3.mono hb1.size))
  have y0 := cell_of_heap hk3.out 0
  have y1 := cell_of_heap hk3.out 1
  have f1 := fun j => frozen_of_row w3 (w.heap.size + 1) j _ _ hk3.out
  simp at y0 y1
  by_cases h0 : L.length = 0
  · have hFz : F = (0, 0) := by rw [hFF.out, List.eq_nil_of_length_eq_zero h0]; rfl
    have hd : C = false := by rw [hC.out]; simp [h0]
    subst hd
    rw [h0] at hrow ⊢
    have t0 : (((0 : Nat) : Int) == 0) = true := by simp
    have hr := hidI (hend.out w3 0 0 hb13.out)
    have hset := hidI (set2F hk3.out (.int .i64 0) (.int .i64 0))
    subst hFz
    replace h0 := hidI h0
    replace hrow := hidI hrow
    go_wp2
    (try simp only [Exit.inBlock, Exit.then])
    refine ret_cell2 (x := .bool false) rfl rfl rfl hset.out Try.underlying27 sizeFold ?_
    exact ⟨rfl, hr.out⟩
  · have hd : C = true := by rw [hC.out]; simp [h0]
    subst hd
    obtain ⟨nL, hnL⟩ : ∃ z, z = L.length := ⟨_, rfl⟩
    have hrd : ReadF w3.heap.size w3 (.slice aL nL capL) L := by rw [hnL]; exact hrow.read
    rw [← hnL] at hrow ⊢
    have hpos : (0 : Int) < (nL : Int) := by omega
    have t0 : ((nL : Int) == 0) = false := by rw [beq_eq_false_iff_ne]; omega
    obtain ⟨b, off, haL, hbB, c0, c1⟩ := ReadF.cells hrd 0 (by omega)
    subst haL
    rw [← hFF.out] at c0 c1
    simp only [Nat.zero_mul, Nat.add_zero] at c0 c1
    obtain ⟨k, d⟩ := F
    simp only at c0 c1
    have hr := hidI (hend.out w3 k d hb13.out)
    have hset := hidI (set2F hk3.out (.int .i64 k) (.int .i64 d))
    replace hnL := hidI hnL
    replace h0 := hidI h0
    replace hrow := hidI hrow
    replace hrd := hidI hrd
    go_wp2
    (try simp only [Exit.inBlock, Exit.then])
    refine ret_cell2 (x := .bool true) rfl rfl rfl hset.out Try.underlying27 sizeFold ?_
    exact ⟨rfl, hr.out⟩
end Go.Proofs.Ytdeofaimgldklaa
