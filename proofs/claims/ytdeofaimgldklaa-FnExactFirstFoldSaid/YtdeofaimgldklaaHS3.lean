/- Folding, the model: FirstFold. -/
import Derived.Test.YtdeofaimgldklaaHS2
import Derived.Test.YtdeofaimgldklaaGS2
import Derived.Test.YtdeofaimgldklaaGS3
namespace Go.Proofs.Ytdeofaimgldklaa
open Go.RowKit
set_option linter.unusedVariables false
set_option linter.unusedSimpArgs false

/-- What a function leaves that hands back a fold and a bool. -/
def LwFoldBool (w : World) (f : tupF) (b : Bool) (e : Ending) (w' : World) : Prop := e = .returned (.tuple #[.agg #[.int .i64 f.1, .int .i64 f.2], .bool b]) ∧ Below w.heap.size w w'
theorem set2F {w : World} {g : Nat} {T : TypeId} {x0 x1 : Value} (h : w.heap[g]? = some (.cells #[x0, x1] T (0, 0))) (v0 v1 : Value) :
    ((w.setCell ⟨g, 0, none⟩ v0).setCell ⟨g, 1, none⟩ v1).heap[g]? = some (.cells #[v0, v1] T (0, 0)) := by
  have h3 := heap_setCell_same _ g 1 _ T v1 (heap_setCell_same w g 0 _ T v0 h)
  simpa using h3
set_option maxRecDepth 100000 in
set_option maxHeartbeats 3200000 in
theorem specFirst (w : World) (r s : Int) (v : Value) (es : List Ed) (h : ReadE w.heap.size w v es) (hs : -9223372036854775808 ≤ s ∧ s ≤ 9223372036854775807) (hl : es.length ≤ 100000000) :
    Calls Try.prog 10 #[.agg #[.int .i64 r, .int .i64 s, v]] w (LwFoldBool w (ffF r s es) (ffB r s es)) := by
  obtain ⟨a, cap, rfl, hnc⟩ := h.form
  obtain ⟨n, hn⟩ : ∃ n, n = es.length := ⟨_, rfl⟩
  rw [← hn] at hl hnc ⊢
  rw [← hn] at h
  obtain ⟨w0, hw0⟩ : ∃ w0, w0 = w.alloc (.cells #[.int .i64 r, .int .i64 s, .slice a n cap] 32) := ⟨_, rfl⟩
  have hb0 : Below w.heap.size w w0 := by rw [hw0]; exact (Below.refl _ _).alloc (Nat.le_refl _) _
  have hs0 : w0.heap.size = w.heap.size + 1 := by rw [hw0]; simp
  obtain ⟨g0, g1, g2⟩ := box3 hw0
  obtain ⟨w1, hw1⟩ : ∃ z, z = w0.alloc (.cells #[.int .i64 0, .int .i64 0] 27) := ⟨_, rfl⟩
  have hb01 : Below w0.heap.size w0 w1 := by rw [hw1]; exact (Below.refl _ _).alloc (Nat.le_refl _) _
  have hs1 : w1.heap.size = w.heap.size + 1 + 1 := by rw [hw1]; simp; omega
  have hk1 := heap_alloc_new w0 (.cells #[.int .i64 0, .int .i64 0] 27)
  rw [← hw1, hs0] at hk1
  have hlt0 : w.heap.size < w0.heap.size := by omega
  replace g0 := below_cell g0 hb01 hlt0
  replace g1 := below_cell g1 hb01 hlt0
  replace g2 := below_cell g2 hb01 hlt0
  have hb1 : Below w.heap.size w w1 := hb0.trans (hb01.mono (by omega))
  have his := specIsGr w1 r s (.slice a n cap) es ((h.below hb1).mono hb1.size) hs (by omega)
  obtain ⟨B, hB⟩ : ∃ B, B = isGr r s es := ⟨_, rfl⟩
  rw [← hB] at his
  obtain ⟨F, hF⟩ : ∃ F, F = ffF r s es := ⟨_, rfl⟩
  obtain ⟨C, hC⟩ : ∃ C, C = ffB r s es := ⟨_, rfl⟩
  rw [← hF, ← hC]
  have hno : C = false → F = zeroF := fun h => by rw [hF]; unfold ffF; rw [← hC, h]; rfl
  have hC0 : B = false → C = false := fun h => by rw [hC]; unfold ffB; rw [← hB, h]; rfl
  have hC1 : (foldsF es).length = 0 → C = false := fun h => by rw [hC]; unfold ffB; rw [h]; simp
  have hC2 : B = true → (foldsF es).length ≠ 0 → C = true ∧ F = (foldsF es).getD 0 zeroF := fun h1 h2 => by
    have hc : C = true := by rw [hC]; unfold ffB; rw [← hB, h1, decide_eq_true h2]; rfl
    exact ⟨hc, by rw [hF]; unfold ffF; rw [← hC, hc]; rfl⟩
  have hend : ∀ (W : World) (x y : Int), Below w.heap.size w W → Below w.heap.size w ((W.setCell ⟨w.heap.size + 1, 0, none⟩ (.int .i64 x)).setCell ⟨w.heap.size + 1, 1, none⟩ (.int .i64 y)) := fun W x y hW =>
    (hW.setCell (p := ⟨w.heap.size + 1, 0, none⟩) (by simp) _).setCell (p := ⟨w.heap.size + 1, 1, none⟩) (by simp) _
  replace hno := hidI hno
  replace hC0 := hidI hC0
  replace hC1 := hidI hC1
  replace hC2 := hidI hC2
  replace hF := hidI hF
  replace hC := hidI hC
  replace hn := hidI hn
  replace h := hidI h
  replace hk1 := hidI hk1
  replace hend := hidI hend
  have hww : (w.alloc (.cells #[.int .i64 r, .int .i64 s, .slice a n cap] 32)).alloc (.cells #[.int .i64 0, .int .i64 0] 27) = w1 := by rw [hw1, hw0]
  replace hww := hidI hww
  replace hw0 := hidI hw0
  replace hw1 := hidI hw1
  replace hs0 := hidI hs0
  replace hs1 := hidI hs1
  clear hb01
  go_enter Try.func10, Try.ntmps10
  go_upto_region 1 with fail
  rw [hww.out]
  go_wp2_with fail
  refine his.mono ?_
  rintro e w2 ⟨rfl, hb2⟩
  clear his
  have hlt1 : w.heap.size < w1.heap.size := by have := hs1.out; omega
  replace g0 := below_cell g0 hb2 hlt1
  replace g1 := below_cell g1 hb2 hlt1
  replace g2 := below_cell g2 hb2 hlt1
  have hk2 := hidI (show w2.heap[w.heap.size + 1]? = some (.cells #[.int .i64 0, .int .i64 0] 27 (0, 0)) by rw [hb2.block _ (by have := hs1.out; omega)]; exact hk1.out)
  have hb12 := hidI (hb1.trans (hb2.mono hb1.size))
  cases B with
  | false =>
    have hCf := hC0.out rfl
    have hFz := hno.out hCf
    have y0 := cell_of_heap hk2.out 0
    have y1 := cell_of_heap hk2.out 1
    have f1 := fun j => frozen_of_row w2 (w.heap.size + 1) j _ _ hk2.out
    simp at y0 y1
    have hr := hidI (hend.out w2 0 0 hb12.out)
    have hset := hidI (set2F hk2.out (.int .i64 0) (.int .i64 0))
    subst hCf
    replace hFz := hidI hFz
    replace hB := hidI hB
    go_wp2
    (try simp only [Exit.inBlock, Exit.then])
    refine ret_cell2 (x := .bool false) rfl rfl rfl hset.out Try.underlying27 sizeFold ?_
    exact ⟨by rw [hFz.out]; rfl, hr.out⟩
  | true =>
    have h120 : n ≤ 120 := by rw [hn.out]; exact (isGr_iff.1 hB.symm).2.2.2.2.2
    have hcf := specFolds w2 r s (.slice a n cap) es ((h.out.below hb12.out).mono hb12.out.size) (by have := hn.out; omega)
    obtain ⟨L, hL⟩ : ∃ L, L = foldsF es := ⟨_, rfl⟩
    rw [← hL] at hcf
    have hC3 := hC2.out rfl
    have hC4 := hC1.out
    rw [← hL] at hC3 hC4
    replace hB := hidI hB
    replace hL := hidI hL
    replace hC3 := hidI hC3
    replace hC4 := hidI hC4
    go_wp2_with fail
    refine hcf.mono ?_
    rintro e w3 ⟨aL, capL, rfl, hrow, hb3⟩
    clear hcf
    have hlt2 : w.heap.size + 1 < w2.heap.size := by have := hs1.out; have := hb2.size; omega
    have hk3 := hidI (show w3.heap[w.heap.size + 1]? = some (.cells #[.int .i64 0, .int .i64 0] 27 (0, 0)) by rw [hb3.block _ hlt2]; exact hk2.out)
    have hb13 := hidI (hb12.out.trans (hb3.mono hb12.out.size))
    have y0 := cell_of_heap hk3.out 0
    have y1 := cell_of_heap hk3.out 1
    have f1 := fun j => frozen_of_row w3 (w.heap.size + 1) j _ _ hk3.out
    simp at y0 y1
    obtain ⟨nL, hnL⟩ : ∃ z, z = L.length := ⟨_, rfl⟩
    rw [← hnL] at hrow ⊢
    clear g0 g1 g2
    by_cases h0 : nL = 0
    · have hCf := hC4.out (by rw [← hnL]; exact h0)
      have hFz := hno.out hCf
      have t0 : ((nL : Int) == 0) = true := by rw [beq_iff_eq]; omega
      have hr := hidI (hend.out w3 0 0 hb13.out)
      have hset := hidI (set2F hk3.out (.int .i64 0) (.int .i64 0))
      subst hCf
      replace hFz := hidI hFz
      replace hnL := hidI hnL
      replace h0 := hidI h0
      replace hrow := hidI hrow
      go_wp2
      (try simp only [Exit.inBlock, Exit.then])
      refine ret_cell2 (x := .bool false) rfl rfl rfl hset.out Try.underlying27 sizeFold ?_
      exact ⟨by rw [hFz.out]; rfl, hr.out⟩
    · obtain ⟨hCt, hFe⟩ := hC3.out (by rw [← hnL]; exact h0)
      have t0 : ((nL : Int) == 0) = false := by rw [beq_eq_false_iff_ne]; omega
      have hrd : ReadF w3.heap.size w3 (.slice aL nL capL) L := by
        have := hrow.read
        rw [hnL] at this ⊢
        exact this
      obtain ⟨b, off, haL, hbB, c0, c1⟩ := ReadF.cells hrd 0 (by omega)
      subst haL
      rw [← hFe] at c0 c1
      simp only [Nat.zero_mul, Nat.add_zero] at c0 c1
      have hpos : (0 : Int) < (nL : Int) := by omega
      obtain ⟨k, d⟩ := F
      simp only at c0 c1
      have hr := hidI (hend.out w3 k d hb13.out)
      have hset := hidI (set2F hk3.out (.int .i64 k) (.int .i64 d))
      subst hCt
      replace hFe := hidI hFe
      replace hnL := hidI hnL
      replace h0 := hidI h0
      replace hrow := hidI hrow
      replace hrd := hidI hrd
      go_wp2
      (try simp only [Exit.inBlock, Exit.then])
      refine ret_cell2 (x := .bool true) rfl rfl rfl hset.out Try.underlying27 sizeFold ?_
      exact ⟨rfl, hr.out⟩
end Go.Proofs.Ytdeofaimgldklaa
