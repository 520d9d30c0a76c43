/- Petals: AddPetal of the model and of the program (tools/sl.py). -/
import Derived.Test.YtmafaglgegimfaaSJ
import Derived.Test.YtmafaglgegimfaaSK
import Derived.Deep.Cut
namespace Go.Proofs.Ytmafaglgegimfaa
open Go.RowKit
set_option linter.unusedVariables false
set_option linter.unusedSimpArgs false

set_option maxRecDepth 100000 in
set_option maxHeartbeats 3200000 in
theorem specAddPetal (w : World) (r s : Int) (va vw : Value) (es : List Ed) (wd : List Int) (h : ReadE w.heap.size w va es) (hs : -9223372036854775808 ≤ s ∧ s ≤ 9223372036854775807) (hl : es.length ≤ 9000000) (hw : ReadI w.heap.size w vw wd) (hwl : wd.length ≤ 9000000) :
    Calls Try.prog 30 #[.agg #[.int .i64 r, .int .i64 s, va], vw] w (LwGraphBool w r (pthS r s es 0 wd 0) (pthE r s es 0 wd 0) (tkP r s es 0 wd 0)) := by
  obtain ⟨a, cap, rfl, hnc⟩ := h.form
  obtain ⟨m, hm⟩ : ∃ m, m = es.length := ⟨_, rfl⟩
  have h0 := h
  rw [← hm] at h
  obtain ⟨w1, hw1⟩ : ∃ z, z = (w.alloc (.cells #[.int .i64 r, .int .i64 s, .slice a m cap] 30)).alloc (.cells #[.int .i64 0, .int .i64 0, .slice none 0 0] 30) := ⟨_, rfl⟩
  have hb1 : Below w.heap.size w w1 := by rw [hw1]; exact ((Below.refl _ _).alloc (Nat.le_refl _) _).alloc (by simp) _
  have hs1 : w1.heap.size = w.heap.size + 1 + 1 := by rw [hw1]; simp
  have hg := heap_box w (.cells #[.int .i64 r, .int .i64 s, .slice a m cap] 30) (.cells #[.int .i64 0, .int .i64 0, .slice none 0 0] 30)
  have hk := heap_alloc_new (w.alloc (.cells #[.int .i64 r, .int .i64 s, .slice a m cap] 30)) (.cells #[.int .i64 0, .int .i64 0, .slice none 0 0] 30)
  rw [← hw1] at hg hk
  rw [show (w.alloc (.cells #[.int .i64 r, .int .i64 s, .slice a m cap] 30)).heap.size = w.heap.size + 1 by simp] at hk
  have g0 : w1.cell? ⟨w.heap.size, 0, none⟩ = some (.int .i64 r) := by simpa using cell_of_heap hg 0
  have g1 : w1.cell? ⟨w.heap.size, 1, none⟩ = some (.int .i64 s) := by simpa using cell_of_heap hg 1
  have g2 : w1.cell? ⟨w.heap.size, 2, none⟩ = some (.slice a m cap) := by simpa using cell_of_heap hg 2
  have hcall := specAddPath w1 r s 0 0 _ _ es wd ((h0.below hb1).mono hb1.size) hs (by omega) ((hw.below hb1).mono hb1.size) (by omega)
  obtain ⟨PS, hPS⟩ : ∃ B, B = pthS r s es 0 wd 0 := ⟨_, rfl⟩
  obtain ⟨PE, hPE⟩ : ∃ B, B = pthE r s es 0 wd 0 := ⟨_, rfl⟩
  obtain ⟨B, hB⟩ : ∃ B, B = tkP r s es 0 wd 0 := ⟨_, rfl⟩
  rw [← hPS, ← hPE, ← hB, ← hm] at hcall
  rw [← hPS, ← hPE, ← hB, ← hm]
  obtain ⟨aw, mw, cw, rfl⟩ : ∃ a m c, vw = Value.slice a m c := by obtain ⟨_, a, c, e, _⟩ := hw; exact ⟨_, _, _, e⟩
  replace hm := hidI hm
  replace hPS := hidI hPS
  replace hPE := hidI hPE
  replace hB := hidI hB
  replace h := hidI h
  replace h0 := hidI h0
  replace hw := hidI hw
  replace hg := hidI hg
  replace hk := hidI hk
  replace hnc := hidI hnc
  replace hs1 := hidI hs1
  go_enter Try.func30, Try.ntmps30
  go_upto_region 1 with fail
  rw [← hw1]
  replace hw1 := hidI hw1
  go_wp2_with fail
  refine hcall.mono ?_
  rintro e w2 ⟨b, cap2, rfl, hrow2, hb2⟩
  clear hcall
  have hs2 := hb2.size
  obtain ⟨N, hN⟩ : ∃ N, N = PE.length := ⟨_, rfl⟩
  rw [← hN] at hrow2 ⊢
  have hbw2 : Below w.heap.size w w2 := hb1.trans (hb2.mono hb1.size)
  have hR2 : w2.heap[w.heap.size + 1]? = some (.cells #[.int .i64 0, .int .i64 0, .slice none 0 0] 30 (0, 0)) := by rw [hb2.block _ (by have := hs1.out; omega)]; exact hk.out
  obtain ⟨w3, hw3⟩ : ∃ z, z = w2.alloc (.cells #[.int .i64 r, .int .i64 PS, .slice b N cap2] 30) := ⟨_, rfl⟩
  have hb3 : Below w2.heap.size w2 w3 := by rw [hw3]; exact (Below.refl _ _).alloc (Nat.le_refl _) _
  obtain ⟨x0, x1, x2⟩ := box3 hw3
  have hs3 := hb3.size
  have hR3 : w3.heap[w.heap.size + 1]? = some (.cells #[.int .i64 0, .int .i64 0, .slice none 0 0] 30 (0, 0)) := by rw [hb3.block _ (by have := hs1.out; omega)]; exact hR2
  have hrow3 : RowS 77 3 w3 w1.heap.size w2.heap.size (.slice b N cap2) N (flatE PE) := hrow2.below hb3 (Nat.le_refl _)
  have hbw3 : Below w.heap.size w w3 := hbw2.trans (hb3.mono (by have := hbw2.size; omega))
  have hfin : LwGraphBool w r PS PE B (.returned (.tuple #[.agg #[.int .i64 r, .int .i64 PS, .slice b N cap2], .bool B])) (((w3.setCell ⟨w.heap.size + 1, 0, none⟩ (.int .i64 r)).setCell ⟨w.heap.size + 1, 1, none⟩ (.int .i64 PS)).setCell ⟨w.heap.size + 1, 2, none⟩ (.slice b N cap2)) := by
    have hs := hs1.out
    refine ⟨b, cap2, by rw [hN], ?_, below_set3 hbw3 (by omega)⟩
    rw [← hN]
    exact RowS.wide (hrow3.set3_ (.inl (by omega))) (by omega) (by rw [size_set3]; omega)
  have y0 := cell_of_heap hR3 0
  have y1 := cell_of_heap hR3 1
  have y2 := cell_of_heap hR3 2
  have f2 := fun j => frozen_of_row w3 (w.heap.size + 1) j _ _ hR3
  simp at y0 y1 y2
  replace hfin := hidI hfin
  replace hR2 := hidI hR2
  replace hR3 := hidI hR3
  replace hrow2 := hidI hrow2
  replace hrow3 := hidI hrow3
  replace hN := hidI hN
  clear g0 g1 g2
  go_upto_region 2 with fail
  rw [← hw3]
  replace hw3 := hidI hw3
  go_wp2
  (try simp only [Exit.inBlock, Exit.then])
  refine ret_cell2 (x := .bool B) rfl rfl rfl (set3 hR3.out _ _ _) Try.underlying30 sizeGraph ?_
  exact hfin.out
set_option maxRecDepth 100000 in
set_option maxHeartbeats 3200000 in
theorem progAddPetal (w : World) (r s : Int) (va vw : Value) (es : List Ed) (wd : List Int) (h : ReadE w.heap.size w va es) (hl : es.length ≤ 9000000) (hw : ReadI w.heap.size w vw wd) (hwl : wd.length ≤ 9000000) :
    Calls Try.prog 31 #[.agg #[.int .i64 r, .int .i64 s, va], vw] w (LwGraphBool w r (pthS r s es 0 wd 0) (pthE r s es 0 wd 0) (tkP r s es 0 wd 0)) := by
  obtain ⟨a, cap, rfl, hnc⟩ := h.form
  obtain ⟨m, hm⟩ : ∃ m, m = es.length := ⟨_, rfl⟩
  have h0 := h
  rw [← hm] at h
  obtain ⟨w1, hw1⟩ : ∃ z, z = (w.alloc (.cells #[.int .i64 r, .int .i64 s, .slice a m cap] 30)).alloc (.cells #[.int .i64 0, .int .i64 0, .slice none 0 0] 30) := ⟨_, rfl⟩
  have hb1 : Below w.heap.size w w1 := by rw [hw1]; exact ((Below.refl _ _).alloc (Nat.le_refl _) _).alloc (by simp) _
  have hs1 : w1.heap.size = w.heap.size + 1 + 1 := by rw [hw1]; simp
  have hg := heap_box w (.cells #[.int .i64 r, .int .i64 s, .slice a m cap] 30) (.cells #[.int .i64 0, .int .i64 0, .slice none 0 0] 30)
  have hk := heap_alloc_new (w.alloc (.cells #[.int .i64 r, .int .i64 s, .slice a m cap] 30)) (.cells #[.int .i64 0, .int .i64 0, .slice none 0 0] 30)
  rw [← hw1] at hg hk
  rw [show (w.alloc (.cells #[.int .i64 r, .int .i64 s, .slice a m cap] 30)).heap.size = w.heap.size + 1 by simp] at hk
  have g0 : w1.cell? ⟨w.heap.size, 0, none⟩ = some (.int .i64 r) := by simpa using cell_of_heap hg 0
  have g1 : w1.cell? ⟨w.heap.size, 1, none⟩ = some (.int .i64 s) := by simpa using cell_of_heap hg 1
  have g2 : w1.cell? ⟨w.heap.size, 2, none⟩ = some (.slice a m cap) := by simpa using cell_of_heap hg 2
  have hcall := progAddPath w1 r s 0 0 _ _ es wd ((h0.below hb1).mono hb1.size) (by omega) ((hw.below hb1).mono hb1.size) (by omega)
  obtain ⟨PS, hPS⟩ : ∃ B, B = pthS r s es 0 wd 0 := ⟨_, rfl⟩
  obtain ⟨PE, hPE⟩ : ∃ B, B = pthE r s es 0 wd 0 := ⟨_, rfl⟩
  obtain ⟨B, hB⟩ : ∃ B, B = tkP r s es 0 wd 0 := ⟨_, rfl⟩
  rw [← hPS, ← hPE, ← hB, ← hm] at hcall
  rw [← hPS, ← hPE, ← hB, ← hm]
  obtain ⟨aw, mw, cw, rfl⟩ : ∃ a m c, vw = Value.slice a m c := by obtain ⟨_, a, c, e, _⟩ := hw; exact ⟨_, _, _, e⟩
  replace hm := hidI hm
  replace hPS := hidI hPS
  replace hPE := hidI hPE
  replace hB := hidI hB
  replace h := hidI h
  replace h0 := hidI h0
  replace hw := hidI hw
  replace hg := hidI hg
  replace hk := hidI hk
  replace hnc := hidI hnc
  replace hs1 := hidI hs1
  go_enter Try.func31, Try.ntmps31
  go_upto_region 1 with fail
  rw [← hw1]
  replace hw1 := hidI hw1
  go_wp2_with fail
  refine hcall.mono ?_
  rintro e w2 ⟨b, cap2, rfl, hrow2, hb2⟩
  clear hcall
  have hs2 := hb2.size
  obtain ⟨N, hN⟩ : ∃ N, N = PE.length := ⟨_, rfl⟩
  rw [← hN] at hrow2 ⊢
  have hbw2 : Below w.heap.size w w2 := hb1.trans (hb2.mono hb1.size)
  have hR2 : w2.heap[w.heap.size + 1]? = some (.cells #[.int .i64 0, .int .i64 0, .slice none 0 0] 30 (0, 0)) := by rw [hb2.block _ (by have := hs1.out; omega)]; exact hk.out
  obtain ⟨w3, hw3⟩ : ∃ z, z = w2 := ⟨_, rfl⟩
  have hb3 : Below w2.heap.size w2 w3 := by rw [hw3]; exact Below.refl _ _
  have hs3 := hb3.size
  have hR3 : w3.heap[w.heap.size + 1]? = some (.cells #[.int .i64 0, .int .i64 0, .slice none 0 0] 30 (0, 0)) := by rw [hb3.block _ (by have := hs1.out; omega)]; exact hR2
  have hrow3 : RowS 77 3 w3 w1.heap.size w2.heap.size (.slice b N cap2) N (flatE PE) := hrow2.below hb3 (Nat.le_refl _)
  have hbw3 : Below w.heap.size w w3 := hbw2.trans (hb3.mono (by have := hbw2.size; omega))
  have hfin : LwGraphBool w r PS PE B (.returned (.tuple #[.agg #[.int .i64 r, .int .i64 PS, .slice b N cap2], .bool B])) (((w3.setCell ⟨w.heap.size + 1, 0, none⟩ (.int .i64 r)).setCell ⟨w.heap.size + 1, 1, none⟩ (.int .i64 PS)).setCell ⟨w.heap.size + 1, 2, none⟩ (.slice b N cap2)) := by
    have hs := hs1.out
    refine ⟨b, cap2, by rw [hN], ?_, below_set3 hbw3 (by omega)⟩
    rw [← hN]
    exact RowS.wide (hrow3.set3_ (.inl (by omega))) (by omega) (by rw [size_set3]; omega)
  have y0 := cell_of_heap hR3 0
  have y1 := cell_of_heap hR3 1
  have y2 := cell_of_heap hR3 2
  have f2 := fun j => frozen_of_row w3 (w.heap.size + 1) j _ _ hR3
  simp at y0 y1 y2
  replace hfin := hidI hfin
  replace hR2 := hidI hR2
  replace hR3 := hidI hR3
  replace hrow2 := hidI hrow2
  replace hrow3 := hidI hrow3
  replace hN := hidI hN
  clear g0 g1 g2
  rw [← hw3]
  replace hw3 := hidI hw3
  go_wp2
  (try simp only [Exit.inBlock, Exit.then])
  refine ret_cell2 (x := .bool B) rfl rfl rfl (set3 hR3.out _ _ _) Try.underlying30 sizeGraph ?_
  exact hfin.out
end Go.Proofs.Ytmafaglgegimfaa
