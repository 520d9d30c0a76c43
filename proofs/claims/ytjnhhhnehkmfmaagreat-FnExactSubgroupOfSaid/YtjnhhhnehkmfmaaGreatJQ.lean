import Derived.Test.YtjnhhhnehkmfmaaGreatJP
namespace Go.Proofs.YtjnhhhnehkmfmaaGreat
open Go.RowKit
set_option linter.unusedVariables false
set_option linter.unusedSimpArgs false
set_option maxHeartbeats 1600000 in
theorem progAll (w : World) (r s : Int) (v : Value) (es : List Ed) (h : ReadE w.heap.size w v es) (hl : es.length ≤ 10000000) :
 Calls Tryz.prog 46 #[.agg #[.int .i64 r, .int .i64 s, v]] w (LwGraphFolds w r (faS r s es) (faE r s es) (faL r s es)) := by
 obtain ⟨a, cap, rfl, hnc⟩ := h.form
 obtain ⟨n, hn⟩ := exq es.length
 rw [← hn] at h
 rw [← hn] at hl hnc ⊢
 obtain ⟨w1, hw1⟩ := exq ((w.alloc (.cells #[.int .i64 r, .int .i64 s, .slice a n cap] 26)).alloc (.cells #[.int .i64 0, .int .i64 0, .slice none 0 0] 26))
 have hb1 : Below w.heap.size w w1 := by rw [hw1]; exact ((Below.refl _ _).alloc (Nat.le_refl _) _).alloc (by simp) _
 have hs1 : w1.heap.size = w.heap.size + 1 + 1 := by rw [hw1]; simp
 have hg := heap_box w (.cells #[.int .i64 r, .int .i64 s, .slice a n cap] 26) (.cells #[.int .i64 0, .int .i64 0, .slice none 0 0] 26)
 have hR := heap_alloc_new (w.alloc (.cells #[.int .i64 r, .int .i64 s, .slice a n cap] 26)) (.cells #[.int .i64 0, .int .i64 0, .slice none 0 0] 26)
 rw [← hw1] at hg hR
 rw [show (w.alloc (.cells #[.int .i64 r, .int .i64 s, .slice a n cap] 26)).heap.size = w.heap.size + 1 by simp] at hR
 have g0 : w1.cell? ⟨w.heap.size, 0, none⟩ = some (.int .i64 r) := by simpa using cell_of_heap hg 0
 have g1 : w1.cell? ⟨w.heap.size, 1, none⟩ = some (.int .i64 s) := by simpa using cell_of_heap hg 1
 have g2 : w1.cell? ⟨w.heap.size, 2, none⟩ = some (.slice a n cap) := by simpa using cell_of_heap hg 2
 have hcall := progInOrder w1 r s (.slice a n cap) (.slice none 0 0) es [] ((h.below hb1).mono hb1.size) (by omega) ⟨by simp, none, 0, rfl, ⟨fun _ => rfl, Nat.le_refl _⟩, .inl rfl⟩ (by simp)
 obtain ⟨e1, e2, e3⟩ := fa_fo r s es
 rw [← e1, ← e2, ← e3] at hcall
 obtain ⟨ZS, hZS⟩ := exq (faS r s es)
 obtain ⟨ZE, hZE⟩ := exq (faE r s es)
 obtain ⟨ZL, hZL⟩ := exq (faL r s es)
 rw [← hZS, ← hZE, ← hZL] at hcall
 rw [← hZS, ← hZE, ← hZL]
 replace hZS := hidI hZS
 replace hZE := hidI hZE
 replace hZL := hidI hZL
 replace e1 := hidI e1
 replace e2 := hidI e2
 replace e3 := hidI e3
 replace hn := hidI hn
 replace h := hidI h
 replace hg := hidI hg
 replace hR := hidI hR
 replace hs1 := hidI hs1
 go_enter Tryz.func46, Tryz.ntmps46
 go_upto_region 1 with fail
 rw [← hw1]
 replace hw1 := hidI hw1
 go_wp2_with fail
 refine hcall.mono ?_
 rintro e w2 ⟨ca, cc, vl, glo, ghi, flo, fhi, rfl, ⟨r1, r2, r3, r4, r5, r6, r7⟩, hrowg, hrowf, hb2⟩
 clear hcall g0 g1 g2
 have hR2 : w2.heap[w.heap.size + 1]? = some (.cells #[.int .i64 0, .int .i64 0, .slice none 0 0] 26 (0, 0)) := by rw [hb2.block _ (by have := hs1.out; omega)]; exact hR.out
 obtain ⟨y0, y1, y2⟩ := cell3 hR2
 have f2 := fun j => frozen_of_row w2 (w.heap.size + 1) j _ _ hR2
 simp at y0 y1 y2
 obtain ⟨m, hm⟩ := exq ZE.length
 have hfin : LwGraphFolds w r ZS ZE ZL (.returned (.tuple #[.agg #[.int .i64 r, .int .i64 ZS, .slice ca ZE.length cc], vl])) (((w2.setCell ⟨w.heap.size + 1, 0, none⟩ (.int .i64 r)).setCell ⟨w.heap.size + 1, 1, none⟩ (.int .i64 ZS)).setCell ⟨w.heap.size + 1, 2, none⟩ (.slice ca ZE.length cc)) := by
  have hs := hs1.out
  exact ⟨ca, cc, vl, glo, ghi, flo, fhi, rfl, ⟨by omega, by omega, by rw [size_set3]; omega, by omega, by omega, by rw [size_set3]; omega, by omega⟩,
   RowS.set3_ hrowg (.inl (by omega)), RowS.set3_ hrowf (.inl (by omega)), below_set3 (hb1.trans (hb2.mono hb1.size)) (by omega)⟩
 have hset := set3 hR2 (.int .i64 r) (.int .i64 ZS) (.slice ca ZE.length cc)
 rw [← hm] at hset hfin ⊢
 replace hm := hidI hm
 replace hfin := hidI hfin
 replace hset := hidI hset
 replace hR2 := hidI hR2
 replace hrowg := hidI hrowg
 replace hrowf := hidI hrowf
 go_wp2
 (try simp only [Exit.inBlock, Exit.then])
 refine ret_cell2 (x := vl) rfl rfl rfl hset.out Tryz.underlying26 sizeGraph ?_
 exact hfin.out
end Go.Proofs.YtjnhhhnehkmfmaaGreat
