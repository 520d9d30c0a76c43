import Derived.Test.YtgnomlcjikfdhaaGreatJ22Tr
import Derived.Test.YtgnomlcjikfdhaaGreatJ4Tr
namespace Go.Proofs.YtgnomlcjikfdhaaGreat
open Go.RowKit
set_option linter.unusedVariables false
set_option linter.unusedSimpArgs false
set_option maxHeartbeats 3200000 in
set_option maxRecDepth 100000 in
theorem drawTW_any (w : World) (a : Option Addr) (len cap : Nat) (hcode : CodeIn w.heap.size w a len) :
 Calls Tryz.prog 14 #[.slice a len cap] w (DrWd w) := by
 obtain ⟨w1, hw1⟩ := exq (w.alloc (.cells #[.int .i64 0, .int .i64 0, .slice none 0 0] 26))
 have hb1 : Below w.heap.size w w1 := by rw [hw1]; exact (Below.refl _ _).alloc (Nat.le_refl _) _
 have hs1 : w.heap.size < w1.heap.size := by rw [hw1]; simp
 have hk1 : w1.heap[w.heap.size]? = some (.cells #[.int .i64 0, .int .i64 0, .slice none 0 0] 26 (0, 0)) := by rw [hw1]; exact heap_alloc_new _ _
 have hcp := pair_any w1 a len cap ((hcode.below hb1).up hb1.size)
 have hww := hidI hw1.symm
 replace hcode := hidI hcode
 replace hw1 := hidI hw1
 replace hk1 := hidI hk1
 go_enter Tryz.func14, Tryz.ntmps14
 go_upto_region 1 with fail
 rw [hww.out]
 go_wp2_with fail
 refine hcp.mono ?_
 rintro e w2 ⟨r, s, es, x, c, y, z, hP, hy, hz, rfl, hrow2, hb2⟩
 clear hcp
 have hR2 := (hb2.block _ hs1).trans hk1.out
 obtain ⟨n, hm⟩ := exq es.length
 rw [← hm] at hrow2 ⊢
 have hsz2 := hb2.size
 obtain ⟨w3, hw3⟩ := exq (w2.alloc (.cells #[.int .i64 r, .int .i64 s, .slice x n c] 26))
 have hb3 : Below w2.heap.size w2 w3 := by rw [hw3]; exact (Below.refl _ _).alloc (Nat.le_refl _) _
 have hs3 : w2.heap.size < w3.heap.size := by rw [hw3]; simp
 obtain ⟨g0, g1, g2⟩ := box3 hw3
 have hR3 := (hb3.block _ (show w.heap.size < w2.heap.size by omega)).trans hR2
 obtain ⟨y0, y1, y2⟩ := cell3 hR3
 have f2 := fun j => frozen_of_row w3 w.heap.size j _ _ hR3
 simp at y0 y1 y2
 have hbw := hb1.trans (hb2.mono (by omega))
 have hfz : DrWd w (.returned (.tuple #[.agg #[.int .i64 r, .int .i64 s, .slice x n c], .int .i64 z])) (((w3.setCell ⟨w.heap.size, 0, none⟩ (.int .i64 r)).setCell ⟨w.heap.size, 1, none⟩ (.int .i64 s)).setCell ⟨w.heap.size, 2, none⟩ (.slice x n c)) := by
  subst hm
  exact ⟨r, s, es, x, c, z, hP, hz, rfl, (((hrow2.below hb3 (Nat.le_refl _)).set3_ (.inl (by omega))).wide (by omega) (by rw [size_set3]; omega)), below_set3 (hbw.trans (hb3.mono (by omega))) (Nat.le_refl _)⟩
 have hset := set3 hR3 (.int .i64 r) (.int .i64 s) (.slice x n c)
 have hw3' := hidI hw3.symm
 replace hw3 := hidI hw3
 replace hfz := hidI hfz
 replace hset := hidI hset
 replace hR2 := hidI hR2
 replace hR3 := hidI hR3
 replace hm := hidI hm
 replace hP := hidI hP
 replace hrow2 := hidI hrow2
 replace hb2 := hidI hb2
 replace hb3 := hidI hb3
 replace hbw := hidI hbw
 go_upto_region 2 with fail
 rw [hw3'.out]
 go_wp2
 (try simp only [Exit.inBlock, Exit.then])
 refine ret_cell2 (x := .int .i64 z) (cs := #[.int .i64 r, .int .i64 s, .slice x n c]) rfl (g := w.heap.size) rfl rfl (by exact hset.out) Tryz.underlying26 sizeGraph ?_
 exact hfz.out
def DrLo (w : World) (e : Ending) (w' : World) : Prop := ∃ (r s : Int) (es : List Ed) (x : Option Addr) (c : Nat) (f l t : Int), Gr0 r s es ∧
 e = .returned (.tuple #[.agg #[.int .i64 r, .int .i64 s, .slice x es.length c], .agg #[.int .i64 f, .int .i64 l, .int .i64 t]]) ∧ RowS 36 3 w' w.heap.size w'.heap.size (.slice x es.length c) es.length (flatE es) ∧ Below w.heap.size w w'
set_option maxHeartbeats 12800000 in
set_option maxRecDepth 100000 in
theorem drawLO_any (w : World) (a : Option Addr) (len cap : Nat) (hcode : CodeIn w.heap.size w a len) :
 Calls Tryz.prog 16 #[.slice a len cap] w (DrLo w) := by
 obtain ⟨w0, hw0⟩ := exq (w.alloc (.cells #[.int .i64 0, .int .i64 0, .slice none 0 0] 26))
 have hb0 : Below w.heap.size w w0 := by rw [hw0]; exact (Below.refl _ _).alloc (Nat.le_refl _) _
 have hs0 : w0.heap.size = w.heap.size + 1 := by rw [hw0]; simp
 obtain ⟨w1, hw1⟩ := exq (w0.alloc (.cells #[.int .i64 0, .int .i64 0, .int .i64 0] 36))
 have hb01 : Below w0.heap.size w0 w1 := by rw [hw1]; exact (Below.refl _ _).alloc (Nat.le_refl _) _
 have hs1 : w1.heap.size = w.heap.size + 1 + 1 := by rw [hw1]; simp; omega
 have hb1 : Below w.heap.size w w1 := hb0.trans (hb01.mono (by omega))
 have hk1 : w1.heap[w.heap.size]? = some (.cells #[.int .i64 0, .int .i64 0, .slice none 0 0] 26 (0, 0)) := by rw [hw1, hw0]; exact heap_box _ _ _
 have hq1 : w1.heap[w.heap.size + 1]? = some (.cells #[.int .i64 0, .int .i64 0, .int .i64 0] 36 (0, 0)) := by rw [← hs0, hw1]; exact heap_alloc_new _ _
 have hw1' : (w.alloc (.cells #[.int .i64 0, .int .i64 0, .slice none 0 0] 26)).alloc (.cells #[.int .i64 0, .int .i64 0, .int .i64 0] 36) = w1 := by rw [hw1, hw0]
 have hnew := new_at w1 a len cap ((hcode.below hb1).up hb1.size)
 have hww := hidI hw1'
 have hlt1 : w.heap.size + 1 < w1.heap.size := by omega
 replace hcode := hidI hcode
 replace hw1 := hidI hw1
 replace hw0 := hidI hw0
 replace hw1' := hidI hw1'
 replace hk1 := hidI hk1
 replace hq1 := hidI hq1
 replace hs0 := hidI hs0
 replace hs1 := hidI hs1
 clear hb0 hb01
 go_enter Tryz.func16, Tryz.ntmps16
 go_upto_region 1 with fail
 rw [hww.out]
 go_wp2_with fail
 refine hnew.mono ?_
 rintro e w2 ⟨g, rfl, hb2, hd2⟩
 clear hnew
 have hgg := g5_in hd2
 have hsz2 := hb2.size
 have hR2 := hidI ((hb2.block _ (show w.heap.size < w1.heap.size by omega)).trans hk1.out)
 have hQ2 := hidI ((hb2.block _ hlt1).trans hq1.out)
 have hb12 := hidI (hb1.trans (hb2.mono hb1.size))
 have hg12 : w1.heap.size ≤ g ∧ g < w2.heap.size := ⟨hd2.1.1, hd2.lt⟩
 replace hd2 := hidI hd2
 replace hb2 := hidI hb2
 go_wp2_with fail
 refine hgg.mono ?_
 rintro e w3 ⟨r, s, x, c, es, hP, rfl, hrow3, hg3, hd3⟩
 clear hgg
 have hb3 := hd2.out.below hg3
 have hR3 := (hb3.block _ (show w.heap.size < w1.heap.size by omega)).trans hR2.out
 have hQ3 := (hb3.block _ hlt1).trans hQ2.out
 obtain ⟨n, hm⟩ := exq es.length
 rw [← hm] at hrow3 ⊢
 have hsz3 := hg3.size
 have hb13 := hidI (hb12.out.trans (hb3.mono (by omega)))
 obtain ⟨w4, hw4⟩ := exq (w3.alloc (.cells #[.int .i64 r, .int .i64 s, .slice x n c] 26))
 have hb4 : Below w3.heap.size w3 w4 := by rw [hw4]; exact (Below.refl _ _).alloc (Nat.le_refl _) _
 have hs4 : w3.heap.size < w4.heap.size := by rw [hw4]; simp
 have hd4 : Dr w1.heap.size g a len cap w4 := by rw [hw4]; exact hd3.alloc _
 obtain ⟨g0, g1, g2⟩ := box3 hw4
 have hw4' := hidI hw4.symm
 have hR4 := (hb4.block _ (show w.heap.size < w3.heap.size by omega)).trans hR3
 have hQ4 := (hb4.block _ (show w.heap.size + 1 < w3.heap.size by omega)).trans hQ3
 obtain ⟨GB, hGB⟩ := exq w3.heap.size
 rw [← hGB] at g0 g1 g2
 have hGR : w.heap.size + 1 < GB := by omega
 have hrow4 : RowS 36 3 w4 w2.heap.size w3.heap.size (.slice x n c) n (flatE es) := hrow3.below hb4 (Nat.le_refl _)
 have hb14 := hidI (hb13.out.trans (hb4.mono (by omega)))
 have hfin : ∀ (W : World) (f l t : Int), Below w.heap.size w W → RowS 36 3 W w2.heap.size w3.heap.size (.slice x n c) n (flatE es) → w3.heap.size ≤ W.heap.size →
  W.heap[w.heap.size]? = some (.cells #[.int .i64 0, .int .i64 0, .slice none 0 0] 26 (0, 0)) → W.heap[w.heap.size + 1]? = some (.cells #[.int .i64 0, .int .i64 0, .int .i64 0] 36 (0, 0)) →
  DrLo w (.returned (.tuple #[.agg #[.int .i64 r, .int .i64 s, .slice x n c], .agg #[.int .i64 f, .int .i64 l, .int .i64 t]])) ((((((W.setCell ⟨w.heap.size, 0, none⟩ (.int .i64 r)).setCell ⟨w.heap.size, 1, none⟩ (.int .i64 s)).setCell ⟨w.heap.size, 2, none⟩ (.slice x n c)).setCell ⟨w.heap.size + 1, 0, none⟩ (.int .i64 f)).setCell ⟨w.heap.size + 1, 1, none⟩ (.int .i64 l)).setCell ⟨w.heap.size + 1, 2, none⟩ (.int .i64 t))
  ∧ ((((((W.setCell ⟨w.heap.size, 0, none⟩ (.int .i64 r)).setCell ⟨w.heap.size, 1, none⟩ (.int .i64 s)).setCell ⟨w.heap.size, 2, none⟩ (.slice x n c)).setCell ⟨w.heap.size + 1, 0, none⟩ (.int .i64 f)).setCell ⟨w.heap.size + 1, 1, none⟩ (.int .i64 l)).setCell ⟨w.heap.size + 1, 2, none⟩ (.int .i64 t)).heap[w.heap.size]? = some (.cells #[.int .i64 r, .int .i64 s, .slice x n c] 26 (0, 0))
  ∧ ((((((W.setCell ⟨w.heap.size, 0, none⟩ (.int .i64 r)).setCell ⟨w.heap.size, 1, none⟩ (.int .i64 s)).setCell ⟨w.heap.size, 2, none⟩ (.slice x n c)).setCell ⟨w.heap.size + 1, 0, none⟩ (.int .i64 f)).setCell ⟨w.heap.size + 1, 1, none⟩ (.int .i64 l)).setCell ⟨w.heap.size + 1, 2, none⟩ (.int .i64 t)).heap[w.heap.size + 1]? = some (.cells #[.int .i64 f, .int .i64 l, .int .i64 t] 36 (0, 0)) := fun W f l t hb hr hsz hR hQ => by
  have hQs : (((W.setCell ⟨w.heap.size, 0, none⟩ (.int .i64 r)).setCell ⟨w.heap.size, 1, none⟩ (.int .i64 s)).setCell ⟨w.heap.size, 2, none⟩ (.slice x n c)).heap[w.heap.size + 1]? = some (.cells #[.int .i64 0, .int .i64 0, .int .i64 0] 36 (0, 0)) := by rw [heap_set3 (show w.heap.size + 1 ≠ w.heap.size by omega)]; exact hQ
  refine ⟨?_, by rw [heap_set3 (show w.heap.size ≠ w.heap.size + 1 by omega)]; exact set3 hR _ _ _, set3 hQs _ _ _⟩
  subst hm
  exact ⟨r, s, es, x, c, f, l, t, hP, rfl, ((hr.set3_ (.inl (by omega))).set3_ (.inl (by omega))).wide (by omega) (by rw [size_set3, size_set3]; exact hsz), below_set3 (below_set3 hb (Nat.le_refl _)) (by omega)⟩
 replace hfin := hidI hfin
 replace hR3 := hidI hR3
 replace hQ3 := hidI hQ3
 replace hR4 := hidI hR4
 replace hQ4 := hidI hQ4
 replace hrow3 := hidI hrow3
 have hrow4h := hidI hrow4
 replace hrow4 := hidI hrow4.read
 replace hm := hidI hm
 replace hP := hidI hP
 replace hg3 := hidI hg3
 replace hd3 := hidI hd3
 replace hd4 := hidI hd4
 replace hb3 := hidI hb3
 replace hb4 := hidI hb4
 replace hGB := hidI hGB
 go_upto_region 3 with fail
 rw [hw4'.out, ← hGB.out]
 replace hw4 := hidI hw4
 by_cases hn0 : 0 < n
 case neg =>
  obtain rfl : n = 0 := by omega
  have hn1 : ¬ ((0 : Nat) : Int) > 0 := by omega
  go_upto_region 5 with fail
  have hG9 : GB < w4.heap.size := by have := hGB.out; omega
  have hct := two_in w4 a len cap ((hcode.out.below hb14.out).up hb14.out.size)
  go_wp2_with fail
  refine hct.mono ?_
  rintro e w6 ⟨f1, l1, t1, f2, l2, t2, hE1, hE2, rfl, hb6⟩
  clear hct
  have hsz6 := hb6.size
  have z0 := below_cell g0 hb6 hG9
  have z1 := below_cell g1 hb6 hG9
  have z2 := below_cell g2 hb6 hG9
  have hR6 := (hb6.block _ (show w.heap.size < w4.heap.size by omega)).trans hR4.out
  have hQ6 := (hb6.block _ (show w.heap.size + 1 < w4.heap.size by omega)).trans hQ4.out
  have hb16 := hidI (hb14.out.trans (hb6.mono (by omega)))
  have hrow6 := hidI (hrow4h.out.below hb6 (by omega))
  replace hR6 := hidI hR6
  replace hQ6 := hidI hQ6
  replace hb6 := hidI hb6
  clear g0 g1 g2
  obtain ⟨wA, hwA⟩ := exq ((w6.alloc (.cells #[.int .i64 f1, .int .i64 l1, .int .i64 t1] 36)).alloc (.cells #[.int .i64 f2, .int .i64 l2, .int .i64 t2] 36))
  have hbA : Below w6.heap.size w6 wA := by rw [hwA]; exact ((Below.refl _ _).alloc (Nat.le_refl _) _).alloc (by simp) _
  have hsA : wA.heap.size = w6.heap.size + 1 + 1 := by rw [hwA]; simp
  have hEA : wA.heap[w6.heap.size]? = some (.cells #[.int .i64 f1, .int .i64 l1, .int .i64 t1] 36 (0, 0)) := by rw [hwA]; exact heap_box _ _ _
  have hwA' := hidI hwA.symm
  replace hwA := hidI hwA
  obtain ⟨wd, hwd⟩ := exq wA.drew
  have hbd : Below w6.heap.size w6 wd := by rw [hwd]; exact below_dn hbA 1
  have hsd : wd.heap.size = w6.heap.size + 1 + 1 := by rw [hwd]; exact hsA
  have hEd : wd.heap[w6.heap.size]? = some (.cells #[.int .i64 f1, .int .i64 l1, .int .i64 t1] 36 (0, 0)) := by rw [hwd]; exact hEA
  obtain ⟨e0_, e1_, e2_⟩ := cell3 hEd
  simp at e0_ e1_ e2_
  replace z0 := below_cell z0 hbd (by omega)
  replace z1 := below_cell z1 hbd (by omega)
  replace z2 := below_cell z2 hbd (by omega)
  have hRd := (hbd.block _ (show w.heap.size < w6.heap.size by omega)).trans hR6.out
  have hQd := (hbd.block _ (show w.heap.size + 1 < w6.heap.size by omega)).trans hQ6.out
  obtain ⟨hfz, hfR, hfQ⟩ := hfin.out wd f1 l1 t1 (hb16.out.trans (hbd.mono (by have := hb16.out.size; omega))) (hrow6.out.below hbd (by omega)) (by omega) hRd hQd
  obtain ⟨y0, y1, y2⟩ := cell3 hRd
  have f2_ := fun j => frozen_of_row wd w.heap.size j _ _ hRd
  simp at y0 y1 y2
  have hQ2_ : (((wd.setCell ⟨w.heap.size, 0, none⟩ (.int .i64 r)).setCell ⟨w.heap.size, 1, none⟩ (.int .i64 s)).setCell ⟨w.heap.size, 2, none⟩ (.slice x 0 c)).heap[w.heap.size + 1]? = some (.cells #[.int .i64 0, .int .i64 0, .int .i64 0] 36 (0, 0)) := by rw [heap_set3 (show w.heap.size + 1 ≠ w.heap.size by omega)]; exact hQd
  obtain ⟨v0, v1, v2⟩ := cell3 hQ2_
  have f3_ := fun j => frozen_of_row (((wd.setCell ⟨w.heap.size, 0, none⟩ (.int .i64 r)).setCell ⟨w.heap.size, 1, none⟩ (.int .i64 s)).setCell ⟨w.heap.size, 2, none⟩ (.slice x 0 c)) (w.heap.size + 1) j _ _ hQ2_
  simp at v0 v1 v2
  replace hQ2_ := hidI hQ2_
  have a0_ := (World.cell?_of_block (a := (⟨GB, 0, none⟩ : Addr)) (heap_set3 (w := wd) (b := w.heap.size) (x0 := .int .i64 r) (x1 := .int .i64 s) (x2 := .slice x 0 c) (show GB ≠ w.heap.size by omega))).trans z0
  have b0_ := (World.cell?_of_block (a := (⟨GB, 0, none⟩ : Addr)) (heap_set3 (w := (((wd.setCell ⟨w.heap.size, 0, none⟩ (.int .i64 r)).setCell ⟨w.heap.size, 1, none⟩ (.int .i64 s)).setCell ⟨w.heap.size, 2, none⟩ (.slice x 0 c))) (b := w.heap.size + 1) (x0 := .int .i64 f1) (x1 := .int .i64 l1) (x2 := .int .i64 t1) (show GB ≠ w.heap.size + 1 by omega))).trans a0_
  have a1_ := (World.cell?_of_block (a := (⟨GB, 1, none⟩ : Addr)) (heap_set3 (w := wd) (b := w.heap.size) (x0 := .int .i64 r) (x1 := .int .i64 s) (x2 := .slice x 0 c) (show GB ≠ w.heap.size by omega))).trans z1
  have b1_ := (World.cell?_of_block (a := (⟨GB, 1, none⟩ : Addr)) (heap_set3 (w := (((wd.setCell ⟨w.heap.size, 0, none⟩ (.int .i64 r)).setCell ⟨w.heap.size, 1, none⟩ (.int .i64 s)).setCell ⟨w.heap.size, 2, none⟩ (.slice x 0 c))) (b := w.heap.size + 1) (x0 := .int .i64 f1) (x1 := .int .i64 l1) (x2 := .int .i64 t1) (show GB ≠ w.heap.size + 1 by omega))).trans a1_
  have a2_ := (World.cell?_of_block (a := (⟨GB, 2, none⟩ : Addr)) (heap_set3 (w := wd) (b := w.heap.size) (x0 := .int .i64 r) (x1 := .int .i64 s) (x2 := .slice x 0 c) (show GB ≠ w.heap.size by omega))).trans z2
  have b2_ := (World.cell?_of_block (a := (⟨GB, 2, none⟩ : Addr)) (heap_set3 (w := (((wd.setCell ⟨w.heap.size, 0, none⟩ (.int .i64 r)).setCell ⟨w.heap.size, 1, none⟩ (.int .i64 s)).setCell ⟨w.heap.size, 2, none⟩ (.slice x 0 c))) (b := w.heap.size + 1) (x0 := .int .i64 f1) (x1 := .int .i64 l1) (x2 := .int .i64 t1) (show GB ≠ w.heap.size + 1 by omega))).trans a2_
  have a3_ := (World.cell?_of_block (a := (⟨w6.heap.size, 0, none⟩ : Addr)) (heap_set3 (w := wd) (b := w.heap.size) (x0 := .int .i64 r) (x1 := .int .i64 s) (x2 := .slice x 0 c) (show w6.heap.size ≠ w.heap.size by omega))).trans e0_
  have b3_ := (World.cell?_of_block (a := (⟨w6.heap.size, 0, none⟩ : Addr)) (heap_set3 (w := (((wd.setCell ⟨w.heap.size, 0, none⟩ (.int .i64 r)).setCell ⟨w.heap.size, 1, none⟩ (.int .i64 s)).setCell ⟨w.heap.size, 2, none⟩ (.slice x 0 c))) (b := w.heap.size + 1) (x0 := .int .i64 f1) (x1 := .int .i64 l1) (x2 := .int .i64 t1) (show w6.heap.size ≠ w.heap.size + 1 by omega))).trans a3_
  have a4_ := (World.cell?_of_block (a := (⟨w6.heap.size, 1, none⟩ : Addr)) (heap_set3 (w := wd) (b := w.heap.size) (x0 := .int .i64 r) (x1 := .int .i64 s) (x2 := .slice x 0 c) (show w6.heap.size ≠ w.heap.size by omega))).trans e1_
  have b4_ := (World.cell?_of_block (a := (⟨w6.heap.size, 1, none⟩ : Addr)) (heap_set3 (w := (((wd.setCell ⟨w.heap.size, 0, none⟩ (.int .i64 r)).setCell ⟨w.heap.size, 1, none⟩ (.int .i64 s)).setCell ⟨w.heap.size, 2, none⟩ (.slice x 0 c))) (b := w.heap.size + 1) (x0 := .int .i64 f1) (x1 := .int .i64 l1) (x2 := .int .i64 t1) (show w6.heap.size ≠ w.heap.size + 1 by omega))).trans a4_
  have a5_ := (World.cell?_of_block (a := (⟨w6.heap.size, 2, none⟩ : Addr)) (heap_set3 (w := wd) (b := w.heap.size) (x0 := .int .i64 r) (x1 := .int .i64 s) (x2 := .slice x 0 c) (show w6.heap.size ≠ w.heap.size by omega))).trans e2_
  have b5_ := (World.cell?_of_block (a := (⟨w6.heap.size, 2, none⟩ : Addr)) (heap_set3 (w := (((wd.setCell ⟨w.heap.size, 0, none⟩ (.int .i64 r)).setCell ⟨w.heap.size, 1, none⟩ (.int .i64 s)).setCell ⟨w.heap.size, 2, none⟩ (.slice x 0 c))) (b := w.heap.size + 1) (x0 := .int .i64 f1) (x1 := .int .i64 l1) (x2 := .int .i64 t1) (show w6.heap.size ≠ w.heap.size + 1 by omega))).trans a5_
  replace hfz := hidI hfz
  replace hfR := hidI hfR
  replace hfQ := hidI hfQ
  replace hRd := hidI hRd
  replace hQd := hidI hQd
  replace hEd := hidI hEd
  replace hEA := hidI hEA
  replace hbA := hidI hbA
  replace hbd := hidI hbd
  replace hwd := hidI hwd
  replace hsA := hidI hsA
  replace hsd := hidI hsd
  go_upto_region 6 with fail
  rw [hwA'.out]
  go_wp2
  refine hideQ (fun _ _ d _ _ h => by cases d <;> exact h) (fun Q' hnorm hpan => ?_)
  refine wp_region_held_drew (S := (fun W0 => W0.cell? ⟨GB, 0, none⟩ = some (.int .i64 r) ∧ W0.cell? ⟨GB, 1, none⟩ = some (.int .i64 s) ∧ W0.cell? ⟨GB, 2, none⟩ = some (.slice x 0 c) ∧ W0.cell? ⟨w6.heap.size, 0, none⟩ = some (.int .i64 f1) ∧ W0.cell? ⟨w6.heap.size, 1, none⟩ = some (.int .i64 l1) ∧ W0.cell? ⟨w6.heap.size, 2, none⟩ = some (.int .i64 t1))) (by kernel_rfl) ?_ (fun hHeld => ?_)
  · try dsimp only
    (try rw [← hwd.out]); exact ⟨z0, z1, z2, e0_, e1_, e2_⟩
  rw [← hwd.out] at hHeld ⊢
  refine tk 0 36 ?_
  refine tk 1 37 ?_
  refine rd 2 (fun K hK => ?_)
  rw [if_pos (by rfl)]
  go_simp
  replace z0 := a0_
  replace z1 := a1_
  replace z2 := a2_
  replace e0_ := a3_
  replace e1_ := a4_
  replace e2_ := a5_
  refine hK.out _ _ ?_ (fun hHeld => ?_)
  · try dsimp only
    (try rw [← hwd.out]); exact ⟨z0, z1, z2, e0_, e1_, e2_⟩
  clear hK
  try simp only [Act.put, lyA, lyB, lyC]
  refine rd 3 (fun K hK => ?_)
  rw [if_pos (by rfl)]
  go_simp
  replace z0 := b0_
  replace z1 := b1_
  replace z2 := b2_
  replace e0_ := b3_
  replace e1_ := b4_
  replace e2_ := b5_
  refine hK.out _ _ ?_ (fun hHeld => ?_)
  · try dsimp only
    (try rw [← hwd.out]); exact ⟨z0, z1, z2, e0_, e1_, e2_⟩
  clear hK
  try simp only [Act.put, lyA, lyB, lyC]
  refine wpAnyH_done (by kernel_rfl) ?_ _
  refine hnorm _ _ ?_
  clear hnorm hpan
  repeat clear hHeld
  try simp only [Exit.then]
  go_wp2
  (try simp only [Exit.inBlock, Exit.then])
  refine ret_cells rfl (g := w.heap.size) (g2 := w.heap.size + 1) rfl rfl hfR.out hfQ.out Tryz.underlying26 sizeGraph Tryz.underlying36 sizeEdge ?_
  exact hfz.out
 have hn1 : (n : Int) > 0 := by omega
 have hon := once_in hd4.out 4 4 rfl (by omega) (by omega)
 go_wp2_with fail
 refine hon.mono ?_
 rintro e w5 ⟨b, rfl, hg5, hd5⟩
 clear hon
 have hsz5 := hg5.size
 have hGg : GB ≠ g := by have := hGB.out; omega
 have hG4 : GB < w4.heap.size := by have := hGB.out; omega
 have p0 := (World.cell?_of_block (a := (⟨GB, 0, none⟩ : Addr)) (hg5.block GB hG4 (fun e => by cases e; exact hGg rfl))).trans g0
 have p1 := (World.cell?_of_block (a := (⟨GB, 1, none⟩ : Addr)) (hg5.block GB hG4 (fun e => by cases e; exact hGg rfl))).trans g1
 have p2 := (World.cell?_of_block (a := (⟨GB, 2, none⟩ : Addr)) (hg5.block GB hG4 (fun e => by cases e; exact hGg rfl))).trans g2
 have hR5 := hidI ((hg5.block _ (show w.heap.size < w4.heap.size by omega) (fun e => by cases e; omega)).trans hR4.out)
 have hQ5 := hidI ((hg5.block _ (show w.heap.size + 1 < w4.heap.size by omega) (fun e => by cases e; omega)).trans hQ4.out)
 have hb15 := hidI (hb14.out.trans ((below_of_grown hg5 hg12.1 (by omega)).mono (by omega)))
 have hrow5h := hidI (hrow4h.out.keep (w' := w5) (fun k h1 h2 => hg5.block k (by omega) (fun e => by cases e; omega)))
 replace hg5 := hidI hg5
 clear g0 g1 g2
 have hG5 : GB < w5.heap.size := by omega
 cases b with
 | true =>
  go_upto_region 5 with fail
  have hG9 : GB < w5.heap.size := by have := hGB.out; omega
  have hct := two_in w5 a len cap ((hcode.out.below hb15.out).up hb15.out.size)
  go_wp2_with fail
  refine hct.mono ?_
  rintro e w6 ⟨f1, l1, t1, f2, l2, t2, hE1, hE2, rfl, hb6⟩
  clear hct
  have hsz6 := hb6.size
  have z0 := below_cell p0 hb6 hG9
  have z1 := below_cell p1 hb6 hG9
  have z2 := below_cell p2 hb6 hG9
  have hR6 := (hb6.block _ (show w.heap.size < w5.heap.size by omega)).trans hR5.out
  have hQ6 := (hb6.block _ (show w.heap.size + 1 < w5.heap.size by omega)).trans hQ5.out
  have hb16 := hidI (hb15.out.trans (hb6.mono (by omega)))
  have hrow6 := hidI (hrow5h.out.below hb6 (by omega))
  replace hR6 := hidI hR6
  replace hQ6 := hidI hQ6
  replace hb6 := hidI hb6
  clear p0 p1 p2
  obtain ⟨wA, hwA⟩ := exq ((w6.alloc (.cells #[.int .i64 f1, .int .i64 l1, .int .i64 t1] 36)).alloc (.cells #[.int .i64 f2, .int .i64 l2, .int .i64 t2] 36))
  have hbA : Below w6.heap.size w6 wA := by rw [hwA]; exact ((Below.refl _ _).alloc (Nat.le_refl _) _).alloc (by simp) _
  have hsA : wA.heap.size = w6.heap.size + 1 + 1 := by rw [hwA]; simp
  have hEA : wA.heap[w6.heap.size]? = some (.cells #[.int .i64 f1, .int .i64 l1, .int .i64 t1] 36 (0, 0)) := by rw [hwA]; exact heap_box _ _ _
  have hwA' := hidI hwA.symm
  replace hwA := hidI hwA
  obtain ⟨wd, hwd⟩ := exq wA.drew
  have hbd : Below w6.heap.size w6 wd := by rw [hwd]; exact below_dn hbA 1
  have hsd : wd.heap.size = w6.heap.size + 1 + 1 := by rw [hwd]; exact hsA
  have hEd : wd.heap[w6.heap.size]? = some (.cells #[.int .i64 f1, .int .i64 l1, .int .i64 t1] 36 (0, 0)) := by rw [hwd]; exact hEA
  obtain ⟨e0_, e1_, e2_⟩ := cell3 hEd
  simp at e0_ e1_ e2_
  replace z0 := below_cell z0 hbd (by omega)
  replace z1 := below_cell z1 hbd (by omega)
  replace z2 := below_cell z2 hbd (by omega)
  have hRd := (hbd.block _ (show w.heap.size < w6.heap.size by omega)).trans hR6.out
  have hQd := (hbd.block _ (show w.heap.size + 1 < w6.heap.size by omega)).trans hQ6.out
  obtain ⟨hfz, hfR, hfQ⟩ := hfin.out wd f1 l1 t1 (hb16.out.trans (hbd.mono (by have := hb16.out.size; omega))) (hrow6.out.below hbd (by omega)) (by omega) hRd hQd
  obtain ⟨y0, y1, y2⟩ := cell3 hRd
  have f2_ := fun j => frozen_of_row wd w.heap.size j _ _ hRd
  simp at y0 y1 y2
  have hQ2_ : (((wd.setCell ⟨w.heap.size, 0, none⟩ (.int .i64 r)).setCell ⟨w.heap.size, 1, none⟩ (.int .i64 s)).setCell ⟨w.heap.size, 2, none⟩ (.slice x n c)).heap[w.heap.size + 1]? = some (.cells #[.int .i64 0, .int .i64 0, .int .i64 0] 36 (0, 0)) := by rw [heap_set3 (show w.heap.size + 1 ≠ w.heap.size by omega)]; exact hQd
  obtain ⟨v0, v1, v2⟩ := cell3 hQ2_
  have f3_ := fun j => frozen_of_row (((wd.setCell ⟨w.heap.size, 0, none⟩ (.int .i64 r)).setCell ⟨w.heap.size, 1, none⟩ (.int .i64 s)).setCell ⟨w.heap.size, 2, none⟩ (.slice x n c)) (w.heap.size + 1) j _ _ hQ2_
  simp at v0 v1 v2
  replace hQ2_ := hidI hQ2_
  have a0_ := (World.cell?_of_block (a := (⟨GB, 0, none⟩ : Addr)) (heap_set3 (w := wd) (b := w.heap.size) (x0 := .int .i64 r) (x1 := .int .i64 s) (x2 := .slice x n c) (show GB ≠ w.heap.size by omega))).trans z0
  have b0_ := (World.cell?_of_block (a := (⟨GB, 0, none⟩ : Addr)) (heap_set3 (w := (((wd.setCell ⟨w.heap.size, 0, none⟩ (.int .i64 r)).setCell ⟨w.heap.size, 1, none⟩ (.int .i64 s)).setCell ⟨w.heap.size, 2, none⟩ (.slice x n c))) (b := w.heap.size + 1) (x0 := .int .i64 f1) (x1 := .int .i64 l1) (x2 := .int .i64 t1) (show GB ≠ w.heap.size + 1 by omega))).trans a0_
  have a1_ := (World.cell?_of_block (a := (⟨GB, 1, none⟩ : Addr)) (heap_set3 (w := wd) (b := w.heap.size) (x0 := .int .i64 r) (x1 := .int .i64 s) (x2 := .slice x n c) (show GB ≠ w.heap.size by omega))).trans z1
  have b1_ := (World.cell?_of_block (a := (⟨GB, 1, none⟩ : Addr)) (heap_set3 (w := (((wd.setCell ⟨w.heap.size, 0, none⟩ (.int .i64 r)).setCell ⟨w.heap.size, 1, none⟩ (.int .i64 s)).setCell ⟨w.heap.size, 2, none⟩ (.slice x n c))) (b := w.heap.size + 1) (x0 := .int .i64 f1) (x1 := .int .i64 l1) (x2 := .int .i64 t1) (show GB ≠ w.heap.size + 1 by omega))).trans a1_
  have a2_ := (World.cell?_of_block (a := (⟨GB, 2, none⟩ : Addr)) (heap_set3 (w := wd) (b := w.heap.size) (x0 := .int .i64 r) (x1 := .int .i64 s) (x2 := .slice x n c) (show GB ≠ w.heap.size by omega))).trans z2
  have b2_ := (World.cell?_of_block (a := (⟨GB, 2, none⟩ : Addr)) (heap_set3 (w := (((wd.setCell ⟨w.heap.size, 0, none⟩ (.int .i64 r)).setCell ⟨w.heap.size, 1, none⟩ (.int .i64 s)).setCell ⟨w.heap.size, 2, none⟩ (.slice x n c))) (b := w.heap.size + 1) (x0 := .int .i64 f1) (x1 := .int .i64 l1) (x2 := .int .i64 t1) (show GB ≠ w.heap.size + 1 by omega))).trans a2_
  have a3_ := (World.cell?_of_block (a := (⟨w6.heap.size, 0, none⟩ : Addr)) (heap_set3 (w := wd) (b := w.heap.size) (x0 := .int .i64 r) (x1 := .int .i64 s) (x2 := .slice x n c) (show w6.heap.size ≠ w.heap.size by omega))).trans e0_
  have b3_ := (World.cell?_of_block (a := (⟨w6.heap.size, 0, none⟩ : Addr)) (heap_set3 (w := (((wd.setCell ⟨w.heap.size, 0, none⟩ (.int .i64 r)).setCell ⟨w.heap.size, 1, none⟩ (.int .i64 s)).setCell ⟨w.heap.size, 2, none⟩ (.slice x n c))) (b := w.heap.size + 1) (x0 := .int .i64 f1) (x1 := .int .i64 l1) (x2 := .int .i64 t1) (show w6.heap.size ≠ w.heap.size + 1 by omega))).trans a3_
  have a4_ := (World.cell?_of_block (a := (⟨w6.heap.size, 1, none⟩ : Addr)) (heap_set3 (w := wd) (b := w.heap.size) (x0 := .int .i64 r) (x1 := .int .i64 s) (x2 := .slice x n c) (show w6.heap.size ≠ w.heap.size by omega))).trans e1_
  have b4_ := (World.cell?_of_block (a := (⟨w6.heap.size, 1, none⟩ : Addr)) (heap_set3 (w := (((wd.setCell ⟨w.heap.size, 0, none⟩ (.int .i64 r)).setCell ⟨w.heap.size, 1, none⟩ (.int .i64 s)).setCell ⟨w.heap.size, 2, none⟩ (.slice x n c))) (b := w.heap.size + 1) (x0 := .int .i64 f1) (x1 := .int .i64 l1) (x2 := .int .i64 t1) (show w6.heap.size ≠ w.heap.size + 1 by omega))).trans a4_
  have a5_ := (World.cell?_of_block (a := (⟨w6.heap.size, 2, none⟩ : Addr)) (heap_set3 (w := wd) (b := w.heap.size) (x0 := .int .i64 r) (x1 := .int .i64 s) (x2 := .slice x n c) (show w6.heap.size ≠ w.heap.size by omega))).trans e2_
  have b5_ := (World.cell?_of_block (a := (⟨w6.heap.size, 2, none⟩ : Addr)) (heap_set3 (w := (((wd.setCell ⟨w.heap.size, 0, none⟩ (.int .i64 r)).setCell ⟨w.heap.size, 1, none⟩ (.int .i64 s)).setCell ⟨w.heap.size, 2, none⟩ (.slice x n c))) (b := w.heap.size + 1) (x0 := .int .i64 f1) (x1 := .int .i64 l1) (x2 := .int .i64 t1) (show w6.heap.size ≠ w.heap.size + 1 by omega))).trans a5_
  replace hfz := hidI hfz
  replace hfR := hidI hfR
  replace hfQ := hidI hfQ
  replace hRd := hidI hRd
  replace hQd := hidI hQd
  replace hEd := hidI hEd
  replace hEA := hidI hEA
  replace hbA := hidI hbA
  replace hbd := hidI hbd
  replace hwd := hidI hwd
  replace hsA := hidI hsA
  replace hsd := hidI hsd
  go_upto_region 6 with fail
  rw [hwA'.out]
  go_wp2
  refine hideQ (fun _ _ d _ _ h => by cases d <;> exact h) (fun Q' hnorm hpan => ?_)
  refine wp_region_held_drew (S := (fun W0 => W0.cell? ⟨GB, 0, none⟩ = some (.int .i64 r) ∧ W0.cell? ⟨GB, 1, none⟩ = some (.int .i64 s) ∧ W0.cell? ⟨GB, 2, none⟩ = some (.slice x n c) ∧ W0.cell? ⟨w6.heap.size, 0, none⟩ = some (.int .i64 f1) ∧ W0.cell? ⟨w6.heap.size, 1, none⟩ = some (.int .i64 l1) ∧ W0.cell? ⟨w6.heap.size, 2, none⟩ = some (.int .i64 t1))) (by kernel_rfl) ?_ (fun hHeld => ?_)
  · try dsimp only
    (try rw [← hwd.out]); exact ⟨z0, z1, z2, e0_, e1_, e2_⟩
  rw [← hwd.out] at hHeld ⊢
  refine tk 0 36 ?_
  refine tk 1 37 ?_
  refine rd 2 (fun K hK => ?_)
  rw [if_pos (by rfl)]
  go_simp
  replace z0 := a0_
  replace z1 := a1_
  replace z2 := a2_
  replace e0_ := a3_
  replace e1_ := a4_
  replace e2_ := a5_
  refine hK.out _ _ ?_ (fun hHeld => ?_)
  · try dsimp only
    (try rw [← hwd.out]); exact ⟨z0, z1, z2, e0_, e1_, e2_⟩
  clear hK
  try simp only [Act.put, lyA, lyB, lyC]
  refine rd 3 (fun K hK => ?_)
  rw [if_pos (by rfl)]
  go_simp
  replace z0 := b0_
  replace z1 := b1_
  replace z2 := b2_
  replace e0_ := b3_
  replace e1_ := b4_
  replace e2_ := b5_
  refine hK.out _ _ ?_ (fun hHeld => ?_)
  · try dsimp only
    (try rw [← hwd.out]); exact ⟨z0, z1, z2, e0_, e1_, e2_⟩
  clear hK
  try simp only [Act.put, lyA, lyB, lyC]
  refine wpAnyH_done (by kernel_rfl) ?_ _
  refine hnorm _ _ ?_
  clear hnorm hpan
  repeat clear hHeld
  try simp only [Exit.then]
  go_wp2
  (try simp only [Exit.inBlock, Exit.then])
  refine ret_cells rfl (g := w.heap.size) (g2 := w.heap.size + 1) rfl rfl hfR.out hfQ.out Tryz.underlying26 sizeGraph Tryz.underlying36 sizeEdge ?_
  exact hfz.out
 | false =>
  obtain ⟨xb, xo, xc, hxe, hx1, hx2⟩ := hrow5h.out.form hn0
  simp only [Value.slice.injEq] at hxe
  obtain ⟨rfl, -, rfl⟩ := hxe
  obtain ⟨wd, hwd⟩ := exq w5.drew
  have hbd : Below w5.heap.size w5 wd := by rw [hwd]; exact below_dn (Below.refl _ _) 1
  have hsd : wd.heap.size = w5.heap.size := by rw [hwd]; rfl
  have hd5d := hidI (show Dr w1.heap.size g a len cap wd from hd5.over hbd hd5.lt)
  replace hd5 := hidI hd5
  have z0 := below_cell p0 hbd hG5
  have z1 := below_cell p1 hbd hG5
  have z2 := below_cell p2 hbd hG5
  have hrowd := hidI (hrow5h.out.below hbd (by omega))
  have hcells : ∀ (W : World), RowS 36 3 W w2.heap.size w3.heap.size (.slice (some ⟨xb, xo, none⟩) n c) n (flatE es) → ∀ i, i < n → W.cell? ⟨xb, xo + i * 3, none⟩ = some (.int .i64 (es.getD i e0).1) ∧ W.cell? ⟨xb, xo + i * 3 + 1, none⟩ = some (.int .i64 (es.getD i e0).2.1) ∧ W.cell? ⟨xb, xo + i * 3 + 2, none⟩ = some (.int .i64 (es.getD i e0).2.2) := fun W hr i hi => by
   have hrd := hr.read
   rw [hm.out] at hrd hi
   obtain ⟨b', o', e, _, q⟩ := ReadE.at3 hrd i hi
   simp only [Option.some.injEq, Addr.mk.injEq, and_true] at e
   obtain ⟨rfl, rfl⟩ := e
   exact q
  have hSd := hcells wd hrowd.out
  have hR5d := hidI ((hbd.block _ (show w.heap.size < w5.heap.size by omega)).trans hR5.out)
  have hQ5d := hidI ((hbd.block _ (show w.heap.size + 1 < w5.heap.size by omega)).trans hQ5.out)
  have hb1d := hidI (hb15.out.trans (hbd.mono (by have := hb15.out.size; omega)))
  have hbl := fun (W : World) (hd : Dr w1.heap.size g a len cap W) => below_in hd (n : Int) n rfl (by omega) (by have := hm.out; have := hP.out.2.2; omega)
  replace hbl := hidI hbl
  replace hcells := hidI hcells
  replace hSd := hidI hSd
  replace hwd := hidI hwd
  clear hbd p0 p1 p2
  go_upto_region 4 with fail
  go_wp2
  refine hideQ (fun _ _ d _ _ h => by cases d <;> exact h) (fun Q' hnorm hpan => ?_)
  refine wp_region_held_drew (S := (fun W0 => W0.cell? ⟨GB, 0, none⟩ = some (.int .i64 r) ∧ W0.cell? ⟨GB, 1, none⟩ = some (.int .i64 s) ∧ W0.cell? ⟨GB, 2, none⟩ = some (.slice (some ⟨xb, xo, none⟩) n c) ∧ ∀ i, i < n → W0.cell? ⟨xb, xo + i * 3, none⟩ = some (.int .i64 (es.getD i e0).1) ∧ W0.cell? ⟨xb, xo + i * 3 + 1, none⟩ = some (.int .i64 (es.getD i e0).2.1) ∧ W0.cell? ⟨xb, xo + i * 3 + 2, none⟩ = some (.int .i64 (es.getD i e0).2.2))) (by kernel_rfl) ?_ (fun hHeld => ?_)
  · try dsimp only
    (try rw [← hwd.out]); exact ⟨z0, z1, z2, hSd.out⟩
  rw [← hwd.out] at hHeld ⊢
  refine tk 0 21 ?_
  refine tk 1 22 ?_
  refine tk 2 23 ?_
  refine tk 3 24 ?_
  refine tk 4 25 ?_
  refine tk 5 26 ?_
  refine tk 6 27 ?_
  refine rd 7 (fun K hK => ?_)
  rw [if_pos (by rfl)]
  go_simp
  go_at_call 59
  (with_reducible refine (hbl.out wd hd5d.out).mono ?_)
  rintro e w7 ⟨zi, hzi, rfl, hg7, hd7⟩
  have hsz7 := hg7.size
  obtain ⟨iN, rfl⟩ : ∃ k : Nat, zi = (k : Int) := ⟨zi.toNat, by omega⟩
  have hiN : iN < n := by omega
  have hii : (iN : Int) < (n : Int) := by omega
  replace z0 := (World.cell?_of_block (a := (⟨GB, 0, none⟩ : Addr)) (hg7.block GB (by omega) (fun e => by cases e; exact hGg rfl))).trans z0
  replace z1 := (World.cell?_of_block (a := (⟨GB, 1, none⟩ : Addr)) (hg7.block GB (by omega) (fun e => by cases e; exact hGg rfl))).trans z1
  replace z2 := (World.cell?_of_block (a := (⟨GB, 2, none⟩ : Addr)) (hg7.block GB (by omega) (fun e => by cases e; exact hGg rfl))).trans z2
  have hrow7 := hrowd.out.keep (w' := w7) (fun k h1 h2 => hg7.block k (by omega) (fun e => by cases e; omega))
  replace hSd := hidI (hcells.out w7 hrow7)
  have hR7 := (hg7.block _ (show w.heap.size < wd.heap.size by omega) (fun e => by cases e; omega)).trans hR5d.out
  have hQ7 := (hg7.block _ (show w.heap.size + 1 < wd.heap.size by omega) (fun e => by cases e; omega)).trans hQ5d.out
  have hb17 := hb1d.out.trans ((below_of_grown hg7 hg12.1 (by omega)).mono (by omega))
  obtain ⟨fi, li, ti, hei⟩ : ∃ f l t, es.getD iN e0 = (f, l, t) := ⟨_, _, _, rfl⟩
  replace hg7 := hidI hg7
  replace hd7 := hidI hd7
  obtain ⟨wq, hwq⟩ := exq w7
  clear hwq
  obtain ⟨hfz, hfR, hfQ⟩ := hfin.out w7 fi li ti hb17 hrow7 (by omega) hR7 hQ7
  obtain ⟨y0, y1, y2⟩ := cell3 hR7
  have f2_ := fun j => frozen_of_row w7 w.heap.size j _ _ hR7
  simp at y0 y1 y2
  have hQ2_ : (((w7.setCell ⟨w.heap.size, 0, none⟩ (.int .i64 r)).setCell ⟨w.heap.size, 1, none⟩ (.int .i64 s)).setCell ⟨w.heap.size, 2, none⟩ (.slice (some ⟨xb, xo, none⟩) n c)).heap[w.heap.size + 1]? = some (.cells #[.int .i64 0, .int .i64 0, .int .i64 0] 36 (0, 0)) := by rw [heap_set3 (show w.heap.size + 1 ≠ w.heap.size by omega)]; exact hQ7
  obtain ⟨v0, v1, v2⟩ := cell3 hQ2_
  have f3_ := fun j => frozen_of_row (((w7.setCell ⟨w.heap.size, 0, none⟩ (.int .i64 r)).setCell ⟨w.heap.size, 1, none⟩ (.int .i64 s)).setCell ⟨w.heap.size, 2, none⟩ (.slice (some ⟨xb, xo, none⟩) n c)) (w.heap.size + 1) j _ _ hQ2_
  simp at v0 v1 v2
  replace hQ2_ := hidI hQ2_
  have a0_ := (World.cell?_of_block (a := (⟨GB, 0, none⟩ : Addr)) (heap_set3 (w := w7) (b := w.heap.size) (x0 := .int .i64 r) (x1 := .int .i64 s) (x2 := .slice (some ⟨xb, xo, none⟩) n c) (show GB ≠ w.heap.size by omega))).trans z0
  have b0_ := (World.cell?_of_block (a := (⟨GB, 0, none⟩ : Addr)) (heap_set3 (w := (((w7.setCell ⟨w.heap.size, 0, none⟩ (.int .i64 r)).setCell ⟨w.heap.size, 1, none⟩ (.int .i64 s)).setCell ⟨w.heap.size, 2, none⟩ (.slice (some ⟨xb, xo, none⟩) n c))) (b := w.heap.size + 1) (x0 := .int .i64 fi) (x1 := .int .i64 li) (x2 := .int .i64 ti) (show GB ≠ w.heap.size + 1 by omega))).trans a0_
  have a1_ := (World.cell?_of_block (a := (⟨GB, 1, none⟩ : Addr)) (heap_set3 (w := w7) (b := w.heap.size) (x0 := .int .i64 r) (x1 := .int .i64 s) (x2 := .slice (some ⟨xb, xo, none⟩) n c) (show GB ≠ w.heap.size by omega))).trans z1
  have b1_ := (World.cell?_of_block (a := (⟨GB, 1, none⟩ : Addr)) (heap_set3 (w := (((w7.setCell ⟨w.heap.size, 0, none⟩ (.int .i64 r)).setCell ⟨w.heap.size, 1, none⟩ (.int .i64 s)).setCell ⟨w.heap.size, 2, none⟩ (.slice (some ⟨xb, xo, none⟩) n c))) (b := w.heap.size + 1) (x0 := .int .i64 fi) (x1 := .int .i64 li) (x2 := .int .i64 ti) (show GB ≠ w.heap.size + 1 by omega))).trans a1_
  have a2_ := (World.cell?_of_block (a := (⟨GB, 2, none⟩ : Addr)) (heap_set3 (w := w7) (b := w.heap.size) (x0 := .int .i64 r) (x1 := .int .i64 s) (x2 := .slice (some ⟨xb, xo, none⟩) n c) (show GB ≠ w.heap.size by omega))).trans z2
  have b2_ := (World.cell?_of_block (a := (⟨GB, 2, none⟩ : Addr)) (heap_set3 (w := (((w7.setCell ⟨w.heap.size, 0, none⟩ (.int .i64 r)).setCell ⟨w.heap.size, 1, none⟩ (.int .i64 s)).setCell ⟨w.heap.size, 2, none⟩ (.slice (some ⟨xb, xo, none⟩) n c))) (b := w.heap.size + 1) (x0 := .int .i64 fi) (x1 := .int .i64 li) (x2 := .int .i64 ti) (show GB ≠ w.heap.size + 1 by omega))).trans a2_
  have hS2 := hidI (hcells.out (((w7.setCell ⟨w.heap.size, 0, none⟩ (.int .i64 r)).setCell ⟨w.heap.size, 1, none⟩ (.int .i64 s)).setCell ⟨w.heap.size, 2, none⟩ (.slice (some ⟨xb, xo, none⟩) n c)) (hrow7.set3_ (.inl (by omega))))
  have hS3 := hidI (hcells.out ((((((w7.setCell ⟨w.heap.size, 0, none⟩ (.int .i64 r)).setCell ⟨w.heap.size, 1, none⟩ (.int .i64 s)).setCell ⟨w.heap.size, 2, none⟩ (.slice (some ⟨xb, xo, none⟩) n c)).setCell ⟨w.heap.size + 1, 0, none⟩ (.int .i64 fi)).setCell ⟨w.heap.size + 1, 1, none⟩ (.int .i64 li)).setCell ⟨w.heap.size + 1, 2, none⟩ (.int .i64 ti)) ((hrow7.set3_ (.inl (by omega))).set3_ (.inl (by omega))))
  replace hfz := hidI hfz
  replace hfR := hidI hfR
  replace hfQ := hidI hfQ
  replace hR7 := hidI hR7
  replace hQ7 := hidI hQ7
  replace hrow7 := hidI hrow7
  replace hb17 := hidI hb17
  refine hK.out _ _ ?_ (fun hHeld => ?_)
  · try dsimp only
    (try rw [← hwd.out]); exact ⟨z0, z1, z2, hSd.out⟩
  clear hK
  try simp only [Act.put, lyA, lyB, lyC]
  refine tk 8 29 ?_
  refine tk 9 30 ?_ (v := .agg #[.int .i64 fi, .int .i64 li, .int .i64 ti]) (hy := by exact Or.inl ⟨by rfl, by intro w hSw; obtain ⟨_, _, _, hSx⟩ := hSw; obtain ⟨k0, k1, k2⟩ := hSx iN hiN; rw [hei] at k0 k1 k2; simp only at k0 k1 k2; go_simp; first | with_reducible rfl | (have hq := hei; rw [List.getD_eq_getElem?_getD] at hq; rw [hq]; exact ⟨rfl, rfl, rfl⟩)⟩)
  refine rd 10 (fun K hK => ?_)
  rw [if_pos (by rfl)]
  go_simp
  replace z0 := a0_
  replace z1 := a1_
  replace z2 := a2_
  replace hSd := hS2
  refine hK.out _ _ ?_ (fun hHeld => ?_)
  · try dsimp only
    (try rw [← hwd.out]); exact ⟨z0, z1, z2, hSd.out⟩
  clear hK
  try simp only [Act.put, lyA, lyB, lyC]
  refine rd 11 (fun K hK => ?_)
  rw [if_pos (by rfl)]
  go_simp
  replace z0 := b0_
  replace z1 := b1_
  replace z2 := b2_
  replace hSd := hS3
  refine hK.out _ _ ?_ (fun hHeld => ?_)
  · try dsimp only
    (try rw [← hwd.out]); exact ⟨z0, z1, z2, hSd.out⟩
  clear hK
  try simp only [Act.put, lyA, lyB, lyC]
  refine wpAnyH_done (by kernel_rfl) ?_ _
  refine hnorm _ _ ?_
  clear hnorm hpan
  repeat clear hHeld
  try simp only [Exit.then]
  go_wp2
  (try simp only [Exit.inBlock, Exit.then])
  refine ret_cells rfl (g := w.heap.size) (g2 := w.heap.size + 1) rfl rfl hfR.out hfQ.out Tryz.underlying26 sizeGraph Tryz.underlying36 sizeEdge ?_
  exact hfz.out
end Go.Proofs.YtgnomlcjikfdhaaGreat
