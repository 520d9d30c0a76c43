import Derived.Test.YtfpklgmahbhecaaGreatYH
import Derived.Test.YtfpklgmahbhecaaGreatYP
import Derived.Test.YtfpklgmahbhecaaGreatRN
import Derived.Test.YtfpklgmahbhecaaGreatRO
import Derived.Test.YtfpklgmahbhecaaGreatTH
import Derived.Test.YtfpklgmahbhecaaGreatRL
namespace Go.Proofs.YtfpklgmahbhecaaGreat
open Go.RowKit
set_option linter.unusedVariables false
set_option linter.unusedSimpArgs false
theorem fa_gr {r s : Int} {es : List Ed} (hg : isGr r s es = true) : isGr r (faS r s es) (faE r s es) = true := by
 have h := fa_or hg 40
 unfold faS faE
 rw [h]
 exact or_gr hg 40
theorem fa_no {r s : Int} {es : List Ed} (hg : isGr r s es = false) : faS r s es = s ∧ faE r s es = es := by
 obtain ⟨h1, h2, _⟩ := fa_fo r s es
 rw [h1, h2]
 unfold foS foE
 rw [hg]
 exact ⟨rfl, rfl⟩
theorem fa_bd {r s : Int} {es : List Ed} (hs : -9223372036854775808 ≤ s ∧ s ≤ 9223372036854775807) : -9223372036854775808 ≤ faS r s es ∧ faS r s es ≤ 9223372036854775807 := by
 cases hg : isGr r s es with
 | true => have := isGr_lim (fa_gr hg); omega
 | false => rw [(fa_no hg).1]; exact hs
theorem tm_bd {r s : Int} {es : List Ed} (hs : -9223372036854775808 ≤ s ∧ s ≤ 9223372036854775807) : -9223372036854775808 ≤ tmS r s es ∧ tmS r s es ≤ 9223372036854775807 := by
 cases hg : isGr r s es with
 | true => have := isGr_lim (tm_gr hg); omega
 | false => rw [(tm_no hg).1]; exact hs
theorem fa_len (r s : Int) (es : List Ed) : (faE r s es).length ≤ es.length := by
 rw [(fa_fo r s es).2.1]; exact foE_length r s es []
def crS (r s : Int) (es : List Ed) : Int := cgS r (tmS r (faS r s es) (faE r s es)) (tmE r (faS r s es) (faE r s es))
def crE (r s : Int) (es : List Ed) : List Ed := cgE r (tmS r (faS r s es) (faE r s es)) (tmE r (faS r s es) (faE r s es))
theorem crE_length (r s : Int) (es : List Ed) : (crE r s es).length ≤ es.length := by
 have h1 := cgE_length r (tmS r (faS r s es) (faE r s es)) (tmE r (faS r s es) (faE r s es))
 have h2 := tmE_length r (faS r s es) (faE r s es)
 have h3 := fa_len r s es
 unfold crE
 omega
set_option maxRecDepth 100000 in
set_option maxHeartbeats 6400000 in
theorem progCoreG (w : World) (r s : Int) (v : Value) (es : List Ed) (h : ReadE w.heap.size w v es) (hs : -9223372036854775808 ≤ s ∧ s ≤ 9223372036854775807) (hl : es.length ≤ 1048576) :
 Calls Tryz.prog 13 #[.agg #[.int .i64 r, .int .i64 s, v]] w (LwGraph w r (crS r s es) (crE r s es)) := by
 obtain ⟨a, cap, rfl, hnc⟩ := h.form
 obtain ⟨n, hn⟩ := exq es.length
 rw [← hn] at hl hnc ⊢
 rw [← hn] at h
 obtain ⟨w1, hw1⟩ := exq ((w.alloc (.cells #[.int .i64 r, .int .i64 s, .slice a n cap] 26)).alloc (.cells #[.int .i64 0, .int .i64 0, .slice none 0 0] 26))
 have hb1 : Below w.heap.size w w1 := by rw [hw1]; exact ((Below.refl _ _).alloc (Nat.le_refl _) _).alloc (by simp) _
 have hs1 : w1.heap.size = w.heap.size + 1 + 1 := by rw [hw1]; simp
 have hg := heap_box w (.cells #[.int .i64 r, .int .i64 s, .slice a n cap] 26) (.cells #[.int .i64 0, .int .i64 0, .slice none 0 0] 26)
 have hR := heap_alloc_new (w.alloc (.cells #[.int .i64 r, .int .i64 s, .slice a n cap] 26)) (.cells #[.int .i64 0, .int .i64 0, .slice none 0 0] 26)
 rw [← hw1] at hg hR
 rw [show (w.alloc (.cells #[.int .i64 r, .int .i64 s, .slice a n cap] 26)).heap.size = w.heap.size + 1 by simp] at hR
 have g0 : w1.cell? ⟨w.heap.size, 0, none⟩ = some (.int .i64 r) := by simpa using cell_of_heap hg 0
 have g1 : w1.cell? ⟨w.heap.size, 1, none⟩ = some (.int .i64 s) := by simpa using cell_of_heap hg 1
 have g2 : w1.cell? ⟨w.heap.size, 2, none⟩ = some (.slice a n cap) := by simpa using cell_of_heap hg 2
 have hfa := progAll w1 r s (.slice a n cap) es (by have := (h.below hb1).mono hb1.size; rw [hn] at this ⊢; exact this) (by omega)
 have hfb := fa_bd (r := r) (es := es) hs
 have hfl := fa_len r s es
 have htb := tm_bd (r := r) (es := faE r s es) hfb
 have htl := tmE_length r (faS r s es) (faE r s es)
 obtain ⟨CS, hCS⟩ := exq (crS r s es)
 obtain ⟨CE, hCE⟩ := exq (crE r s es)
 rw [← hCS, ← hCE]
 unfold crS at hCS
 unfold crE at hCE
 obtain ⟨FS, hFS⟩ := exq (faS r s es)
 obtain ⟨FE, hFE⟩ := exq (faE r s es)
 obtain ⟨FL, hFL⟩ := exq (faL r s es)
 rw [← hFS, ← hFE, ← hFL] at hfa
 rw [← hFS, ← hFE] at hCS hCE htb htl
 rw [← hFS] at hfb
 rw [← hFE] at hfl
 have htr := fun (W : World) (av : Value) (hr : ReadE W.heap.size W av FE) => progTrim W r FS av FE hr (by omega)
 have hcg := fun (W : World) (av : Value) (hr : ReadE W.heap.size W av (tmE r FS FE)) => progCanG W r (tmS r FS FE) av (tmE r FS FE) hr (by omega)
 rw [← hCS, ← hCE] at hcg
 obtain ⟨TS, hTS⟩ := exq (tmS r FS FE)
 obtain ⟨TE, hTE⟩ := exq (tmE r FS FE)
 obtain ⟨TLs, hTL⟩ := exq (tmL r FS FE)
 rw [← hTS, ← hTE] at hcg
 rw [← hTS, ← hTE, ← hTL] at htr
 have hRk : ∀ W, Below w1.heap.size w1 W → W.heap[w.heap.size + 1]? = some (.cells #[.int .i64 0, .int .i64 0, .slice none 0 0] 26 (0, 0)) := fun W hW => by rw [hW.block _ (by omega)]; exact hR
 have hww := hidI hw1.symm
 have hb1' := hidI hb1
 replace hRk := hidI hRk
 replace htr := hidI htr
 replace hcg := hidI hcg
 replace hCS := hidI hCS
 replace hCE := hidI hCE
 replace hFS := hidI hFS
 replace hFE := hidI hFE
 replace hFL := hidI hFL
 replace hTS := hidI hTS
 replace hTE := hidI hTE
 replace hTL := hidI hTL
 replace hn := hidI hn
 replace h := hidI h
 replace hg := hidI hg
 replace hR := hidI hR
 replace hs1 := hidI hs1
 replace hw1 := hidI hw1
 replace hfb := hidI hfb
 replace htb := hidI htb
 replace hfl := hidI hfl
 replace htl := hidI htl
 go_enter Tryz.func13, Tryz.ntmps13
 go_upto_region 1 with fail
 rw [hww.out]
 go_wp2_with fail
 refine hfa.mono ?_
 rintro e w2 ⟨ca, cc, lv, glo, ghi, flo, fhi, rfl, hd0, hrow2, hst2, hb2⟩
 clear hfa
 have hlt1 : w.heap.size + 1 < w1.heap.size := by have := hs1.out; omega
 have hsz2 := hb2.size
 obtain ⟨w3, hw3⟩ := exq (w2.alloc (.cells #[.int .i64 0, .int .i64 0, .slice none 0 0] 26))
 have hb3 : Below w2.heap.size w2 w3 := by rw [hw3]; exact (Below.refl _ _).alloc (Nat.le_refl _) _
 have hX3 : w3.heap[w2.heap.size]? = some (.cells #[.int .i64 0, .int .i64 0, .slice none 0 0] 26 (0, 0)) := by rw [hw3]; exact heap_alloc_new _ _
 obtain ⟨w4, hw4⟩ := exq (((w3.setCell ⟨w2.heap.size, 0, none⟩ (.int .i64 r)).setCell ⟨w2.heap.size, 1, none⟩ (.int .i64 FS)).setCell ⟨w2.heap.size, 2, none⟩ (.slice ca FE.length cc))
 have hX4 : w4.heap[w2.heap.size]? = some (.cells #[.int .i64 r, .int .i64 FS, .slice ca FE.length cc] 26 (0, 0)) := by rw [hw4]; exact set3 hX3 _ _ _
 have hb4 : Below w2.heap.size w2 w4 := by rw [hw4]; exact below_set3 hb3 (Nat.le_refl _)
 have hsz4 : w2.heap.size < w4.heap.size := (Array.getElem?_eq_some_iff.1 hX4).1
 have hrow4 : RowS 53 3 w4 glo ghi (.slice ca FE.length cc) FE.length (flatE FE) := hrow2.below hb4 hd0.2.2.1
 have hb14 := hb2.trans (hb4.mono hsz2)
 obtain ⟨c0, c1, c2⟩ := cell3 hX4
 obtain ⟨t0, t1, t2⟩ := cell3 hX3
 have ft := fun j => frozen_of_row w3 w2.heap.size j _ _ hX3
 simp at c0 c1 c2 t0 t1 t2
 have hw3w := hidI hw3.symm
 have hw4w := hidI hw4.symm
 have htr4 := htr.out w4 (.slice ca FE.length cc) (hrow4.read.mono (by omega))
 replace hw3 := hidI hw3
 replace hw4 := hidI hw4
 replace hX3 := hidI hX3
 replace hX4 := hidI hX4
 replace hrow2 := hidI hrow2
 replace hst2 := hidI hst2
 replace hd0 := hidI hd0
 replace hb2 := hidI hb2
 replace hb4 := hidI hb4
 replace hrow4 := hidI hrow4
 replace hb14 := hidI hb14
 clear hb3 g0 g1 g2
 go_upto_region 2 with (first | rw [hw3w.out] | fail)
 rw [hw4w.out]
 clear t0 t1 t2 ft
 go_wp2_with fail
 refine htr4.mono ?_
 rintro e w5 ⟨da, dc, dv, glo2, ghi2, flo2, fhi2, rfl, hd5, hrow5, hst5, hb5⟩
 clear htr4 c0 c1 c2
 have hsz5 := hb5.size
 obtain ⟨w6, hw6⟩ := exq (w5.alloc (.cells #[.int .i64 0, .int .i64 0, .slice none 0 0] 26))
 have hb6 : Below w5.heap.size w5 w6 := by rw [hw6]; exact (Below.refl _ _).alloc (Nat.le_refl _) _
 have hX6 : w6.heap[w5.heap.size]? = some (.cells #[.int .i64 0, .int .i64 0, .slice none 0 0] 26 (0, 0)) := by rw [hw6]; exact heap_alloc_new _ _
 obtain ⟨w7, hw7⟩ := exq (((w6.setCell ⟨w5.heap.size, 0, none⟩ (.int .i64 r)).setCell ⟨w5.heap.size, 1, none⟩ (.int .i64 TS)).setCell ⟨w5.heap.size, 2, none⟩ (.slice da TE.length dc))
 have hX7 : w7.heap[w5.heap.size]? = some (.cells #[.int .i64 r, .int .i64 TS, .slice da TE.length dc] 26 (0, 0)) := by rw [hw7]; exact set3 hX6 _ _ _
 have hb7 : Below w5.heap.size w5 w7 := by rw [hw7]; exact below_set3 hb6 (Nat.le_refl _)
 have hsz7 : w5.heap.size < w7.heap.size := (Array.getElem?_eq_some_iff.1 hX7).1
 have hrow7 : RowS 53 3 w7 glo2 ghi2 (.slice da TE.length dc) TE.length (flatE TE) := hrow5.below hb7 hd5.2.2.1
 have hb17 := hb14.out.trans ((hb5.trans (hb7.mono hsz5)).mono hb14.out.size)
 obtain ⟨c0, c1, c2⟩ := cell3 hX7
 obtain ⟨t0, t1, t2⟩ := cell3 hX6
 have ft := fun j => frozen_of_row w6 w5.heap.size j _ _ hX6
 simp at c0 c1 c2 t0 t1 t2
 have hw6w := hidI hw6.symm
 have hw7w := hidI hw7.symm
 have hcg7 := hcg.out w7 (.slice da TE.length dc) (hrow7.read.mono (by omega))
 replace hw6 := hidI hw6
 replace hw7 := hidI hw7
 replace hX6 := hidI hX6
 replace hX7 := hidI hX7
 replace hrow5 := hidI hrow5
 replace hst5 := hidI hst5
 replace hd5 := hidI hd5
 replace hb5 := hidI hb5
 replace hb7 := hidI hb7
 replace hrow7 := hidI hrow7
 replace hb17 := hidI hb17
 clear hb6
 go_upto_region 3 with (first | rw [hw6w.out] | fail)
 rw [hw7w.out]
 clear t0 t1 t2 ft
 go_wp2_with fail
 refine hcg7.mono ?_
 rintro e w8 ⟨ea, ec, rfl, hrow8, hb8⟩
 clear hcg7 c0 c1 c2
 have hb18 := hb17.out.trans (hb8.mono hb17.out.size)
 have hR8 := hRk.out w8 hb18
 obtain ⟨y0, y1, y2⟩ := cell3 hR8
 have f2 := fun j => frozen_of_row w8 (w.heap.size + 1) j _ _ hR8
 simp at y0 y1 y2
 have hs17 := hb17.out.size
 have hfin : LwGraph w r CS CE (.returned (.agg #[.int .i64 r, .int .i64 CS, .slice ea CE.length ec])) (((w8.setCell ⟨w.heap.size + 1, 0, none⟩ (.int .i64 r)).setCell ⟨w.heap.size + 1, 1, none⟩ (.int .i64 CS)).setCell ⟨w.heap.size + 1, 2, none⟩ (.slice ea CE.length ec)) := by
  refine ⟨ea, ec, rfl, (RowS.set3_ hrow8 (.inl (by omega))).wide (by omega) (by rw [size_set3]; exact Nat.le_refl _), below_set3 (hb1'.out.trans (hb18.mono hb1'.out.size)) (by omega)⟩
 have hset := set3 hR8 (.int .i64 r) (.int .i64 CS) (.slice ea CE.length ec)
 replace hfin := hidI hfin
 replace hset := hidI hset
 replace hR8 := hidI hR8
 replace hrow8 := hidI hrow8
 replace hb8 := hidI hb8
 replace hb18 := hidI hb18
 go_wp2
 (try simp only [Exit.inBlock, Exit.then])
 refine ret_cell rfl (g := w.heap.size + 1) rfl hset.out Tryz.underlying26 sizeGraph ?_
 exact hfin.out
set_option maxRecDepth 100000 in
set_option maxHeartbeats 6400000 in
theorem specCoreG (w : World) (r s : Int) (v : Value) (es : List Ed) (h : ReadE w.heap.size w v es) (hs : -9223372036854775808 ≤ s ∧ s ≤ 9223372036854775807) (hl : es.length ≤ 1048576) :
 Calls Tryz.prog 14 #[.agg #[.int .i64 r, .int .i64 s, v]] w (LwGraph w r (crS r s es) (crE r s es)) := by
 obtain ⟨a, cap, rfl, hnc⟩ := h.form
 obtain ⟨n, hn⟩ := exq es.length
 rw [← hn] at hl hnc ⊢
 rw [← hn] at h
 obtain ⟨w1, hw1⟩ := exq ((w.alloc (.cells #[.int .i64 r, .int .i64 s, .slice a n cap] 26)).alloc (.cells #[.int .i64 0, .int .i64 0, .slice none 0 0] 26))
 have hb1 : Below w.heap.size w w1 := by rw [hw1]; exact ((Below.refl _ _).alloc (Nat.le_refl _) _).alloc (by simp) _
 have hs1 : w1.heap.size = w.heap.size + 1 + 1 := by rw [hw1]; simp
 have hg := heap_box w (.cells #[.int .i64 r, .int .i64 s, .slice a n cap] 26) (.cells #[.int .i64 0, .int .i64 0, .slice none 0 0] 26)
 have hR := heap_alloc_new (w.alloc (.cells #[.int .i64 r, .int .i64 s, .slice a n cap] 26)) (.cells #[.int .i64 0, .int .i64 0, .slice none 0 0] 26)
 rw [← hw1] at hg hR
 rw [show (w.alloc (.cells #[.int .i64 r, .int .i64 s, .slice a n cap] 26)).heap.size = w.heap.size + 1 by simp] at hR
 have g0 : w1.cell? ⟨w.heap.size, 0, none⟩ = some (.int .i64 r) := by simpa using cell_of_heap hg 0
 have g1 : w1.cell? ⟨w.heap.size, 1, none⟩ = some (.int .i64 s) := by simpa using cell_of_heap hg 1
 have g2 : w1.cell? ⟨w.heap.size, 2, none⟩ = some (.slice a n cap) := by simpa using cell_of_heap hg 2
 have hfa := specAll w1 r s (.slice a n cap) es (by have := (h.below hb1).mono hb1.size; rw [hn] at this ⊢; exact this) hs (by omega)
 have hfb := fa_bd (r := r) (es := es) hs
 have hfl := fa_len r s es
 have htb := tm_bd (r := r) (es := faE r s es) hfb
 have htl := tmE_length r (faS r s es) (faE r s es)
 obtain ⟨CS, hCS⟩ := exq (crS r s es)
 obtain ⟨CE, hCE⟩ := exq (crE r s es)
 rw [← hCS, ← hCE]
 unfold crS at hCS
 unfold crE at hCE
 obtain ⟨FS, hFS⟩ := exq (faS r s es)
 obtain ⟨FE, hFE⟩ := exq (faE r s es)
 obtain ⟨FL, hFL⟩ := exq (faL r s es)
 rw [← hFS, ← hFE, ← hFL] at hfa
 rw [← hFS, ← hFE] at hCS hCE htb htl
 rw [← hFS] at hfb
 rw [← hFE] at hfl
 have htr := fun (W : World) (av : Value) (hr : ReadE W.heap.size W av FE) => specTrim W r FS av FE hr hfb (by omega)
 have hcg := fun (W : World) (av : Value) (hr : ReadE W.heap.size W av (tmE r FS FE)) => specCanG W r (tmS r FS FE) av (tmE r FS FE) hr htb (by omega)
 rw [← hCS, ← hCE] at hcg
 obtain ⟨TS, hTS⟩ := exq (tmS r FS FE)
 obtain ⟨TE, hTE⟩ := exq (tmE r FS FE)
 obtain ⟨TLs, hTL⟩ := exq (tmL r FS FE)
 rw [← hTS, ← hTE] at hcg
 rw [← hTS, ← hTE, ← hTL] at htr
 have hRk : ∀ W, Below w1.heap.size w1 W → W.heap[w.heap.size + 1]? = some (.cells #[.int .i64 0, .int .i64 0, .slice none 0 0] 26 (0, 0)) := fun W hW => by rw [hW.block _ (by omega)]; exact hR
 have hww := hidI hw1.symm
 have hb1' := hidI hb1
 replace hRk := hidI hRk
 replace htr := hidI htr
 replace hcg := hidI hcg
 replace hCS := hidI hCS
 replace hCE := hidI hCE
 replace hFS := hidI hFS
 replace hFE := hidI hFE
 replace hFL := hidI hFL
 replace hTS := hidI hTS
 replace hTE := hidI hTE
 replace hTL := hidI hTL
 replace hn := hidI hn
 replace h := hidI h
 replace hg := hidI hg
 replace hR := hidI hR
 replace hs1 := hidI hs1
 replace hw1 := hidI hw1
 replace hfb := hidI hfb
 replace htb := hidI htb
 replace hfl := hidI hfl
 replace htl := hidI htl
 go_enter Tryz.func14, Tryz.ntmps14
 go_upto_region 1 with fail
 rw [hww.out]
 go_wp2_with fail
 refine hfa.mono ?_
 rintro e w2 ⟨ca, cc, lv, glo, ghi, flo, fhi, rfl, hd0, hrow2, hst2, hb2⟩
 clear hfa
 have hlt1 : w.heap.size + 1 < w1.heap.size := by have := hs1.out; omega
 have hsz2 := hb2.size
 obtain ⟨w3, hw3⟩ := exq (w2.alloc (.cells #[.int .i64 0, .int .i64 0, .slice none 0 0] 26))
 have hb3 : Below w2.heap.size w2 w3 := by rw [hw3]; exact (Below.refl _ _).alloc (Nat.le_refl _) _
 have hX3 : w3.heap[w2.heap.size]? = some (.cells #[.int .i64 0, .int .i64 0, .slice none 0 0] 26 (0, 0)) := by rw [hw3]; exact heap_alloc_new _ _
 obtain ⟨w4, hw4⟩ := exq (((w3.setCell ⟨w2.heap.size, 0, none⟩ (.int .i64 r)).setCell ⟨w2.heap.size, 1, none⟩ (.int .i64 FS)).setCell ⟨w2.heap.size, 2, none⟩ (.slice ca FE.length cc))
 have hX4 : w4.heap[w2.heap.size]? = some (.cells #[.int .i64 r, .int .i64 FS, .slice ca FE.length cc] 26 (0, 0)) := by rw [hw4]; exact set3 hX3 _ _ _
 have hb4 : Below w2.heap.size w2 w4 := by rw [hw4]; exact below_set3 hb3 (Nat.le_refl _)
 have hsz4 : w2.heap.size < w4.heap.size := (Array.getElem?_eq_some_iff.1 hX4).1
 have hrow4 : RowS 53 3 w4 glo ghi (.slice ca FE.length cc) FE.length (flatE FE) := hrow2.below hb4 hd0.2.2.1
 have hb14 := hb2.trans (hb4.mono hsz2)
 obtain ⟨c0, c1, c2⟩ := cell3 hX4
 obtain ⟨t0, t1, t2⟩ := cell3 hX3
 have ft := fun j => frozen_of_row w3 w2.heap.size j _ _ hX3
 simp at c0 c1 c2 t0 t1 t2
 have hw3w := hidI hw3.symm
 have hw4w := hidI hw4.symm
 have htr4 := htr.out w4 (.slice ca FE.length cc) (hrow4.read.mono (by omega))
 replace hw3 := hidI hw3
 replace hw4 := hidI hw4
 replace hX3 := hidI hX3
 replace hX4 := hidI hX4
 replace hrow2 := hidI hrow2
 replace hst2 := hidI hst2
 replace hd0 := hidI hd0
 replace hb2 := hidI hb2
 replace hb4 := hidI hb4
 replace hrow4 := hidI hrow4
 replace hb14 := hidI hb14
 clear hb3 g0 g1 g2
 go_upto_region 2 with (first | rw [hw3w.out] | fail)
 rw [hw4w.out]
 clear t0 t1 t2 ft
 go_wp2_with fail
 refine htr4.mono ?_
 rintro e w5 ⟨da, dc, dv, glo2, ghi2, flo2, fhi2, rfl, hd5, hrow5, hst5, hb5⟩
 clear htr4 c0 c1 c2
 have hsz5 := hb5.size
 obtain ⟨w6, hw6⟩ := exq (w5.alloc (.cells #[.int .i64 0, .int .i64 0, .slice none 0 0] 26))
 have hb6 : Below w5.heap.size w5 w6 := by rw [hw6]; exact (Below.refl _ _).alloc (Nat.le_refl _) _
 have hX6 : w6.heap[w5.heap.size]? = some (.cells #[.int .i64 0, .int .i64 0, .slice none 0 0] 26 (0, 0)) := by rw [hw6]; exact heap_alloc_new _ _
 obtain ⟨w7, hw7⟩ := exq (((w6.setCell ⟨w5.heap.size, 0, none⟩ (.int .i64 r)).setCell ⟨w5.heap.size, 1, none⟩ (.int .i64 TS)).setCell ⟨w5.heap.size, 2, none⟩ (.slice da TE.length dc))
 have hX7 : w7.heap[w5.heap.size]? = some (.cells #[.int .i64 r, .int .i64 TS, .slice da TE.length dc] 26 (0, 0)) := by rw [hw7]; exact set3 hX6 _ _ _
 have hb7 : Below w5.heap.size w5 w7 := by rw [hw7]; exact below_set3 hb6 (Nat.le_refl _)
 have hsz7 : w5.heap.size < w7.heap.size := (Array.getElem?_eq_some_iff.1 hX7).1
 have hrow7 : RowS 53 3 w7 glo2 ghi2 (.slice da TE.length dc) TE.length (flatE TE) := hrow5.below hb7 hd5.2.2.1
 have hb17 := hb14.out.trans ((hb5.trans (hb7.mono hsz5)).mono hb14.out.size)
 obtain ⟨c0, c1, c2⟩ := cell3 hX7
 obtain ⟨t0, t1, t2⟩ := cell3 hX6
 have ft := fun j => frozen_of_row w6 w5.heap.size j _ _ hX6
 simp at c0 c1 c2 t0 t1 t2
 have hw6w := hidI hw6.symm
 have hw7w := hidI hw7.symm
 have hcg7 := hcg.out w7 (.slice da TE.length dc) (hrow7.read.mono (by omega))
 replace hw6 := hidI hw6
 replace hw7 := hidI hw7
 replace hX6 := hidI hX6
 replace hX7 := hidI hX7
 replace hrow5 := hidI hrow5
 replace hst5 := hidI hst5
 replace hd5 := hidI hd5
 replace hb5 := hidI hb5
 replace hb7 := hidI hb7
 replace hrow7 := hidI hrow7
 replace hb17 := hidI hb17
 clear hb6
 go_upto_region 3 with (first | rw [hw6w.out] | fail)
 rw [hw7w.out]
 clear t0 t1 t2 ft
 go_wp2_with fail
 refine hcg7.mono ?_
 rintro e w8 ⟨ea, ec, rfl, hrow8, hb8⟩
 clear hcg7 c0 c1 c2
 have hb18 := hb17.out.trans (hb8.mono hb17.out.size)
 have hR8 := hRk.out w8 hb18
 obtain ⟨y0, y1, y2⟩ := cell3 hR8
 have f2 := fun j => frozen_of_row w8 (w.heap.size + 1) j _ _ hR8
 simp at y0 y1 y2
 have hs17 := hb17.out.size
 have hfin : LwGraph w r CS CE (.returned (.agg #[.int .i64 r, .int .i64 CS, .slice ea CE.length ec])) (((w8.setCell ⟨w.heap.size + 1, 0, none⟩ (.int .i64 r)).setCell ⟨w.heap.size + 1, 1, none⟩ (.int .i64 CS)).setCell ⟨w.heap.size + 1, 2, none⟩ (.slice ea CE.length ec)) := by
  refine ⟨ea, ec, rfl, (RowS.set3_ hrow8 (.inl (by omega))).wide (by omega) (by rw [size_set3]; exact Nat.le_refl _), below_set3 (hb1'.out.trans (hb18.mono hb1'.out.size)) (by omega)⟩
 have hset := set3 hR8 (.int .i64 r) (.int .i64 CS) (.slice ea CE.length ec)
 replace hfin := hidI hfin
 replace hset := hidI hset
 replace hR8 := hidI hR8
 replace hrow8 := hidI hrow8
 replace hb8 := hidI hb8
 replace hb18 := hidI hb18
 go_wp2
 (try simp only [Exit.inBlock, Exit.then])
 refine ret_cell rfl (g := w.heap.size + 1) rfl hset.out Tryz.underlying26 sizeGraph ?_
 exact hfin.out
end Go.Proofs.YtfpklgmahbhecaaGreat
