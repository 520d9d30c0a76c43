import Derived.Deep.Cut
import Derived.Test.YtpjlamnjiilgbaaGreatJ18Is
import Derived.Test.YtpjlamnjiilgbaaGreatJ19Is
import Derived.Test.YtpjlamnjiilgbaaGreatJ14Is
import Derived.Test.YtpjlamnjiilgbaaGreatJ12Is
import Derived.Test.YtpjlamnjiilgbaaGreatJ2Is
import Derived.Test.YtpjlamnjiilgbaaGreatJ16Is
import Derived.Test.YtpjlamnjiilgbaaGreatJ10Is
import Derived.Test.YtpjlamnjiilgbaaGreatJ3Is
import Derived.Test.YtpjlamnjiilgbaaGreatJ13Is
import Derived.Test.YtpjlamnjiilgbaaGreatJ6Is
namespace Go.Proofs.YtpjlamnjiilgbaaGreat
open Go.RowKit
set_option linter.unusedVariables false
set_option linter.unusedSimpArgs false
theorem fa_gr {r s : Int} {es : List Ed} (hg : isGr r s es = true) : isGr r (faS r s es) (faE r s es) = true := by
 have h := fa_or hg 40
 unfold faS faE
 rw [h]
 exact or_gr hg 40
theorem fa_no {r s : Int} {es : List Ed} (hg : isGr r s es = false) : faS r s es = s ∧ faE r s es = es := by
 obtain ⟨h1, h2, _⟩ := fa_fo r s es
 rw [h1, h2]
 unfold foS foE
 rw [hg]
 exact ⟨rfl, rfl⟩
theorem fa_bd {r s : Int} {es : List Ed} (hs : -9223372036854775808 ≤ s ∧ s ≤ 9223372036854775807) : -9223372036854775808 ≤ faS r s es ∧ faS r s es ≤ 9223372036854775807 := by
 cases hg : isGr r s es with
 | true => have := isGr_lim (fa_gr hg); omega
 | false => rw [(fa_no hg).1]; exact hs
theorem tm_bd {r s : Int} {es : List Ed} (hs : -9223372036854775808 ≤ s ∧ s ≤ 9223372036854775807) : -9223372036854775808 ≤ tmS r s es ∧ tmS r s es ≤ 9223372036854775807 := by
 cases hg : isGr r s es with
 | true => have := isGr_lim (tm_gr hg); omega
 | false => rw [(tm_no' hg).1]; exact hs
theorem fa_len (r s : Int) (es : List Ed) : (faE r s es).length ≤ es.length := by
 rw [(fa_fo r s es).2.1]; exact foE_length r s es []
def crS (r s : Int) (es : List Ed) : Int := cgS r (tmS r (faS r s es) (faE r s es)) (tmE r (faS r s es) (faE r s es))
def crE (r s : Int) (es : List Ed) : List Ed := cgE r (tmS r (faS r s es) (faE r s es)) (tmE r (faS r s es) (faE r s es))
theorem crE_length (r s : Int) (es : List Ed) : (crE r s es).length ≤ es.length := by
 have h1 := cgE_length r (tmS r (faS r s es) (faE r s es)) (tmE r (faS r s es) (faE r s es))
 have h2 := tmE_length r (faS r s es) (faE r s es)
 have h3 := fa_len r s es
 unfold crE
 omega
set_option maxRecDepth 100000 in
set_option maxHeartbeats 6400000 in
theorem specCoreG (w : World) (r s : Int) (v : Value) (es : List Ed) (h : ReadE w.heap.size w v es) (hs : -9223372036854775808 ≤ s ∧ s ≤ 9223372036854775807) (hl : es.length ≤ 1048576) :
 Calls Tryz.prog 100 #[.agg #[.int .i64 r, .int .i64 s, v]] w (LwGraph w r (crS r s es) (crE r s es)) := by
 obtain ⟨a, cap, rfl, hnc⟩ := h.form
 obtain ⟨n, hn⟩ := exq es.length
 rw [← hn] at hl hnc ⊢
 rw [← hn] at h
 obtain ⟨w1, hw1⟩ := exq ((w.alloc (.cells #[.int .i64 r, .int .i64 s, .slice a n cap] 26)).alloc (.cells #[.int .i64 0, .int .i64 0, .slice none 0 0] 26))
 have hb1 : Below w.heap.size w w1 := by rw [hw1]; exact ((Below.refl _ _).alloc (Nat.le_refl _) _).alloc (by simp) _
 have hs1 : w1.heap.size = w.heap.size + 1 + 1 := by rw [hw1]; simp
 have hg := heap_box w (.cells #[.int .i64 r, .int .i64 s, .slice a n cap] 26) (.cells #[.int .i64 0, .int .i64 0, .slice none 0 0] 26)
 have hR := heap_alloc_new (w.alloc (.cells #[.int .i64 r, .int .i64 s, .slice a n cap] 26)) (.cells #[.int .i64 0, .int .i64 0, .slice none 0 0] 26)
 rw [← hw1] at hg hR
 rw [show (w.alloc (.cells #[.int .i64 r, .int .i64 s, .slice a n cap] 26)).heap.size = w.heap.size + 1 by simp] at hR
 have g0 : w1.cell? ⟨w.heap.size, 0, none⟩ = some (.int .i64 r) := by simpa using cell_of_heap hg 0
 have g1 : w1.cell? ⟨w.heap.size, 1, none⟩ = some (.int .i64 s) := by simpa using cell_of_heap hg 1
 have g2 : w1.cell? ⟨w.heap.size, 2, none⟩ = some (.slice a n cap) := by simpa using cell_of_heap hg 2
 have hfa := specAll w1 r s (.slice a n cap) es (by have := (h.below hb1).mono hb1.size; rw [hn] at this ⊢; exact this) hs (by omega)
 have hfb := fa_bd (r := r) (es := es) hs
 have hfl := fa_len r s es
 have htb := tm_bd (r := r) (es := faE r s es) hfb
 have htl := tmE_length r (faS r s es) (faE r s es)
 obtain ⟨CS, hCS⟩ := exq (crS r s es)
 obtain ⟨CE, hCE⟩ := exq (crE r s es)
 rw [← hCS, ← hCE]
 unfold crS at hCS
 unfold crE at hCE
 obtain ⟨FS, hFS⟩ := exq (faS r s es)
 obtain ⟨FE, hFE⟩ := exq (faE r s es)
 obtain ⟨FL, hFL⟩ := exq (faL r s es)
 rw [← hFS, ← hFE, ← hFL] at hfa
 rw [← hFS, ← hFE] at hCS hCE htb htl
 rw [← hFS] at hfb
 rw [← hFE] at hfl
 have htr := fun (W : World) (av : Value) (hr : ReadE W.heap.size W av FE) => specTrim W r FS av FE hr hfb (by omega)
 have hcg := fun (W : World) (av : Value) (hr : ReadE W.heap.size W av (tmE r FS FE)) => specCanG W r (tmS r FS FE) av (tmE r FS FE) hr htb (by omega)
 rw [← hCS, ← hCE] at hcg
 obtain ⟨TS, hTS⟩ := exq (tmS r FS FE)
 obtain ⟨TE, hTE⟩ := exq (tmE r FS FE)
 obtain ⟨TLs, hTL⟩ := exq (tmL r FS FE)
 rw [← hTS, ← hTE] at hcg
 rw [← hTS, ← hTE, ← hTL] at htr
 have hRk : ∀ W, Below w1.heap.size w1 W → W.heap[w.heap.size + 1]? = some (.cells #[.int .i64 0, .int .i64 0, .slice none 0 0] 26 (0, 0)) := fun W hW => by rw [hW.block _ (by omega)]; exact hR
 have hww := hidI hw1.symm
 have hb1' := hidI hb1
 replace hRk := hidI hRk
 replace htr := hidI htr
 replace hcg := hidI hcg
 replace hCS := hidI hCS
 replace hCE := hidI hCE
 replace hFS := hidI hFS
 replace hFE := hidI hFE
 replace hFL := hidI hFL
 replace hTS := hidI hTS
 replace hTE := hidI hTE
 replace hTL := hidI hTL
 replace hn := hidI hn
 replace h := hidI h
 replace hg := hidI hg
 replace hR := hidI hR
 replace hs1 := hidI hs1
 replace hw1 := hidI hw1
 replace hfb := hidI hfb
 replace htb := hidI htb
 replace hfl := hidI hfl
 replace htl := hidI htl
 go_enter Tryz.func100, Tryz.ntmps100
 go_upto_region 1 with fail
 rw [hww.out]
 go_wp2_with fail
 refine hfa.mono ?_
 rintro e w2 ⟨ca, cc, lv, glo, ghi, flo, fhi, rfl, hd0, hrow2, hst2, hb2⟩
 clear hfa
 have hlt1 : w.heap.size + 1 < w1.heap.size := by have := hs1.out; omega
 have hsz2 := hb2.size
 obtain ⟨w3, hw3⟩ := exq (w2.alloc (.cells #[.int .i64 0, .int .i64 0, .slice none 0 0] 26))
 have hb3 : Below w2.heap.size w2 w3 := by rw [hw3]; exact (Below.refl _ _).alloc (Nat.le_refl _) _
 have hX3 : w3.heap[w2.heap.size]? = some (.cells #[.int .i64 0, .int .i64 0, .slice none 0 0] 26 (0, 0)) := by rw [hw3]; exact heap_alloc_new _ _
 obtain ⟨w4, hw4⟩ := exq (((w3.setCell ⟨w2.heap.size, 0, none⟩ (.int .i64 r)).setCell ⟨w2.heap.size, 1, none⟩ (.int .i64 FS)).setCell ⟨w2.heap.size, 2, none⟩ (.slice ca FE.length cc))
 have hX4 : w4.heap[w2.heap.size]? = some (.cells #[.int .i64 r, .int .i64 FS, .slice ca FE.length cc] 26 (0, 0)) := by rw [hw4]; exact set3 hX3 _ _ _
 have hb4 : Below w2.heap.size w2 w4 := by rw [hw4]; exact below_set3 hb3 (Nat.le_refl _)
 have hsz4 : w2.heap.size < w4.heap.size := (Array.getElem?_eq_some_iff.1 hX4).1
 have hrow4 : RowS 72 3 w4 glo ghi (.slice ca FE.length cc) FE.length (flatE FE) := hrow2.below hb4 hd0.2.2.1
 have hb14 := hb2.trans (hb4.mono hsz2)
 obtain ⟨c0, c1, c2⟩ := cell3 hX4
 obtain ⟨t0, t1, t2⟩ := cell3 hX3
 have ft := fun j => frozen_of_row w3 w2.heap.size j _ _ hX3
 simp at c0 c1 c2 t0 t1 t2
 have hw3w := hidI hw3.symm
 have hw4w := hidI hw4.symm
 have htr4 := htr.out w4 (.slice ca FE.length cc) (hrow4.read.mono (by omega))
 replace hw3 := hidI hw3
 replace hw4 := hidI hw4
 replace hX3 := hidI hX3
 replace hX4 := hidI hX4
 replace hrow2 := hidI hrow2
 replace hst2 := hidI hst2
 replace hd0 := hidI hd0
 replace hb2 := hidI hb2
 replace hb4 := hidI hb4
 replace hrow4 := hidI hrow4
 replace hb14 := hidI hb14
 clear hb3 g0 g1 g2
 go_upto_region 2 with (first | rw [hw3w.out] | fail)
 rw [hw4w.out]
 clear t0 t1 t2 ft
 go_wp2_with fail
 refine htr4.mono ?_
 rintro e w5 ⟨da, dc, dv, glo2, ghi2, flo2, fhi2, rfl, hd5, hrow5, hst5, hb5⟩
 clear htr4 c0 c1 c2
 have hsz5 := hb5.size
 obtain ⟨w6, hw6⟩ := exq (w5.alloc (.cells #[.int .i64 0, .int .i64 0, .slice none 0 0] 26))
 have hb6 : Below w5.heap.size w5 w6 := by rw [hw6]; exact (Below.refl _ _).alloc (Nat.le_refl _) _
 have hX6 : w6.heap[w5.heap.size]? = some (.cells #[.int .i64 0, .int .i64 0, .slice none 0 0] 26 (0, 0)) := by rw [hw6]; exact heap_alloc_new _ _
 obtain ⟨w7, hw7⟩ := exq (((w6.setCell ⟨w5.heap.size, 0, none⟩ (.int .i64 r)).setCell ⟨w5.heap.size, 1, none⟩ (.int .i64 TS)).setCell ⟨w5.heap.size, 2, none⟩ (.slice da TE.length dc))
 have hX7 : w7.heap[w5.heap.size]? = some (.cells #[.int .i64 r, .int .i64 TS, .slice da TE.length dc] 26 (0, 0)) := by rw [hw7]; exact set3 hX6 _ _ _
 have hb7 : Below w5.heap.size w5 w7 := by rw [hw7]; exact below_set3 hb6 (Nat.le_refl _)
 have hsz7 : w5.heap.size < w7.heap.size := (Array.getElem?_eq_some_iff.1 hX7).1
 have hrow7 : RowS 72 3 w7 glo2 ghi2 (.slice da TE.length dc) TE.length (flatE TE) := hrow5.below hb7 hd5.2.2.1
 have hb17 := hb14.out.trans ((hb5.trans (hb7.mono hsz5)).mono hb14.out.size)
 obtain ⟨c0, c1, c2⟩ := cell3 hX7
 obtain ⟨t0, t1, t2⟩ := cell3 hX6
 have ft := fun j => frozen_of_row w6 w5.heap.size j _ _ hX6
 simp at c0 c1 c2 t0 t1 t2
 have hw6w := hidI hw6.symm
 have hw7w := hidI hw7.symm
 have hcg7 := hcg.out w7 (.slice da TE.length dc) (hrow7.read.mono (by omega))
 replace hw6 := hidI hw6
 replace hw7 := hidI hw7
 replace hX6 := hidI hX6
 replace hX7 := hidI hX7
 replace hrow5 := hidI hrow5
 replace hst5 := hidI hst5
 replace hd5 := hidI hd5
 replace hb5 := hidI hb5
 replace hb7 := hidI hb7
 replace hrow7 := hidI hrow7
 replace hb17 := hidI hb17
 clear hb6
 go_upto_region 3 with (first | rw [hw6w.out] | fail)
 rw [hw7w.out]
 clear t0 t1 t2 ft
 go_wp2_with fail
 refine hcg7.mono ?_
 rintro e w8 ⟨ea, ec, rfl, hrow8, hb8⟩
 clear hcg7 c0 c1 c2
 have hb18 := hb17.out.trans (hb8.mono hb17.out.size)
 have hR8 := hRk.out w8 hb18
 obtain ⟨y0, y1, y2⟩ := cell3 hR8
 have f2 := fun j => frozen_of_row w8 (w.heap.size + 1) j _ _ hR8
 simp at y0 y1 y2
 have hs17 := hb17.out.size
 have hfin : LwGraph w r CS CE (.returned (.agg #[.int .i64 r, .int .i64 CS, .slice ea CE.length ec])) (((w8.setCell ⟨w.heap.size + 1, 0, none⟩ (.int .i64 r)).setCell ⟨w.heap.size + 1, 1, none⟩ (.int .i64 CS)).setCell ⟨w.heap.size + 1, 2, none⟩ (.slice ea CE.length ec)) := by
  refine ⟨ea, ec, rfl, (RowS.set3_ hrow8 (.inl (by omega))).wide (by omega) (by rw [size_set3]; exact Nat.le_refl _), below_set3 (hb1'.out.trans (hb18.mono hb1'.out.size)) (by omega)⟩
 have hset := set3 hR8 (.int .i64 r) (.int .i64 CS) (.slice ea CE.length ec)
 replace hfin := hidI hfin
 replace hset := hidI hset
 replace hR8 := hidI hR8
 replace hrow8 := hidI hrow8
 replace hb8 := hidI hb8
 replace hb18 := hidI hb18
 go_wp2
 (try simp only [Exit.inBlock, Exit.then])
 refine ret_cell rfl (g := w.heap.size + 1) rfl hset.out Tryz.underlying26 sizeGraph ?_
 exact hfin.out
end Go.Proofs.YtpjlamnjiilgbaaGreat
namespace Go.Proofs.YtpjlamnjiilgbaaGreat
open Go.RowKit
set_option linter.unusedVariables false
set_option linter.unusedSimpArgs false
def isCo (r s : Int) (es : List Ed) : Bool := isFo r s es && decide (lf r s es < 0) && eqG r (cgS r s es) (cgE r s es) r s es
set_option maxRecDepth 100000 in
set_option maxHeartbeats 3200000 in
theorem specIsCo (w : World) (r s : Int) (v : Value) (es : List Ed) (h : ReadE w.heap.size w v es) (hs : -9223372036854775808 ≤ s ∧ s ≤ 9223372036854775807) (hl : es.length ≤ 10000000) :
 Calls Tryz.prog 45 #[.agg #[.int .i64 r, .int .i64 s, v]] w (LwBool w (isCo r s es)) := by
 obtain ⟨a, cap, rfl, hnc⟩ := h.form
 obtain ⟨n, hn⟩ := exq es.length
 rw [← hn] at hl hnc ⊢
 rw [← hn] at h
 obtain ⟨w1, hw1⟩ := exq (w.alloc (.cells #[.int .i64 r, .int .i64 s, .slice a n cap] 26))
 have hb1 : Below w.heap.size w w1 := by rw [hw1]; exact (Below.refl _ _).alloc (Nat.le_refl _) _
 have hs1 : w.heap.size < w1.heap.size := by rw [hw1]; simp
 obtain ⟨g0, g1, g2⟩ := box3 hw1
 obtain ⟨wd, hwd⟩ := exq w1.drew
 have hbd : Below w1.heap.size w1 wd := by rw [hwd]; exact below_dn (Below.refl _ _) 1
 have hsd := hbd.size
 replace g0 := below_cell g0 hbd hs1
 replace g1 := below_cell g1 hbd hs1
 replace g2 := below_cell g2 hbd hs1
 have hb1d := hb1.trans (hbd.mono hb1.size)
 have hsw : w.heap.size < wd.heap.size := by omega
 have hcf := specFold wd r s (.slice a n cap) es ((h.below hb1d).mono hb1d.size) hs (by omega)
 have hle := fun (W : World) (hr : ReadE W.heap.size W (.slice a n cap) es) => specLeaf W r s (.slice a n cap) es hr hs (by omega)
 have hcg := fun (W : World) (hr : ReadE W.heap.size W (.slice a n cap) es) => specCanG W r s (.slice a n cap) es hr hs (by omega)
 have hcl := cgE_length r s es
 obtain ⟨F, hF⟩ := exq (isCo r s es)
 rw [← hF]
 unfold isCo at hF
 obtain ⟨ZS, hZS⟩ := exq (cgS r s es)
 obtain ⟨ZE, hZE⟩ := exq (cgE r s es)
 obtain ⟨f, hf⟩ := exq (lf r s es)
 obtain ⟨B, hB⟩ := exq (isFo r s es)
 rw [← hZS, ← hZE] at hcg
 rw [← hZE] at hcl
 rw [← hf] at hle
 rw [← hB] at hcf
 rw [← hB, ← hf, ← hZS, ← hZE] at hF
 replace hZS := hidI hZS
 replace hZE := hidI hZE
 replace hf := hidI hf
 replace hF := hidI hF
 replace hB := hidI hB
 replace hle := hidI hle
 replace hcg := hidI hcg
 replace hw1 := hidI hw1
 replace hwd := hidI hwd
 replace hn := hidI hn
 replace h := hidI h
 replace hb1d := hidI hb1d
 clear hb1 hbd
 cases B with
 | false =>
  have hfin : Hid (F = false) := hidI (by rw [hF.out]; rfl)
  replace hF := hidI hF
  go_enter Tryz.func45, Tryz.ntmps45
  go_wp2
  rw [← hw1.out]
  refine hideQ (fun _ _ d _ _ h => by cases d <;> exact h) (fun Q' hnorm hpan => ?_)
  refine wp_region_held_drew (S := (fun W0 => W0.cell? ⟨w.heap.size, 0, none⟩ = some (.int .i64 r) ∧ W0.cell? ⟨w.heap.size, 1, none⟩ = some (.int .i64 s) ∧ W0.cell? ⟨w.heap.size, 2, none⟩ = some (.slice a n cap))) (by kernel_rfl) ?_ (fun hHeld => ?_)
  · try dsimp only
    first | ((repeat' apply And.intro) <;> assumption) | (rw [← hwd.out]; ((repeat' apply And.intro) <;> assumption))
  rw [← hwd.out] at hHeld ⊢
  refine tk 0 3 ?_
  refine rd 1 (fun K hK => ?_)
  rw [if_pos (by rfl)]
  go_simp
  refine hcf.mono ?_
  rintro e w2 ⟨rfl, hb2⟩
  have p0 := below_cell g0 hb2 hsw
  have p1 := below_cell g1 hb2 hsw
  have p2 := below_cell g2 hb2 hsw
  have hs2 : w.heap.size < w2.heap.size := by have := hb2.size; omega
  have hb12 := hidI (hb1d.out.trans (hb2.mono hb1d.out.size))
  refine hK.out _ _ ?_ (fun hHeld => ?_)
  · try dsimp only
    first | ((repeat' apply And.intro) <;> assumption) | (rw [← hwd.out]; ((repeat' apply And.intro) <;> assumption))
  clear hK
  try simp only [Act.put, lyA, lyB, lyC]
  refine tk 2 5 ?_
  refine tn 3 6 ?_
  refine tn 4 7 ?_
  refine tn 5 8 ?_
  refine tg 6 9 ?_
  refine tg 7 10 ?_
  refine tn 8 11 ?_
  refine tn 10 13 ?_
  refine tn 9 12 ?_
  refine tn 11 14 ?_
  refine tk 12 15 ?_
  refine tk 13 2 ?_
  refine wpAnyH_done (by kernel_rfl) ?_ _
  refine hnorm _ _ ?_
  clear hnorm hpan
  repeat clear hHeld
  try simp only [Exit.then]
  have hbz := hb1d.out.trans (hb2.mono hb1d.out.size)
  go_wp2
  go_ret
  exact ⟨ret_bool hfin.out.symm, hbz⟩
 | true =>
  by_cases hf0 : f < 0
  case neg =>
   have hfin : Hid (F = false) := hidI (by rw [hF.out, decide_eq_false hf0]; rfl)
   replace hF := hidI hF
   have hfd : decide (f < 0) = false := decide_eq_false hf0
   replace hf0 := hidI hf0
   go_enter Tryz.func45, Tryz.ntmps45
   go_wp2
   rw [← hw1.out]
   refine hideQ (fun _ _ d _ _ h => by cases d <;> exact h) (fun Q' hnorm hpan => ?_)
   refine wp_region_held_drew (S := (fun W0 => W0.cell? ⟨w.heap.size, 0, none⟩ = some (.int .i64 r) ∧ W0.cell? ⟨w.heap.size, 1, none⟩ = some (.int .i64 s) ∧ W0.cell? ⟨w.heap.size, 2, none⟩ = some (.slice a n cap))) (by kernel_rfl) ?_ (fun hHeld => ?_)
   · try dsimp only
     first | ((repeat' apply And.intro) <;> assumption) | (rw [← hwd.out]; ((repeat' apply And.intro) <;> assumption))
   rw [← hwd.out] at hHeld ⊢
   refine tk 0 3 ?_
   refine rd 1 (fun K hK => ?_)
   rw [if_pos (by rfl)]
   go_simp
   refine hcf.mono ?_
   rintro e w2 ⟨rfl, hb2⟩
   have p0 := below_cell g0 hb2 hsw
   have p1 := below_cell g1 hb2 hsw
   have p2 := below_cell g2 hb2 hsw
   have hs2 : w.heap.size < w2.heap.size := by have := hb2.size; omega
   have hb12 := hidI (hb1d.out.trans (hb2.mono hb1d.out.size))
   refine hK.out _ _ ?_ (fun hHeld => ?_)
   · try dsimp only
     first | ((repeat' apply And.intro) <;> assumption) | (rw [← hwd.out]; ((repeat' apply And.intro) <;> assumption))
   clear hK
   try simp only [Act.put, lyA, lyB, lyC]
   refine tk 2 5 ?_
   refine tg 3 6 ?_
   refine rd 4 (fun K hK => ?_)
   rw [if_pos (by kernel_rfl)]
   go_simp
   refine (hle.out w2 ((h.out.below hb12.out).mono hb12.out.size)).mono ?_
   rintro e w3 ⟨rfl, hb3⟩
   have q0 := below_cell p0 hb3 hs2
   have q1 := below_cell p1 hb3 hs2
   have q2 := below_cell p2 hb3 hs2
   have hs3 : w.heap.size < w3.heap.size := by have := hb3.size; omega
   have hb13 := hidI (hb12.out.trans (hb3.mono hb12.out.size))
   refine hK.out _ _ ?_ (fun hHeld => ?_)
   · try dsimp only
     first | ((repeat' apply And.intro) <;> assumption) | (rw [← hwd.out]; ((repeat' apply And.intro) <;> assumption))
   clear hK
   try simp only [Act.put, lyA, lyB, lyC]
   refine tg 5 8 ?_
   try rw [hfd]
   refine tg 6 9 ?_
   refine tg 7 10 ?_
   refine tn 8 11 ?_
   refine tn 10 13 ?_
   refine tn 9 12 ?_
   refine tn 11 14 ?_
   refine tk 12 15 ?_
   refine tk 13 2 ?_
   refine wpAnyH_done (by kernel_rfl) ?_ _
   refine hnorm _ _ ?_
   clear hnorm hpan
   repeat clear hHeld
   try simp only [Exit.then]
   have hbz := hb13.out
   go_wp2
   go_ret
   exact ⟨ret_bool hfin.out.symm, hbz⟩
  case pos =>
   have hfin : Hid (F = eqG r ZS ZE r s es) := hidI (by rw [hF.out, decide_eq_true hf0]; rfl)
   replace hF := hidI hF
   have hfd : decide (f < 0) = true := decide_eq_true hf0
   replace hf0 := hidI hf0
   go_enter Tryz.func45, Tryz.ntmps45
   go_wp2
   rw [← hw1.out]
   refine hideQ (fun _ _ d _ _ h => by cases d <;> exact h) (fun Q' hnorm hpan => ?_)
   refine wp_region_held_drew (S := (fun W0 => W0.cell? ⟨w.heap.size, 0, none⟩ = some (.int .i64 r) ∧ W0.cell? ⟨w.heap.size, 1, none⟩ = some (.int .i64 s) ∧ W0.cell? ⟨w.heap.size, 2, none⟩ = some (.slice a n cap))) (by kernel_rfl) ?_ (fun hHeld => ?_)
   · try dsimp only
     first | ((repeat' apply And.intro) <;> assumption) | (rw [← hwd.out]; ((repeat' apply And.intro) <;> assumption))
   rw [← hwd.out] at hHeld ⊢
   refine tk 0 3 ?_
   refine rd 1 (fun K hK => ?_)
   rw [if_pos (by rfl)]
   go_simp
   refine hcf.mono ?_
   rintro e w2 ⟨rfl, hb2⟩
   have p0 := below_cell g0 hb2 hsw
   have p1 := below_cell g1 hb2 hsw
   have p2 := below_cell g2 hb2 hsw
   have hs2 : w.heap.size < w2.heap.size := by have := hb2.size; omega
   have hb12 := hidI (hb1d.out.trans (hb2.mono hb1d.out.size))
   refine hK.out _ _ ?_ (fun hHeld => ?_)
   · try dsimp only
     first | ((repeat' apply And.intro) <;> assumption) | (rw [← hwd.out]; ((repeat' apply And.intro) <;> assumption))
   clear hK
   try simp only [Act.put, lyA, lyB, lyC]
   refine tk 2 5 ?_
   refine tg 3 6 ?_
   refine rd 4 (fun K hK => ?_)
   rw [if_pos (by kernel_rfl)]
   go_simp
   refine (hle.out w2 ((h.out.below hb12.out).mono hb12.out.size)).mono ?_
   rintro e w3 ⟨rfl, hb3⟩
   have q0 := below_cell p0 hb3 hs2
   have q1 := below_cell p1 hb3 hs2
   have q2 := below_cell p2 hb3 hs2
   have hs3 : w.heap.size < w3.heap.size := by have := hb3.size; omega
   have hb13 := hidI (hb12.out.trans (hb3.mono hb12.out.size))
   refine hK.out _ _ ?_ (fun hHeld => ?_)
   · try dsimp only
     first | ((repeat' apply And.intro) <;> assumption) | (rw [← hwd.out]; ((repeat' apply And.intro) <;> assumption))
   clear hK
   try simp only [Act.put, lyA, lyB, lyC]
   refine tg 5 8 ?_
   try rw [hfd]
   refine tg 6 9 ?_
   refine tg 7 10 ?_
   refine tg 8 11 ?_
   refine tg 10 13 ?_
   refine rd 9 (fun K hK => ?_)
   rw [if_pos (by kernel_rfl)]
   go_simp
   refine (hcg.out w3 ((h.out.below hb13.out).mono hb13.out.size)).mono ?_
   rintro e w4 ⟨ca, cc, rfl, hrow4, hb4⟩
   have u0 := below_cell q0 hb4 hs3
   have u1 := below_cell q1 hb4 hs3
   have u2 := below_cell q2 hb4 hs3
   have hs4 : w.heap.size < w4.heap.size := by have := hb4.size; omega
   have hb14 := hidI (hb13.out.trans (hb4.mono hb13.out.size))
   have heq := specEqG w4 r ZS r s (.slice ca ZE.length cc) (.slice a n cap) ZE es hrow4.read ((h.out.below hb14.out).mono hb14.out.size) (by have := hn.out; omega) (by have := hn.out; omega)
   rw [← hfin.out] at heq
   replace hrow4 := hidI hrow4
   refine hK.out _ _ ?_ (fun hHeld => ?_)
   · try dsimp only
     first | ((repeat' apply And.intro) <;> assumption) | (rw [← hwd.out]; ((repeat' apply And.intro) <;> assumption))
   clear hK
   try simp only [Act.put, lyA, lyB, lyC]
   refine rd 11 (fun K hK => ?_)
   rw [if_pos (by kernel_rfl)]
   go_simp
   refine heq.mono ?_
   rintro e w5 ⟨rfl, hb5⟩
   have x0 := below_cell u0 hb5 hs4
   have x1 := below_cell u1 hb5 hs4
   have x2 := below_cell u2 hb5 hs4
   have hb15 := hidI (hb14.out.trans (hb5.mono hb14.out.size))
   refine hK.out _ _ ?_ (fun hHeld => ?_)
   · try dsimp only
     first | ((repeat' apply And.intro) <;> assumption) | (rw [← hwd.out]; ((repeat' apply And.intro) <;> assumption))
   clear hK
   try simp only [Act.put, lyA, lyB, lyC]
   refine tk 12 15 ?_
   refine tk 13 2 ?_
   refine wpAnyH_done (by kernel_rfl) ?_ _
   refine hnorm _ _ ?_
   clear hnorm hpan
   repeat clear hHeld
   try simp only [Exit.then]
   have hbz := hb15.out
   go_wp2
   go_ret
   exact ⟨rfl, hbz⟩
end Go.Proofs.YtpjlamnjiilgbaaGreat
namespace Go.Proofs.YtpjlamnjiilgbaaGreat
open Go.RowKit
set_option linter.unusedVariables false
set_option linter.unusedSimpArgs false
theorem eqG_self (r s : Int) (es : List Ed) : eqG r s es r s es = true := by
 unfold eqG
 simp
theorem cr_core {r s : Int} {es : List Ed} (hg : isGr r s es = true) : isFo r (crS r s es) (crE r s es) = true ∧ lf r (crS r s es) (crE r s es) < 0 ∧ isCo r (crS r s es) (crE r s es) = true := by
 have hf := fa_folded hg
 have hg2 := (fo_gr hf).1
 have ht := tm_fo hf
 have hl := tm_leaf hg2
 have h1 := canon_fo ht
 have h2 := canon_leaf ht hl
 unfold crS crE
 refine ⟨h1, h2, ?_⟩
 obtain ⟨c1, c2⟩ := canon_twice r (tmS r (faS r s es) (faE r s es)) (tmE r (faS r s es) (faE r s es))
 unfold isCo
 rw [h1, decide_eq_true h2, c1, c2, eqG_self]; rfl
end Go.Proofs.YtpjlamnjiilgbaaGreat
namespace Go.Proofs.YtpjlamnjiilgbaaGreat
open Go.RowKit
set_option linter.unusedVariables false
set_option linter.unusedSimpArgs false
def suR (r : Int) (zss : List (List Int)) : Int := if arew r zss = true then floR r zss else 0
def suS (r : Int) (zss : List (List Int)) : Int := if arew r zss = true then crS (floR r zss) (floZ r zss) (floE r zss) else 0
def suE (r : Int) (zss : List (List Int)) : List Ed := if arew r zss = true then crE (floR r zss) (floZ r zss) (floE r zss) else []
theorem su_no {r : Int} {zss : List (List Int)} (h : arew r zss = false) : suR r zss = 0 ∧ suS r zss = 0 ∧ suE r zss = [] := by
 have h' : ¬ arew r zss = true := by rw [h]; decide
 unfold suR suS suE
 rw [if_neg h', if_neg h', if_neg h']
 exact ⟨rfl, rfl, rfl⟩
theorem su_yes {r : Int} {zss : List (List Int)} (h : arew r zss = true) : suR r zss = floR r zss ∧ suS r zss = crS (floR r zss) (floZ r zss) (floE r zss) ∧ suE r zss = crE (floR r zss) (floZ r zss) (floE r zss) := by
 unfold suR suS suE
 rw [if_pos h, if_pos h, if_pos h]
 exact ⟨rfl, rfl, rfl⟩
theorem suE_length (r : Int) (zss : List (List Int)) : (suE r zss).length ≤ (floE r zss).length := by
 unfold suE
 split
 · exact crE_length _ _ _
 · simp
theorem floZ_lim (r : Int) (zss : List (List Int)) : -9223372036854775808 ≤ floZ r zss ∧ floZ r zss ≤ 9223372036854775807 := by
 unfold floZ
 split
 · have := (floL_lim r zss zss.length (Nat.le_refl _)).1
   rw [List.take_length] at this
   omega
 · omega
set_option maxRecDepth 100000 in
set_option maxHeartbeats 3200000 in
theorem specSubOf (w : World) (r : Int) (v : Value) (zss : List (List Int)) (h : ReadSS w.heap.size w v zss) (hs : totL zss ≤ 1048576) :
 Calls Tryz.prog 60 #[.int .i64 r, v] w (LwGraphBool w (suR r zss) (suS r zss) (suE r zss) (arew r zss)) := by
 have h' := h
 obtain ⟨hl, a, cap, rfl, _, _⟩ := h'
 obtain ⟨w1, hw1⟩ := exq (w.alloc (.cells #[.int .i64 0, .int .i64 0, .slice none 0 0] 26))
 have hb1 : Below w.heap.size w w1 := by rw [hw1]; exact (Below.refl _ _).alloc (Nat.le_refl _) _
 have hs1 : w1.heap.size = w.heap.size + 1 := by rw [hw1]; simp
 have hk := heap_alloc_new w (.cells #[.int .i64 0, .int .i64 0, .slice none 0 0] 26)
 rw [← hw1] at hk
 have hcall := specFlower w1 r (.slice a zss.length cap) zss ((h.below hb1).mono hb1.size) hs
 have hel := floE_length r zss
 have hzl := floZ_lim r zss
 obtain ⟨n, hn⟩ := exq zss.length
 obtain ⟨B, hB⟩ := exq (arew r zss)
 obtain ⟨FR, hFR⟩ := exq (floR r zss)
 obtain ⟨FZ, hFZ⟩ := exq (floZ r zss)
 obtain ⟨FE, hFE⟩ := exq (floE r zss)
 obtain ⟨SR, hSR⟩ := exq (suR r zss)
 obtain ⟨SS, hSS⟩ := exq (suS r zss)
 obtain ⟨SE, hSE⟩ := exq (suE r zss)
 have hno : B = false → SR = 0 ∧ SS = 0 ∧ SE = [] := fun q => by
  rw [hSR, hSS, hSE]; exact su_no (by rw [← hB]; exact q)
 have hyes : B = true → SR = FR ∧ SS = crS FR FZ FE ∧ SE = crE FR FZ FE := fun q => by
  rw [hSR, hSS, hSE, hFR, hFZ, hFE]; exact su_yes (by rw [← hB]; exact q)
 rw [← hn, ← hFR, ← hFZ, ← hFE, ← hB] at hcall
 rw [← hFE] at hel
 rw [← hFZ] at hzl
 rw [← hn, ← hB, ← hSR, ← hSS, ← hSE]
 have hfe : FE.length ≤ 1048576 := Nat.le_trans hel hs
 have hRk := fun (W : World) (hW : Below w1.heap.size w1 W) => (by rw [hW.block _ (by omega)]; exact hk : W.heap[w.heap.size]? = some (.cells #[.int .i64 0, .int .i64 0, .slice none 0 0] 26 (0, 0)))
 replace hRk := hidI hRk
 replace hn := hidI hn
 replace hB := hidI hB
 replace hFR := hidI hFR
 replace hFZ := hidI hFZ
 replace hFE := hidI hFE
 replace hSR := hidI hSR
 replace hSS := hidI hSS
 replace hSE := hidI hSE
 replace hno := hidI hno
 replace hyes := hidI hyes
 replace h := hidI h
 replace hk := hidI hk
 replace hs1 := hidI hs1
 replace hel := hidI hel
 go_enter Tryz.func60, Tryz.ntmps60
 go_upto_region 1 with fail
 rw [← hw1]
 replace hw1 := hidI hw1
 go_wp2_with fail
 refine hcall.mono ?_
 rintro e w2 ⟨b, cap2, rfl, hrow2, hb2⟩
 clear hcall
 have hs2 := hb2.size
 obtain ⟨N, hN⟩ := exq FE.length
 rw [← hN] at hrow2 hfe ⊢
 obtain ⟨w3, hw3⟩ := exq (w2.alloc (.cells #[.int .i64 FR, .int .i64 FZ, .slice b N cap2] 26))
 have hb3 : Below w2.heap.size w2 w3 := by rw [hw3]; exact (Below.refl _ _).alloc (Nat.le_refl _) _
 obtain ⟨x0, x1, x2⟩ := box3 hw3
 have hs3 : w2.heap.size < w3.heap.size := by rw [hw3]; simp
 have hb13 := hidI (hb2.trans (hb3.mono hs2))
 have hbw3 := hidI (hb1.trans (hb13.out.mono hb1.size))
 have hrow3 : RowS 72 3 w3 w1.heap.size w2.heap.size (.slice b N cap2) N (flatE FE) := hrow2.below hb3 (Nat.le_refl _)
 have hcore := specCoreG w3 FR FZ (.slice b N cap2) FE (by have := hrow3.read.mono (Nat.le_of_lt hs3); rw [hN] at this ⊢; exact this) hzl (by omega)
 have hw1s := hb1.size
 replace hrow2 := hidI hrow2
 replace hrow3 := hidI hrow3
 replace hN := hidI hN
 clear hb2 hb3
 go_upto_region 2 with fail
 rw [← hw3]
 replace hw3 := hidI hw3
 cases B with
 | false =>
  obtain ⟨e1, e2, e3⟩ := hno.out rfl
  subst e1
  subst e2
  subst e3
  have hR := hRk.out w3 hb13.out
  obtain ⟨y0, y1, y2⟩ := cell3 hR
  have f2 := fun j => frozen_of_row w3 w.heap.size j _ _ hR
  simp at y0 y1 y2
  have hfin : LwGraphBool w 0 0 [] false (.returned (.tuple #[.agg #[.int .i64 0, .int .i64 0, .slice none 0 0], .bool false])) (((w3.setCell ⟨w.heap.size, 0, none⟩ (.int .i64 0)).setCell ⟨w.heap.size, 1, none⟩ (.int .i64 0)).setCell ⟨w.heap.size, 2, none⟩ (.slice none 0 0)) :=
   ⟨none, 0, rfl, ⟨rfl, by simp, .inl ⟨rfl, rfl⟩⟩, below_set3 hbw3.out (Nat.le_refl _)⟩
  replace hfin := hidI hfin
  replace hR := hidI hR
  clear hcore x0 x1 x2
  go_wp2
  (try simp only [Exit.inBlock, Exit.then])
  refine ret_cell2 (x := .bool false) rfl rfl rfl (Go.Proofs.YtpjlamnjiilgbaaGreat.set3 hR.out _ _ _) Tryz.underlying26 sizeGraph ?_
  exact hfin.out
 | true =>
  obtain ⟨e1, e2, e3⟩ := hyes.out rfl
  rw [← e2, ← e3] at hcore
  replace e1 := hidI e1
  replace e2 := hidI e2
  replace e3 := hidI e3
  go_wp2_with fail
  refine hcore.mono ?_
  rintro e w4 ⟨c, cap4, rfl, hrow4, hb4⟩
  clear hcore
  have hs4 := hb4.size
  obtain ⟨M, hM⟩ := exq SE.length
  rw [← hM] at hrow4 ⊢
  have hbw4 := hbw3.out.trans (hb4.mono hbw3.out.size)
  have hR := hRk.out w4 (hb13.out.trans (hb4.mono (by omega)))
  obtain ⟨y0, y1, y2⟩ := cell3 hR
  have f2 := fun j => frozen_of_row w4 w.heap.size j _ _ hR
  simp at y0 y1 y2
  have hfin : LwGraphBool w FR SS SE true (.returned (.tuple #[.agg #[.int .i64 FR, .int .i64 SS, .slice c M cap4], .bool true])) (((w4.setCell ⟨w.heap.size, 0, none⟩ (.int .i64 FR)).setCell ⟨w.heap.size, 1, none⟩ (.int .i64 SS)).setCell ⟨w.heap.size, 2, none⟩ (.slice c M cap4)) := by
   have hs := hs1.out
   refine ⟨c, cap4, by rw [hM], ?_, below_set3 hbw4 (Nat.le_refl _)⟩
   rw [← hM]
   exact RowS.wide (hrow4.set3_ (.inl (by omega))) (by omega) (by rw [size_set3]; omega)
  replace hfin := hidI hfin
  replace hR := hidI hR
  replace hrow4 := hidI hrow4
  replace hM := hidI hM
  clear x0 x1 x2
  go_wp2
  (try simp only [Exit.inBlock, Exit.then])
  refine ret_cell2 (x := .bool true) rfl rfl rfl (Go.Proofs.YtpjlamnjiilgbaaGreat.set3 hR.out _ _ _) Tryz.underlying26 sizeGraph ?_
  rw [e1.out]
  exact hfin.out
end Go.Proofs.YtpjlamnjiilgbaaGreat
namespace Go.Proofs.YtpjlamnjiilgbaaGreat
open Go.RowKit
set_option linter.unusedVariables false
set_option linter.unusedSimpArgs false
inductive Rch (L : List Int) (ea : List Ed) : Int → Prop
 | zero : Rch L ea 0
 | step {x l : Int} : Rch L ea x → l ∈ L → 0 ≤ nxV ea x l → Rch L ea (nxV ea x l)
def Mor (L : List Int) (ea eb : List Ed) (f : Int → Int) : Prop :=
 f 0 = 0 ∧ ∀ x l, Rch L ea x → l ∈ L → 0 ≤ nxV ea x l → 0 ≤ nxV eb (f x) l ∧ f (nxV ea x l) = nxV eb (f x) l
open Classical in
noncomputable def morB (L : List Int) (ea eb : List Ed) : Bool := decide (∃ f, Mor L ea eb f)
structure MoSt (L : List Int) (ea eb : List Ed) (seen : List Int) (img : Int → Int) : Prop where
 base : 0 ∈ seen
 img0 : img 0 = 0
 rch : ∀ x ∈ seen, Rch L ea x
 same : ∀ f, Mor L ea eb f → ∀ x ∈ seen, f x = img x
theorem MoSt.start (L : List Int) (ea eb : List Ed) (img : Int → Int) (h : img 0 = 0) : MoSt L ea eb [0] img where
 base := by simp
 img0 := h
 rch := by intro x hx; simp at hx; subst hx; exact .zero
 same := by intro f hf x hx; simp at hx; subst hx; rw [hf.1, h]
theorem MoSt.none {L : List Int} {ea eb : List Ed} {seen : List Int} {img : Int → Int} (h : MoSt L ea eb seen img) {x l : Int} (hx : x ∈ seen) (hl : l ∈ L) (hn : 0 ≤ nxV ea x l) (hno : nxV eb (img x) l < 0) : morB L ea eb = false := by
 unfold morB
 rw [decide_eq_false_iff_not]
 rintro ⟨f, hf⟩
 have h1 := hf.2 x l (h.rch x hx) hl hn
 rw [h.same f hf x hx] at h1
 omega
theorem MoSt.grow {L : List Int} {ea eb : List Ed} {seen : List Int} {img img' : Int → Int} (h : MoSt L ea eb seen img) {x l : Int} (hx : x ∈ seen) (hl : l ∈ L) (hn : 0 ≤ nxV ea x l) (hnew : nxV ea x l ∉ seen)
 (hat : img' (nxV ea x l) = nxV eb (img x) l) (hel : ∀ z ∈ seen, img' z = img z) : MoSt L ea eb (seen ++ [nxV ea x l]) img' where
 base := List.mem_append_left _ h.base
 img0 := by rw [hel 0 h.base, h.img0]
 rch := by
  intro z hz
  rcases List.mem_append.1 hz with hz | hz
  · exact h.rch z hz
  · simp at hz; subst hz; exact .step (h.rch x hx) hl hn
 same := by
  intro f hf z hz
  rcases List.mem_append.1 hz with hz | hz
  · rw [hel z hz]; exact h.same f hf z hz
  · simp at hz; subst hz
    rw [hat, (hf.2 x l (h.rch x hx) hl hn).2, h.same f hf x hx]
end Go.Proofs.YtpjlamnjiilgbaaGreat
namespace Go.Proofs.YtpjlamnjiilgbaaGreat
open Go.RowKit
set_option linter.unusedVariables false
set_option linter.unusedSimpArgs false
theorem co_parts {r s : Int} {es : List Ed} (h : isCo r s es = true) : isFo r s es = true ∧ lf r s es < 0 ∧ cgS r s es = s ∧ cgE r s es = es := by
 unfold isCo eqG at h
 rw [Bool.and_eq_true, Bool.and_eq_true, decide_eq_true_eq, decide_eq_true_eq] at h
 exact ⟨h.1.1, h.1.2, h.2.2.1, h.2.2.2⟩
theorem co_lim {r s : Int} {es : List Ed} (h : isCo r s es = true) : isGr r s es = true ∧ 1 ≤ r ∧ r ≤ 3 ∧ 1 ≤ s ∧ s ≤ 40 ∧ es.length ≤ 120 := by
 have h1 := (fo_gr (co_parts h).1).1
 exact ⟨h1, isGr_lim h1⟩
theorem getD_app {out t : List Int} {j : Nat} (h : j < out.length) : (out ++ t).getD j 0 = out.getD j 0 := by
 rw [List.getD_eq_getElem?_getD, List.getElem?_append_left h, List.getD_eq_getElem?_getD]
def imF (im : List Int) (x : Int) : Int := im.getD x.toNat 0
structure PrSt (L : List Int) (ea eb : List Ed) (s : Int) (v : Int) (D : List Int) (im : List Int) : Prop where
 ex : ∃ seen, MoSt L ea eb seen (imF im) ∧ (∀ x ∈ seen, 0 ≤ x ∧ x < s) ∧ (∀ x, 0 ≤ x → x < s → (x ∈ seen ↔ imF im x ≠ -1)) ∧
  (∀ x l, 0 ≤ x → (x < v ∧ l ∈ L ∨ x = v ∧ l ∈ D) → 0 ≤ nxV ea x l → x ∈ seen ∧ nxV ea x l ∈ seen ∧ 0 ≤ nxV eb (imF im x) l ∧ imF im (nxV ea x l) = nxV eb (imF im x) l)
 len : (im.length : Int) = s
theorem imF_set {im : List Int} {x y z : Int} (hx : 0 ≤ x) (hxl : x < (im.length : Int)) (hz : 0 ≤ z) : imF (im.set x.toNat y) z = if z = x then y else imF im z := by
 unfold imF
 rw [getD_set8]
 by_cases h : z = x
 · subst h; rw [if_pos ⟨rfl, by omega⟩, if_pos rfl]
 · rw [if_neg (by omega), if_neg h]
theorem PrSt.start {L : List Int} {ea eb : List Ed} {s : Int} (hs : 1 ≤ s) : PrSt L ea eb s 0 [] ((List.replicate s.toNat (-1)).set 0 0) where
 ex := by
  have hi := fun z (hz : 0 ≤ z) => imF_set (im := List.replicate s.toNat (-1)) (x := 0) (y := 0) (z := z) (by omega) (by rw [List.length_replicate]; omega) hz
  rw [show (0 : Int).toNat = 0 from rfl] at hi
  refine ⟨[0], MoSt.start L ea eb _ (by rw [hi 0 (by omega), if_pos rfl]), ?_, ?_, ?_⟩
  · intro x hx; simp at hx; omega
  · intro x h0 h1
    rw [hi x h0]
    by_cases e : x = 0
    · subst e; simp
    · rw [if_neg e]
      have : imF (List.replicate s.toNat (-1)) x = -1 := by
       unfold imF
       rw [List.getD_eq_getElem?_getD, List.getElem?_replicate, if_pos (by omega)]; rfl
      rw [this]; simp [e]
  · intro x l h0 h
    rcases h with h | h
    · omega
    · cases h.2
 len := by rw [List.length_set, List.length_replicate]; omega
theorem PrSt.skip {L : List Int} {ea eb : List Ed} {s v : Int} {D im : List Int} {l : Int} (h : PrSt L ea eb s v D im) (hn : nxV ea v l < 0) : PrSt L ea eb s v (D ++ [l]) im where
 ex := by
  obtain ⟨seen, h1, h2, h3, h4⟩ := h.ex
  refine ⟨seen, h1, h2, h3, fun x m h0 hx hx2 => ?_⟩
  rcases hx with hx | ⟨hx, hm⟩
  · exact h4 x m h0 (.inl hx) hx2
  · rcases List.mem_append.1 hm with hm | hm
    · exact h4 x m h0 (.inr ⟨hx, hm⟩) hx2
    · simp at hm; subst hm; subst hx; omega
 len := h.len
theorem PrSt.none {L : List Int} {ea eb : List Ed} {s v : Int} {D im : List Int} {l : Int} (h : PrSt L ea eb s v D im) (hv : 0 ≤ v ∧ v < s) (hi : imF im v ≠ -1) (hl : l ∈ L) (hn : 0 ≤ nxV ea v l) (hno : nxV eb (imF im v) l < 0) : morB L ea eb = false := by
 obtain ⟨seen, h1, h2, h3, h4⟩ := h.ex
 exact h1.none ((h3 v hv.1 hv.2).2 hi) hl hn hno
theorem PrSt.put {L : List Int} {ea eb : List Ed} {s v : Int} {D im : List Int} {l : Int} (h : PrSt L ea eb s v D im) (hv : 0 ≤ v ∧ v < s) (hi : imF im v ≠ -1) (hl : l ∈ L) (hn : 0 ≤ nxV ea v l) (hns : nxV ea v l < s) (h2n : 0 ≤ nxV eb (imF im v) l)
 (hor : imF im (nxV ea v l) = -1 ∨ imF im (nxV ea v l) = nxV eb (imF im v) l) : PrSt L ea eb s v (D ++ [l]) (im.set (nxV ea v l).toNat (nxV eb (imF im v) l)) where
 ex := by
  obtain ⟨seen, h1, h2, h3, h4⟩ := h.ex
  have hlen := h.len
  obtain ⟨y, hy⟩ := exq (nxV ea v l)
  obtain ⟨z, hz⟩ := exq (nxV eb (imF im v) l)
  rw [← hy] at hn hns hor
  rw [← hz] at h2n hor
  rw [← hy, ← hz]
  have hset := fun x (hx : 0 ≤ x) => imF_set (im := im) (x := y) (y := z) (z := x) hn (by omega) hx
  have hsv := (h3 v hv.1 hv.2).2 hi
  have hvi : imF (im.set y.toNat z) v = imF im v := by
   rw [hset v hv.1]
   by_cases e : v = y
   · rw [if_pos e]
     rcases hor with q | q
     · rw [← e] at q; exact absurd q hi
     · rw [← e] at q; exact q.symm
   · rw [if_neg e]
  have hsame : ∀ x ∈ seen, imF (im.set y.toNat z) x = imF im x := by
   intro x hx
   rw [hset x (h2 x hx).1]
   by_cases e : x = y
   · rw [if_pos e]
     have q0 := (h3 x (h2 x hx).1 (h2 x hx).2).1 hx
     rw [e] at q0 ⊢
     rcases hor with q | q
     · exact absurd q q0
     · exact q.symm
   · rw [if_neg e]
  have hat : imF (im.set y.toNat z) y = z := by rw [hset y hn, if_pos rfl]
  by_cases hys : y ∈ seen
  · refine ⟨seen, ⟨h1.base, by rw [hsame 0 h1.base]; exact h1.img0, h1.rch, fun f hf x hx => by rw [hsame x hx]; exact h1.same f hf x hx⟩, h2, fun x h0 hx => ?_, fun x m h0 hx hx2 => ?_⟩
    · rw [hset x h0]
      by_cases e : x = y
      · rw [if_pos e, e]; exact ⟨fun _ => by omega, fun _ => hys⟩
      · rw [if_neg e]; exact h3 x h0 hx
    · rcases hx with hx | ⟨hx, hm⟩
      · obtain ⟨a, b, c, d⟩ := h4 x m h0 (.inl hx) hx2
        rw [hsame x a, hsame _ b]; exact ⟨a, b, c, d⟩
      · rcases List.mem_append.1 hm with hm | hm
        · obtain ⟨a, b, c, d⟩ := h4 x m h0 (.inr ⟨hx, hm⟩) hx2
          rw [hsame x a, hsame _ b]; exact ⟨a, b, c, d⟩
        · simp at hm; subst hm; subst hx
          rw [hvi, ← hy, hat, ← hz]; exact ⟨hsv, hys, h2n, rfl⟩
  · refine ⟨seen ++ [y], ?_, ?_, fun x h0 hx => ?_, fun x m h0 hx hx2 => ?_⟩
    · have := h1.grow (img' := imF (im.set y.toNat z)) hsv hl (by rw [← hy]; exact hn) (by rw [← hy]; exact hys) (by rw [← hy, ← hz]; exact hat) (fun x hx => hsame x hx)
      rw [← hy] at this; exact this
    · intro x hx
      rcases List.mem_append.1 hx with hx | hx
      · exact h2 x hx
      · simp at hx; omega
    · rw [hset x h0, List.mem_append, List.mem_singleton]
      by_cases e : x = y
      · rw [if_pos e]; exact ⟨fun _ => by omega, fun _ => .inr e⟩
      · rw [if_neg e, ← h3 x h0 hx]; exact ⟨fun q => q.resolve_right e, .inl⟩
    · rcases hx with hx | ⟨hx, hm⟩
      · obtain ⟨a, b, c, d⟩ := h4 x m h0 (.inl hx) hx2
        rw [hsame x a, hsame _ b]; exact ⟨List.mem_append_left _ a, List.mem_append_left _ b, c, d⟩
      · rcases List.mem_append.1 hm with hm | hm
        · obtain ⟨a, b, c, d⟩ := h4 x m h0 (.inr ⟨hx, hm⟩) hx2
          rw [hsame x a, hsame _ b]; exact ⟨List.mem_append_left _ a, List.mem_append_left _ b, c, d⟩
        · simp at hm; subst hm; subst hx
          rw [hvi, ← hy, hat, ← hz]; exact ⟨List.mem_append_left _ hsv, List.mem_append_right _ (by simp), h2n, rfl⟩
 len := by rw [List.length_set]; exact h.len
theorem PrSt.next {L : List Int} {ea eb : List Ed} {s v : Int} {im : List Int} (h : PrSt L ea eb s v L im) : PrSt L ea eb s (v + 1) [] im where
 ex := by
  obtain ⟨seen, h1, h2, h3, h4⟩ := h.ex
  refine ⟨seen, h1, h2, h3, fun x m h0 hx hx2 => ?_⟩
  rcases hx with ⟨hx, hm⟩ | ⟨hx, hm⟩
  · by_cases e : x = v
    · exact h4 x m h0 (.inr ⟨e, hm⟩) hx2
    · exact h4 x m h0 (.inl ⟨by omega, hm⟩) hx2
  · cases hm
 len := h.len
structure MdSt (L : List Int) (ea eb : List Ed) (s : Int) (seen : List Int) (i : Nat) (D : List Int) (im : List Int) : Prop where
 mo : MoSt L ea eb seen (imF im)
 rng : CoIn s.toNat seen
 old : ∀ j, j < i → ∀ l ∈ L, 0 ≤ nxV ea (seen.getD j 0) l → nxV ea (seen.getD j 0) l ∈ seen ∧ 0 ≤ nxV eb (imF im (seen.getD j 0)) l ∧ imF im (nxV ea (seen.getD j 0) l) = nxV eb (imF im (seen.getD j 0)) l
 now : ∀ l ∈ D, 0 ≤ nxV ea (seen.getD i 0) l → nxV ea (seen.getD i 0) l ∈ seen ∧ 0 ≤ nxV eb (imF im (seen.getD i 0)) l ∧ imF im (nxV ea (seen.getD i 0) l) = nxV eb (imF im (seen.getD i 0)) l
 len : (im.length : Int) = s
theorem MdSt.start {L : List Int} {ea eb : List Ed} {s : Int} (hs : 1 ≤ s) : MdSt L ea eb s [0] 0 [] (List.replicate s.toNat 0) where
 mo := MoSt.start L ea eb _ (by unfold imF; rw [List.getD_eq_getElem?_getD, List.getElem?_replicate]; split <;> rfl)
 rng := ⟨by simp, fun y hy => by simp at hy; omega⟩
 old := by intro j h; omega
 now := by intro l h; cases h
 len := by rw [List.length_replicate]; omega
theorem MdSt.next {L : List Int} {ea eb : List Ed} {s : Int} {seen : List Int} {i : Nat} {im : List Int} (h : MdSt L ea eb s seen i L im) : MdSt L ea eb s seen (i + 1) [] im where
 mo := h.mo
 rng := h.rng
 old := by
  intro j hj l hl hn
  by_cases e : j = i
  · subst e; exact h.now l hl hn
  · exact h.old j (by omega) l hl hn
 now := by intro l h; cases h
 len := h.len
theorem MdSt.skip {L : List Int} {ea eb : List Ed} {s : Int} {seen : List Int} {i : Nat} {D im : List Int} {l : Int} (h : MdSt L ea eb s seen i D im) (hn : nxV ea (seen.getD i 0) l < 0) : MdSt L ea eb s seen i (D ++ [l]) im where
 mo := h.mo
 rng := h.rng
 old := h.old
 now := by
  intro m hm hx
  rcases List.mem_append.1 hm with hm | hm
  · exact h.now m hm hx
  · simp at hm; subst hm; omega
 len := h.len
theorem MdSt.none {L : List Int} {ea eb : List Ed} {s : Int} {seen : List Int} {i : Nat} {D im : List Int} {l : Int} (h : MdSt L ea eb s seen i D im) (hi : i < seen.length) (hl : l ∈ L) (hn : 0 ≤ nxV ea (seen.getD i 0) l) (hno : nxV eb (imF im (seen.getD i 0)) l < 0) : morB L ea eb = false :=
 h.mo.none (mem_getI.2 ⟨i, hi, rfl⟩) hl hn hno
theorem MdSt.same {L : List Int} {ea eb : List Ed} {s : Int} {seen : List Int} {i : Nat} {D im : List Int} {l : Int} (h : MdSt L ea eb s seen i D im) (h2n : 0 ≤ nxV eb (imF im (seen.getD i 0)) l) (hin : nxV ea (seen.getD i 0) l ∈ seen) (heq : imF im (nxV ea (seen.getD i 0) l) = nxV eb (imF im (seen.getD i 0)) l) : MdSt L ea eb s seen i (D ++ [l]) im where
 mo := h.mo
 rng := h.rng
 old := h.old
 now := by
  intro m hm hx
  rcases List.mem_append.1 hm with hm | hm
  · exact h.now m hm hx
  · simp at hm; subst hm; exact ⟨hin, h2n, heq⟩
 len := h.len
theorem MdSt.grow {L : List Int} {ea eb : List Ed} {s : Int} {seen : List Int} {i : Nat} {D im : List Int} {l : Int} (h : MdSt L ea eb s seen i D im) (hi : i < seen.length) (hl : l ∈ L) (hn : 0 ≤ nxV ea (seen.getD i 0) l) (hns : nxV ea (seen.getD i 0) l < s) (h2n : 0 ≤ nxV eb (imF im (seen.getD i 0)) l) (hnew : nxV ea (seen.getD i 0) l ∉ seen) :
 MdSt L ea eb s (seen ++ [nxV ea (seen.getD i 0) l]) i (D ++ [l]) (im.set (nxV ea (seen.getD i 0) l).toNat (nxV eb (imF im (seen.getD i 0)) l)) := by
 have hlen := h.len
 have hold := h.old
 have hnow := h.now
 have hu : seen.getD i 0 ∈ seen := mem_getI.2 ⟨i, hi, rfl⟩
 obtain ⟨u, hue⟩ := exq (seen.getD i 0)
 rw [← hue] at hn hns h2n hnew hnow hu ⊢
 obtain ⟨y, hy⟩ := exq (nxV ea u l)
 obtain ⟨z, hz⟩ := exq (nxV eb (imF im u) l)
 rw [← hy] at hn hns hnew
 rw [← hz] at h2n
 rw [← hy, ← hz]
 have hset := fun x (hx : 0 ≤ x) => imF_set (im := im) (x := y) (y := z) (z := x) hn (by omega) hx
 have hsame : ∀ x ∈ seen, imF (im.set y.toNat z) x = imF im x := by
  intro x hx
  have hb := h.rng.2 x hx
  rw [hset x hb.1, if_neg (by intro e; subst e; exact hnew hx)]
 have hat : imF (im.set y.toNat z) y = z := by rw [hset y hn, if_pos rfl]
 have hui : (seen ++ [y]).getD i 0 = u := by rw [getD_app hi, hue]
 refine ⟨?_, ⟨?_, ?_⟩, ?_, ?_, by rw [List.length_set]; exact hlen⟩
 · have := h.mo.grow (img' := imF (im.set y.toNat z)) hu hl (by rw [← hy]; exact hn) (by rw [← hy]; exact hnew) (by rw [← hy, ← hz]; exact hat) (fun x hx => hsame x hx)
   rw [← hy] at this; exact this
 · rw [List.nodup_append]
   exact ⟨h.rng.1, by simp, fun a ha b hb => by rw [List.mem_singleton] at hb; subst hb; intro e; subst e; exact hnew ha⟩
 · intro x hx
   rcases List.mem_append.1 hx with hx | hx
   · exact h.rng.2 x hx
   · simp at hx; omega
 · intro j hj m hm hx
   rw [getD_app (by omega)] at hx ⊢
   obtain ⟨a, b, c⟩ := hold j hj m hm hx
   have hjs : seen.getD j 0 ∈ seen := mem_getI.2 ⟨j, by omega, rfl⟩
   rw [hsame _ hjs, hsame _ a]
   exact ⟨List.mem_append_left _ a, b, c⟩
 · intro m hm hx
   rw [hui] at hx ⊢
   rw [hsame u hu]
   rcases List.mem_append.1 hm with hm | hm
   · obtain ⟨a, b, c⟩ := hnow m hm hx
     rw [hsame _ a]; exact ⟨List.mem_append_left _ a, b, c⟩
   · simp at hm; subst hm
     rw [← hy, ← hz, hat]; exact ⟨List.mem_append_right _ (by simp), h2n, rfl⟩
end Go.Proofs.YtpjlamnjiilgbaaGreat
