import Derived.Deep.Cut
import Derived.Test.YtpjlamnjiilgbaaGreatJ21Is
import Derived.Test.YtpjlamnjiilgbaaGreatJ30Is
import Derived.Test.YtpjlamnjiilgbaaGreatJ31Is
import Derived.Test.YtpjlamnjiilgbaaGreatJ2Is
namespace Go.Proofs.YtpjlamnjiilgbaaGreat
open Go.RowKit
set_option linter.unusedVariables false
set_option linter.unusedSimpArgs false
theorem suE_lim (r : Int) {zss : List (List Int)} (hs : totL zss ≤ 1048576) : (suE r zss).length ≤ 1048576 := Nat.le_trans (suE_length r zss) (Nat.le_trans (floE_length r zss) hs)
set_option maxRecDepth 100000 in
set_option maxHeartbeats 3200000 in
theorem specFree (w : World) (r : Int) (v : Value) (zss : List (List Int)) (h : ReadSS w.heap.size w v zss) (hs : totL zss ≤ 1048576) :
 Calls Tryz.prog 25 #[.int .i64 r, v] w (LwBool w (frB r zss)) := by
 have h' := h
 obtain ⟨hl, a, cap, rfl, _, _⟩ := h'
 have hcall := specSubOf w r (.slice a zss.length cap) zss h hs
 have hel := suE_lim r hs
 have hsl := su_lim r zss
 obtain ⟨n, hn⟩ := exq zss.length
 obtain ⟨F, hF⟩ := exq (frB r zss)
 obtain ⟨B, hB⟩ := exq (arew r zss)
 obtain ⟨SR, hSR⟩ := exq (suR r zss)
 obtain ⟨SS, hSS⟩ := exq (suS r zss)
 obtain ⟨SE, hSE⟩ := exq (suE r zss)
 obtain ⟨K, hK⟩ := exq (rkN SR SS SE)
 have hFe : F = (B && decide (K = (n : Int))) := by rw [hF, hB, hK, hSR, hSS, hSE, hn]; rfl
 rw [← hSR, ← hSS, ← hSE, ← hB, ← hn] at hcall
 rw [← hSE] at hel
 rw [← hSS] at hsl
 rw [← hF, ← hn]
 rw [← hn] at hl
 replace hFe := hidI hFe
 replace hF := hidI hF
 replace hB := hidI hB
 replace hSR := hidI hSR
 replace hSS := hidI hSS
 replace hSE := hidI hSE
 replace hK := hidI hK
 replace hn := hidI hn
 replace h := hidI h
 replace hsl := hidI hsl
 go_enter Tryz.func25, Tryz.ntmps25
 go_wp2_with fail
 refine hcall.mono ?_
 rintro e w2 ⟨b, cap2, rfl, hrow2, hb2⟩
 clear hcall
 have hs2 := hb2.size
 obtain ⟨N, hN⟩ := exq SE.length
 rw [← hN] at hrow2 hel ⊢
 obtain ⟨w3, hw3⟩ := exq (w2.alloc (.cells #[.int .i64 SR, .int .i64 SS, .slice b N cap2] 26))
 have hb3 : Below w2.heap.size w2 w3 := by rw [hw3]; exact (Below.refl _ _).alloc (Nat.le_refl _) _
 obtain ⟨x0, x1, x2⟩ := box3 hw3
 have hs3 : w2.heap.size < w3.heap.size := by rw [hw3]; simp
 have hbw3 := hidI (hb2.trans (hb3.mono hs2))
 have hrow3 : RowS 72 3 w3 w.heap.size w2.heap.size (.slice b N cap2) N (flatE SE) := hrow2.below hb3 (Nat.le_refl _)
 have hrank := specRankOf w3 SR SS (.slice b N cap2) SE (by have := hrow3.read.mono (Nat.le_of_lt hs3); rw [hN] at this ⊢; exact this) (by have := hsl.out; omega) (by omega)
 rw [← hK.out] at hrank
 replace hrow2 := hidI hrow2
 replace hrow3 := hidI hrow3
 replace hN := hidI hN
 clear hb2 hb3
 go_upto_region 2 with fail
 rw [← hw3]
 replace hw3 := hidI hw3
 cases B with
 | false =>
  have hfin : Hid (F = false) := hidI (by rw [hFe.out]; rfl)
  replace hFe := hidI hFe
  clear hrank x0 x1 x2
  go_wp2
  go_ret
  exact ⟨ret_bool hfin.out.symm, hbw3.out⟩
 | true =>
  by_cases e : K = (n : Int)
  · have hfin : Hid (F = true) := hidI (by rw [hFe.out, decide_eq_true e]; rfl)
    have he : (K == (n : Int)) = true := by rw [beq_iff_eq]; exact e
    replace e := hidI e
    replace hFe := hidI hFe
    go_wp2_with fail
    refine hrank.mono ?_
    rintro e w4 ⟨rfl, hb4⟩
    clear hrank
    have hbz := hidI (hbw3.out.trans (hb4.mono hbw3.out.size))
    go_wp2
    go_ret
    exact ⟨ret_bool hfin.out.symm, hbz.out⟩
  · have hfin : Hid (F = false) := hidI (by rw [hFe.out, decide_eq_false e]; rfl)
    have he : (K == (n : Int)) = false := by rw [beq_eq_false_iff_ne]; exact e
    replace e := hidI e
    replace hFe := hidI hFe
    go_wp2_with fail
    refine hrank.mono ?_
    rintro e w4 ⟨rfl, hb4⟩
    clear hrank
    have hbz := hidI (hbw3.out.trans (hb4.mono hbw3.out.size))
    go_wp2
    go_ret
    exact ⟨ret_bool hfin.out.symm, hbz.out⟩
set_option maxRecDepth 100000 in
set_option maxHeartbeats 3200000 in
theorem specGen (w : World) (r s : Int) (v : Value) (es : List Ed) (vz : Value) (zss : List (List Int)) (h : ReadE w.heap.size w v es) (hz : ReadSS w.heap.size w vz zss) (hbs : -9223372036854775808 ≤ s ∧ s ≤ 9223372036854775807) (hl : es.length ≤ 10000000) (hs : totL zss ≤ 1048576) :
 Calls Tryz.prog 28 #[.agg #[.int .i64 r, .int .i64 s, v], vz] w (LwBool w (geB r s es zss)) := by
 obtain ⟨a, cap, rfl, hnc⟩ := h.form
 have hz' := hz
 obtain ⟨hzl, az, capz, rfl, _, _⟩ := hz'
 obtain ⟨n, hn⟩ := exq es.length
 rw [← hn] at hl hnc ⊢
 rw [← hn] at h
 obtain ⟨w1, hw1⟩ := exq (w.alloc (.cells #[.int .i64 r, .int .i64 s, .slice a n cap] 26))
 have hb1 : Below w.heap.size w w1 := by rw [hw1]; exact (Below.refl _ _).alloc (Nat.le_refl _) _
 have hs1 : w.heap.size < w1.heap.size := by rw [hw1]; simp
 obtain ⟨g0, g1, g2⟩ := box3 hw1
 have hcall := specSubOf w1 r (.slice az zss.length capz) zss ((hz.below hb1).mono hb1.size) hs
 have hel := suE_lim r hs
 have hsl := su_lim r zss
 obtain ⟨m, hm⟩ := exq zss.length
 obtain ⟨F, hF⟩ := exq (geB r s es zss)
 obtain ⟨B, hB⟩ := exq (arew r zss)
 obtain ⟨C, hC⟩ := exq (isCo r s es)
 obtain ⟨SR, hSR⟩ := exq (suR r zss)
 obtain ⟨SS, hSS⟩ := exq (suS r zss)
 obtain ⟨SE, hSE⟩ := exq (suE r zss)
 obtain ⟨Q, hQ⟩ := exq (eqG r s es SR SS SE)
 have hFe : F = (B && (C && Q)) := by rw [hF, geB_eq, hB, hC, hQ, hSR, hSS, hSE]
 rw [← hSR, ← hSS, ← hSE, ← hB, ← hm] at hcall
 rw [← hSE] at hel
 rw [← hSS] at hsl
 rw [← hF, ← hm]
 rw [← hm] at hzl
 replace hFe := hidI hFe
 replace hF := hidI hF
 replace hB := hidI hB
 replace hC := hidI hC
 replace hSR := hidI hSR
 replace hSS := hidI hSS
 replace hSE := hidI hSE
 replace hQ := hidI hQ
 replace hn := hidI hn
 replace hm := hidI hm
 replace h := hidI h
 replace hz := hidI hz
 replace hsl := hidI hsl
 go_enter Tryz.func28, Tryz.ntmps28
 go_upto_region 1 with fail
 rw [← hw1]
 replace hw1 := hidI hw1
 go_wp2_with fail
 refine hcall.mono ?_
 rintro e w2 ⟨b, cap2, rfl, hrow2, hb2⟩
 clear hcall
 have hs2 := hb2.size
 replace g0 := below_cell g0 hb2 hs1
 replace g1 := below_cell g1 hb2 hs1
 replace g2 := below_cell g2 hb2 hs1
 obtain ⟨N, hN⟩ := exq SE.length
 rw [← hN] at hrow2 hel ⊢
 obtain ⟨w3, hw3⟩ := exq (w2.alloc (.cells #[.int .i64 SR, .int .i64 SS, .slice b N cap2] 26))
 have hb3 : Below w2.heap.size w2 w3 := by rw [hw3]; exact (Below.refl _ _).alloc (Nat.le_refl _) _
 obtain ⟨x0, x1, x2⟩ := box3 hw3
 have hs3 : w2.heap.size < w3.heap.size := by rw [hw3]; simp
 replace g0 := below_cell g0 hb3 (by omega)
 replace g1 := below_cell g1 hb3 (by omega)
 replace g2 := below_cell g2 hb3 (by omega)
 have hbw3 := hidI (hb1.trans ((hb2.trans (hb3.mono hs2)).mono hb1.size))
 have hrow3 : RowS 72 3 w3 w1.heap.size w2.heap.size (.slice b N cap2) N (flatE SE) := hrow2.below hb3 (Nat.le_refl _)
 have hrdn := hidI (show ReadE w3.heap.size w3 (.slice b N cap2) SE from by have := hrow3.read.mono (Nat.le_of_lt hs3); rw [hN] at this ⊢; exact this)
 have hsub := specIsSub w3 r s (.slice a n cap) es ((h.out.below hbw3.out).mono hbw3.out.size) hbs (by have := hn.out; omega)
 rw [← hC.out] at hsub
 have heq := fun (W : World) (hW : Below w3.heap.size w3 W) => specEqG W r s SR SS (.slice a n cap) (.slice b N cap2) es SE ((h.out.below (hbw3.out.trans (hW.mono hbw3.out.size))).mono (by have := hbw3.out.size; have := hW.size; omega)) ((hrdn.out.below hW).mono hW.size) (by have := hn.out; omega) (by have := hN; omega)
 rw [← hQ.out] at heq
 replace heq := hidI heq
 replace hrow2 := hidI hrow2
 replace hrow3 := hidI hrow3
 replace hN := hidI hN
 clear hb1 hb2 hb3
 have hz1 : w.heap.size < w3.heap.size := by omega
 go_upto_region 2 with fail
 rw [← hw3]
 replace hw3 := hidI hw3
 cases B with
 | false =>
  have hfin : Hid (F = false) := hidI (by rw [hFe.out]; rfl)
  replace hFe := hidI hFe
  clear hsub
  go_wp2
  go_ret
  exact ⟨ret_bool hfin.out.symm, hbw3.out⟩
 | true =>
  go_wp2_with fail
  refine hsub.mono ?_
  rintro e w4 ⟨rfl, hb4⟩
  clear hsub
  have hbz := hidI (hbw3.out.trans (hb4.mono hbw3.out.size))
  have hq := heq.out w4 hb4
  replace g0 := below_cell g0 hb4 hz1
  replace g1 := below_cell g1 hb4 hz1
  replace g2 := below_cell g2 hb4 hz1
  replace x0 := below_cell x0 hb4 hs3
  replace x1 := below_cell x1 hb4 hs3
  replace x2 := below_cell x2 hb4 hs3
  clear hb4
  cases C with
  | false =>
   have hfin : Hid (F = false) := hidI (by rw [hFe.out]; rfl)
   replace hFe := hidI hFe
   replace hC := hidI hC
   clear hq
   go_wp2
   go_ret
   exact ⟨ret_bool hfin.out.symm, hbz.out⟩
  | true =>
   have hfin : Hid (F = Q) := hidI (by rw [hFe.out]; rfl)
   replace hFe := hidI hFe
   replace hC := hidI hC
   go_wp2_with fail
   refine hq.mono ?_
   rintro e w5 ⟨rfl, hb5⟩
   clear hq
   have hby := hidI (hbz.out.trans (hb5.mono hbz.out.size))
   go_wp2
   go_ret
   exact ⟨ret_bool hfin.out.symm, hby.out⟩
set_option maxRecDepth 100000 in
set_option maxHeartbeats 3200000 in
theorem progFree (w : World) (r : Int) (v : Value) (zss : List (List Int)) (h : ReadSS w.heap.size w v zss) (hs : totL zss ≤ 1048576) :
 Calls Tryz.prog 27 #[.int .i64 r, v] w (LwBool w (frB r zss)) := by
 have h' := h
 obtain ⟨hl, a, cap, rfl, _, _⟩ := h'
 have hcall := progSubOf w r (.slice a zss.length cap) zss h hs
 have hel := suE_lim r hs
 have hsl := su_lim r zss
 obtain ⟨n, hn⟩ := exq zss.length
 obtain ⟨F, hF⟩ := exq (frB r zss)
 obtain ⟨B, hB⟩ := exq (arew r zss)
 obtain ⟨SR, hSR⟩ := exq (suR r zss)
 obtain ⟨SS, hSS⟩ := exq (suS r zss)
 obtain ⟨SE, hSE⟩ := exq (suE r zss)
 obtain ⟨K, hK⟩ := exq (rkN SR SS SE)
 have hFe : F = (B && decide (K = (n : Int))) := by rw [hF, hB, hK, hSR, hSS, hSE, hn]; rfl
 rw [← hSR, ← hSS, ← hSE, ← hB, ← hn] at hcall
 rw [← hSE] at hel
 rw [← hSS] at hsl
 rw [← hF, ← hn]
 rw [← hn] at hl
 replace hFe := hidI hFe
 replace hF := hidI hF
 replace hB := hidI hB
 replace hSR := hidI hSR
 replace hSS := hidI hSS
 replace hSE := hidI hSE
 replace hK := hidI hK
 replace hn := hidI hn
 replace h := hidI h
 replace hsl := hidI hsl
 go_enter Tryz.func27, Tryz.ntmps27
 go_wp2_with fail
 refine hcall.mono ?_
 rintro e w2 ⟨b, cap2, rfl, hrow2, hb2⟩
 clear hcall
 have hs2 := hb2.size
 obtain ⟨N, hN⟩ := exq SE.length
 rw [← hN] at hrow2 hel ⊢
 obtain ⟨w3, hw3⟩ := exq (w2.alloc (.cells #[.int .i64 SR, .int .i64 SS, .slice b N cap2] 26))
 have hb3 : Below w2.heap.size w2 w3 := by rw [hw3]; exact (Below.refl _ _).alloc (Nat.le_refl _) _
 obtain ⟨x0, x1, x2⟩ := box3 hw3
 have hs3 : w2.heap.size < w3.heap.size := by rw [hw3]; simp
 have hbw3 := hidI (hb2.trans (hb3.mono hs2))
 have hrow3 : RowS 72 3 w3 w.heap.size w2.heap.size (.slice b N cap2) N (flatE SE) := hrow2.below hb3 (Nat.le_refl _)
 have hrank := progRankOf w3 SR SS (.slice b N cap2) SE (by have := hrow3.read.mono (Nat.le_of_lt hs3); rw [hN] at this ⊢; exact this) (by omega)
 rw [← hK.out] at hrank
 replace hrow2 := hidI hrow2
 replace hrow3 := hidI hrow3
 replace hN := hidI hN
 clear hb2 hb3
 go_upto_region 2 with fail
 rw [← hw3]
 replace hw3 := hidI hw3
 cases B with
 | false =>
  have hfin : Hid (F = false) := hidI (by rw [hFe.out]; rfl)
  replace hFe := hidI hFe
  clear hrank x0 x1 x2
  go_wp2
  go_ret
  exact ⟨ret_bool hfin.out.symm, hbw3.out⟩
 | true =>
  by_cases e : K = (n : Int)
  · have hfin : Hid (F = true) := hidI (by rw [hFe.out, decide_eq_true e]; rfl)
    have he : (K == (n : Int)) = true := by rw [beq_iff_eq]; exact e
    replace e := hidI e
    replace hFe := hidI hFe
    go_wp2_with fail
    refine hrank.mono ?_
    rintro e w4 ⟨rfl, hb4⟩
    clear hrank
    have hbz := hidI (hbw3.out.trans (hb4.mono hbw3.out.size))
    go_wp2
    go_ret
    exact ⟨ret_bool hfin.out.symm, hbz.out⟩
  · have hfin : Hid (F = false) := hidI (by rw [hFe.out, decide_eq_false e]; rfl)
    have he : (K == (n : Int)) = false := by rw [beq_eq_false_iff_ne]; exact e
    replace e := hidI e
    replace hFe := hidI hFe
    go_wp2_with fail
    refine hrank.mono ?_
    rintro e w4 ⟨rfl, hb4⟩
    clear hrank
    have hbz := hidI (hbw3.out.trans (hb4.mono hbw3.out.size))
    go_wp2
    go_ret
    exact ⟨ret_bool hfin.out.symm, hbz.out⟩
set_option maxRecDepth 100000 in
set_option maxHeartbeats 3200000 in
theorem progGen (w : World) (r s : Int) (v : Value) (es : List Ed) (vz : Value) (zss : List (List Int)) (h : ReadE w.heap.size w v es) (hz : ReadSS w.heap.size w vz zss) (hbs : -9223372036854775808 ≤ s ∧ s ≤ 9223372036854775807) (hl : es.length ≤ 10000000) (hs : totL zss ≤ 1048576) :
 Calls Tryz.prog 29 #[.agg #[.int .i64 r, .int .i64 s, v], vz] w (LwBool w (geB r s es zss)) := by
 obtain ⟨a, cap, rfl, hnc⟩ := h.form
 have hz' := hz
 obtain ⟨hzl, az, capz, rfl, _, _⟩ := hz'
 obtain ⟨n, hn⟩ := exq es.length
 rw [← hn] at hl hnc ⊢
 rw [← hn] at h
 obtain ⟨w1, hw1⟩ := exq (w.alloc (.cells #[.int .i64 r, .int .i64 s, .slice a n cap] 26))
 have hb1 : Below w.heap.size w w1 := by rw [hw1]; exact (Below.refl _ _).alloc (Nat.le_refl _) _
 have hs1 : w.heap.size < w1.heap.size := by rw [hw1]; simp
 obtain ⟨g0, g1, g2⟩ := box3 hw1
 have hcall := progSubOf w1 r (.slice az zss.length capz) zss ((hz.below hb1).mono hb1.size) hs
 have hel := suE_lim r hs
 have hsl := su_lim r zss
 obtain ⟨m, hm⟩ := exq zss.length
 obtain ⟨F, hF⟩ := exq (geB r s es zss)
 obtain ⟨B, hB⟩ := exq (arew r zss)
 obtain ⟨C, hC⟩ := exq (isCo r s es)
 obtain ⟨SR, hSR⟩ := exq (suR r zss)
 obtain ⟨SS, hSS⟩ := exq (suS r zss)
 obtain ⟨SE, hSE⟩ := exq (suE r zss)
 obtain ⟨Q, hQ⟩ := exq (eqG SR SS SE r s es)
 have hFe : F = (B && Q) := by rw [hF, hB, hQ, hSR, hSS, hSE]; rfl
 rw [← hSR, ← hSS, ← hSE, ← hB, ← hm] at hcall
 rw [← hSE] at hel
 rw [← hSS] at hsl
 rw [← hF, ← hm]
 rw [← hm] at hzl
 replace hFe := hidI hFe
 replace hF := hidI hF
 replace hB := hidI hB
 replace hC := hidI hC
 replace hSR := hidI hSR
 replace hSS := hidI hSS
 replace hSE := hidI hSE
 replace hQ := hidI hQ
 replace hn := hidI hn
 replace hm := hidI hm
 replace h := hidI h
 replace hz := hidI hz
 replace hsl := hidI hsl
 go_enter Tryz.func29, Tryz.ntmps29
 go_upto_region 1 with fail
 rw [← hw1]
 replace hw1 := hidI hw1
 go_wp2_with fail
 refine hcall.mono ?_
 rintro e w2 ⟨b, cap2, rfl, hrow2, hb2⟩
 clear hcall
 have hs2 := hb2.size
 replace g0 := below_cell g0 hb2 hs1
 replace g1 := below_cell g1 hb2 hs1
 replace g2 := below_cell g2 hb2 hs1
 obtain ⟨N, hN⟩ := exq SE.length
 rw [← hN] at hrow2 hel ⊢
 obtain ⟨w3, hw3⟩ := exq (w2.alloc (.cells #[.int .i64 SR, .int .i64 SS, .slice b N cap2] 26))
 have hb3 : Below w2.heap.size w2 w3 := by rw [hw3]; exact (Below.refl _ _).alloc (Nat.le_refl _) _
 obtain ⟨x0, x1, x2⟩ := box3 hw3
 have hs3 : w2.heap.size < w3.heap.size := by rw [hw3]; simp
 replace g0 := below_cell g0 hb3 (by omega)
 replace g1 := below_cell g1 hb3 (by omega)
 replace g2 := below_cell g2 hb3 (by omega)
 have hbw3 := hidI (hb1.trans ((hb2.trans (hb3.mono hs2)).mono hb1.size))
 have hrow3 : RowS 72 3 w3 w1.heap.size w2.heap.size (.slice b N cap2) N (flatE SE) := hrow2.below hb3 (Nat.le_refl _)
 have hrdn := hidI (show ReadE w3.heap.size w3 (.slice b N cap2) SE from by have := hrow3.read.mono (Nat.le_of_lt hs3); rw [hN] at this ⊢; exact this)
 have heq := progEqG w3 SR SS r s (.slice b N cap2) (.slice a n cap) SE es hrdn.out ((h.out.below hbw3.out).mono hbw3.out.size) (by have := hN; omega) (by have := hn.out; omega)
 rw [← hQ.out] at heq
 replace hrow2 := hidI hrow2
 replace hrow3 := hidI hrow3
 replace hN := hidI hN
 clear hb1 hb2 hb3
 go_upto_region 2 with fail
 rw [← hw3]
 replace hw3 := hidI hw3
 cases B with
 | false =>
  have hfin : Hid (F = false) := hidI (by rw [hFe.out]; rfl)
  replace hFe := hidI hFe
  clear heq
  go_wp2
  go_ret
  exact ⟨ret_bool hfin.out.symm, hbw3.out⟩
 | true =>
  have hfin : Hid (F = Q) := hidI (by rw [hFe.out]; rfl)
  replace hFe := hidI hFe
  go_wp2_with fail
  refine heq.mono ?_
  rintro e w5 ⟨rfl, hb5⟩
  clear heq
  have hby := hidI (hbw3.out.trans (hb5.mono hbw3.out.size))
  go_wp2
  go_ret
  exact ⟨ret_bool hfin.out.symm, hby.out⟩
end Go.Proofs.YtpjlamnjiilgbaaGreat
