import Derived.Test.YtgnomlcjikfdhaaGreatJ5Me
import Derived.Test.YtgnomlcjikfdhaaGreatJ4Me
import Derived.Test.YtgnomlcjikfdhaaGreatJ7Me
namespace Go.Proofs.YtgnomlcjikfdhaaGreat
open Go.RowKit
set_option linter.unusedVariables false
set_option linter.unusedSimpArgs false
def tY (r s : Int) (es : List Ed) (e : Ed) : Bool := aK r s es && (edgeOk r s e && decide (es.length < 120))
def iV (r s : Int) (es : List Ed) (e : Ed) : List Ed := if tY r s es e = true then dE e es else es
def mD (r s : Int) (es : List Ed) (e : Ed) : Bool := tY r s es e && decide (es.length < (dE e es).length)
theorem mV.form {w w' : World} {es : List Ed} {e : Ending} (h : mV w es e w') : ∃ a n cap, n = es.length ∧ e = .returned (.slice a n cap) ∧ aF 36 3 w' w.heap.size w'.heap.size (.slice a n cap) es.length (aC es) ∧ Below w.heap.size w w' := by
 obtain ⟨a, cap, he, hr, hb⟩ := h; exact ⟨a, _, cap, rfl, he, hr, hb⟩
theorem IC {r s : Int} {es : List Ed} (h : aK r s es = true) : es.length ≤ 120 := (dN.1 h).2.2.2.2.2
set_option maxRecDepth 100000 in
set_option maxHeartbeats 3200000 in
theorem oU (w : World) (r s : Int) (v : Value) (es : List Ed) (f l t : Int) (h : ay w.heap.size w v es) (hs : -9223372036854775808 ≤ s ∧ s ≤ 9223372036854775807) (hl : es.length ≤ 100000000) :
 Calls Tryz.prog 73 #[.agg #[.int .i64 r, .int .i64 s, v], .agg #[.int .i64 f, .int .i64 l, .int .i64 t]] w (aS w r s (iV r s es (f, l, t)) (mD r s es (f, l, t))) := by
 obtain ⟨a, cap, rfl, hnc⟩ := h.form; obtain ⟨n, hn⟩ := ag es.length; rw [← hn] at hnc ⊢; rw [← hn] at h; obtain ⟨wa, hwa⟩ := ag (w.alloc (.cells #[.int .i64 r, .int .i64 s, .slice a n cap] 26)); obtain ⟨wb, hwb⟩ := ag (wa.alloc (.cells #[.int .i64 f, .int .i64 l, .int .i64 t] 36)); obtain ⟨w1, hw1⟩ := ag (wb.alloc (.cells #[.int .i64 0, .int .i64 0, .slice none 0 0] 26)); have hsa : wa.heap.size = w.heap.size + 1 := by rw [hwa]; simp
 have hsb : wb.heap.size = w.heap.size + 1 + 1 := by rw [hwb]; simp; omega
 have hs1 : w1.heap.size = w.heap.size + 1 + 1 + 1 := by rw [hw1]; simp; omega
 have hba : Below w.heap.size w wa := by rw [hwa]; exact (Below.refl _ _).alloc (nl _) _
 have hbb : Below wa.heap.size wa wb := by rw [hwb]; exact (Below.refl _ _).alloc (nl _) _
 have hbc : Below wb.heap.size wb w1 := by rw [hw1]; exact (Below.refl _ _).alloc (nl _) _
 have hb1 : Below w.heap.size w w1 := hba.trans ((hbb.trans (hbc.mono hbb.size)).mono hba.size); obtain ⟨g0, g1, g2⟩ := bT hwa; obtain ⟨k0, k1, k2⟩ := bT hwb; rw [hsa] at k0 k1 k2; have hbac := hbb.trans (hbc.mono hbb.size); replace g0 := af g0 hbac (by omega)
 replace g1 := af g1 hbac (by omega)
 replace g2 := af g2 hbac (by omega)
 replace k0 := af k0 hbc (by omega)
 replace k1 := af k1 hbc (by omega)
 replace k2 := af k2 hbc (by omega)
 have hk := heap_alloc_new wb (.cells #[.int .i64 0, .int .i64 0, .slice none 0 0] 26); rw [← hw1, hsb] at hk; have hw : ((w.alloc (.cells #[.int .i64 r, .int .i64 s, .slice a n cap] 26)).alloc (.cells #[.int .i64 f, .int .i64 l, .int .i64 t] 36)).alloc (.cells #[.int .i64 0, .int .i64 0, .slice none 0 0] 26) = w1 := by rw [hw1, hwb, hwa]
 clear hba hbb hbc hbac; have hrd1 := (h.below hb1).mono hb1.size; rw [hn] at hrd1; have hcopy := kH w1 r s _ es hrd1 (by omega)
 rw [← hn] at hcopy hrd1; obtain ⟨B, hB⟩ := ag (aK r s es); obtain ⟨E, hE⟩ := ag (edgeOk r s (f, l, t)); obtain ⟨R, hR⟩ := ag (iV r s es (f, l, t)); obtain ⟨D, hD⟩ := ag (mD r s es (f, l, t)); rw [← hR, ← hD]; have hM : tY r s es (f, l, t) = (B && (E && decide (n < 120))) := by rw [hn, hB, hE]; rfl
 replace hD := ae hD; replace hR := ae hR; replace hn := ae hn; replace hwa := ae hwa; replace hwb := ae hwb; replace hw1 := ae hw1; replace hw := ae hw; replace hk := ae hk; replace hrd1 := ae hrd1; replace h := ae h; replace hsa := ae hsa; replace hsb := ae hsb; replace hs1 := ae hs1; replace hB := ae hB; replace hE := ae hE; replace hM := ae hM; go_enter Tryz.func73, Tryz.ntmps73
 go_wp2_with fail; rw [hw.out]; go_wp2_with fail; refine hcopy.mono ?_; intro e w2 h2; obtain ⟨b, cap2, rfl, hrow, hb2⟩ := h2.form; rw [← hn.out]; have q0 := af g0 hb2 (by have := hs1.out; omega)
 have q1 := af g1 hb2 (by have := hs1.out; omega)
 have q2 := af g2 hb2 (by have := hs1.out; omega)
 have j0 := af k0 hb2 (by have := hs1.out; omega)
 have j1 := af k1 hb2 (by have := hs1.out; omega)
 have j2 := af k2 hb2 (by have := hs1.out; omega)
 clear h2 hcopy g0 g1 g2 k0 k1 k2; obtain ⟨w3, hw3⟩ := ag (w2.alloc (.cells #[.int .i64 r, .int .i64 s, .slice b n cap2] 26)); have hb3 : Below w2.heap.size w2 w3 := by rw [hw3]; exact (Below.refl _ _).alloc (nl _) _
 have hk3 := heap_alloc_new w2 (.cells #[.int .i64 r, .int .i64 s, .slice b n cap2] 26); rw [← hw3] at hk3; have hs12 := hb2.size; have hs3 : w2.heap.size < w3.heap.size := by rw [hw3]; simp
 have p0 := af q0 hb3 (by have := hs1.out; omega)
 have p1 := af q1 hb3 (by have := hs1.out; omega)
 have p2 := af q2 hb3 (by have := hs1.out; omega)
 have i0 := af j0 hb3 (by have := hs1.out; omega)
 have i1 := af j1 hb3 (by have := hs1.out; omega)
 have i2 := af j2 hb3 (by have := hs1.out; omega)
 have hrd3 := ae ((hrd1.out.below (hb2.trans (hb3.mono hb2.size)))); have his := kC w3 r s (.slice a n cap) es (by have := hrd3.out; rw [hn.out] at this; exact hn.out ▸ this.mono (by omega)) hs (by omega)
 rw [← hB.out] at his; have hkr : w3.heap[w.heap.size + 1 + 1]? = some (.cells #[.int .i64 0, .int .i64 0, .slice none 0 0] 26 (0, 0)) := by rw [hb3.block _ (by have := hs1.out; omega), hb2.block _ (by have := hs1.out; omega)]; exact hk.out
 have r0 := p0; have r1 := p1; have r2 := p2; rw [hw3] at r0 r1 r2; replace hw3 := ae hw3; replace hk3 := ae hk3; replace hkr := ae hkr; clear q0 q1 q2 j0 j1 j2; go_wp2_with fail; rw [← hw3.out]; refine his.mono ?_; rintro e w4 ⟨rfl, hb4⟩; clear r0 r1 r2 his; have z0 := af p0 hb4 (by have := hs1.out; omega)
 have z1 := af p1 hb4 (by have := hs1.out; omega)
 have z2 := af p2 hb4 (by have := hs1.out; omega)
 have z3 := af i0 hb4 (by have := hs1.out; omega)
 have z4 := af i1 hb4 (by have := hs1.out; omega)
 have z5 := af i2 hb4 (by have := hs1.out; omega)
 clear p0 p1 p2 i0 i1 i2; have hs34 := hb4.size; have hrow4 := ae ((hrow.below hb3 (nl _)).below hb4 (Nat.le_of_lt hs3)); have hbz4 := ae (hb1.trans ((hb2.trans ((hb3.mono hs12).trans (hb4.mono (by omega)))).mono hb1.size))
 have hkx4 := ae (show w4.heap[w2.heap.size]? = some (.cells #[.int .i64 r, .int .i64 s, .slice b n cap2] 26 (0, 0)) by rw [hb4.block _ hs3]; exact hk3.out)
 have hky4 := ae (show w4.heap[w.heap.size + 1 + 1]? = some (.cells #[.int .i64 0, .int .i64 0, .slice none 0 0] 26 (0, 0)) by rw [hb4.block _ (by have := hs1.out; omega)]; exact hkr.out)
 have hrd4 := ae (hrd3.out.below (hb4.mono (by omega)))
 have hne : w2.heap.size ≠ w.heap.size + 1 + 1 := by have := hs1.out; omega
 have hne2 : w2.heap.size ≠ w.heap.size := by have := hs1.out; omega
 have hne3 : w2.heap.size ≠ w.heap.size + 1 := by have := hs1.out; omega
 have hne' := hne.symm; have hne2' := hne2.symm; have hne3' := hne3.symm; have hse : ∀ y1 y2 y3 (wq : World), wq.heap.size = ((((wq.setCell ⟨w.heap.size + 1 + 1, 0, none⟩ y1).setCell ⟨w.heap.size + 1 + 1, 1, none⟩ y2).setCell ⟨w.heap.size + 1 + 1, 2, none⟩ y3)).heap.size := by intro y1 y2 y3 wq; simp [World.setCell]
 replace hse := ae hse; have hend : ∀ w5, Below w4.heap.size w4 w5 → R = es → aS w r s R false (.returned (.tuple #[.agg #[.int .i64 r, .int .i64 s, .slice b n cap2], .bool false])) (((w5.setCell ⟨w.heap.size + 1 + 1, 0, none⟩ (.int .i64 r)).setCell ⟨w.heap.size + 1 + 1, 1, none⟩ (.int .i64 s)).setCell ⟨w.heap.size + 1 + 1, 2, none⟩ (.slice b n cap2)) := by
  intro w5 hb5 hRe; have hs := hs1.out; rw [hRe]; refine ⟨b, cap2, by rw [hn.out], ?_, ?_⟩
  · refine aF.wide (aF.keep (hrow4.out.below hb5 (by omega)) (fun k h1 h2 => ?_)) (by omega) (by rw [← hse.out]; have := hb5.size; omega)
    rw [Below.heap_setCell _ _ _ _ (show k ≠ w.heap.size + 1 + 1 by omega), Below.heap_setCell _ _ _ _ (show k ≠ w.heap.size + 1 + 1 by omega), Below.heap_setCell _ _ _ _ (show k ≠ w.heap.size + 1 + 1 by omega)]
  · have hbz := hbz4.out.trans (hb5.mono hbz4.out.size)
    exact ((hbz.setCell (p := ⟨w.heap.size + 1 + 1, 0, none⟩) (by simp; omega) _).setCell (p := ⟨w.heap.size + 1 + 1, 1, none⟩) (by simp; omega) _).setCell (p := ⟨w.heap.size + 1 + 1, 2, none⟩) (by simp; omega) _
 replace hend := ae hend
 cases B with
 | false =>
  obtain ⟨x0, x1, x2⟩ := ah hkx4.out; obtain ⟨y0, y1, y2⟩ := ah hky4.out; have f1 := fun j => frozen_of_row w4 (w.heap.size + 1 + 1) j _ _ hky4.out
  have f2 := fun j => frozen_of_row w4 w2.heap.size j _ _ hkx4.out
  simp at x0 x1 x2 y0 y1 y2
  have hMf : tY r s es (f, l, t) = false := by rw [hM.out]; rfl
  have hRe : R = es := by rw [hR.out]; unfold iV; rw [hMf]; rfl
  have hDe : D = false := by rw [hD.out]; unfold mD; rw [hMf]; rfl
  replace hMf := ae hMf; replace hRe := ae hRe; subst hDe; have hse2 := ae (set3 hky4.out (.int .i64 r) (.int .i64 s) (.slice b n cap2)); go_wp2
  (try simp only [Exit.inBlock, Exit.then])
  refine aO (x := .bool false) rfl rfl rfl hse2.out Tryz.underlying26 aB ?_; exact hend.out _ (Below.refl _ _) hRe.out
 | true =>
  have h120 : n ≤ 120 := by rw [hn.out]; exact IC hB.out.symm
  have hce := BA w4 r s a n cap f l t hs; rw [← hE.out] at hce; go_wp2_with fail; refine hce.mono ?_; rintro e w5 ⟨rfl, hb5⟩; clear hce; replace z0 := af z0 hb5 (by have := hs1.out; omega)
  replace z1 := af z1 hb5 (by have := hs1.out; omega)
  replace z2 := af z2 hb5 (by have := hs1.out; omega)
  replace z3 := af z3 hb5 (by have := hs1.out; omega)
  replace z4 := af z4 hb5 (by have := hs1.out; omega)
  replace z5 := af z5 hb5 (by have := hs1.out; omega)
  have hkx5 := ae (show w5.heap[w2.heap.size]? = some (.cells #[.int .i64 r, .int .i64 s, .slice b n cap2] 26 (0, 0)) by rw [hb5.block _ (by omega)]; exact hkx4.out)
  have hky5 := ae (show w5.heap[w.heap.size + 1 + 1]? = some (.cells #[.int .i64 0, .int .i64 0, .slice none 0 0] 26 (0, 0)) by rw [hb5.block _ (by have := hs1.out; omega)]; exact hky4.out)
  have hs45 := hb5.size; obtain ⟨x0, x1, x2⟩ := ah hkx5.out; obtain ⟨y0, y1, y2⟩ := ah hky5.out; have f1 := fun j => frozen_of_row w5 (w.heap.size + 1 + 1) j _ _ hky5.out
  have f2 := fun j => frozen_of_row w5 w2.heap.size j _ _ hkx5.out
  simp at x0 x1 x2 y0 y1 y2
  cases E with
  | false =>
   have hMf : tY r s es (f, l, t) = false := by rw [hM.out]; rfl
   have hRe : R = es := by rw [hR.out]; unfold iV; rw [hMf]; rfl
   have hDe : D = false := by rw [hD.out]; unfold mD; rw [hMf]; rfl
   replace hMf := ae hMf; replace hRe := ae hRe; subst hDe; have hse2 := ae (set3 hky5.out (.int .i64 r) (.int .i64 s) (.slice b n cap2)); go_wp2
   (try simp only [Exit.inBlock, Exit.then])
   refine aO (x := .bool false) rfl rfl rfl hse2.out Tryz.underlying26 aB ?_; exact hend.out _ hb5 hRe.out
  | true =>
   by_cases hn120 : n < 120
   case neg =>
    have hg120 : (120 : Int) ≤ (n : Int) := by omega
    have hMf : tY r s es (f, l, t) = false := by rw [hM.out]; simp [hn120]
    have hRe : R = es := by rw [hR.out]; unfold iV; rw [hMf]; rfl
    have hDe : D = false := by rw [hD.out]; unfold mD; rw [hMf]; rfl
    replace hMf := ae hMf; replace hRe := ae hRe; subst hDe; have hse2 := ae (set3 hky5.out (.int .i64 r) (.int .i64 s) (.slice b n cap2)); go_wp2
    (try simp only [Exit.inBlock, Exit.then])
    refine aO (x := .bool false) rfl rfl rfl hse2.out Tryz.underlying26 aB ?_; exact hend.out _ hb5 hRe.out
   have hg120 : ¬ (120 : Int) ≤ (n : Int) := by omega
   have hMf : tY r s es (f, l, t) = true := by rw [hM.out]; simp [hn120]
   have hRe : R = dE (f, l, t) es := by rw [hR.out]; unfold iV; rw [hMf]; rfl
   have hDe : D = decide (n < (dE (f, l, t) es).length) := by rw [hD.out]; unfold mD; rw [hMf, hn.out]; rfl
   have hrd5 := hrd4.out.below (hb5.mono (by omega))
   rw [hn.out] at hrd5; have hput := kJ w5 _ es f l t (hrd5.mono (by omega)) hl
   rw [← hn.out] at hput; have hpl := je (f, l, t) es; rw [← hRe] at hput hDe hpl; replace hMf := ae hMf; replace hRe := ae hRe; replace hDe := ae hDe; replace hpl := ae hpl; replace h120 := ae h120; replace hn120 := ae hn120; clear hrd5; go_wp2_with fail; refine hput.mono ?_; intro e w6 h6; obtain ⟨a6, n6, c6, hn6, rfl, hrow6, hb6⟩ := h6.form; clear h6 hput x0 x1 x2 y0 y1 y2 f1 f2; replace z0 := af z0 hb6 (by have := hs1.out; omega)
   replace z1 := af z1 hb6 (by have := hs1.out; omega)
   replace z2 := af z2 hb6 (by have := hs1.out; omega)
   replace z3 := af z3 hb6 (by have := hs1.out; omega)
   replace z4 := af z4 hb6 (by have := hs1.out; omega)
   replace z5 := af z5 hb6 (by have := hs1.out; omega)
   have hkx6 := ae (show w6.heap[w2.heap.size]? = some (.cells #[.int .i64 r, .int .i64 s, .slice b n cap2] 26 (0, 0)) by rw [hb6.block _ (by omega)]; exact hkx5.out)
   have hky6 := ae (show w6.heap[w.heap.size + 1 + 1]? = some (.cells #[.int .i64 0, .int .i64 0, .slice none 0 0] 26 (0, 0)) by rw [hb6.block _ (by have := hs1.out; omega)]; exact hky5.out)
   obtain ⟨x0, x1, x2⟩ := ah hkx6.out; obtain ⟨y0, y1, y2⟩ := ah hky6.out; have f1 := fun j => frozen_of_row w6 (w.heap.size + 1 + 1) j _ _ hky6.out
   have f2 := fun j => frozen_of_row w6 w2.heap.size j _ _ hkx6.out
   simp at x0 x1 x2 y0 y1 y2
   have hns : n6 ≤ 1000000000 := by have := hpl.out; have := hn.out; omega
   obtain ⟨dd, hdd⟩ := ag (decide ((n : Int) < (n6 : Int))); have hdd2 := hdd.symm; replace hdd := ae hdd; replace hn6 := ae hn6; go_wp2; go_region
   all_goals
    go_wp2
    (try simp only [Exit.inBlock, Exit.then])
    have hky7 : (w6.setCell ⟨w2.heap.size, 2, none⟩ (.slice a6 n6 c6)).heap[w.heap.size + 1 + 1]? = some (.cells #[.int .i64 0, .int .i64 0, .slice none 0 0] 26 (0, 0)) := by
     rw [Below.heap_setCell _ _ _ _ hne']; exact hky6.out
    have hset := set3 hky7 (.int .i64 r) (.int .i64 s) (.slice a6 n6 c6); refine aO (x := .bool (decide (n < n6))) (cs := #[.int .i64 r, .int .i64 s, .slice a6 n6 c6]) (g := w.heap.size + 1 + 1) rfl rfl rfl (by exact hset) Tryz.underlying26 aB ?_
    have hs' := hs1.out; have hn6' := hn6.out; have hs56 := hb6.size; subst hn6'; have hbz6 := hbz4.out.trans ((hb5.trans (hb6.mono hs45)).mono hbz4.out.size); refine ⟨a6, c6, by rw [hDe.out], ?_, ?_⟩
    · have hr7 := aF.keep hrow6 (w' := (((((w6.setCell ⟨w2.heap.size, 2, none⟩ (.slice a6 R.length c6)).setCell ⟨w.heap.size + 1 + 1, 0, none⟩ (.int .i64 r)).setCell ⟨w.heap.size + 1 + 1, 1, none⟩ (.int .i64 s)).setCell ⟨w.heap.size + 1 + 1, 2, none⟩ (.slice a6 R.length c6)).drew)) (fun k h1 h2 => by
       show (((((w6.setCell ⟨w2.heap.size, 2, none⟩ (.slice a6 R.length c6)).setCell ⟨w.heap.size + 1 + 1, 0, none⟩ (.int .i64 r)).setCell ⟨w.heap.size + 1 + 1, 1, none⟩ (.int .i64 s)).setCell ⟨w.heap.size + 1 + 1, 2, none⟩ (.slice a6 R.length c6))).heap[k]? = _
       rw [Below.heap_setCell _ _ _ _ (show k ≠ w.heap.size + 1 + 1 by omega), Below.heap_setCell _ _ _ _ (show k ≠ w.heap.size + 1 + 1 by omega), Below.heap_setCell _ _ _ _ (show k ≠ w.heap.size + 1 + 1 by omega), Below.heap_setCell _ _ _ _ (show k ≠ w2.heap.size by omega)])
      exact aF.wide hr7 (by omega) (by simp [World.setCell])
    · exact bf ((((hbz6.setCell (p := ⟨w2.heap.size, 2, none⟩) (by simp; omega) _).setCell (p := ⟨w.heap.size + 1 + 1, 0, none⟩) (by simp; omega) _).setCell (p := ⟨w.heap.size + 1 + 1, 1, none⟩) (by simp; omega) _).setCell (p := ⟨w.heap.size + 1 + 1, 2, none⟩) (by simp; omega) _) 1
theorem rP {r s : Int} {es : List Ed} {i : Nat} (h : cZ r s es i = true) : edgeOk r s (es.getD i e0) = true ∧ (0 < i → bP (es.getD (i - 1) e0) (es.getD i e0) < 0) := by
 unfold cZ at h; simp only [Bool.and_eq_true, Bool.or_eq_true, decide_eq_true_eq] at h; exact ⟨h.1, fun hi => by rcases h.2 with h0 | h1; omega; exact h1⟩
theorem lK {es : List Ed} {i : Nat} (h : i < es.length) : es.getD i e0 = es[i] := by rw [gD, gE h]; rfl
theorem uB {r s : Int} {es : List Ed} : aK r s es = true ↔ (∀ e ∈ es, edgeOk r s e = true) ∧ es.Pairwise (fun a b => bP a b < 0) ∧ 1 ≤ r ∧ r ≤ 3 ∧ 1 ≤ s ∧ s ≤ 40 ∧ es.length ≤ 120 := by
 rw [dN]; constructor
 · rintro ⟨h, hr⟩
   refine ⟨?_, ?_, hr⟩
   · intro e he
     obtain ⟨i, hi, rfl⟩ := List.getElem_of_mem he; have := (rP (h i hi)).1; rw [lK hi] at this; exact this
   · rw [List.pairwise_iff_getElem]
     have key : ∀ d i (hi : i < es.length) (hj : i + d + 1 < es.length), bP es[i] es[i + d + 1] < 0 := by
      intro d
      induction d with
      | zero =>
       intro i hi hj; have := (rP (h (i + 1) (by omega))).2 (by omega)
       rw [Nat.add_sub_cancel, lK hi, lK (by omega)] at this
       exact this
      | succ d ih =>
       intro i hi hj; have h1 := ih i hi (by omega)
       have h2 := (rP (h (i + (d + 1) + 1) hj)).2 (by omega)
       rw [Nat.add_sub_cancel, lK (by omega), lK hj] at h2
       exact kL h1 h2
     intro i j hi hj hij; obtain ⟨d, rfl⟩ : ∃ d, j = i + d + 1 := ⟨j - i - 1, by omega⟩
     exact key d i hi hj
 · rintro ⟨h1, h2, hr⟩
   refine ⟨fun i hi => ?_, hr⟩
   unfold cZ; simp only [Bool.and_eq_true, Bool.or_eq_true, decide_eq_true_eq]; refine ⟨by rw [lK hi]; exact h1 _ (List.getElem_mem hi), ?_⟩
   rcases Nat.eq_zero_or_pos i with h0 | h0
   · exact .inl h0
   · right
     rw [lK (show i - 1 < es.length by omega), lK hi]
     exact (List.pairwise_iff_getElem.1 h2) (i - 1) i (by omega) hi (by omega)
def dY (r : Int) : Int := if 1 ≤ r ∧ r ≤ 3 then r else 0
def fJ (r : Int) : Int := if 1 ≤ r ∧ r ≤ 3 then 1 else 0
def gG (r : Int) : Bool := decide (1 ≤ r ∧ r ≤ 3)
theorem nC (r s : Int) (es : List Ed) (e : Ed) : (iV r s es e).length ≤ es.length + 1 := by
 unfold iV; split
 · exact je _ _
 · omega
def ug (P : Int → Int → List Ed → Prop) (B g : Nat) (a : Option Addr) (len cap : Nat) (w : World) (e : Ending) (w' : World) : Prop :=
 ∃ (r s : Int) (x : Option Addr) (c : Nat) (es : List Ed), P r s es ∧ e = .returned (.agg #[.int .i64 r, .int .i64 s, .slice x es.length c]) ∧ aF 36 3 w' w.heap.size w'.heap.size (.slice x es.length c) es.length (aC es) ∧ w.grownBy w' (some g) ∧ Dr B g a len cap w'
def NT (r s : Int) (es : List Ed) : Prop := 1 ≤ r ∧ r ≤ 3 ∧ 1 ≤ s ∧ s ≤ 5 ∧ aK r s es = true ∧ es.length ≤ 8
theorem Aj {e x : Ed} : ∀ {es : List Ed}, x ∈ dE e es → x = e ∨ x ∈ es := by
 intro es
 induction es with
 | nil => intro h; exact .inl (List.mem_singleton.1 h)
 | cons y ys ih =>
  intro h
  rcases jG e y with c | c | c
  · rw [qL ys (by omega)] at h
    rcases List.mem_cons.1 h with h | h
    · exact .inl h
    · exact .inr h
  · rw [qO ys c] at h
    exact .inr h
  · rw [qG ys (by omega)] at h
    rcases List.mem_cons.1 h with h | h
    · exact .inr (by rw [h]; exact List.mem_cons_self)
    · rcases ih h with h | h
      · exact .inl h
      · exact .inr (List.mem_cons_of_mem _ h)
theorem zO (e : Ed) : ∀ es : List Ed, es.Pairwise (fun a b => bP a b < 0) → (dE e es).Pairwise (fun a b => bP a b < 0) := by
 intro es
 induction es with
 | nil => intro _; exact List.pairwise_singleton _ _
 | cons y ys ih =>
  intro h; have hp := List.pairwise_cons.1 h
  rcases jG e y with c | c | c
  · rw [qL ys (by omega)]
    refine List.pairwise_cons.2 ⟨fun z hz => ?_, h⟩
    rcases List.mem_cons.1 hz with hz | hz
    · rw [hz]; omega
    · exact kL (by omega : bP e y < 0) (hp.1 z hz)
  · rw [qO ys c]; exact h
  · rw [qG ys (by omega)]
    refine List.pairwise_cons.2 ⟨fun z hz => ?_, ih hp.2⟩
    rcases Aj hz with hz | hz
    · rw [hz, lu]; omega
    · exact hp.1 z hz
theorem pY {r s : Int} {es : List Ed} {e : Ed} (h : aK r s es = true) : aK r s (iV r s es e) = true := by
 unfold iV; split
 · rename_i hm
   unfold tY at hm; simp only [Bool.and_eq_true, decide_eq_true_eq] at hm; obtain ⟨h1, h2, h3, h4, h5, h6, h7⟩ := uB.1 h; refine uB.2 ⟨fun x hx => ?_, zO e es h2, h3, h4, h5, h6, by have := je e es; omega⟩
   rcases Aj hx with hx | hx
   · rw [hx]; exact hm.2.1
   · exact h1 x hx
 · exact h
theorem bC {w w' : World} {g k : Nat} (h : w.grownBy w' (some g)) (hk : k < w.heap.size) (hne : g ≠ k) : w'.heap[k]? = w.heap[k]? := h.block k hk (fun e => by cases e; omega)
set_option maxHeartbeats 12800000 in
set_option maxRecDepth 100000 in
theorem IL {B g : Nat} {a : Option Addr} {len cap : Nat} {w : World} (h : Dr B g a len cap w) :
 Calls Tryz.prog 81 #[.pointer (some ⟨g, 0, none⟩)] w (ug NT B g a len cap w) := by
 have hlt := h.lt; obtain ⟨w1, hw1⟩ := ag (w.alloc (.cells #[.int .i64 0, .int .i64 0, .slice none 0 0] 26)); have hd1 := h.alloc (.cells #[.int .i64 0, .int .i64 0, .slice none 0 0] 26); have hk1 := heap_alloc_new w (.cells #[.int .i64 0, .int .i64 0, .slice none 0 0] 26); rw [← hw1] at hd1 hk1; have hs1 : w.heap.size < w1.heap.size := by rw [hw1]; simp
 have hsz1 : Hid (w1.heap.size = w.heap.size + 1) := ae (by rw [hw1]; simp)
 have hg1 : w.grownBy w1 (some g) := by rw [hw1]; exact World.grownBy_alloc w _ (some g)
 have hpick := uS (fun r => 1 ≤ r ∧ r ≤ 3) (hd1.alloc (.cells #[.int .i64 1, .int .i64 2, .int .i64 2, .int .i64 2, .int .i64 3] 3)) w1.heap.size 5 (by omega) (by omega) (by omega) (pI _ w1 [1, 2, 2, 2, 3] _ rfl (by decide))
 have hg := ae (aj hg1 (World.grownBy_alloc w1 (.cells #[.int .i64 1, .int .i64 2, .int .i64 2, .int .i64 2, .int .i64 3] 3) (some g))); have hkR : Hid ((w1.alloc (.cells #[.int .i64 1, .int .i64 2, .int .i64 2, .int .i64 2, .int .i64 3] 3)).heap[w.heap.size]? = some (.cells #[.int .i64 0, .int .i64 0, .slice none 0 0] 26 (0, 0))) := ae (by rw [heap_alloc_old _ _ hs1]; exact hk1)
 have hsa : w1.heap.size < (w1.alloc (.cells #[.int .i64 1, .int .i64 2, .int .i64 2, .int .i64 2, .int .i64 3] 3)).heap.size := by simp
 replace hsa := ae hsa; replace hw1 := ae hw1; replace hk1 := ae hk1; replace hd1 := ae hd1; clear hg1; go_enter Tryz.func81, Tryz.ntmps81
 go_wp2_with fail; simp only [← hsz1.out]; rw [← hw1.out]; refine hpick.mono ?_; rintro e w2 ⟨r, ⟨hr1, hr3⟩, rfl, hg3, hd2⟩; replace hkR := ae ((bC hg3 (by have := hsa.out; omega) (by omega)).trans hkR.out)
 have hs2 : w1.heap.size < w2.heap.size := Nat.lt_of_lt_of_le hsa.out hg3.size; replace hg := ae (aj hg.out hg3); clear hpick hg3 hd1 hsa; have q0 := dG hd2 5 5 rfl (by omega) (by omega)
 replace hd2 := ae hd2; go_wp2_with fail; refine q0.mono ?_; rintro e w3 ⟨s0, ⟨s0a, s0b⟩, rfl, hg4, hd3⟩; replace hkR := ae ((bC hg4 (by omega) (by omega)).trans hkR.out)
 have hs3 : w1.heap.size < w3.heap.size := Nat.lt_of_lt_of_le hs2 hg4.size; replace hg := ae (aj hg.out hg4); clear q0 hg4 hd2; have s1a : 1 ≤ 1 + s0 := by omega
 have s1b : 1 + s0 ≤ 5 := by omega
 obtain ⟨s, hs⟩ := ag (1 + s0); rw [← hs] at s1a s1b; obtain ⟨w4, hw4⟩ := ag (w3.alloc (.cells #[.int .i64 r, .int .i64 s, .slice none 0 0] 26)); have hd4 := hd3.alloc (.cells #[.int .i64 r, .int .i64 s, .slice none 0 0] 26); have hkB := heap_alloc_new w3 (.cells #[.int .i64 r, .int .i64 s, .slice none 0 0] 26); rw [← hw4] at hd4 hkB; have hs4 : w3.heap.size < w4.heap.size := by rw [hw4]; simp
 replace hkR : Hid (w4.heap[w.heap.size]? = some (.cells #[.int .i64 0, .int .i64 0, .slice none 0 0] 26 (0, 0))) := ae (by rw [hw4, heap_alloc_old _ _ (by omega)]; exact hkR.out)
 replace hg : Hid (w.grownBy w4 (some g)) := ae (by rw [hw4]; exact aj hg.out (World.grownBy_alloc w3 _ (some g)))
 have q0 := dG hd4 9 9 rfl (by omega) (by omega)
 replace hd4 := ae hd4; replace hkB := ae hkB; replace hw4 := ae hw4; clear hd3; go_wp2_with fail; rw [← hs, ← hw4.out]; replace hs := ae hs; refine q0.mono ?_; rintro e w5 ⟨n0, ⟨hn0, hn1⟩, rfl, hg5, hd5⟩; obtain ⟨n, rfl⟩ := Int.eq_ofNat_of_zero_le hn0; obtain ⟨Bx, hBx⟩ := ag w3.heap.size; rw [← hBx] at hkB hs3 hs4 ⊢; replace hkR := ae ((bC hg5 (by omega) (by omega)).trans hkR.out)
 replace hkB := ae ((bC hg5 (by omega) (by omega)).trans hkB.out)
 have hs5 : Bx < w5.heap.size := Nat.lt_of_lt_of_le hs4 hg5.size; replace hg := ae (aj hg.out hg5); have hRB : w.heap.size < Bx := by omega
 have hgB : g < Bx := by omega
 replace hd5 := ae hd5; replace hBx := ae hBx; have hn8 : n ≤ 8 := by omega
 clear q0 hg5 hd4 hn0 hn1; have hrow0 : Hid (aF 36 3 w5 (Bx + 1) w5.heap.size (.slice none 0 0) 0 (aC [])) := ae (((bG.nil _ _).row (by omega)).wide (nl _) (nl _))
 have hgr0 : Hid (aK r s [] = true) := ae (uB.2 ⟨by simp, by simp, by omega, by omega, by omega, by omega, by simp⟩)
 go_wp2
 go_loopg [4] n (fun gm i wr => ∃ (x : Option Addr) (m c : Nat) (es : List Ed), i = .int .i64 (gm : Int) ∧ es.length + gm ≤ 8 ∧ Hid (m = es.length) ∧ Hid (aK r s es = true) ∧ Hid (wr.heap[w.heap.size]? = some (.cells #[.int .i64 0, .int .i64 0, .slice none 0 0] 26 (0, 0))) ∧ Hid (wr.heap[Bx]? = some (.cells #[.int .i64 r, .int .i64 s, .slice x m c] 26 (0, 0))) ∧ Hid (aF 36 3 wr (Bx + 1) wr.heap.size (.slice x m c) m (aC es)) ∧ Hid (Dr B g a len cap wr) ∧ Hid (w.grownBy wr (some g)) ∧ Bx < wr.heap.size)
 case atStart => exact ⟨none, 0, 0, [], rfl, by simpa using hn8, ae rfl, hgr0, hkR, hkB, hrow0, hd5, hg, hs5⟩
 case round =>
  clear hrow0 hgr0 hkR hkB hd5 hg hs5 hn8; obtain ⟨x, m, c, es, rfl, hlen, hm, hgr, hkR, hkB, hrow, hd, hg, hsr⟩ := hrel; by_cases hk0 : 0 < gk
  · have hki : (0 : Int) < (gk : Int) := by omega
    obtain ⟨x0, x1, x2⟩ := ah hkB.out; simp at x0 x1 x2
    obtain ⟨wd, hwd⟩ := ag wr.drew; have hsd : wd.heap.size = wr.heap.size := by rw [hwd]; rfl
    have hszd : wr.heap.size ≤ wd.heap.size := by omega
    replace hsd := ae hsd; replace hkR : Hid (wd.heap[w.heap.size]? = some (.cells #[.int .i64 0, .int .i64 0, .slice none 0 0] 26 (0, 0))) := ae (by rw [hwd]; exact hkR.out)
    replace hkB : Hid (wd.heap[Bx]? = some (.cells #[.int .i64 r, .int .i64 s, .slice x m c] 26 (0, 0))) := ae (by rw [hwd]; exact hkB.out)
    replace hrow : Hid (aF 36 3 wd (Bx + 1) wr.heap.size (.slice x m c) m (aC es)) := ae (by rw [hwd]; exact hrow.out)
    replace hd : Hid (Dr B g a len cap wd) := ae (by rw [hwd]; exact hd.out)
    replace hg : Hid (w.grownBy wd (some g)) := ae (by rw [hwd]; exact aj hg.out (grown_drewN wr 1 (some g)))
    replace x0 : wd.cell? ⟨Bx, 0, none⟩ = some (.int .i64 r) := by rw [hwd]; exact x0
    replace x1 : wd.cell? ⟨Bx, 1, none⟩ = some (.int .i64 s) := by rw [hwd]; exact x1
    replace hwd := ae hwd; clear x2; go_wp2; refine bV (fun _ _ d _ _ h => by cases d <;> exact h) (fun Q' hnorm hpan => ?_)
    refine wp_region_held_drew (S := (fun z => z.cell? ⟨Bx, 0, none⟩ = some (.int .i64 r) ∧ z.cell? ⟨Bx, 1, none⟩ = some (.int .i64 s))) (by kernel_rfl) ?_ (fun hHeld => ?_)
    · try dsimp only
      rw [← hwd.out]
      ((repeat' apply And.intro) <;> assumption)
    rw [← hwd.out] at hHeld ⊢; refine tk 0 19 ?_; refine tk 1 20 ?_; refine tk 2 21 ?_; refine tk 4 23 ?_; refine tk 5 24 ?_; refine tk 6 25 ?_; refine tk 9 28 ?_; refine tk 10 29 ?_; refine tk 11 30 ?_; refine wpAnyH_ready (rs := [3, 14]) (by kernel_rfl) (by simp) ?_
    refine AllReadyH.cons rfl (fun K hK => ?_) ?_
    ·
     rw [if_pos (by rfl)]
     go_simp; have hcc := dG hd.out s s.toNat (by omega) (by omega) (by omega)
     refine hcc.mono ?_; rintro e v0 ⟨f, ⟨fa, fb⟩, rfl, hgx, hdx⟩; clear hcc; have hq : ∀ k, k < wd.heap.size → k ≠ g → v0.heap[k]? = wd.heap[k]? := fun k hk hne => bC hgx hk (Ne.symm hne)
     have hsz0 := hgx.size; replace hg := ae (aj hg.out hgx); replace hd := ae hdx; clear hgx hdx; replace hkR := ae ((hq _ (by omega) (by omega)).trans hkR.out)
     replace hkB := ae ((hq _ (by omega) (by omega)).trans hkB.out)
     replace hrow := ae (hrow.out.keep (fun k h1 h2 => hq k (by omega) (by omega)))
     replace x0 : v0.cell? ⟨Bx, 0, none⟩ = some (.int .i64 r) := by simpa using cell_of_heap hkB.out 0
     replace x1 : v0.cell? ⟨Bx, 1, none⟩ = some (.int .i64 s) := by simpa using cell_of_heap hkB.out 1
     clear hq; refine hK.out _ _ ?_ (fun hHeld => ?_)
     · try dsimp only
       ((repeat' apply And.intro) <;> assumption)
     clear hK; try simp only [Act.put, aJ, aH, aI]
     refine wpAnyH_ready (rs := [7, 14]) (by kernel_rfl) (by simp) ?_
     refine AllReadyH.cons rfl (fun K hK => ?_) ?_
     ·
      rw [if_pos (by rfl)]
      go_simp; have hcc := dG hd.out r r.toNat (by omega) (by omega) (by omega)
      refine hcc.mono ?_; rintro e v1 ⟨l0, ⟨l0a, l0b⟩, rfl, hgx, hdx⟩; clear hcc; have hq : ∀ k, k < v0.heap.size → k ≠ g → v1.heap[k]? = v0.heap[k]? := fun k hk hne => bC hgx hk (Ne.symm hne)
      have hsz1 := hgx.size; replace hg := ae (aj hg.out hgx); replace hd := ae hdx; clear hgx hdx; replace hkR := ae ((hq _ (by omega) (by omega)).trans hkR.out)
      replace hkB := ae ((hq _ (by omega) (by omega)).trans hkB.out)
      replace hrow := ae (hrow.out.keep (fun k h1 h2 => hq k (by omega) (by omega)))
      replace x0 : v1.cell? ⟨Bx, 0, none⟩ = some (.int .i64 r) := by simpa using cell_of_heap hkB.out 0
      replace x1 : v1.cell? ⟨Bx, 1, none⟩ = some (.int .i64 s) := by simpa using cell_of_heap hkB.out 1
      clear hq; refine hK.out _ _ ?_ (fun hHeld => ?_)
      · try dsimp only
        ((repeat' apply And.intro) <;> assumption)
      clear hK; try simp only [Act.put, aJ, aH, aI]
      refine tk 8 27 ?_; refine wpAnyH_ready (rs := [12, 14]) (by kernel_rfl) (by simp) ?_
      refine AllReadyH.cons rfl (fun K hK => ?_) ?_
      ·
       rw [if_pos (by rfl)]
       go_simp; have hcc := dG hd.out s s.toNat (by omega) (by omega) (by omega)
       refine hcc.mono ?_; rintro e v2 ⟨t, ⟨ta, tb⟩, rfl, hgx, hdx⟩; clear hcc; have hq : ∀ k, k < v1.heap.size → k ≠ g → v2.heap[k]? = v1.heap[k]? := fun k hk hne => bC hgx hk (Ne.symm hne)
       have hsz2 := hgx.size; replace hg := ae (aj hg.out hgx); replace hd := ae hdx; clear hgx hdx; replace hkR := ae ((hq _ (by omega) (by omega)).trans hkR.out)
       replace hkB := ae ((hq _ (by omega) (by omega)).trans hkB.out)
       replace hrow := ae (hrow.out.keep (fun k h1 h2 => hq k (by omega) (by omega)))
       replace x0 : v2.cell? ⟨Bx, 0, none⟩ = some (.int .i64 r) := by simpa using cell_of_heap hkB.out 0
       replace x1 : v2.cell? ⟨Bx, 1, none⟩ = some (.int .i64 s) := by simpa using cell_of_heap hkB.out 1
       clear hq; refine hK.out _ _ ?_ (fun hHeld => ?_)
       · try dsimp only
         ((repeat' apply And.intro) <;> assumption)
       clear hK; try simp only [Act.put, aJ, aH, aI]
       refine tk 13 32 ?_; refine rd 14 (fun K hK => ?_)
       rw [if_pos (by rfl)]
       go_simp; obtain ⟨v3, hn3⟩ := ag (v2.alloc (.cells #[.int .i64 0, .int .i64 0, .int .i64 0] 36)); have hq : ∀ k, k < v2.heap.size → k ≠ g → v3.heap[k]? = v2.heap[k]? := fun k hk _ => by rw [hn3]; exact heap_alloc_old _ _ hk
       have hltA : v2.heap.size < v3.heap.size := by rw [hn3]; simp
       have hsz3 := Nat.le_of_lt hltA; have hE0 := heap_alloc_new v2 (.cells #[.int .i64 0, .int .i64 0, .int .i64 0] 36); have hdx := hd.out.alloc (.cells #[.int .i64 0, .int .i64 0, .int .i64 0] 36); have hgx := aj hg.out (World.grownBy_alloc v2 (.cells #[.int .i64 0, .int .i64 0, .int .i64 0] 36) (some g)); rw [← hn3] at hE0 hdx hgx ⊢; replace hd := ae hdx; replace hg := ae hgx; replace hn3 := ae hn3
       clear hdx hgx; replace hkR := ae ((hq _ (by omega) (by omega)).trans hkR.out)
       replace hkB := ae ((hq _ (by omega) (by omega)).trans hkB.out)
       replace hrow := ae (hrow.out.keep (fun k h1 h2 => hq k (by omega) (by omega)))
       replace x0 : v3.cell? ⟨Bx, 0, none⟩ = some (.int .i64 r) := by simpa using cell_of_heap hkB.out 0
       replace x1 : v3.cell? ⟨Bx, 1, none⟩ = some (.int .i64 s) := by simpa using cell_of_heap hkB.out 1
       have hE := ae hE0; clear hE0; clear hq; refine hK.out _ _ ?_ (fun hHeld => ?_)
       · try dsimp only
         ((repeat' apply And.intro) <;> assumption)
       clear hK; try simp only [Act.put, aJ, aH, aI]
       refine rd 15 (fun K hK => ?_)
       rw [if_pos (by rfl)]
       have hwr : IntKind.i64.wrap (1 + l0) = 1 + l0 := IntWalk.i64_in _ (by omega)
       try simp only [hwr]
       obtain ⟨z0, z1, z2⟩ := ah hE.out; have fz := fun j => frozen_of_row v3 v2.heap.size j _ _ hE.out
       simp at z0 z1 z2
       obtain ⟨ve, hne⟩ := ag (((v3.setCell ⟨v2.heap.size, 0, none⟩ (.int .i64 f)).setCell ⟨v2.heap.size, 1, none⟩ (.int .i64 (1 + l0))).setCell ⟨v2.heap.size, 2, none⟩ (.int .i64 t)); have hbv : Below v2.heap.size v3 ve := by rw [hne]; exact (((Below.refl _ _).setCell (p := ⟨v2.heap.size, 0, none⟩) (by simp) _).setCell (p := ⟨v2.heap.size, 1, none⟩) (by simp) _).setCell (p := ⟨v2.heap.size, 2, none⟩) (by simp) _
       have hE2 : ve.heap[v2.heap.size]? = some (.cells #[.int .i64 f, .int .i64 (1 + l0), .int .i64 t] 36 (0, 0)) := by rw [hne]; exact set3 hE.out _ _ _
       replace hkR := ae ((hbv.block _ (by omega)).trans hkR.out)
       replace hkB := ae ((hbv.block _ (by omega)).trans hkB.out)
       replace hrow := ae (hrow.out.keep (fun k h1 h2 => hbv.block k (by omega)))
       replace x0 : ve.cell? ⟨Bx, 0, none⟩ = some (.int .i64 r) := by simpa using cell_of_heap hkB.out 0
       replace x1 : ve.cell? ⟨Bx, 1, none⟩ = some (.int .i64 s) := by simpa using cell_of_heap hkB.out 1
       replace hd := ae (hd.out.over hbv (by omega))
       replace hg := ae (grown_below hg.out (hbv.mono (by omega)))
       have hszv : v3.heap.size ≤ ve.heap.size := hbv.size; replace hne := ae hne; replace hE := ae hE2; clear hbv hE2; go_simp; rw [← hne.out]; clear z0 z1 z2 fz; refine hK.out _ _ ?_ (fun hHeld => ?_)
       · try dsimp only
         ((repeat' apply And.intro) <;> assumption)
       clear hK; try simp only [Act.put, aJ, aH, aI]
       refine wpAnyH_done (by kernel_rfl) ?_ _
       refine hnorm _ _ ?_; clear hnorm hpan; repeat clear hHeld
       try simp only [Exit.then]
       have x2 : ve.cell? ⟨Bx, 2, none⟩ = some (.slice x m c) := by simpa using cell_of_heap hkB.out 2
       have y0 : ve.cell? ⟨v2.heap.size, 0, none⟩ = some (.int .i64 f) := by simpa using cell_of_heap hE.out 0
       have y1 : ve.cell? ⟨v2.heap.size, 1, none⟩ = some (.int .i64 (1 + l0)) := by simpa using cell_of_heap hE.out 1
       have y2 : ve.cell? ⟨v2.heap.size, 2, none⟩ = some (.int .i64 t) := by simpa using cell_of_heap hE.out 2
       have hrd : ay ve.heap.size ve (.slice x m c) es := by
        have := (hrow.out.wide (nl _) (show wr.heap.size ≤ ve.heap.size by omega)).read
        rw [hm.out] at this ⊢; exact this
       have hcall := oU ve r s (.slice x m c) es f (1 + l0) t hrd (by omega) (by omega)
       have hlen2 := nC r s es (f, 1 + l0, t); have hgr2 := ae (pY (e := (f, 1 + l0, t)) hgr.out); obtain ⟨R, hR⟩ := ag (iV r s es (f, 1 + l0, t)); rw [← hR] at hcall hlen2 hgr2; obtain ⟨bb, hbb⟩ := ag (mD r s es (f, 1 + l0, t)); rw [← hbb] at hcall; replace hR := ae hR; replace hbb := ae hbb; clear hrd; go_wp2_with fail; refine hcall.mono ?_; rintro e w6 ⟨a6, c6, rfl, hrow6, hb6⟩; clear hcall x0 x1 x2 y0 y1 y2
       have hs6 := hb6.size; replace hkR := ae ((hb6.block _ (by omega)).trans hkR.out)
       replace hkB := ae ((hb6.block _ (by omega)).trans hkB.out)
       replace hd := ae (hd.out.over hb6 (by omega))
       replace hg := ae (grown_below hg.out (hb6.mono (by omega)))
       obtain ⟨z0, z1, z2⟩ := ah hkB.out; have fz := fun j => frozen_of_row w6 Bx j _ _ hkB.out
       simp at z0 z1 z2
       obtain ⟨n6, hn6⟩ := ag R.length; rw [← hn6] at hrow6 ⊢; obtain ⟨w7, hw7⟩ := ag (((w6.setCell ⟨Bx, 0, none⟩ (.int .i64 r)).setCell ⟨Bx, 1, none⟩ (.int .i64 s)).setCell ⟨Bx, 2, none⟩ (.slice a6 n6 c6)); have hbv : Below Bx w6 w7 := by rw [hw7]; exact (((Below.refl _ _).setCell (p := ⟨Bx, 0, none⟩) (by simp) _).setCell (p := ⟨Bx, 1, none⟩) (by simp) _).setCell (p := ⟨Bx, 2, none⟩) (by simp) _
       have hkB7 : Hid (w7.heap[Bx]? = some (.cells #[.int .i64 r, .int .i64 s, .slice a6 n6 c6] 26 (0, 0))) := ae (by rw [hw7]; exact set3 hkB.out _ _ _)
       have hrow7 : Hid (aF 36 3 w7 (Bx + 1) w7.heap.size (.slice a6 n6 c6) n6 (aC R)) := ae ((hrow6.keep (fun k h1 h2 => by
        rw [hw7, Below.heap_setCell _ _ _ _ (show k ≠ Bx by omega), Below.heap_setCell _ _ _ _ (show k ≠ Bx by omega), Below.heap_setCell _ _ _ _ (show k ≠ Bx by omega)])).wide (by omega) hbv.size)
       have hkR7 := ae ((hbv.block _ (by omega)).trans hkR.out)
       have hd7 := ae (hd.out.over hbv (by omega))
       have hg7 := ae (grown_below hg.out (hbv.mono (by omega)))
       have hs7 : Bx < w7.heap.size := by have := hbv.size; omega
       replace hw7 := ae hw7; replace hn6 := ae hn6; clear hbv hrow6 hkB hkR hd hg hrow; go_wp2; try rw [← hw7.out]
       go_roundg (gk - 1)
       case rel => exact ⟨a6, n6, c6, R, by go_num, by omega, hn6, hgr2, hkR7, hkB7, hrow7, hd7, hg7, hs7⟩
       case measure => omega
      refine AllReadyH.cons rfl (fun K hK => ?_) AllReadyH.nil
      rw [if_pos (by rfl)]
      go_simp; obtain ⟨v2, hn2⟩ := ag (v1.alloc (.cells #[.int .i64 0, .int .i64 0, .int .i64 0] 36)); have hq : ∀ k, k < v1.heap.size → k ≠ g → v2.heap[k]? = v1.heap[k]? := fun k hk _ => by rw [hn2]; exact heap_alloc_old _ _ hk
      have hltA : v1.heap.size < v2.heap.size := by rw [hn2]; simp
      have hsz2 := Nat.le_of_lt hltA; have hE0 := heap_alloc_new v1 (.cells #[.int .i64 0, .int .i64 0, .int .i64 0] 36); have hdx := hd.out.alloc (.cells #[.int .i64 0, .int .i64 0, .int .i64 0] 36); have hgx := aj hg.out (World.grownBy_alloc v1 (.cells #[.int .i64 0, .int .i64 0, .int .i64 0] 36) (some g)); rw [← hn2] at hE0 hdx hgx ⊢; replace hd := ae hdx; replace hg := ae hgx; replace hn2 := ae hn2
      clear hdx hgx; replace hkR := ae ((hq _ (by omega) (by omega)).trans hkR.out)
      replace hkB := ae ((hq _ (by omega) (by omega)).trans hkB.out)
      replace hrow := ae (hrow.out.keep (fun k h1 h2 => hq k (by omega) (by omega)))
      replace x0 : v2.cell? ⟨Bx, 0, none⟩ = some (.int .i64 r) := by simpa using cell_of_heap hkB.out 0
      replace x1 : v2.cell? ⟨Bx, 1, none⟩ = some (.int .i64 s) := by simpa using cell_of_heap hkB.out 1
      have hE := ae hE0; clear hE0; clear hq; refine hK.out _ _ ?_ (fun hHeld => ?_)
      · try dsimp only
        ((repeat' apply And.intro) <;> assumption)
      clear hK; try simp only [Act.put, aJ, aH, aI]
      refine rd 12 (fun K hK => ?_)
      rw [if_pos (by rfl)]
      go_simp; have hcc := dG hd.out s s.toNat (by omega) (by omega) (by omega)
      refine hcc.mono ?_; rintro e v3 ⟨t, ⟨ta, tb⟩, rfl, hgx, hdx⟩; clear hcc; have hq : ∀ k, k < v2.heap.size → k ≠ g → v3.heap[k]? = v2.heap[k]? := fun k hk hne => bC hgx hk (Ne.symm hne)
      have hsz3 := hgx.size; replace hg := ae (aj hg.out hgx); replace hd := ae hdx; clear hgx hdx; replace hkR := ae ((hq _ (by omega) (by omega)).trans hkR.out)
      replace hkB := ae ((hq _ (by omega) (by omega)).trans hkB.out)
      replace hrow := ae (hrow.out.keep (fun k h1 h2 => hq k (by omega) (by omega)))
      replace x0 : v3.cell? ⟨Bx, 0, none⟩ = some (.int .i64 r) := by simpa using cell_of_heap hkB.out 0
      replace x1 : v3.cell? ⟨Bx, 1, none⟩ = some (.int .i64 s) := by simpa using cell_of_heap hkB.out 1
      replace hE := ae ((hq _ (by omega) (by omega)).trans hE.out)
      clear hq; refine hK.out _ _ ?_ (fun hHeld => ?_)
      · try dsimp only
        ((repeat' apply And.intro) <;> assumption)
      clear hK; try simp only [Act.put, aJ, aH, aI]
      refine tk 13 32 ?_; refine rd 15 (fun K hK => ?_)
      rw [if_pos (by rfl)]
      have hwr : IntKind.i64.wrap (1 + l0) = 1 + l0 := IntWalk.i64_in _ (by omega)
      try simp only [hwr]
      obtain ⟨z0, z1, z2⟩ := ah hE.out; have fz := fun j => frozen_of_row v3 v1.heap.size j _ _ hE.out
      simp at z0 z1 z2
      obtain ⟨ve, hne⟩ := ag (((v3.setCell ⟨v1.heap.size, 0, none⟩ (.int .i64 f)).setCell ⟨v1.heap.size, 1, none⟩ (.int .i64 (1 + l0))).setCell ⟨v1.heap.size, 2, none⟩ (.int .i64 t)); have hbv : Below v1.heap.size v3 ve := by rw [hne]; exact (((Below.refl _ _).setCell (p := ⟨v1.heap.size, 0, none⟩) (by simp) _).setCell (p := ⟨v1.heap.size, 1, none⟩) (by simp) _).setCell (p := ⟨v1.heap.size, 2, none⟩) (by simp) _
      have hE2 : ve.heap[v1.heap.size]? = some (.cells #[.int .i64 f, .int .i64 (1 + l0), .int .i64 t] 36 (0, 0)) := by rw [hne]; exact set3 hE.out _ _ _
      replace hkR := ae ((hbv.block _ (by omega)).trans hkR.out)
      replace hkB := ae ((hbv.block _ (by omega)).trans hkB.out)
      replace hrow := ae (hrow.out.keep (fun k h1 h2 => hbv.block k (by omega)))
      replace x0 : ve.cell? ⟨Bx, 0, none⟩ = some (.int .i64 r) := by simpa using cell_of_heap hkB.out 0
      replace x1 : ve.cell? ⟨Bx, 1, none⟩ = some (.int .i64 s) := by simpa using cell_of_heap hkB.out 1
      replace hd := ae (hd.out.over hbv (by omega))
      replace hg := ae (grown_below hg.out (hbv.mono (by omega)))
      have hszv : v3.heap.size ≤ ve.heap.size := hbv.size; replace hne := ae hne; replace hE := ae hE2; clear hbv hE2; go_simp; rw [← hne.out]; clear z0 z1 z2 fz; refine hK.out _ _ ?_ (fun hHeld => ?_)
      · try dsimp only
        ((repeat' apply And.intro) <;> assumption)
      clear hK; try simp only [Act.put, aJ, aH, aI]
      refine wpAnyH_done (by kernel_rfl) ?_ _
      refine hnorm _ _ ?_; clear hnorm hpan; repeat clear hHeld
      try simp only [Exit.then]
      have x2 : ve.cell? ⟨Bx, 2, none⟩ = some (.slice x m c) := by simpa using cell_of_heap hkB.out 2
      have y0 : ve.cell? ⟨v1.heap.size, 0, none⟩ = some (.int .i64 f) := by simpa using cell_of_heap hE.out 0
      have y1 : ve.cell? ⟨v1.heap.size, 1, none⟩ = some (.int .i64 (1 + l0)) := by simpa using cell_of_heap hE.out 1
      have y2 : ve.cell? ⟨v1.heap.size, 2, none⟩ = some (.int .i64 t) := by simpa using cell_of_heap hE.out 2
      have hrd : ay ve.heap.size ve (.slice x m c) es := by
       have := (hrow.out.wide (nl _) (show wr.heap.size ≤ ve.heap.size by omega)).read
       rw [hm.out] at this ⊢; exact this
      have hcall := oU ve r s (.slice x m c) es f (1 + l0) t hrd (by omega) (by omega)
      have hlen2 := nC r s es (f, 1 + l0, t); have hgr2 := ae (pY (e := (f, 1 + l0, t)) hgr.out); obtain ⟨R, hR⟩ := ag (iV r s es (f, 1 + l0, t)); rw [← hR] at hcall hlen2 hgr2; obtain ⟨bb, hbb⟩ := ag (mD r s es (f, 1 + l0, t)); rw [← hbb] at hcall; replace hR := ae hR; replace hbb := ae hbb; clear hrd; go_wp2_with fail; refine hcall.mono ?_; rintro e w6 ⟨a6, c6, rfl, hrow6, hb6⟩; clear hcall x0 x1 x2 y0 y1 y2
      have hs6 := hb6.size; replace hkR := ae ((hb6.block _ (by omega)).trans hkR.out)
      replace hkB := ae ((hb6.block _ (by omega)).trans hkB.out)
      replace hd := ae (hd.out.over hb6 (by omega))
      replace hg := ae (grown_below hg.out (hb6.mono (by omega)))
      obtain ⟨z0, z1, z2⟩ := ah hkB.out; have fz := fun j => frozen_of_row w6 Bx j _ _ hkB.out
      simp at z0 z1 z2
      obtain ⟨n6, hn6⟩ := ag R.length; rw [← hn6] at hrow6 ⊢; obtain ⟨w7, hw7⟩ := ag (((w6.setCell ⟨Bx, 0, none⟩ (.int .i64 r)).setCell ⟨Bx, 1, none⟩ (.int .i64 s)).setCell ⟨Bx, 2, none⟩ (.slice a6 n6 c6)); have hbv : Below Bx w6 w7 := by rw [hw7]; exact (((Below.refl _ _).setCell (p := ⟨Bx, 0, none⟩) (by simp) _).setCell (p := ⟨Bx, 1, none⟩) (by simp) _).setCell (p := ⟨Bx, 2, none⟩) (by simp) _
      have hkB7 : Hid (w7.heap[Bx]? = some (.cells #[.int .i64 r, .int .i64 s, .slice a6 n6 c6] 26 (0, 0))) := ae (by rw [hw7]; exact set3 hkB.out _ _ _)
      have hrow7 : Hid (aF 36 3 w7 (Bx + 1) w7.heap.size (.slice a6 n6 c6) n6 (aC R)) := ae ((hrow6.keep (fun k h1 h2 => by
       rw [hw7, Below.heap_setCell _ _ _ _ (show k ≠ Bx by omega), Below.heap_setCell _ _ _ _ (show k ≠ Bx by omega), Below.heap_setCell _ _ _ _ (show k ≠ Bx by omega)])).wide (by omega) hbv.size)
      have hkR7 := ae ((hbv.block _ (by omega)).trans hkR.out)
      have hd7 := ae (hd.out.over hbv (by omega))
      have hg7 := ae (grown_below hg.out (hbv.mono (by omega)))
      have hs7 : Bx < w7.heap.size := by have := hbv.size; omega
      replace hw7 := ae hw7; replace hn6 := ae hn6; clear hbv hrow6 hkB hkR hd hg hrow; go_wp2; try rw [← hw7.out]
      go_roundg (gk - 1)
      case rel => exact ⟨a6, n6, c6, R, by go_num, by omega, hn6, hgr2, hkR7, hkB7, hrow7, hd7, hg7, hs7⟩
      case measure => omega
     refine AllReadyH.cons rfl (fun K hK => ?_) AllReadyH.nil
     rw [if_pos (by rfl)]
     go_simp; obtain ⟨v1, hn1⟩ := ag (v0.alloc (.cells #[.int .i64 0, .int .i64 0, .int .i64 0] 36)); have hq : ∀ k, k < v0.heap.size → k ≠ g → v1.heap[k]? = v0.heap[k]? := fun k hk _ => by rw [hn1]; exact heap_alloc_old _ _ hk
     have hltA : v0.heap.size < v1.heap.size := by rw [hn1]; simp
     have hsz1 := Nat.le_of_lt hltA; have hE0 := heap_alloc_new v0 (.cells #[.int .i64 0, .int .i64 0, .int .i64 0] 36); have hdx := hd.out.alloc (.cells #[.int .i64 0, .int .i64 0, .int .i64 0] 36); have hgx := aj hg.out (World.grownBy_alloc v0 (.cells #[.int .i64 0, .int .i64 0, .int .i64 0] 36) (some g)); rw [← hn1] at hE0 hdx hgx ⊢; replace hd := ae hdx; replace hg := ae hgx; replace hn1 := ae hn1
     clear hdx hgx; replace hkR := ae ((hq _ (by omega) (by omega)).trans hkR.out)
     replace hkB := ae ((hq _ (by omega) (by omega)).trans hkB.out)
     replace hrow := ae (hrow.out.keep (fun k h1 h2 => hq k (by omega) (by omega)))
     replace x0 : v1.cell? ⟨Bx, 0, none⟩ = some (.int .i64 r) := by simpa using cell_of_heap hkB.out 0
     replace x1 : v1.cell? ⟨Bx, 1, none⟩ = some (.int .i64 s) := by simpa using cell_of_heap hkB.out 1
     have hE := ae hE0; clear hE0; clear hq; refine hK.out _ _ ?_ (fun hHeld => ?_)
     · try dsimp only
       ((repeat' apply And.intro) <;> assumption)
     clear hK; try simp only [Act.put, aJ, aH, aI]
     refine rd 7 (fun K hK => ?_)
     rw [if_pos (by rfl)]
     go_simp; have hcc := dG hd.out r r.toNat (by omega) (by omega) (by omega)
     refine hcc.mono ?_; rintro e v2 ⟨l0, ⟨l0a, l0b⟩, rfl, hgx, hdx⟩; clear hcc; have hq : ∀ k, k < v1.heap.size → k ≠ g → v2.heap[k]? = v1.heap[k]? := fun k hk hne => bC hgx hk (Ne.symm hne)
     have hsz2 := hgx.size; replace hg := ae (aj hg.out hgx); replace hd := ae hdx; clear hgx hdx; replace hkR := ae ((hq _ (by omega) (by omega)).trans hkR.out)
     replace hkB := ae ((hq _ (by omega) (by omega)).trans hkB.out)
     replace hrow := ae (hrow.out.keep (fun k h1 h2 => hq k (by omega) (by omega)))
     replace x0 : v2.cell? ⟨Bx, 0, none⟩ = some (.int .i64 r) := by simpa using cell_of_heap hkB.out 0
     replace x1 : v2.cell? ⟨Bx, 1, none⟩ = some (.int .i64 s) := by simpa using cell_of_heap hkB.out 1
     replace hE := ae ((hq _ (by omega) (by omega)).trans hE.out)
     clear hq; refine hK.out _ _ ?_ (fun hHeld => ?_)
     · try dsimp only
       ((repeat' apply And.intro) <;> assumption)
     clear hK; try simp only [Act.put, aJ, aH, aI]
     refine tk 8 27 ?_; refine rd 12 (fun K hK => ?_)
     rw [if_pos (by rfl)]
     go_simp; have hcc := dG hd.out s s.toNat (by omega) (by omega) (by omega)
     refine hcc.mono ?_; rintro e v3 ⟨t, ⟨ta, tb⟩, rfl, hgx, hdx⟩; clear hcc; have hq : ∀ k, k < v2.heap.size → k ≠ g → v3.heap[k]? = v2.heap[k]? := fun k hk hne => bC hgx hk (Ne.symm hne)
     have hsz3 := hgx.size; replace hg := ae (aj hg.out hgx); replace hd := ae hdx; clear hgx hdx; replace hkR := ae ((hq _ (by omega) (by omega)).trans hkR.out)
     replace hkB := ae ((hq _ (by omega) (by omega)).trans hkB.out)
     replace hrow := ae (hrow.out.keep (fun k h1 h2 => hq k (by omega) (by omega)))
     replace x0 : v3.cell? ⟨Bx, 0, none⟩ = some (.int .i64 r) := by simpa using cell_of_heap hkB.out 0
     replace x1 : v3.cell? ⟨Bx, 1, none⟩ = some (.int .i64 s) := by simpa using cell_of_heap hkB.out 1
     replace hE := ae ((hq _ (by omega) (by omega)).trans hE.out)
     clear hq; refine hK.out _ _ ?_ (fun hHeld => ?_)
     · try dsimp only
       ((repeat' apply And.intro) <;> assumption)
     clear hK; try simp only [Act.put, aJ, aH, aI]
     refine tk 13 32 ?_; refine rd 15 (fun K hK => ?_)
     rw [if_pos (by rfl)]
     have hwr : IntKind.i64.wrap (1 + l0) = 1 + l0 := IntWalk.i64_in _ (by omega)
     try simp only [hwr]
     obtain ⟨z0, z1, z2⟩ := ah hE.out; have fz := fun j => frozen_of_row v3 v0.heap.size j _ _ hE.out
     simp at z0 z1 z2
     obtain ⟨ve, hne⟩ := ag (((v3.setCell ⟨v0.heap.size, 0, none⟩ (.int .i64 f)).setCell ⟨v0.heap.size, 1, none⟩ (.int .i64 (1 + l0))).setCell ⟨v0.heap.size, 2, none⟩ (.int .i64 t)); have hbv : Below v0.heap.size v3 ve := by rw [hne]; exact (((Below.refl _ _).setCell (p := ⟨v0.heap.size, 0, none⟩) (by simp) _).setCell (p := ⟨v0.heap.size, 1, none⟩) (by simp) _).setCell (p := ⟨v0.heap.size, 2, none⟩) (by simp) _
     have hE2 : ve.heap[v0.heap.size]? = some (.cells #[.int .i64 f, .int .i64 (1 + l0), .int .i64 t] 36 (0, 0)) := by rw [hne]; exact set3 hE.out _ _ _
     replace hkR := ae ((hbv.block _ (by omega)).trans hkR.out)
     replace hkB := ae ((hbv.block _ (by omega)).trans hkB.out)
     replace hrow := ae (hrow.out.keep (fun k h1 h2 => hbv.block k (by omega)))
     replace x0 : ve.cell? ⟨Bx, 0, none⟩ = some (.int .i64 r) := by simpa using cell_of_heap hkB.out 0
     replace x1 : ve.cell? ⟨Bx, 1, none⟩ = some (.int .i64 s) := by simpa using cell_of_heap hkB.out 1
     replace hd := ae (hd.out.over hbv (by omega))
     replace hg := ae (grown_below hg.out (hbv.mono (by omega)))
     have hszv : v3.heap.size ≤ ve.heap.size := hbv.size; replace hne := ae hne; replace hE := ae hE2; clear hbv hE2; go_simp; rw [← hne.out]; clear z0 z1 z2 fz; refine hK.out _ _ ?_ (fun hHeld => ?_)
     · try dsimp only
       ((repeat' apply And.intro) <;> assumption)
     clear hK; try simp only [Act.put, aJ, aH, aI]
     refine wpAnyH_done (by kernel_rfl) ?_ _
     refine hnorm _ _ ?_; clear hnorm hpan; repeat clear hHeld
     try simp only [Exit.then]
     have x2 : ve.cell? ⟨Bx, 2, none⟩ = some (.slice x m c) := by simpa using cell_of_heap hkB.out 2
     have y0 : ve.cell? ⟨v0.heap.size, 0, none⟩ = some (.int .i64 f) := by simpa using cell_of_heap hE.out 0
     have y1 : ve.cell? ⟨v0.heap.size, 1, none⟩ = some (.int .i64 (1 + l0)) := by simpa using cell_of_heap hE.out 1
     have y2 : ve.cell? ⟨v0.heap.size, 2, none⟩ = some (.int .i64 t) := by simpa using cell_of_heap hE.out 2
     have hrd : ay ve.heap.size ve (.slice x m c) es := by
      have := (hrow.out.wide (nl _) (show wr.heap.size ≤ ve.heap.size by omega)).read
      rw [hm.out] at this ⊢; exact this
     have hcall := oU ve r s (.slice x m c) es f (1 + l0) t hrd (by omega) (by omega)
     have hlen2 := nC r s es (f, 1 + l0, t); have hgr2 := ae (pY (e := (f, 1 + l0, t)) hgr.out); obtain ⟨R, hR⟩ := ag (iV r s es (f, 1 + l0, t)); rw [← hR] at hcall hlen2 hgr2; obtain ⟨bb, hbb⟩ := ag (mD r s es (f, 1 + l0, t)); rw [← hbb] at hcall; replace hR := ae hR; replace hbb := ae hbb; clear hrd; go_wp2_with fail; refine hcall.mono ?_; rintro e w6 ⟨a6, c6, rfl, hrow6, hb6⟩; clear hcall x0 x1 x2 y0 y1 y2
     have hs6 := hb6.size; replace hkR := ae ((hb6.block _ (by omega)).trans hkR.out)
     replace hkB := ae ((hb6.block _ (by omega)).trans hkB.out)
     replace hd := ae (hd.out.over hb6 (by omega))
     replace hg := ae (grown_below hg.out (hb6.mono (by omega)))
     obtain ⟨z0, z1, z2⟩ := ah hkB.out; have fz := fun j => frozen_of_row w6 Bx j _ _ hkB.out
     simp at z0 z1 z2
     obtain ⟨n6, hn6⟩ := ag R.length; rw [← hn6] at hrow6 ⊢; obtain ⟨w7, hw7⟩ := ag (((w6.setCell ⟨Bx, 0, none⟩ (.int .i64 r)).setCell ⟨Bx, 1, none⟩ (.int .i64 s)).setCell ⟨Bx, 2, none⟩ (.slice a6 n6 c6)); have hbv : Below Bx w6 w7 := by rw [hw7]; exact (((Below.refl _ _).setCell (p := ⟨Bx, 0, none⟩) (by simp) _).setCell (p := ⟨Bx, 1, none⟩) (by simp) _).setCell (p := ⟨Bx, 2, none⟩) (by simp) _
     have hkB7 : Hid (w7.heap[Bx]? = some (.cells #[.int .i64 r, .int .i64 s, .slice a6 n6 c6] 26 (0, 0))) := ae (by rw [hw7]; exact set3 hkB.out _ _ _)
     have hrow7 : Hid (aF 36 3 w7 (Bx + 1) w7.heap.size (.slice a6 n6 c6) n6 (aC R)) := ae ((hrow6.keep (fun k h1 h2 => by
      rw [hw7, Below.heap_setCell _ _ _ _ (show k ≠ Bx by omega), Below.heap_setCell _ _ _ _ (show k ≠ Bx by omega), Below.heap_setCell _ _ _ _ (show k ≠ Bx by omega)])).wide (by omega) hbv.size)
     have hkR7 := ae ((hbv.block _ (by omega)).trans hkR.out)
     have hd7 := ae (hd.out.over hbv (by omega))
     have hg7 := ae (grown_below hg.out (hbv.mono (by omega)))
     have hs7 : Bx < w7.heap.size := by have := hbv.size; omega
     replace hw7 := ae hw7; replace hn6 := ae hn6; clear hbv hrow6 hkB hkR hd hg hrow; go_wp2; try rw [← hw7.out]
     go_roundg (gk - 1)
     case rel => exact ⟨a6, n6, c6, R, by go_num, by omega, hn6, hgr2, hkR7, hkB7, hrow7, hd7, hg7, hs7⟩
     case measure => omega
    refine AllReadyH.cons rfl (fun K hK => ?_) AllReadyH.nil
    rw [if_pos (by rfl)]
    go_simp; obtain ⟨v0, hn0⟩ := ag (wd.alloc (.cells #[.int .i64 0, .int .i64 0, .int .i64 0] 36)); have hq : ∀ k, k < wd.heap.size → k ≠ g → v0.heap[k]? = wd.heap[k]? := fun k hk _ => by rw [hn0]; exact heap_alloc_old _ _ hk
    have hltA : wd.heap.size < v0.heap.size := by rw [hn0]; simp
    have hsz0 := Nat.le_of_lt hltA; have hE0 := heap_alloc_new wd (.cells #[.int .i64 0, .int .i64 0, .int .i64 0] 36); have hdx := hd.out.alloc (.cells #[.int .i64 0, .int .i64 0, .int .i64 0] 36); have hgx := aj hg.out (World.grownBy_alloc wd (.cells #[.int .i64 0, .int .i64 0, .int .i64 0] 36) (some g)); rw [← hn0] at hE0 hdx hgx ⊢; replace hd := ae hdx; replace hg := ae hgx; replace hn0 := ae hn0
    clear hdx hgx; replace hkR := ae ((hq _ (by omega) (by omega)).trans hkR.out)
    replace hkB := ae ((hq _ (by omega) (by omega)).trans hkB.out)
    replace hrow := ae (hrow.out.keep (fun k h1 h2 => hq k (by omega) (by omega)))
    replace x0 : v0.cell? ⟨Bx, 0, none⟩ = some (.int .i64 r) := by simpa using cell_of_heap hkB.out 0
    replace x1 : v0.cell? ⟨Bx, 1, none⟩ = some (.int .i64 s) := by simpa using cell_of_heap hkB.out 1
    have hE := ae hE0; clear hE0; clear hq; refine hK.out _ _ ?_ (fun hHeld => ?_)
    · try dsimp only
      ((repeat' apply And.intro) <;> assumption)
    clear hK; try simp only [Act.put, aJ, aH, aI]
    refine rd 3 (fun K hK => ?_)
    rw [if_pos (by rfl)]
    go_simp; have hcc := dG hd.out s s.toNat (by omega) (by omega) (by omega)
    refine hcc.mono ?_; rintro e v1 ⟨f, ⟨fa, fb⟩, rfl, hgx, hdx⟩; clear hcc; have hq : ∀ k, k < v0.heap.size → k ≠ g → v1.heap[k]? = v0.heap[k]? := fun k hk hne => bC hgx hk (Ne.symm hne)
    have hsz1 := hgx.size; replace hg := ae (aj hg.out hgx); replace hd := ae hdx; clear hgx hdx; replace hkR := ae ((hq _ (by omega) (by omega)).trans hkR.out)
    replace hkB := ae ((hq _ (by omega) (by omega)).trans hkB.out)
    replace hrow := ae (hrow.out.keep (fun k h1 h2 => hq k (by omega) (by omega)))
    replace x0 : v1.cell? ⟨Bx, 0, none⟩ = some (.int .i64 r) := by simpa using cell_of_heap hkB.out 0
    replace x1 : v1.cell? ⟨Bx, 1, none⟩ = some (.int .i64 s) := by simpa using cell_of_heap hkB.out 1
    replace hE := ae ((hq _ (by omega) (by omega)).trans hE.out)
    clear hq; refine hK.out _ _ ?_ (fun hHeld => ?_)
    · try dsimp only
      ((repeat' apply And.intro) <;> assumption)
    clear hK; try simp only [Act.put, aJ, aH, aI]
    refine rd 7 (fun K hK => ?_)
    rw [if_pos (by rfl)]
    go_simp; have hcc := dG hd.out r r.toNat (by omega) (by omega) (by omega)
    refine hcc.mono ?_; rintro e v2 ⟨l0, ⟨l0a, l0b⟩, rfl, hgx, hdx⟩; clear hcc; have hq : ∀ k, k < v1.heap.size → k ≠ g → v2.heap[k]? = v1.heap[k]? := fun k hk hne => bC hgx hk (Ne.symm hne)
    have hsz2 := hgx.size; replace hg := ae (aj hg.out hgx); replace hd := ae hdx; clear hgx hdx; replace hkR := ae ((hq _ (by omega) (by omega)).trans hkR.out)
    replace hkB := ae ((hq _ (by omega) (by omega)).trans hkB.out)
    replace hrow := ae (hrow.out.keep (fun k h1 h2 => hq k (by omega) (by omega)))
    replace x0 : v2.cell? ⟨Bx, 0, none⟩ = some (.int .i64 r) := by simpa using cell_of_heap hkB.out 0
    replace x1 : v2.cell? ⟨Bx, 1, none⟩ = some (.int .i64 s) := by simpa using cell_of_heap hkB.out 1
    replace hE := ae ((hq _ (by omega) (by omega)).trans hE.out)
    clear hq; refine hK.out _ _ ?_ (fun hHeld => ?_)
    · try dsimp only
      ((repeat' apply And.intro) <;> assumption)
    clear hK; try simp only [Act.put, aJ, aH, aI]
    refine tk 8 27 ?_; refine rd 12 (fun K hK => ?_)
    rw [if_pos (by rfl)]
    go_simp; have hcc := dG hd.out s s.toNat (by omega) (by omega) (by omega)
    refine hcc.mono ?_; rintro e v3 ⟨t, ⟨ta, tb⟩, rfl, hgx, hdx⟩; clear hcc; have hq : ∀ k, k < v2.heap.size → k ≠ g → v3.heap[k]? = v2.heap[k]? := fun k hk hne => bC hgx hk (Ne.symm hne)
    have hsz3 := hgx.size; replace hg := ae (aj hg.out hgx); replace hd := ae hdx; clear hgx hdx; replace hkR := ae ((hq _ (by omega) (by omega)).trans hkR.out)
    replace hkB := ae ((hq _ (by omega) (by omega)).trans hkB.out)
    replace hrow := ae (hrow.out.keep (fun k h1 h2 => hq k (by omega) (by omega)))
    replace x0 : v3.cell? ⟨Bx, 0, none⟩ = some (.int .i64 r) := by simpa using cell_of_heap hkB.out 0
    replace x1 : v3.cell? ⟨Bx, 1, none⟩ = some (.int .i64 s) := by simpa using cell_of_heap hkB.out 1
    replace hE := ae ((hq _ (by omega) (by omega)).trans hE.out)
    clear hq; refine hK.out _ _ ?_ (fun hHeld => ?_)
    · try dsimp only
      ((repeat' apply And.intro) <;> assumption)
    clear hK; try simp only [Act.put, aJ, aH, aI]
    refine tk 13 32 ?_; refine rd 15 (fun K hK => ?_)
    rw [if_pos (by rfl)]
    have hwr : IntKind.i64.wrap (1 + l0) = 1 + l0 := IntWalk.i64_in _ (by omega)
    try simp only [hwr]
    obtain ⟨z0, z1, z2⟩ := ah hE.out; have fz := fun j => frozen_of_row v3 wd.heap.size j _ _ hE.out
    simp at z0 z1 z2
    obtain ⟨ve, hne⟩ := ag (((v3.setCell ⟨wd.heap.size, 0, none⟩ (.int .i64 f)).setCell ⟨wd.heap.size, 1, none⟩ (.int .i64 (1 + l0))).setCell ⟨wd.heap.size, 2, none⟩ (.int .i64 t)); have hbv : Below wd.heap.size v3 ve := by rw [hne]; exact (((Below.refl _ _).setCell (p := ⟨wd.heap.size, 0, none⟩) (by simp) _).setCell (p := ⟨wd.heap.size, 1, none⟩) (by simp) _).setCell (p := ⟨wd.heap.size, 2, none⟩) (by simp) _
    have hE2 : ve.heap[wd.heap.size]? = some (.cells #[.int .i64 f, .int .i64 (1 + l0), .int .i64 t] 36 (0, 0)) := by rw [hne]; exact set3 hE.out _ _ _
    replace hkR := ae ((hbv.block _ (by omega)).trans hkR.out)
    replace hkB := ae ((hbv.block _ (by omega)).trans hkB.out)
    replace hrow := ae (hrow.out.keep (fun k h1 h2 => hbv.block k (by omega)))
    replace x0 : ve.cell? ⟨Bx, 0, none⟩ = some (.int .i64 r) := by simpa using cell_of_heap hkB.out 0
    replace x1 : ve.cell? ⟨Bx, 1, none⟩ = some (.int .i64 s) := by simpa using cell_of_heap hkB.out 1
    replace hd := ae (hd.out.over hbv (by omega))
    replace hg := ae (grown_below hg.out (hbv.mono (by omega)))
    have hszv : v3.heap.size ≤ ve.heap.size := hbv.size; replace hne := ae hne; replace hE := ae hE2; clear hbv hE2; go_simp; rw [← hne.out]; clear z0 z1 z2 fz; refine hK.out _ _ ?_ (fun hHeld => ?_)
    · try dsimp only
      ((repeat' apply And.intro) <;> assumption)
    clear hK; try simp only [Act.put, aJ, aH, aI]
    refine wpAnyH_done (by kernel_rfl) ?_ _
    refine hnorm _ _ ?_; clear hnorm hpan; repeat clear hHeld
    try simp only [Exit.then]
    have x2 : ve.cell? ⟨Bx, 2, none⟩ = some (.slice x m c) := by simpa using cell_of_heap hkB.out 2
    have y0 : ve.cell? ⟨wd.heap.size, 0, none⟩ = some (.int .i64 f) := by simpa using cell_of_heap hE.out 0
    have y1 : ve.cell? ⟨wd.heap.size, 1, none⟩ = some (.int .i64 (1 + l0)) := by simpa using cell_of_heap hE.out 1
    have y2 : ve.cell? ⟨wd.heap.size, 2, none⟩ = some (.int .i64 t) := by simpa using cell_of_heap hE.out 2
    have hrd : ay ve.heap.size ve (.slice x m c) es := by
     have := (hrow.out.wide (nl _) (show wr.heap.size ≤ ve.heap.size by omega)).read
     rw [hm.out] at this ⊢; exact this
    have hcall := oU ve r s (.slice x m c) es f (1 + l0) t hrd (by omega) (by omega)
    have hlen2 := nC r s es (f, 1 + l0, t); have hgr2 := ae (pY (e := (f, 1 + l0, t)) hgr.out); obtain ⟨R, hR⟩ := ag (iV r s es (f, 1 + l0, t)); rw [← hR] at hcall hlen2 hgr2; obtain ⟨bb, hbb⟩ := ag (mD r s es (f, 1 + l0, t)); rw [← hbb] at hcall; replace hR := ae hR; replace hbb := ae hbb; clear hrd; go_wp2_with fail; refine hcall.mono ?_; rintro e w6 ⟨a6, c6, rfl, hrow6, hb6⟩; clear hcall x0 x1 x2 y0 y1 y2
    have hs6 := hb6.size; replace hkR := ae ((hb6.block _ (by omega)).trans hkR.out)
    replace hkB := ae ((hb6.block _ (by omega)).trans hkB.out)
    replace hd := ae (hd.out.over hb6 (by omega))
    replace hg := ae (grown_below hg.out (hb6.mono (by omega)))
    obtain ⟨z0, z1, z2⟩ := ah hkB.out; have fz := fun j => frozen_of_row w6 Bx j _ _ hkB.out
    simp at z0 z1 z2
    obtain ⟨n6, hn6⟩ := ag R.length; rw [← hn6] at hrow6 ⊢; obtain ⟨w7, hw7⟩ := ag (((w6.setCell ⟨Bx, 0, none⟩ (.int .i64 r)).setCell ⟨Bx, 1, none⟩ (.int .i64 s)).setCell ⟨Bx, 2, none⟩ (.slice a6 n6 c6)); have hbv : Below Bx w6 w7 := by rw [hw7]; exact (((Below.refl _ _).setCell (p := ⟨Bx, 0, none⟩) (by simp) _).setCell (p := ⟨Bx, 1, none⟩) (by simp) _).setCell (p := ⟨Bx, 2, none⟩) (by simp) _
    have hkB7 : Hid (w7.heap[Bx]? = some (.cells #[.int .i64 r, .int .i64 s, .slice a6 n6 c6] 26 (0, 0))) := ae (by rw [hw7]; exact set3 hkB.out _ _ _)
    have hrow7 : Hid (aF 36 3 w7 (Bx + 1) w7.heap.size (.slice a6 n6 c6) n6 (aC R)) := ae ((hrow6.keep (fun k h1 h2 => by
     rw [hw7, Below.heap_setCell _ _ _ _ (show k ≠ Bx by omega), Below.heap_setCell _ _ _ _ (show k ≠ Bx by omega), Below.heap_setCell _ _ _ _ (show k ≠ Bx by omega)])).wide (by omega) hbv.size)
    have hkR7 := ae ((hbv.block _ (by omega)).trans hkR.out)
    have hd7 := ae (hd.out.over hbv (by omega))
    have hg7 := ae (grown_below hg.out (hbv.mono (by omega)))
    have hs7 : Bx < w7.heap.size := by have := hbv.size; omega
    replace hw7 := ae hw7; replace hn6 := ae hn6; clear hbv hrow6 hkB hkR hd hg hrow; go_wp2; try rw [← hw7.out]
    go_roundg (gk - 1)
    case rel => exact ⟨a6, n6, c6, R, by go_num, by omega, hn6, hgr2, hkR7, hkB7, hrow7, hd7, hg7, hs7⟩
    case measure => omega
  · obtain rfl : gk = 0 := by omega
    obtain ⟨x0, x1, x2⟩ := ah hkB.out; obtain ⟨z0, z1, z2⟩ := ah hkR.out; have fz := fun j => frozen_of_row wr w.heap.size j _ _ hkR.out
    simp at x0 x1 x2 z0 z1 z2
    have hne : w.heap.size ≠ Bx := by omega
    obtain ⟨w7, hw7⟩ := ag (((wr.setCell ⟨w.heap.size, 0, none⟩ (.int .i64 r)).setCell ⟨w.heap.size, 1, none⟩ (.int .i64 s)).setCell ⟨w.heap.size, 2, none⟩ (.slice x m c)); have hbv : Below w.heap.size wr w7 := by rw [hw7]; exact (((Below.refl _ _).setCell (p := ⟨w.heap.size, 0, none⟩) (by simp) _).setCell (p := ⟨w.heap.size, 1, none⟩) (by simp) _).setCell (p := ⟨w.heap.size, 2, none⟩) (by simp) _
    have hkR7 : Hid (w7.heap[w.heap.size]? = some (.cells #[.int .i64 r, .int .i64 s, .slice x m c] 26 (0, 0))) := ae (by rw [hw7]; exact set3 hkR.out _ _ _)
    have hrow7 : aF 36 3 w7 w.heap.size w7.heap.size (.slice x m c) m (aC es) := (hrow.out.keep (fun k h1 h2 => by
     rw [hw7, Below.heap_setCell _ _ _ _ (show k ≠ w.heap.size by omega), Below.heap_setCell _ _ _ _ (show k ≠ w.heap.size by omega), Below.heap_setCell _ _ _ _ (show k ≠ w.heap.size by omega)])).wide (by omega) hbv.size
    have hfin : ug NT B g a len cap w (.returned (.agg #[.int .i64 r, .int .i64 s, .slice x m c])) w7 := by
     rw [hm.out] at hrow7 ⊢; exact ⟨r, s, x, c, es, ⟨hr1, hr3, s1a, s1b, hgr.out, by omega⟩, rfl, hrow7, grown_below hg.out hbv, hd.out.over hbv hlt⟩
    replace hfin := ae hfin; replace hw7 := ae hw7; clear hbv hrow7 hkB hkR hd hg hrow; go_wp2
    (try simp only [Exit.inBlock, Exit.then])
    try rw [← hw7.out]
    refine dM (cs := #[.int .i64 r, .int .i64 s, .slice x m c]) rfl (g := w.heap.size) rfl (by exact hkR7.out) Tryz.underlying26 aB ?_
    exact hfin.out
end Go.Proofs.YtgnomlcjikfdhaaGreat
