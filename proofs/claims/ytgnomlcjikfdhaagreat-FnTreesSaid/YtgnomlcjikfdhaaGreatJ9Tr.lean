import Derived.Test.YtgnomlcjikfdhaaGreatJ7Tr
import Derived.Test.YtgnomlcjikfdhaaGreatJ6Tr
import Derived.Test.YtgnomlcjikfdhaaGreatJ8Tr
namespace Go.Proofs.YtgnomlcjikfdhaaGreat
open Go.RowKit
set_option linter.unusedVariables false
set_option linter.unusedSimpArgs false
def mayE (r s : Int) (es : List Ed) (e : Ed) : Bool := isGr r s es && (edgeOk r s e && decide (es.length < 120))
def addE (r s : Int) (es : List Ed) (e : Ed) : List Ed := if mayE r s es e = true then putE e es else es
def addEb (r s : Int) (es : List Ed) (e : Ed) : Bool := mayE r s es e && decide (es.length < (putE e es).length)
theorem LwEdges.form {w w' : World} {es : List Ed} {e : Ending} (h : LwEdges w es e w') : ∃ a n cap, n = es.length ∧ e = .returned (.slice a n cap) ∧ RowS 36 3 w' w.heap.size w'.heap.size (.slice a n cap) es.length (flatE es) ∧ Below w.heap.size w w' := by
 obtain ⟨a, cap, he, hr, hb⟩ := h
 exact ⟨a, _, cap, rfl, he, hr, hb⟩
theorem isGr_len {r s : Int} {es : List Ed} (h : isGr r s es = true) : es.length ≤ 120 := (isGr_iff.1 h).2.2.2.2.2
set_option maxRecDepth 100000 in
set_option maxHeartbeats 3200000 in
theorem specAddE (w : World) (r s : Int) (v : Value) (es : List Ed) (f l t : Int) (h : ReadE w.heap.size w v es) (hs : -9223372036854775808 ≤ s ∧ s ≤ 9223372036854775807) (hl : es.length ≤ 100000000) :
 Calls Tryz.prog 73 #[.agg #[.int .i64 r, .int .i64 s, v], .agg #[.int .i64 f, .int .i64 l, .int .i64 t]] w (LwGraphBool w r s (addE r s es (f, l, t)) (addEb r s es (f, l, t))) := by
 obtain ⟨a, cap, rfl, hnc⟩ := h.form
 obtain ⟨n, hn⟩ := exq es.length
 rw [← hn] at hnc ⊢
 rw [← hn] at h
 obtain ⟨wa, hwa⟩ := exq (w.alloc (.cells #[.int .i64 r, .int .i64 s, .slice a n cap] 26))
 obtain ⟨wb, hwb⟩ := exq (wa.alloc (.cells #[.int .i64 f, .int .i64 l, .int .i64 t] 36))
 obtain ⟨w1, hw1⟩ := exq (wb.alloc (.cells #[.int .i64 0, .int .i64 0, .slice none 0 0] 26))
 have hsa : wa.heap.size = w.heap.size + 1 := by rw [hwa]; simp
 have hsb : wb.heap.size = w.heap.size + 1 + 1 := by rw [hwb]; simp; omega
 have hs1 : w1.heap.size = w.heap.size + 1 + 1 + 1 := by rw [hw1]; simp; omega
 have hba : Below w.heap.size w wa := by rw [hwa]; exact (Below.refl _ _).alloc (Nat.le_refl _) _
 have hbb : Below wa.heap.size wa wb := by rw [hwb]; exact (Below.refl _ _).alloc (Nat.le_refl _) _
 have hbc : Below wb.heap.size wb w1 := by rw [hw1]; exact (Below.refl _ _).alloc (Nat.le_refl _) _
 have hb1 : Below w.heap.size w w1 := hba.trans ((hbb.trans (hbc.mono hbb.size)).mono hba.size)
 obtain ⟨g0, g1, g2⟩ := box3 hwa
 obtain ⟨k0, k1, k2⟩ := box3 hwb
 rw [hsa] at k0 k1 k2
 have hbac := hbb.trans (hbc.mono hbb.size)
 replace g0 := below_cell g0 hbac (by omega)
 replace g1 := below_cell g1 hbac (by omega)
 replace g2 := below_cell g2 hbac (by omega)
 replace k0 := below_cell k0 hbc (by omega)
 replace k1 := below_cell k1 hbc (by omega)
 replace k2 := below_cell k2 hbc (by omega)
 have hk := heap_alloc_new wb (.cells #[.int .i64 0, .int .i64 0, .slice none 0 0] 26)
 rw [← hw1, hsb] at hk
 have hw : ((w.alloc (.cells #[.int .i64 r, .int .i64 s, .slice a n cap] 26)).alloc (.cells #[.int .i64 f, .int .i64 l, .int .i64 t] 36)).alloc (.cells #[.int .i64 0, .int .i64 0, .slice none 0 0] 26) = w1 := by rw [hw1, hwb, hwa]
 clear hba hbb hbc hbac
 have hrd1 := (h.below hb1).mono hb1.size
 rw [hn] at hrd1
 have hcopy := specCopy w1 r s _ es hrd1 (by omega)
 rw [← hn] at hcopy hrd1
 obtain ⟨B, hB⟩ := exq (isGr r s es)
 obtain ⟨E, hE⟩ := exq (edgeOk r s (f, l, t))
 obtain ⟨R, hR⟩ := exq (addE r s es (f, l, t))
 obtain ⟨D, hD⟩ := exq (addEb r s es (f, l, t))
 rw [← hR, ← hD]
 have hM : mayE r s es (f, l, t) = (B && (E && decide (n < 120))) := by rw [hn, hB, hE]; rfl
 replace hD := hidI hD
 replace hR := hidI hR
 replace hn := hidI hn
 replace hwa := hidI hwa
 replace hwb := hidI hwb
 replace hw1 := hidI hw1
 replace hw := hidI hw
 replace hk := hidI hk
 replace hrd1 := hidI hrd1
 replace h := hidI h
 replace hsa := hidI hsa
 replace hsb := hidI hsb
 replace hs1 := hidI hs1
 replace hB := hidI hB
 replace hE := hidI hE
 replace hM := hidI hM
 go_enter Tryz.func73, Tryz.ntmps73
 go_wp2_with fail
 rw [hw.out]
 go_wp2_with fail
 refine hcopy.mono ?_
 intro e w2 h2
 obtain ⟨b, cap2, rfl, hrow, hb2⟩ := h2.form
 rw [← hn.out]
 have q0 := below_cell g0 hb2 (by have := hs1.out; omega)
 have q1 := below_cell g1 hb2 (by have := hs1.out; omega)
 have q2 := below_cell g2 hb2 (by have := hs1.out; omega)
 have j0 := below_cell k0 hb2 (by have := hs1.out; omega)
 have j1 := below_cell k1 hb2 (by have := hs1.out; omega)
 have j2 := below_cell k2 hb2 (by have := hs1.out; omega)
 clear h2 hcopy g0 g1 g2 k0 k1 k2
 obtain ⟨w3, hw3⟩ := exq (w2.alloc (.cells #[.int .i64 r, .int .i64 s, .slice b n cap2] 26))
 have hb3 : Below w2.heap.size w2 w3 := by rw [hw3]; exact (Below.refl _ _).alloc (Nat.le_refl _) _
 have hk3 := heap_alloc_new w2 (.cells #[.int .i64 r, .int .i64 s, .slice b n cap2] 26)
 rw [← hw3] at hk3
 have hs12 := hb2.size
 have hs3 : w2.heap.size < w3.heap.size := by rw [hw3]; simp
 have p0 := below_cell q0 hb3 (by have := hs1.out; omega)
 have p1 := below_cell q1 hb3 (by have := hs1.out; omega)
 have p2 := below_cell q2 hb3 (by have := hs1.out; omega)
 have i0 := below_cell j0 hb3 (by have := hs1.out; omega)
 have i1 := below_cell j1 hb3 (by have := hs1.out; omega)
 have i2 := below_cell j2 hb3 (by have := hs1.out; omega)
 have hrd3 := hidI ((hrd1.out.below (hb2.trans (hb3.mono hb2.size))))
 have his := specIsGr w3 r s (.slice a n cap) es (by have := hrd3.out; rw [hn.out] at this; exact hn.out ▸ this.mono (by omega)) hs (by omega)
 rw [← hB.out] at his
 have hkr : w3.heap[w.heap.size + 1 + 1]? = some (.cells #[.int .i64 0, .int .i64 0, .slice none 0 0] 26 (0, 0)) := by rw [hb3.block _ (by have := hs1.out; omega), hb2.block _ (by have := hs1.out; omega)]; exact hk.out
 have r0 := p0
 have r1 := p1
 have r2 := p2
 rw [hw3] at r0 r1 r2
 replace hw3 := hidI hw3
 replace hk3 := hidI hk3
 replace hkr := hidI hkr
 clear q0 q1 q2 j0 j1 j2
 go_wp2_with fail
 rw [← hw3.out]
 refine his.mono ?_
 rintro e w4 ⟨rfl, hb4⟩
 clear r0 r1 r2 his
 have z0 := below_cell p0 hb4 (by have := hs1.out; omega)
 have z1 := below_cell p1 hb4 (by have := hs1.out; omega)
 have z2 := below_cell p2 hb4 (by have := hs1.out; omega)
 have z3 := below_cell i0 hb4 (by have := hs1.out; omega)
 have z4 := below_cell i1 hb4 (by have := hs1.out; omega)
 have z5 := below_cell i2 hb4 (by have := hs1.out; omega)
 clear p0 p1 p2 i0 i1 i2
 have hs34 := hb4.size
 have hrow4 := hidI ((hrow.below hb3 (Nat.le_refl _)).below hb4 (Nat.le_of_lt hs3))
 have hbz4 := hidI (hb1.trans ((hb2.trans ((hb3.mono hs12).trans (hb4.mono (by omega)))).mono hb1.size))
 have hkx4 := hidI (show w4.heap[w2.heap.size]? = some (.cells #[.int .i64 r, .int .i64 s, .slice b n cap2] 26 (0, 0)) by rw [hb4.block _ hs3]; exact hk3.out)
 have hky4 := hidI (show w4.heap[w.heap.size + 1 + 1]? = some (.cells #[.int .i64 0, .int .i64 0, .slice none 0 0] 26 (0, 0)) by rw [hb4.block _ (by have := hs1.out; omega)]; exact hkr.out)
 have hrd4 := hidI (hrd3.out.below (hb4.mono (by omega)))
 have hne : w2.heap.size ≠ w.heap.size + 1 + 1 := by have := hs1.out; omega
 have hne2 : w2.heap.size ≠ w.heap.size := by have := hs1.out; omega
 have hne3 : w2.heap.size ≠ w.heap.size + 1 := by have := hs1.out; omega
 have hne' := hne.symm
 have hne2' := hne2.symm
 have hne3' := hne3.symm
 have hse : ∀ y1 y2 y3 (wq : World), wq.heap.size = ((((wq.setCell ⟨w.heap.size + 1 + 1, 0, none⟩ y1).setCell ⟨w.heap.size + 1 + 1, 1, none⟩ y2).setCell ⟨w.heap.size + 1 + 1, 2, none⟩ y3)).heap.size := by intro y1 y2 y3 wq; simp [World.setCell]
 replace hse := hidI hse
 have hend : ∀ w5, Below w4.heap.size w4 w5 → R = es → LwGraphBool w r s R false (.returned (.tuple #[.agg #[.int .i64 r, .int .i64 s, .slice b n cap2], .bool false])) (((w5.setCell ⟨w.heap.size + 1 + 1, 0, none⟩ (.int .i64 r)).setCell ⟨w.heap.size + 1 + 1, 1, none⟩ (.int .i64 s)).setCell ⟨w.heap.size + 1 + 1, 2, none⟩ (.slice b n cap2)) := by
  intro w5 hb5 hRe
  have hs := hs1.out
  rw [hRe]
  refine ⟨b, cap2, by rw [hn.out], ?_, ?_⟩
  · refine RowS.wide (RowS.keep (hrow4.out.below hb5 (by omega)) (fun k h1 h2 => ?_)) (by omega) (by rw [← hse.out]; have := hb5.size; omega)
    rw [Below.heap_setCell _ _ _ _ (show k ≠ w.heap.size + 1 + 1 by omega), Below.heap_setCell _ _ _ _ (show k ≠ w.heap.size + 1 + 1 by omega), Below.heap_setCell _ _ _ _ (show k ≠ w.heap.size + 1 + 1 by omega)]
  · have hbz := hbz4.out.trans (hb5.mono hbz4.out.size)
    exact ((hbz.setCell (p := ⟨w.heap.size + 1 + 1, 0, none⟩) (by simp; omega) _).setCell (p := ⟨w.heap.size + 1 + 1, 1, none⟩) (by simp; omega) _).setCell (p := ⟨w.heap.size + 1 + 1, 2, none⟩) (by simp; omega) _
 replace hend := hidI hend
 cases B with
 | false =>
  obtain ⟨x0, x1, x2⟩ := cell3 hkx4.out
  obtain ⟨y0, y1, y2⟩ := cell3 hky4.out
  have f1 := fun j => frozen_of_row w4 (w.heap.size + 1 + 1) j _ _ hky4.out
  have f2 := fun j => frozen_of_row w4 w2.heap.size j _ _ hkx4.out
  simp at x0 x1 x2 y0 y1 y2
  have hMf : mayE r s es (f, l, t) = false := by rw [hM.out]; rfl
  have hRe : R = es := by rw [hR.out]; unfold addE; rw [hMf]; rfl
  have hDe : D = false := by rw [hD.out]; unfold addEb; rw [hMf]; rfl
  replace hMf := hidI hMf
  replace hRe := hidI hRe
  subst hDe
  have hse2 := hidI (set3 hky4.out (.int .i64 r) (.int .i64 s) (.slice b n cap2))
  go_wp2
  (try simp only [Exit.inBlock, Exit.then])
  refine ret_cell2 (x := .bool false) rfl rfl rfl hse2.out Tryz.underlying26 sizeGraph ?_
  exact hend.out _ (Below.refl _ _) hRe.out
 | true =>
  have h120 : n ≤ 120 := by rw [hn.out]; exact isGr_len hB.out.symm
  have hce := specEdge w4 r s a n cap f l t hs
  rw [← hE.out] at hce
  go_wp2_with fail
  refine hce.mono ?_
  rintro e w5 ⟨rfl, hb5⟩
  clear hce
  replace z0 := below_cell z0 hb5 (by have := hs1.out; omega)
  replace z1 := below_cell z1 hb5 (by have := hs1.out; omega)
  replace z2 := below_cell z2 hb5 (by have := hs1.out; omega)
  replace z3 := below_cell z3 hb5 (by have := hs1.out; omega)
  replace z4 := below_cell z4 hb5 (by have := hs1.out; omega)
  replace z5 := below_cell z5 hb5 (by have := hs1.out; omega)
  have hkx5 := hidI (show w5.heap[w2.heap.size]? = some (.cells #[.int .i64 r, .int .i64 s, .slice b n cap2] 26 (0, 0)) by rw [hb5.block _ (by omega)]; exact hkx4.out)
  have hky5 := hidI (show w5.heap[w.heap.size + 1 + 1]? = some (.cells #[.int .i64 0, .int .i64 0, .slice none 0 0] 26 (0, 0)) by rw [hb5.block _ (by have := hs1.out; omega)]; exact hky4.out)
  have hs45 := hb5.size
  obtain ⟨x0, x1, x2⟩ := cell3 hkx5.out
  obtain ⟨y0, y1, y2⟩ := cell3 hky5.out
  have f1 := fun j => frozen_of_row w5 (w.heap.size + 1 + 1) j _ _ hky5.out
  have f2 := fun j => frozen_of_row w5 w2.heap.size j _ _ hkx5.out
  simp at x0 x1 x2 y0 y1 y2
  cases E with
  | false =>
   have hMf : mayE r s es (f, l, t) = false := by rw [hM.out]; rfl
   have hRe : R = es := by rw [hR.out]; unfold addE; rw [hMf]; rfl
   have hDe : D = false := by rw [hD.out]; unfold addEb; rw [hMf]; rfl
   replace hMf := hidI hMf
   replace hRe := hidI hRe
   subst hDe
   have hse2 := hidI (set3 hky5.out (.int .i64 r) (.int .i64 s) (.slice b n cap2))
   go_wp2
   (try simp only [Exit.inBlock, Exit.then])
   refine ret_cell2 (x := .bool false) rfl rfl rfl hse2.out Tryz.underlying26 sizeGraph ?_
   exact hend.out _ hb5 hRe.out
  | true =>
   by_cases hn120 : n < 120
   case neg =>
    have hg120 : (120 : Int) ≤ (n : Int) := by omega
    have hMf : mayE r s es (f, l, t) = false := by rw [hM.out]; simp [hn120]
    have hRe : R = es := by rw [hR.out]; unfold addE; rw [hMf]; rfl
    have hDe : D = false := by rw [hD.out]; unfold addEb; rw [hMf]; rfl
    replace hMf := hidI hMf
    replace hRe := hidI hRe
    subst hDe
    have hse2 := hidI (set3 hky5.out (.int .i64 r) (.int .i64 s) (.slice b n cap2))
    go_wp2
    (try simp only [Exit.inBlock, Exit.then])
    refine ret_cell2 (x := .bool false) rfl rfl rfl hse2.out Tryz.underlying26 sizeGraph ?_
    exact hend.out _ hb5 hRe.out
   have hg120 : ¬ (120 : Int) ≤ (n : Int) := by omega
   have hMf : mayE r s es (f, l, t) = true := by rw [hM.out]; simp [hn120]
   have hRe : R = putE (f, l, t) es := by rw [hR.out]; unfold addE; rw [hMf]; rfl
   have hDe : D = decide (n < (putE (f, l, t) es).length) := by rw [hD.out]; unfold addEb; rw [hMf, hn.out]; rfl
   have hrd5 := hrd4.out.below (hb5.mono (by omega))
   rw [hn.out] at hrd5
   have hput := specPut w5 _ es f l t (hrd5.mono (by omega)) hl
   rw [← hn.out] at hput
   have hpl := putE_length (f, l, t) es
   rw [← hRe] at hput hDe hpl
   replace hMf := hidI hMf
   replace hRe := hidI hRe
   replace hDe := hidI hDe
   replace hpl := hidI hpl
   replace h120 := hidI h120
   replace hn120 := hidI hn120
   clear hrd5
   go_wp2_with fail
   refine hput.mono ?_
   intro e w6 h6
   obtain ⟨a6, n6, c6, hn6, rfl, hrow6, hb6⟩ := h6.form
   clear h6 hput x0 x1 x2 y0 y1 y2 f1 f2
   replace z0 := below_cell z0 hb6 (by have := hs1.out; omega)
   replace z1 := below_cell z1 hb6 (by have := hs1.out; omega)
   replace z2 := below_cell z2 hb6 (by have := hs1.out; omega)
   replace z3 := below_cell z3 hb6 (by have := hs1.out; omega)
   replace z4 := below_cell z4 hb6 (by have := hs1.out; omega)
   replace z5 := below_cell z5 hb6 (by have := hs1.out; omega)
   have hkx6 := hidI (show w6.heap[w2.heap.size]? = some (.cells #[.int .i64 r, .int .i64 s, .slice b n cap2] 26 (0, 0)) by rw [hb6.block _ (by omega)]; exact hkx5.out)
   have hky6 := hidI (show w6.heap[w.heap.size + 1 + 1]? = some (.cells #[.int .i64 0, .int .i64 0, .slice none 0 0] 26 (0, 0)) by rw [hb6.block _ (by have := hs1.out; omega)]; exact hky5.out)
   obtain ⟨x0, x1, x2⟩ := cell3 hkx6.out
   obtain ⟨y0, y1, y2⟩ := cell3 hky6.out
   have f1 := fun j => frozen_of_row w6 (w.heap.size + 1 + 1) j _ _ hky6.out
   have f2 := fun j => frozen_of_row w6 w2.heap.size j _ _ hkx6.out
   simp at x0 x1 x2 y0 y1 y2
   have hns : n6 ≤ 1000000000 := by have := hpl.out; have := hn.out; omega
   obtain ⟨dd, hdd⟩ := exq (decide ((n : Int) < (n6 : Int)))
   have hdd2 := hdd.symm
   replace hdd := hidI hdd
   replace hn6 := hidI hn6
   go_wp2
   go_region
   all_goals
    go_wp2
    (try simp only [Exit.inBlock, Exit.then])
    have hky7 : (w6.setCell ⟨w2.heap.size, 2, none⟩ (.slice a6 n6 c6)).heap[w.heap.size + 1 + 1]? = some (.cells #[.int .i64 0, .int .i64 0, .slice none 0 0] 26 (0, 0)) := by
     rw [Below.heap_setCell _ _ _ _ hne']
     exact hky6.out
    have hset := set3 hky7 (.int .i64 r) (.int .i64 s) (.slice a6 n6 c6)
    refine ret_cell2 (x := .bool (decide (n < n6))) (cs := #[.int .i64 r, .int .i64 s, .slice a6 n6 c6]) (g := w.heap.size + 1 + 1) rfl rfl rfl (by exact hset) Tryz.underlying26 sizeGraph ?_
    have hs' := hs1.out
    have hn6' := hn6.out
    have hs56 := hb6.size
    subst hn6'
    have hbz6 := hbz4.out.trans ((hb5.trans (hb6.mono hs45)).mono hbz4.out.size)
    refine ⟨a6, c6, by rw [hDe.out], ?_, ?_⟩
    · have hr7 := RowS.keep hrow6 (w' := (((((w6.setCell ⟨w2.heap.size, 2, none⟩ (.slice a6 R.length c6)).setCell ⟨w.heap.size + 1 + 1, 0, none⟩ (.int .i64 r)).setCell ⟨w.heap.size + 1 + 1, 1, none⟩ (.int .i64 s)).setCell ⟨w.heap.size + 1 + 1, 2, none⟩ (.slice a6 R.length c6)).drew)) (fun k h1 h2 => by
       show (((((w6.setCell ⟨w2.heap.size, 2, none⟩ (.slice a6 R.length c6)).setCell ⟨w.heap.size + 1 + 1, 0, none⟩ (.int .i64 r)).setCell ⟨w.heap.size + 1 + 1, 1, none⟩ (.int .i64 s)).setCell ⟨w.heap.size + 1 + 1, 2, none⟩ (.slice a6 R.length c6))).heap[k]? = _
       rw [Below.heap_setCell _ _ _ _ (show k ≠ w.heap.size + 1 + 1 by omega), Below.heap_setCell _ _ _ _ (show k ≠ w.heap.size + 1 + 1 by omega), Below.heap_setCell _ _ _ _ (show k ≠ w.heap.size + 1 + 1 by omega), Below.heap_setCell _ _ _ _ (show k ≠ w2.heap.size by omega)])
      exact RowS.wide hr7 (by omega) (by simp [World.setCell])
    · exact below_dn ((((hbz6.setCell (p := ⟨w2.heap.size, 2, none⟩) (by simp; omega) _).setCell (p := ⟨w.heap.size + 1 + 1, 0, none⟩) (by simp; omega) _).setCell (p := ⟨w.heap.size + 1 + 1, 1, none⟩) (by simp; omega) _).setCell (p := ⟨w.heap.size + 1 + 1, 2, none⟩) (by simp; omega) _) 1
theorem placeOk_at {r s : Int} {es : List Ed} {i : Nat} (h : placeOk r s es i = true) : edgeOk r s (es.getD i e0) = true ∧ (0 < i → cmpE (es.getD (i - 1) e0) (es.getD i e0) < 0) := by
 unfold placeOk at h
 simp only [Bool.and_eq_true, Bool.or_eq_true, decide_eq_true_eq] at h
 exact ⟨h.1, fun hi => by rcases h.2 with h0 | h1; omega; exact h1⟩
theorem getE_of {es : List Ed} {i : Nat} (h : i < es.length) : es.getD i e0 = es[i] := by rw [List.getD_eq_getElem?_getD, List.getElem?_eq_getElem h]; rfl
theorem isGr_iff2 {r s : Int} {es : List Ed} : isGr r s es = true ↔ (∀ e ∈ es, edgeOk r s e = true) ∧ es.Pairwise (fun a b => cmpE a b < 0) ∧ 1 ≤ r ∧ r ≤ 3 ∧ 1 ≤ s ∧ s ≤ 40 ∧ es.length ≤ 120 := by
 rw [isGr_iff]
 constructor
 · rintro ⟨h, hr⟩
   refine ⟨?_, ?_, hr⟩
   · intro e he
     obtain ⟨i, hi, rfl⟩ := List.getElem_of_mem he
     have := (placeOk_at (h i hi)).1
     rw [getE_of hi] at this
     exact this
   · rw [List.pairwise_iff_getElem]
     have key : ∀ d i (hi : i < es.length) (hj : i + d + 1 < es.length), cmpE es[i] es[i + d + 1] < 0 := by
      intro d
      induction d with
      | zero =>
       intro i hi hj
       have := (placeOk_at (h (i + 1) (by omega))).2 (by omega)
       rw [Nat.add_sub_cancel, getE_of hi, getE_of (by omega)] at this
       exact this
      | succ d ih =>
       intro i hi hj
       have h1 := ih i hi (by omega)
       have h2 := (placeOk_at (h (i + (d + 1) + 1) hj)).2 (by omega)
       rw [Nat.add_sub_cancel, getE_of (by omega), getE_of hj] at h2
       exact cmpE_trans h1 h2
     intro i j hi hj hij
     obtain ⟨d, rfl⟩ : ∃ d, j = i + d + 1 := ⟨j - i - 1, by omega⟩
     exact key d i hi hj
 · rintro ⟨h1, h2, hr⟩
   refine ⟨fun i hi => ?_, hr⟩
   unfold placeOk
   simp only [Bool.and_eq_true, Bool.or_eq_true, decide_eq_true_eq]
   refine ⟨by rw [getE_of hi]; exact h1 _ (List.getElem_mem hi), ?_⟩
   rcases Nat.eq_zero_or_pos i with h0 | h0
   · exact .inl h0
   · right
     rw [getE_of (show i - 1 < es.length by omega), getE_of hi]
     exact (List.pairwise_iff_getElem.1 h2) (i - 1) i (by omega) hi (by omega)
theorem addE_length (r s : Int) (es : List Ed) (e : Ed) : (addE r s es e).length ≤ es.length + 1 := by
 unfold addE
 split
 · exact putE_length _ _
 · omega
def GrIn (P : Int → Int → List Ed → Prop) (B g : Nat) (a : Option Addr) (len cap : Nat) (w : World) (e : Ending) (w' : World) : Prop :=
 ∃ (r s : Int) (x : Option Addr) (c : Nat) (es : List Ed), P r s es ∧ e = .returned (.agg #[.int .i64 r, .int .i64 s, .slice x es.length c]) ∧ RowS 36 3 w' w.heap.size w'.heap.size (.slice x es.length c) es.length (flatE es) ∧ w.grownBy w' (some g) ∧ Dr B g a len cap w'
def Gr4 (r s : Int) (es : List Ed) : Prop := 1 ≤ r ∧ r ≤ 3 ∧ 1 ≤ s ∧ s ≤ 5 ∧ isGr r s es = true ∧ es.length ≤ 8
theorem mem_putE {e x : Ed} : ∀ {es : List Ed}, x ∈ putE e es → x = e ∨ x ∈ es := by
 intro es
 induction es with
 | nil => intro h; exact .inl (List.mem_singleton.1 h)
 | cons y ys ih =>
  intro h
  rcases cmpE_cases e y with c | c | c
  · rw [putE_lt ys (by omega)] at h
    rcases List.mem_cons.1 h with h | h
    · exact .inl h
    · exact .inr h
  · rw [putE_eq ys c] at h
    exact .inr h
  · rw [putE_gt ys (by omega)] at h
    rcases List.mem_cons.1 h with h | h
    · exact .inr (by rw [h]; exact List.mem_cons_self)
    · rcases ih h with h | h
      · exact .inl h
      · exact .inr (List.mem_cons_of_mem _ h)
theorem pairwise_putE (e : Ed) : ∀ es : List Ed, es.Pairwise (fun a b => cmpE a b < 0) → (putE e es).Pairwise (fun a b => cmpE a b < 0) := by
 intro es
 induction es with
 | nil => intro _; exact List.pairwise_singleton _ _
 | cons y ys ih =>
  intro h
  have hp := List.pairwise_cons.1 h
  rcases cmpE_cases e y with c | c | c
  · rw [putE_lt ys (by omega)]
    refine List.pairwise_cons.2 ⟨fun z hz => ?_, h⟩
    rcases List.mem_cons.1 hz with hz | hz
    · rw [hz]; omega
    · exact cmpE_trans (by omega : cmpE e y < 0) (hp.1 z hz)
  · rw [putE_eq ys c]; exact h
  · rw [putE_gt ys (by omega)]
    refine List.pairwise_cons.2 ⟨fun z hz => ?_, ih hp.2⟩
    rcases mem_putE hz with hz | hz
    · rw [hz, cmpE_neg]; omega
    · exact hp.1 z hz
theorem addE_isGr {r s : Int} {es : List Ed} {e : Ed} (h : isGr r s es = true) : isGr r s (addE r s es e) = true := by
 unfold addE
 split
 · rename_i hm
   unfold mayE at hm
   simp only [Bool.and_eq_true, decide_eq_true_eq] at hm
   obtain ⟨h1, h2, h3, h4, h5, h6, h7⟩ := isGr_iff2.1 h
   refine isGr_iff2.2 ⟨fun x hx => ?_, pairwise_putE e es h2, h3, h4, h5, h6, by have := putE_length e es; omega⟩
   rcases mem_putE hx with hx | hx
   · rw [hx]; exact hm.2.1
   · exact h1 x hx
 · exact h
theorem kept_block {w w' : World} {g k : Nat} (h : w.grownBy w' (some g)) (hk : k < w.heap.size) (hne : g ≠ k) : w'.heap[k]? = w.heap[k]? := h.block k hk (fun e => by cases e; omega)
set_option maxHeartbeats 12800000 in
set_option maxRecDepth 100000 in
theorem graph_in {B g : Nat} {a : Option Addr} {len cap : Nat} {w : World} (h : Dr B g a len cap w) :
 Calls Tryz.prog 81 #[.pointer (some ⟨g, 0, none⟩)] w (GrIn Gr4 B g a len cap w) := by
 have hlt := h.lt
 obtain ⟨w1, hw1⟩ := exq (w.alloc (.cells #[.int .i64 0, .int .i64 0, .slice none 0 0] 26))
 have hd1 := h.alloc (.cells #[.int .i64 0, .int .i64 0, .slice none 0 0] 26)
 have hk1 := heap_alloc_new w (.cells #[.int .i64 0, .int .i64 0, .slice none 0 0] 26)
 rw [← hw1] at hd1 hk1
 have hs1 : w.heap.size < w1.heap.size := by rw [hw1]; simp
 have hsz1 : Hid (w1.heap.size = w.heap.size + 1) := hidI (by rw [hw1]; simp)
 have hg1 : w.grownBy w1 (some g) := by rw [hw1]; exact World.grownBy_alloc w _ (some g)
 have hpick := pick_in (fun r => 1 ≤ r ∧ r ≤ 3) (hd1.alloc (.cells #[.int .i64 1, .int .i64 2, .int .i64 2, .int .i64 2, .int .i64 3] 3)) w1.heap.size 5 (by omega) (by omega) (by omega) (pints_lit _ w1 [1, 2, 2, 2, 3] _ rfl (by decide))
 have hg := hidI (grown_trans hg1 (World.grownBy_alloc w1 (.cells #[.int .i64 1, .int .i64 2, .int .i64 2, .int .i64 2, .int .i64 3] 3) (some g)))
 have hkR : Hid ((w1.alloc (.cells #[.int .i64 1, .int .i64 2, .int .i64 2, .int .i64 2, .int .i64 3] 3)).heap[w.heap.size]? = some (.cells #[.int .i64 0, .int .i64 0, .slice none 0 0] 26 (0, 0))) := hidI (by rw [heap_alloc_old _ _ hs1]; exact hk1)
 have hsa : w1.heap.size < (w1.alloc (.cells #[.int .i64 1, .int .i64 2, .int .i64 2, .int .i64 2, .int .i64 3] 3)).heap.size := by simp
 replace hsa := hidI hsa
 replace hw1 := hidI hw1
 replace hk1 := hidI hk1
 replace hd1 := hidI hd1
 clear hg1
 go_enter Tryz.func81, Tryz.ntmps81
 go_wp2_with fail
 simp only [← hsz1.out]
 rw [← hw1.out]
 refine hpick.mono ?_
 rintro e w2 ⟨r, ⟨hr1, hr3⟩, rfl, hg3, hd2⟩
 replace hkR := hidI ((kept_block hg3 (by have := hsa.out; omega) (by omega)).trans hkR.out)
 have hs2 : w1.heap.size < w2.heap.size := Nat.lt_of_lt_of_le hsa.out hg3.size
 replace hg := hidI (grown_trans hg.out hg3)
 clear hpick hg3 hd1 hsa
 have q0 := below_in hd2 5 5 rfl (by omega) (by omega)
 replace hd2 := hidI hd2
 go_wp2_with fail
 refine q0.mono ?_
 rintro e w3 ⟨s0, ⟨s0a, s0b⟩, rfl, hg4, hd3⟩
 replace hkR := hidI ((kept_block hg4 (by omega) (by omega)).trans hkR.out)
 have hs3 : w1.heap.size < w3.heap.size := Nat.lt_of_lt_of_le hs2 hg4.size
 replace hg := hidI (grown_trans hg.out hg4)
 clear q0 hg4 hd2
 have s1a : 1 ≤ 1 + s0 := by omega
 have s1b : 1 + s0 ≤ 5 := by omega
 obtain ⟨s, hs⟩ := exq (1 + s0)
 rw [← hs] at s1a s1b
 obtain ⟨w4, hw4⟩ := exq (w3.alloc (.cells #[.int .i64 r, .int .i64 s, .slice none 0 0] 26))
 have hd4 := hd3.alloc (.cells #[.int .i64 r, .int .i64 s, .slice none 0 0] 26)
 have hkB := heap_alloc_new w3 (.cells #[.int .i64 r, .int .i64 s, .slice none 0 0] 26)
 rw [← hw4] at hd4 hkB
 have hs4 : w3.heap.size < w4.heap.size := by rw [hw4]; simp
 replace hkR : Hid (w4.heap[w.heap.size]? = some (.cells #[.int .i64 0, .int .i64 0, .slice none 0 0] 26 (0, 0))) := hidI (by rw [hw4, heap_alloc_old _ _ (by omega)]; exact hkR.out)
 replace hg : Hid (w.grownBy w4 (some g)) := hidI (by rw [hw4]; exact grown_trans hg.out (World.grownBy_alloc w3 _ (some g)))
 have q0 := below_in hd4 9 9 rfl (by omega) (by omega)
 replace hd4 := hidI hd4
 replace hkB := hidI hkB
 replace hw4 := hidI hw4
 clear hd3
 go_wp2_with fail
 rw [← hs, ← hw4.out]
 replace hs := hidI hs
 refine q0.mono ?_
 rintro e w5 ⟨n0, ⟨hn0, hn1⟩, rfl, hg5, hd5⟩
 obtain ⟨n, rfl⟩ := Int.eq_ofNat_of_zero_le hn0
 obtain ⟨Bx, hBx⟩ := exq w3.heap.size
 rw [← hBx] at hkB hs3 hs4 ⊢
 replace hkR := hidI ((kept_block hg5 (by omega) (by omega)).trans hkR.out)
 replace hkB := hidI ((kept_block hg5 (by omega) (by omega)).trans hkB.out)
 have hs5 : Bx < w5.heap.size := Nat.lt_of_lt_of_le hs4 hg5.size
 replace hg := hidI (grown_trans hg.out hg5)
 have hRB : w.heap.size < Bx := by omega
 have hgB : g < Bx := by omega
 replace hd5 := hidI hd5
 replace hBx := hidI hBx
 have hn8 : n ≤ 8 := by omega
 clear q0 hg5 hd4 hn0 hn1
 have hrow0 : Hid (RowS 36 3 w5 (Bx + 1) w5.heap.size (.slice none 0 0) 0 (flatE [])) := hidI (((OwnsS.nil _ _).row (by omega)).wide (Nat.le_refl _) (Nat.le_refl _))
 have hgr0 : Hid (isGr r s [] = true) := hidI (isGr_iff2.2 ⟨by simp, by simp, by omega, by omega, by omega, by omega, by simp⟩)
 go_wp2
 go_loopg [4] n (fun gm i wr => ∃ (x : Option Addr) (m c : Nat) (es : List Ed), i = .int .i64 (gm : Int) ∧ es.length + gm ≤ 8 ∧ Hid (m = es.length) ∧ Hid (isGr r s es = true) ∧ Hid (wr.heap[w.heap.size]? = some (.cells #[.int .i64 0, .int .i64 0, .slice none 0 0] 26 (0, 0))) ∧ Hid (wr.heap[Bx]? = some (.cells #[.int .i64 r, .int .i64 s, .slice x m c] 26 (0, 0))) ∧ Hid (RowS 36 3 wr (Bx + 1) wr.heap.size (.slice x m c) m (flatE es)) ∧ Hid (Dr B g a len cap wr) ∧ Hid (w.grownBy wr (some g)) ∧ Bx < wr.heap.size)
 case atStart => exact ⟨none, 0, 0, [], rfl, by simpa using hn8, hidI rfl, hgr0, hkR, hkB, hrow0, hd5, hg, hs5⟩
 case round =>
  clear hrow0 hgr0 hkR hkB hd5 hg hs5 hn8
  obtain ⟨x, m, c, es, rfl, hlen, hm, hgr, hkR, hkB, hrow, hd, hg, hsr⟩ := hrel
  by_cases hk0 : 0 < gk
  · have hki : (0 : Int) < (gk : Int) := by omega
    obtain ⟨x0, x1, x2⟩ := cell3 hkB.out
    simp at x0 x1 x2
    obtain ⟨wd, hwd⟩ := exq wr.drew
    have hsd : wd.heap.size = wr.heap.size := by rw [hwd]; rfl
    have hszd : wr.heap.size ≤ wd.heap.size := by omega
    replace hsd := hidI hsd
    replace hkR : Hid (wd.heap[w.heap.size]? = some (.cells #[.int .i64 0, .int .i64 0, .slice none 0 0] 26 (0, 0))) := hidI (by rw [hwd]; exact hkR.out)
    replace hkB : Hid (wd.heap[Bx]? = some (.cells #[.int .i64 r, .int .i64 s, .slice x m c] 26 (0, 0))) := hidI (by rw [hwd]; exact hkB.out)
    replace hrow : Hid (RowS 36 3 wd (Bx + 1) wr.heap.size (.slice x m c) m (flatE es)) := hidI (by rw [hwd]; exact hrow.out)
    replace hd : Hid (Dr B g a len cap wd) := hidI (by rw [hwd]; exact hd.out)
    replace hg : Hid (w.grownBy wd (some g)) := hidI (by rw [hwd]; exact grown_trans hg.out (grown_drewN wr 1 (some g)))
    replace x0 : wd.cell? ⟨Bx, 0, none⟩ = some (.int .i64 r) := by rw [hwd]; exact x0
    replace x1 : wd.cell? ⟨Bx, 1, none⟩ = some (.int .i64 s) := by rw [hwd]; exact x1
    replace hwd := hidI hwd
    clear x2
    go_wp2
    refine hideQ (fun _ _ d _ _ h => by cases d <;> exact h) (fun Q' hnorm hpan => ?_)
    refine wp_region_held_drew (S := (fun z => z.cell? ⟨Bx, 0, none⟩ = some (.int .i64 r) ∧ z.cell? ⟨Bx, 1, none⟩ = some (.int .i64 s))) (by kernel_rfl) ?_ (fun hHeld => ?_)
    · try dsimp only
      rw [← hwd.out]
      ((repeat' apply And.intro) <;> assumption)
    rw [← hwd.out] at hHeld ⊢
    refine tk 0 19 ?_
    refine tk 1 20 ?_
    refine tk 2 21 ?_
    refine tk 4 23 ?_
    refine tk 5 24 ?_
    refine tk 6 25 ?_
    refine tk 9 28 ?_
    refine tk 10 29 ?_
    refine tk 11 30 ?_
    refine wpAnyH_ready (rs := [3, 14]) (by kernel_rfl) (by simp) ?_
    refine AllReadyH.cons rfl (fun K hK => ?_) ?_
    ·
     rw [if_pos (by rfl)]
     go_simp
     have hcc := below_in hd.out s s.toNat (by omega) (by omega) (by omega)
     refine hcc.mono ?_
     rintro e v0 ⟨f, ⟨fa, fb⟩, rfl, hgx, hdx⟩
     clear hcc
     have hq : ∀ k, k < wd.heap.size → k ≠ g → v0.heap[k]? = wd.heap[k]? := fun k hk hne => kept_block hgx hk (Ne.symm hne)
     have hsz0 := hgx.size
     replace hg := hidI (grown_trans hg.out hgx)
     replace hd := hidI hdx
     clear hgx hdx
     replace hkR := hidI ((hq _ (by omega) (by omega)).trans hkR.out)
     replace hkB := hidI ((hq _ (by omega) (by omega)).trans hkB.out)
     replace hrow := hidI (hrow.out.keep (fun k h1 h2 => hq k (by omega) (by omega)))
     replace x0 : v0.cell? ⟨Bx, 0, none⟩ = some (.int .i64 r) := by simpa using cell_of_heap hkB.out 0
     replace x1 : v0.cell? ⟨Bx, 1, none⟩ = some (.int .i64 s) := by simpa using cell_of_heap hkB.out 1
     clear hq
     refine hK.out _ _ ?_ (fun hHeld => ?_)
     · try dsimp only
       ((repeat' apply And.intro) <;> assumption)
     clear hK
     try simp only [Act.put, lyA, lyB, lyC]
     refine wpAnyH_ready (rs := [7, 14]) (by kernel_rfl) (by simp) ?_
     refine AllReadyH.cons rfl (fun K hK => ?_) ?_
     ·
      rw [if_pos (by rfl)]
      go_simp
      have hcc := below_in hd.out r r.toNat (by omega) (by omega) (by omega)
      refine hcc.mono ?_
      rintro e v1 ⟨l0, ⟨l0a, l0b⟩, rfl, hgx, hdx⟩
      clear hcc
      have hq : ∀ k, k < v0.heap.size → k ≠ g → v1.heap[k]? = v0.heap[k]? := fun k hk hne => kept_block hgx hk (Ne.symm hne)
      have hsz1 := hgx.size
      replace hg := hidI (grown_trans hg.out hgx)
      replace hd := hidI hdx
      clear hgx hdx
      replace hkR := hidI ((hq _ (by omega) (by omega)).trans hkR.out)
      replace hkB := hidI ((hq _ (by omega) (by omega)).trans hkB.out)
      replace hrow := hidI (hrow.out.keep (fun k h1 h2 => hq k (by omega) (by omega)))
      replace x0 : v1.cell? ⟨Bx, 0, none⟩ = some (.int .i64 r) := by simpa using cell_of_heap hkB.out 0
      replace x1 : v1.cell? ⟨Bx, 1, none⟩ = some (.int .i64 s) := by simpa using cell_of_heap hkB.out 1
      clear hq
      refine hK.out _ _ ?_ (fun hHeld => ?_)
      · try dsimp only
        ((repeat' apply And.intro) <;> assumption)
      clear hK
      try simp only [Act.put, lyA, lyB, lyC]
      refine tk 8 27 ?_
      refine wpAnyH_ready (rs := [12, 14]) (by kernel_rfl) (by simp) ?_
      refine AllReadyH.cons rfl (fun K hK => ?_) ?_
      ·
       rw [if_pos (by rfl)]
       go_simp
       have hcc := below_in hd.out s s.toNat (by omega) (by omega) (by omega)
       refine hcc.mono ?_
       rintro e v2 ⟨t, ⟨ta, tb⟩, rfl, hgx, hdx⟩
       clear hcc
       have hq : ∀ k, k < v1.heap.size → k ≠ g → v2.heap[k]? = v1.heap[k]? := fun k hk hne => kept_block hgx hk (Ne.symm hne)
       have hsz2 := hgx.size
       replace hg := hidI (grown_trans hg.out hgx)
       replace hd := hidI hdx
       clear hgx hdx
       replace hkR := hidI ((hq _ (by omega) (by omega)).trans hkR.out)
       replace hkB := hidI ((hq _ (by omega) (by omega)).trans hkB.out)
       replace hrow := hidI (hrow.out.keep (fun k h1 h2 => hq k (by omega) (by omega)))
       replace x0 : v2.cell? ⟨Bx, 0, none⟩ = some (.int .i64 r) := by simpa using cell_of_heap hkB.out 0
       replace x1 : v2.cell? ⟨Bx, 1, none⟩ = some (.int .i64 s) := by simpa using cell_of_heap hkB.out 1
       clear hq
       refine hK.out _ _ ?_ (fun hHeld => ?_)
       · try dsimp only
         ((repeat' apply And.intro) <;> assumption)
       clear hK
       try simp only [Act.put, lyA, lyB, lyC]
       refine tk 13 32 ?_
       refine rd 14 (fun K hK => ?_)
       rw [if_pos (by rfl)]
       go_simp
       obtain ⟨v3, hn3⟩ := exq (v2.alloc (.cells #[.int .i64 0, .int .i64 0, .int .i64 0] 36))
       have hq : ∀ k, k < v2.heap.size → k ≠ g → v3.heap[k]? = v2.heap[k]? := fun k hk _ => by rw [hn3]; exact heap_alloc_old _ _ hk
       have hltA : v2.heap.size < v3.heap.size := by rw [hn3]; simp
       have hsz3 := Nat.le_of_lt hltA
       have hE0 := heap_alloc_new v2 (.cells #[.int .i64 0, .int .i64 0, .int .i64 0] 36)
       have hdx := hd.out.alloc (.cells #[.int .i64 0, .int .i64 0, .int .i64 0] 36)
       have hgx := grown_trans hg.out (World.grownBy_alloc v2 (.cells #[.int .i64 0, .int .i64 0, .int .i64 0] 36) (some g))
       rw [← hn3] at hE0 hdx hgx ⊢
       replace hd := hidI hdx
       replace hg := hidI hgx
       replace hn3 := hidI hn3
       clear hdx hgx
       replace hkR := hidI ((hq _ (by omega) (by omega)).trans hkR.out)
       replace hkB := hidI ((hq _ (by omega) (by omega)).trans hkB.out)
       replace hrow := hidI (hrow.out.keep (fun k h1 h2 => hq k (by omega) (by omega)))
       replace x0 : v3.cell? ⟨Bx, 0, none⟩ = some (.int .i64 r) := by simpa using cell_of_heap hkB.out 0
       replace x1 : v3.cell? ⟨Bx, 1, none⟩ = some (.int .i64 s) := by simpa using cell_of_heap hkB.out 1
       have hE := hidI hE0
       clear hE0
       clear hq
       refine hK.out _ _ ?_ (fun hHeld => ?_)
       · try dsimp only
         ((repeat' apply And.intro) <;> assumption)
       clear hK
       try simp only [Act.put, lyA, lyB, lyC]
       refine rd 15 (fun K hK => ?_)
       rw [if_pos (by rfl)]
       have hwr : IntKind.i64.wrap (1 + l0) = 1 + l0 := IntWalk.i64_in _ (by omega)
       try simp only [hwr]
       obtain ⟨z0, z1, z2⟩ := cell3 hE.out
       have fz := fun j => frozen_of_row v3 v2.heap.size j _ _ hE.out
       simp at z0 z1 z2
       obtain ⟨ve, hne⟩ := exq (((v3.setCell ⟨v2.heap.size, 0, none⟩ (.int .i64 f)).setCell ⟨v2.heap.size, 1, none⟩ (.int .i64 (1 + l0))).setCell ⟨v2.heap.size, 2, none⟩ (.int .i64 t))
       have hbv : Below v2.heap.size v3 ve := by rw [hne]; exact (((Below.refl _ _).setCell (p := ⟨v2.heap.size, 0, none⟩) (by simp) _).setCell (p := ⟨v2.heap.size, 1, none⟩) (by simp) _).setCell (p := ⟨v2.heap.size, 2, none⟩) (by simp) _
       have hE2 : ve.heap[v2.heap.size]? = some (.cells #[.int .i64 f, .int .i64 (1 + l0), .int .i64 t] 36 (0, 0)) := by rw [hne]; exact set3 hE.out _ _ _
       replace hkR := hidI ((hbv.block _ (by omega)).trans hkR.out)
       replace hkB := hidI ((hbv.block _ (by omega)).trans hkB.out)
       replace hrow := hidI (hrow.out.keep (fun k h1 h2 => hbv.block k (by omega)))
       replace x0 : ve.cell? ⟨Bx, 0, none⟩ = some (.int .i64 r) := by simpa using cell_of_heap hkB.out 0
       replace x1 : ve.cell? ⟨Bx, 1, none⟩ = some (.int .i64 s) := by simpa using cell_of_heap hkB.out 1
       replace hd := hidI (hd.out.over hbv (by omega))
       replace hg := hidI (grown_below hg.out (hbv.mono (by omega)))
       have hszv : v3.heap.size ≤ ve.heap.size := hbv.size
       replace hne := hidI hne
       replace hE := hidI hE2
       clear hbv hE2
       go_simp
       rw [← hne.out]
       clear z0 z1 z2 fz
       refine hK.out _ _ ?_ (fun hHeld => ?_)
       · try dsimp only
         ((repeat' apply And.intro) <;> assumption)
       clear hK
       try simp only [Act.put, lyA, lyB, lyC]
       refine wpAnyH_done (by kernel_rfl) ?_ _
       refine hnorm _ _ ?_
       clear hnorm hpan
       repeat clear hHeld
       try simp only [Exit.then]
       have x2 : ve.cell? ⟨Bx, 2, none⟩ = some (.slice x m c) := by simpa using cell_of_heap hkB.out 2
       have y0 : ve.cell? ⟨v2.heap.size, 0, none⟩ = some (.int .i64 f) := by simpa using cell_of_heap hE.out 0
       have y1 : ve.cell? ⟨v2.heap.size, 1, none⟩ = some (.int .i64 (1 + l0)) := by simpa using cell_of_heap hE.out 1
       have y2 : ve.cell? ⟨v2.heap.size, 2, none⟩ = some (.int .i64 t) := by simpa using cell_of_heap hE.out 2
       have hrd : ReadE ve.heap.size ve (.slice x m c) es := by
        have := (hrow.out.wide (Nat.le_refl _) (show wr.heap.size ≤ ve.heap.size by omega)).read
        rw [hm.out] at this ⊢
        exact this
       have hcall := specAddE ve r s (.slice x m c) es f (1 + l0) t hrd (by omega) (by omega)
       have hlen2 := addE_length r s es (f, 1 + l0, t)
       have hgr2 := hidI (addE_isGr (e := (f, 1 + l0, t)) hgr.out)
       obtain ⟨R, hR⟩ := exq (addE r s es (f, 1 + l0, t))
       rw [← hR] at hcall hlen2 hgr2
       obtain ⟨bb, hbb⟩ := exq (addEb r s es (f, 1 + l0, t))
       rw [← hbb] at hcall
       replace hR := hidI hR
       replace hbb := hidI hbb
       clear hrd
       go_wp2_with fail
       refine hcall.mono ?_
       rintro e w6 ⟨a6, c6, rfl, hrow6, hb6⟩
       clear hcall x0 x1 x2 y0 y1 y2
       have hs6 := hb6.size
       replace hkR := hidI ((hb6.block _ (by omega)).trans hkR.out)
       replace hkB := hidI ((hb6.block _ (by omega)).trans hkB.out)
       replace hd := hidI (hd.out.over hb6 (by omega))
       replace hg := hidI (grown_below hg.out (hb6.mono (by omega)))
       obtain ⟨z0, z1, z2⟩ := cell3 hkB.out
       have fz := fun j => frozen_of_row w6 Bx j _ _ hkB.out
       simp at z0 z1 z2
       obtain ⟨n6, hn6⟩ := exq R.length
       rw [← hn6] at hrow6 ⊢
       obtain ⟨w7, hw7⟩ := exq (((w6.setCell ⟨Bx, 0, none⟩ (.int .i64 r)).setCell ⟨Bx, 1, none⟩ (.int .i64 s)).setCell ⟨Bx, 2, none⟩ (.slice a6 n6 c6))
       have hbv : Below Bx w6 w7 := by rw [hw7]; exact (((Below.refl _ _).setCell (p := ⟨Bx, 0, none⟩) (by simp) _).setCell (p := ⟨Bx, 1, none⟩) (by simp) _).setCell (p := ⟨Bx, 2, none⟩) (by simp) _
       have hkB7 : Hid (w7.heap[Bx]? = some (.cells #[.int .i64 r, .int .i64 s, .slice a6 n6 c6] 26 (0, 0))) := hidI (by rw [hw7]; exact set3 hkB.out _ _ _)
       have hrow7 : Hid (RowS 36 3 w7 (Bx + 1) w7.heap.size (.slice a6 n6 c6) n6 (flatE R)) := hidI ((hrow6.keep (fun k h1 h2 => by
        rw [hw7, Below.heap_setCell _ _ _ _ (show k ≠ Bx by omega), Below.heap_setCell _ _ _ _ (show k ≠ Bx by omega), Below.heap_setCell _ _ _ _ (show k ≠ Bx by omega)])).wide (by omega) hbv.size)
       have hkR7 := hidI ((hbv.block _ (by omega)).trans hkR.out)
       have hd7 := hidI (hd.out.over hbv (by omega))
       have hg7 := hidI (grown_below hg.out (hbv.mono (by omega)))
       have hs7 : Bx < w7.heap.size := by have := hbv.size; omega
       replace hw7 := hidI hw7
       replace hn6 := hidI hn6
       clear hbv hrow6 hkB hkR hd hg hrow
       go_wp2
       try rw [← hw7.out]
       go_roundg (gk - 1)
       case rel => exact ⟨a6, n6, c6, R, by go_num, by omega, hn6, hgr2, hkR7, hkB7, hrow7, hd7, hg7, hs7⟩
       case measure => omega
      refine AllReadyH.cons rfl (fun K hK => ?_) AllReadyH.nil
      rw [if_pos (by rfl)]
      go_simp
      obtain ⟨v2, hn2⟩ := exq (v1.alloc (.cells #[.int .i64 0, .int .i64 0, .int .i64 0] 36))
      have hq : ∀ k, k < v1.heap.size → k ≠ g → v2.heap[k]? = v1.heap[k]? := fun k hk _ => by rw [hn2]; exact heap_alloc_old _ _ hk
      have hltA : v1.heap.size < v2.heap.size := by rw [hn2]; simp
      have hsz2 := Nat.le_of_lt hltA
      have hE0 := heap_alloc_new v1 (.cells #[.int .i64 0, .int .i64 0, .int .i64 0] 36)
      have hdx := hd.out.alloc (.cells #[.int .i64 0, .int .i64 0, .int .i64 0] 36)
      have hgx := grown_trans hg.out (World.grownBy_alloc v1 (.cells #[.int .i64 0, .int .i64 0, .int .i64 0] 36) (some g))
      rw [← hn2] at hE0 hdx hgx ⊢
      replace hd := hidI hdx
      replace hg := hidI hgx
      replace hn2 := hidI hn2
      clear hdx hgx
      replace hkR := hidI ((hq _ (by omega) (by omega)).trans hkR.out)
      replace hkB := hidI ((hq _ (by omega) (by omega)).trans hkB.out)
      replace hrow := hidI (hrow.out.keep (fun k h1 h2 => hq k (by omega) (by omega)))
      replace x0 : v2.cell? ⟨Bx, 0, none⟩ = some (.int .i64 r) := by simpa using cell_of_heap hkB.out 0
      replace x1 : v2.cell? ⟨Bx, 1, none⟩ = some (.int .i64 s) := by simpa using cell_of_heap hkB.out 1
      have hE := hidI hE0
      clear hE0
      clear hq
      refine hK.out _ _ ?_ (fun hHeld => ?_)
      · try dsimp only
        ((repeat' apply And.intro) <;> assumption)
      clear hK
      try simp only [Act.put, lyA, lyB, lyC]
      refine rd 12 (fun K hK => ?_)
      rw [if_pos (by rfl)]
      go_simp
      have hcc := below_in hd.out s s.toNat (by omega) (by omega) (by omega)
      refine hcc.mono ?_
      rintro e v3 ⟨t, ⟨ta, tb⟩, rfl, hgx, hdx⟩
      clear hcc
      have hq : ∀ k, k < v2.heap.size → k ≠ g → v3.heap[k]? = v2.heap[k]? := fun k hk hne => kept_block hgx hk (Ne.symm hne)
      have hsz3 := hgx.size
      replace hg := hidI (grown_trans hg.out hgx)
      replace hd := hidI hdx
      clear hgx hdx
      replace hkR := hidI ((hq _ (by omega) (by omega)).trans hkR.out)
      replace hkB := hidI ((hq _ (by omega) (by omega)).trans hkB.out)
      replace hrow := hidI (hrow.out.keep (fun k h1 h2 => hq k (by omega) (by omega)))
      replace x0 : v3.cell? ⟨Bx, 0, none⟩ = some (.int .i64 r) := by simpa using cell_of_heap hkB.out 0
      replace x1 : v3.cell? ⟨Bx, 1, none⟩ = some (.int .i64 s) := by simpa using cell_of_heap hkB.out 1
      replace hE := hidI ((hq _ (by omega) (by omega)).trans hE.out)
      clear hq
      refine hK.out _ _ ?_ (fun hHeld => ?_)
      · try dsimp only
        ((repeat' apply And.intro) <;> assumption)
      clear hK
      try simp only [Act.put, lyA, lyB, lyC]
      refine tk 13 32 ?_
      refine rd 15 (fun K hK => ?_)
      rw [if_pos (by rfl)]
      have hwr : IntKind.i64.wrap (1 + l0) = 1 + l0 := IntWalk.i64_in _ (by omega)
      try simp only [hwr]
      obtain ⟨z0, z1, z2⟩ := cell3 hE.out
      have fz := fun j => frozen_of_row v3 v1.heap.size j _ _ hE.out
      simp at z0 z1 z2
      obtain ⟨ve, hne⟩ := exq (((v3.setCell ⟨v1.heap.size, 0, none⟩ (.int .i64 f)).setCell ⟨v1.heap.size, 1, none⟩ (.int .i64 (1 + l0))).setCell ⟨v1.heap.size, 2, none⟩ (.int .i64 t))
      have hbv : Below v1.heap.size v3 ve := by rw [hne]; exact (((Below.refl _ _).setCell (p := ⟨v1.heap.size, 0, none⟩) (by simp) _).setCell (p := ⟨v1.heap.size, 1, none⟩) (by simp) _).setCell (p := ⟨v1.heap.size, 2, none⟩) (by simp) _
      have hE2 : ve.heap[v1.heap.size]? = some (.cells #[.int .i64 f, .int .i64 (1 + l0), .int .i64 t] 36 (0, 0)) := by rw [hne]; exact set3 hE.out _ _ _
      replace hkR := hidI ((hbv.block _ (by omega)).trans hkR.out)
      replace hkB := hidI ((hbv.block _ (by omega)).trans hkB.out)
      replace hrow := hidI (hrow.out.keep (fun k h1 h2 => hbv.block k (by omega)))
      replace x0 : ve.cell? ⟨Bx, 0, none⟩ = some (.int .i64 r) := by simpa using cell_of_heap hkB.out 0
      replace x1 : ve.cell? ⟨Bx, 1, none⟩ = some (.int .i64 s) := by simpa using cell_of_heap hkB.out 1
      replace hd := hidI (hd.out.over hbv (by omega))
      replace hg := hidI (grown_below hg.out (hbv.mono (by omega)))
      have hszv : v3.heap.size ≤ ve.heap.size := hbv.size
      replace hne := hidI hne
      replace hE := hidI hE2
      clear hbv hE2
      go_simp
      rw [← hne.out]
      clear z0 z1 z2 fz
      refine hK.out _ _ ?_ (fun hHeld => ?_)
      · try dsimp only
        ((repeat' apply And.intro) <;> assumption)
      clear hK
      try simp only [Act.put, lyA, lyB, lyC]
      refine wpAnyH_done (by kernel_rfl) ?_ _
      refine hnorm _ _ ?_
      clear hnorm hpan
      repeat clear hHeld
      try simp only [Exit.then]
      have x2 : ve.cell? ⟨Bx, 2, none⟩ = some (.slice x m c) := by simpa using cell_of_heap hkB.out 2
      have y0 : ve.cell? ⟨v1.heap.size, 0, none⟩ = some (.int .i64 f) := by simpa using cell_of_heap hE.out 0
      have y1 : ve.cell? ⟨v1.heap.size, 1, none⟩ = some (.int .i64 (1 + l0)) := by simpa using cell_of_heap hE.out 1
      have y2 : ve.cell? ⟨v1.heap.size, 2, none⟩ = some (.int .i64 t) := by simpa using cell_of_heap hE.out 2
      have hrd : ReadE ve.heap.size ve (.slice x m c) es := by
       have := (hrow.out.wide (Nat.le_refl _) (show wr.heap.size ≤ ve.heap.size by omega)).read
       rw [hm.out] at this ⊢
       exact this
      have hcall := specAddE ve r s (.slice x m c) es f (1 + l0) t hrd (by omega) (by omega)
      have hlen2 := addE_length r s es (f, 1 + l0, t)
      have hgr2 := hidI (addE_isGr (e := (f, 1 + l0, t)) hgr.out)
      obtain ⟨R, hR⟩ := exq (addE r s es (f, 1 + l0, t))
      rw [← hR] at hcall hlen2 hgr2
      obtain ⟨bb, hbb⟩ := exq (addEb r s es (f, 1 + l0, t))
      rw [← hbb] at hcall
      replace hR := hidI hR
      replace hbb := hidI hbb
      clear hrd
      go_wp2_with fail
      refine hcall.mono ?_
      rintro e w6 ⟨a6, c6, rfl, hrow6, hb6⟩
      clear hcall x0 x1 x2 y0 y1 y2
      have hs6 := hb6.size
      replace hkR := hidI ((hb6.block _ (by omega)).trans hkR.out)
      replace hkB := hidI ((hb6.block _ (by omega)).trans hkB.out)
      replace hd := hidI (hd.out.over hb6 (by omega))
      replace hg := hidI (grown_below hg.out (hb6.mono (by omega)))
      obtain ⟨z0, z1, z2⟩ := cell3 hkB.out
      have fz := fun j => frozen_of_row w6 Bx j _ _ hkB.out
      simp at z0 z1 z2
      obtain ⟨n6, hn6⟩ := exq R.length
      rw [← hn6] at hrow6 ⊢
      obtain ⟨w7, hw7⟩ := exq (((w6.setCell ⟨Bx, 0, none⟩ (.int .i64 r)).setCell ⟨Bx, 1, none⟩ (.int .i64 s)).setCell ⟨Bx, 2, none⟩ (.slice a6 n6 c6))
      have hbv : Below Bx w6 w7 := by rw [hw7]; exact (((Below.refl _ _).setCell (p := ⟨Bx, 0, none⟩) (by simp) _).setCell (p := ⟨Bx, 1, none⟩) (by simp) _).setCell (p := ⟨Bx, 2, none⟩) (by simp) _
      have hkB7 : Hid (w7.heap[Bx]? = some (.cells #[.int .i64 r, .int .i64 s, .slice a6 n6 c6] 26 (0, 0))) := hidI (by rw [hw7]; exact set3 hkB.out _ _ _)
      have hrow7 : Hid (RowS 36 3 w7 (Bx + 1) w7.heap.size (.slice a6 n6 c6) n6 (flatE R)) := hidI ((hrow6.keep (fun k h1 h2 => by
       rw [hw7, Below.heap_setCell _ _ _ _ (show k ≠ Bx by omega), Below.heap_setCell _ _ _ _ (show k ≠ Bx by omega), Below.heap_setCell _ _ _ _ (show k ≠ Bx by omega)])).wide (by omega) hbv.size)
      have hkR7 := hidI ((hbv.block _ (by omega)).trans hkR.out)
      have hd7 := hidI (hd.out.over hbv (by omega))
      have hg7 := hidI (grown_below hg.out (hbv.mono (by omega)))
      have hs7 : Bx < w7.heap.size := by have := hbv.size; omega
      replace hw7 := hidI hw7
      replace hn6 := hidI hn6
      clear hbv hrow6 hkB hkR hd hg hrow
      go_wp2
      try rw [← hw7.out]
      go_roundg (gk - 1)
      case rel => exact ⟨a6, n6, c6, R, by go_num, by omega, hn6, hgr2, hkR7, hkB7, hrow7, hd7, hg7, hs7⟩
      case measure => omega
     refine AllReadyH.cons rfl (fun K hK => ?_) AllReadyH.nil
     rw [if_pos (by rfl)]
     go_simp
     obtain ⟨v1, hn1⟩ := exq (v0.alloc (.cells #[.int .i64 0, .int .i64 0, .int .i64 0] 36))
     have hq : ∀ k, k < v0.heap.size → k ≠ g → v1.heap[k]? = v0.heap[k]? := fun k hk _ => by rw [hn1]; exact heap_alloc_old _ _ hk
     have hltA : v0.heap.size < v1.heap.size := by rw [hn1]; simp
     have hsz1 := Nat.le_of_lt hltA
     have hE0 := heap_alloc_new v0 (.cells #[.int .i64 0, .int .i64 0, .int .i64 0] 36)
     have hdx := hd.out.alloc (.cells #[.int .i64 0, .int .i64 0, .int .i64 0] 36)
     have hgx := grown_trans hg.out (World.grownBy_alloc v0 (.cells #[.int .i64 0, .int .i64 0, .int .i64 0] 36) (some g))
     rw [← hn1] at hE0 hdx hgx ⊢
     replace hd := hidI hdx
     replace hg := hidI hgx
     replace hn1 := hidI hn1
     clear hdx hgx
     replace hkR := hidI ((hq _ (by omega) (by omega)).trans hkR.out)
     replace hkB := hidI ((hq _ (by omega) (by omega)).trans hkB.out)
     replace hrow := hidI (hrow.out.keep (fun k h1 h2 => hq k (by omega) (by omega)))
     replace x0 : v1.cell? ⟨Bx, 0, none⟩ = some (.int .i64 r) := by simpa using cell_of_heap hkB.out 0
     replace x1 : v1.cell? ⟨Bx, 1, none⟩ = some (.int .i64 s) := by simpa using cell_of_heap hkB.out 1
     have hE := hidI hE0
     clear hE0
     clear hq
     refine hK.out _ _ ?_ (fun hHeld => ?_)
     · try dsimp only
       ((repeat' apply And.intro) <;> assumption)
     clear hK
     try simp only [Act.put, lyA, lyB, lyC]
     refine rd 7 (fun K hK => ?_)
     rw [if_pos (by rfl)]
     go_simp
     have hcc := below_in hd.out r r.toNat (by omega) (by omega) (by omega)
     refine hcc.mono ?_
     rintro e v2 ⟨l0, ⟨l0a, l0b⟩, rfl, hgx, hdx⟩
     clear hcc
     have hq : ∀ k, k < v1.heap.size → k ≠ g → v2.heap[k]? = v1.heap[k]? := fun k hk hne => kept_block hgx hk (Ne.symm hne)
     have hsz2 := hgx.size
     replace hg := hidI (grown_trans hg.out hgx)
     replace hd := hidI hdx
     clear hgx hdx
     replace hkR := hidI ((hq _ (by omega) (by omega)).trans hkR.out)
     replace hkB := hidI ((hq _ (by omega) (by omega)).trans hkB.out)
     replace hrow := hidI (hrow.out.keep (fun k h1 h2 => hq k (by omega) (by omega)))
     replace x0 : v2.cell? ⟨Bx, 0, none⟩ = some (.int .i64 r) := by simpa using cell_of_heap hkB.out 0
     replace x1 : v2.cell? ⟨Bx, 1, none⟩ = some (.int .i64 s) := by simpa using cell_of_heap hkB.out 1
     replace hE := hidI ((hq _ (by omega) (by omega)).trans hE.out)
     clear hq
     refine hK.out _ _ ?_ (fun hHeld => ?_)
     · try dsimp only
       ((repeat' apply And.intro) <;> assumption)
     clear hK
     try simp only [Act.put, lyA, lyB, lyC]
     refine tk 8 27 ?_
     refine rd 12 (fun K hK => ?_)
     rw [if_pos (by rfl)]
     go_simp
     have hcc := below_in hd.out s s.toNat (by omega) (by omega) (by omega)
     refine hcc.mono ?_
     rintro e v3 ⟨t, ⟨ta, tb⟩, rfl, hgx, hdx⟩
     clear hcc
     have hq : ∀ k, k < v2.heap.size → k ≠ g → v3.heap[k]? = v2.heap[k]? := fun k hk hne => kept_block hgx hk (Ne.symm hne)
     have hsz3 := hgx.size
     replace hg := hidI (grown_trans hg.out hgx)
     replace hd := hidI hdx
     clear hgx hdx
     replace hkR := hidI ((hq _ (by omega) (by omega)).trans hkR.out)
     replace hkB := hidI ((hq _ (by omega) (by omega)).trans hkB.out)
     replace hrow := hidI (hrow.out.keep (fun k h1 h2 => hq k (by omega) (by omega)))
     replace x0 : v3.cell? ⟨Bx, 0, none⟩ = some (.int .i64 r) := by simpa using cell_of_heap hkB.out 0
     replace x1 : v3.cell? ⟨Bx, 1, none⟩ = some (.int .i64 s) := by simpa using cell_of_heap hkB.out 1
     replace hE := hidI ((hq _ (by omega) (by omega)).trans hE.out)
     clear hq
     refine hK.out _ _ ?_ (fun hHeld => ?_)
     · try dsimp only
       ((repeat' apply And.intro) <;> assumption)
     clear hK
     try simp only [Act.put, lyA, lyB, lyC]
     refine tk 13 32 ?_
     refine rd 15 (fun K hK => ?_)
     rw [if_pos (by rfl)]
     have hwr : IntKind.i64.wrap (1 + l0) = 1 + l0 := IntWalk.i64_in _ (by omega)
     try simp only [hwr]
     obtain ⟨z0, z1, z2⟩ := cell3 hE.out
     have fz := fun j => frozen_of_row v3 v0.heap.size j _ _ hE.out
     simp at z0 z1 z2
     obtain ⟨ve, hne⟩ := exq (((v3.setCell ⟨v0.heap.size, 0, none⟩ (.int .i64 f)).setCell ⟨v0.heap.size, 1, none⟩ (.int .i64 (1 + l0))).setCell ⟨v0.heap.size, 2, none⟩ (.int .i64 t))
     have hbv : Below v0.heap.size v3 ve := by rw [hne]; exact (((Below.refl _ _).setCell (p := ⟨v0.heap.size, 0, none⟩) (by simp) _).setCell (p := ⟨v0.heap.size, 1, none⟩) (by simp) _).setCell (p := ⟨v0.heap.size, 2, none⟩) (by simp) _
     have hE2 : ve.heap[v0.heap.size]? = some (.cells #[.int .i64 f, .int .i64 (1 + l0), .int .i64 t] 36 (0, 0)) := by rw [hne]; exact set3 hE.out _ _ _
     replace hkR := hidI ((hbv.block _ (by omega)).trans hkR.out)
     replace hkB := hidI ((hbv.block _ (by omega)).trans hkB.out)
     replace hrow := hidI (hrow.out.keep (fun k h1 h2 => hbv.block k (by omega)))
     replace x0 : ve.cell? ⟨Bx, 0, none⟩ = some (.int .i64 r) := by simpa using cell_of_heap hkB.out 0
     replace x1 : ve.cell? ⟨Bx, 1, none⟩ = some (.int .i64 s) := by simpa using cell_of_heap hkB.out 1
     replace hd := hidI (hd.out.over hbv (by omega))
     replace hg := hidI (grown_below hg.out (hbv.mono (by omega)))
     have hszv : v3.heap.size ≤ ve.heap.size := hbv.size
     replace hne := hidI hne
     replace hE := hidI hE2
     clear hbv hE2
     go_simp
     rw [← hne.out]
     clear z0 z1 z2 fz
     refine hK.out _ _ ?_ (fun hHeld => ?_)
     · try dsimp only
       ((repeat' apply And.intro) <;> assumption)
     clear hK
     try simp only [Act.put, lyA, lyB, lyC]
     refine wpAnyH_done (by kernel_rfl) ?_ _
     refine hnorm _ _ ?_
     clear hnorm hpan
     repeat clear hHeld
     try simp only [Exit.then]
     have x2 : ve.cell? ⟨Bx, 2, none⟩ = some (.slice x m c) := by simpa using cell_of_heap hkB.out 2
     have y0 : ve.cell? ⟨v0.heap.size, 0, none⟩ = some (.int .i64 f) := by simpa using cell_of_heap hE.out 0
     have y1 : ve.cell? ⟨v0.heap.size, 1, none⟩ = some (.int .i64 (1 + l0)) := by simpa using cell_of_heap hE.out 1
     have y2 : ve.cell? ⟨v0.heap.size, 2, none⟩ = some (.int .i64 t) := by simpa using cell_of_heap hE.out 2
     have hrd : ReadE ve.heap.size ve (.slice x m c) es := by
      have := (hrow.out.wide (Nat.le_refl _) (show wr.heap.size ≤ ve.heap.size by omega)).read
      rw [hm.out] at this ⊢
      exact this
     have hcall := specAddE ve r s (.slice x m c) es f (1 + l0) t hrd (by omega) (by omega)
     have hlen2 := addE_length r s es (f, 1 + l0, t)
     have hgr2 := hidI (addE_isGr (e := (f, 1 + l0, t)) hgr.out)
     obtain ⟨R, hR⟩ := exq (addE r s es (f, 1 + l0, t))
     rw [← hR] at hcall hlen2 hgr2
     obtain ⟨bb, hbb⟩ := exq (addEb r s es (f, 1 + l0, t))
     rw [← hbb] at hcall
     replace hR := hidI hR
     replace hbb := hidI hbb
     clear hrd
     go_wp2_with fail
     refine hcall.mono ?_
     rintro e w6 ⟨a6, c6, rfl, hrow6, hb6⟩
     clear hcall x0 x1 x2 y0 y1 y2
     have hs6 := hb6.size
     replace hkR := hidI ((hb6.block _ (by omega)).trans hkR.out)
     replace hkB := hidI ((hb6.block _ (by omega)).trans hkB.out)
     replace hd := hidI (hd.out.over hb6 (by omega))
     replace hg := hidI (grown_below hg.out (hb6.mono (by omega)))
     obtain ⟨z0, z1, z2⟩ := cell3 hkB.out
     have fz := fun j => frozen_of_row w6 Bx j _ _ hkB.out
     simp at z0 z1 z2
     obtain ⟨n6, hn6⟩ := exq R.length
     rw [← hn6] at hrow6 ⊢
     obtain ⟨w7, hw7⟩ := exq (((w6.setCell ⟨Bx, 0, none⟩ (.int .i64 r)).setCell ⟨Bx, 1, none⟩ (.int .i64 s)).setCell ⟨Bx, 2, none⟩ (.slice a6 n6 c6))
     have hbv : Below Bx w6 w7 := by rw [hw7]; exact (((Below.refl _ _).setCell (p := ⟨Bx, 0, none⟩) (by simp) _).setCell (p := ⟨Bx, 1, none⟩) (by simp) _).setCell (p := ⟨Bx, 2, none⟩) (by simp) _
     have hkB7 : Hid (w7.heap[Bx]? = some (.cells #[.int .i64 r, .int .i64 s, .slice a6 n6 c6] 26 (0, 0))) := hidI (by rw [hw7]; exact set3 hkB.out _ _ _)
     have hrow7 : Hid (RowS 36 3 w7 (Bx + 1) w7.heap.size (.slice a6 n6 c6) n6 (flatE R)) := hidI ((hrow6.keep (fun k h1 h2 => by
      rw [hw7, Below.heap_setCell _ _ _ _ (show k ≠ Bx by omega), Below.heap_setCell _ _ _ _ (show k ≠ Bx by omega), Below.heap_setCell _ _ _ _ (show k ≠ Bx by omega)])).wide (by omega) hbv.size)
     have hkR7 := hidI ((hbv.block _ (by omega)).trans hkR.out)
     have hd7 := hidI (hd.out.over hbv (by omega))
     have hg7 := hidI (grown_below hg.out (hbv.mono (by omega)))
     have hs7 : Bx < w7.heap.size := by have := hbv.size; omega
     replace hw7 := hidI hw7
     replace hn6 := hidI hn6
     clear hbv hrow6 hkB hkR hd hg hrow
     go_wp2
     try rw [← hw7.out]
     go_roundg (gk - 1)
     case rel => exact ⟨a6, n6, c6, R, by go_num, by omega, hn6, hgr2, hkR7, hkB7, hrow7, hd7, hg7, hs7⟩
     case measure => omega
    refine AllReadyH.cons rfl (fun K hK => ?_) AllReadyH.nil
    rw [if_pos (by rfl)]
    go_simp
    obtain ⟨v0, hn0⟩ := exq (wd.alloc (.cells #[.int .i64 0, .int .i64 0, .int .i64 0] 36))
    have hq : ∀ k, k < wd.heap.size → k ≠ g → v0.heap[k]? = wd.heap[k]? := fun k hk _ => by rw [hn0]; exact heap_alloc_old _ _ hk
    have hltA : wd.heap.size < v0.heap.size := by rw [hn0]; simp
    have hsz0 := Nat.le_of_lt hltA
    have hE0 := heap_alloc_new wd (.cells #[.int .i64 0, .int .i64 0, .int .i64 0] 36)
    have hdx := hd.out.alloc (.cells #[.int .i64 0, .int .i64 0, .int .i64 0] 36)
    have hgx := grown_trans hg.out (World.grownBy_alloc wd (.cells #[.int .i64 0, .int .i64 0, .int .i64 0] 36) (some g))
    rw [← hn0] at hE0 hdx hgx ⊢
    replace hd := hidI hdx
    replace hg := hidI hgx
    replace hn0 := hidI hn0
    clear hdx hgx
    replace hkR := hidI ((hq _ (by omega) (by omega)).trans hkR.out)
    replace hkB := hidI ((hq _ (by omega) (by omega)).trans hkB.out)
    replace hrow := hidI (hrow.out.keep (fun k h1 h2 => hq k (by omega) (by omega)))
    replace x0 : v0.cell? ⟨Bx, 0, none⟩ = some (.int .i64 r) := by simpa using cell_of_heap hkB.out 0
    replace x1 : v0.cell? ⟨Bx, 1, none⟩ = some (.int .i64 s) := by simpa using cell_of_heap hkB.out 1
    have hE := hidI hE0
    clear hE0
    clear hq
    refine hK.out _ _ ?_ (fun hHeld => ?_)
    · try dsimp only
      ((repeat' apply And.intro) <;> assumption)
    clear hK
    try simp only [Act.put, lyA, lyB, lyC]
    refine rd 3 (fun K hK => ?_)
    rw [if_pos (by rfl)]
    go_simp
    have hcc := below_in hd.out s s.toNat (by omega) (by omega) (by omega)
    refine hcc.mono ?_
    rintro e v1 ⟨f, ⟨fa, fb⟩, rfl, hgx, hdx⟩
    clear hcc
    have hq : ∀ k, k < v0.heap.size → k ≠ g → v1.heap[k]? = v0.heap[k]? := fun k hk hne => kept_block hgx hk (Ne.symm hne)
    have hsz1 := hgx.size
    replace hg := hidI (grown_trans hg.out hgx)
    replace hd := hidI hdx
    clear hgx hdx
    replace hkR := hidI ((hq _ (by omega) (by omega)).trans hkR.out)
    replace hkB := hidI ((hq _ (by omega) (by omega)).trans hkB.out)
    replace hrow := hidI (hrow.out.keep (fun k h1 h2 => hq k (by omega) (by omega)))
    replace x0 : v1.cell? ⟨Bx, 0, none⟩ = some (.int .i64 r) := by simpa using cell_of_heap hkB.out 0
    replace x1 : v1.cell? ⟨Bx, 1, none⟩ = some (.int .i64 s) := by simpa using cell_of_heap hkB.out 1
    replace hE := hidI ((hq _ (by omega) (by omega)).trans hE.out)
    clear hq
    refine hK.out _ _ ?_ (fun hHeld => ?_)
    · try dsimp only
      ((repeat' apply And.intro) <;> assumption)
    clear hK
    try simp only [Act.put, lyA, lyB, lyC]
    refine rd 7 (fun K hK => ?_)
    rw [if_pos (by rfl)]
    go_simp
    have hcc := below_in hd.out r r.toNat (by omega) (by omega) (by omega)
    refine hcc.mono ?_
    rintro e v2 ⟨l0, ⟨l0a, l0b⟩, rfl, hgx, hdx⟩
    clear hcc
    have hq : ∀ k, k < v1.heap.size → k ≠ g → v2.heap[k]? = v1.heap[k]? := fun k hk hne => kept_block hgx hk (Ne.symm hne)
    have hsz2 := hgx.size
    replace hg := hidI (grown_trans hg.out hgx)
    replace hd := hidI hdx
    clear hgx hdx
    replace hkR := hidI ((hq _ (by omega) (by omega)).trans hkR.out)
    replace hkB := hidI ((hq _ (by omega) (by omega)).trans hkB.out)
    replace hrow := hidI (hrow.out.keep (fun k h1 h2 => hq k (by omega) (by omega)))
    replace x0 : v2.cell? ⟨Bx, 0, none⟩ = some (.int .i64 r) := by simpa using cell_of_heap hkB.out 0
    replace x1 : v2.cell? ⟨Bx, 1, none⟩ = some (.int .i64 s) := by simpa using cell_of_heap hkB.out 1
    replace hE := hidI ((hq _ (by omega) (by omega)).trans hE.out)
    clear hq
    refine hK.out _ _ ?_ (fun hHeld => ?_)
    · try dsimp only
      ((repeat' apply And.intro) <;> assumption)
    clear hK
    try simp only [Act.put, lyA, lyB, lyC]
    refine tk 8 27 ?_
    refine rd 12 (fun K hK => ?_)
    rw [if_pos (by rfl)]
    go_simp
    have hcc := below_in hd.out s s.toNat (by omega) (by omega) (by omega)
    refine hcc.mono ?_
    rintro e v3 ⟨t, ⟨ta, tb⟩, rfl, hgx, hdx⟩
    clear hcc
    have hq : ∀ k, k < v2.heap.size → k ≠ g → v3.heap[k]? = v2.heap[k]? := fun k hk hne => kept_block hgx hk (Ne.symm hne)
    have hsz3 := hgx.size
    replace hg := hidI (grown_trans hg.out hgx)
    replace hd := hidI hdx
    clear hgx hdx
    replace hkR := hidI ((hq _ (by omega) (by omega)).trans hkR.out)
    replace hkB := hidI ((hq _ (by omega) (by omega)).trans hkB.out)
    replace hrow := hidI (hrow.out.keep (fun k h1 h2 => hq k (by omega) (by omega)))
    replace x0 : v3.cell? ⟨Bx, 0, none⟩ = some (.int .i64 r) := by simpa using cell_of_heap hkB.out 0
    replace x1 : v3.cell? ⟨Bx, 1, none⟩ = some (.int .i64 s) := by simpa using cell_of_heap hkB.out 1
    replace hE := hidI ((hq _ (by omega) (by omega)).trans hE.out)
    clear hq
    refine hK.out _ _ ?_ (fun hHeld => ?_)
    · try dsimp only
      ((repeat' apply And.intro) <;> assumption)
    clear hK
    try simp only [Act.put, lyA, lyB, lyC]
    refine tk 13 32 ?_
    refine rd 15 (fun K hK => ?_)
    rw [if_pos (by rfl)]
    have hwr : IntKind.i64.wrap (1 + l0) = 1 + l0 := IntWalk.i64_in _ (by omega)
    try simp only [hwr]
    obtain ⟨z0, z1, z2⟩ := cell3 hE.out
    have fz := fun j => frozen_of_row v3 wd.heap.size j _ _ hE.out
    simp at z0 z1 z2
    obtain ⟨ve, hne⟩ := exq (((v3.setCell ⟨wd.heap.size, 0, none⟩ (.int .i64 f)).setCell ⟨wd.heap.size, 1, none⟩ (.int .i64 (1 + l0))).setCell ⟨wd.heap.size, 2, none⟩ (.int .i64 t))
    have hbv : Below wd.heap.size v3 ve := by rw [hne]; exact (((Below.refl _ _).setCell (p := ⟨wd.heap.size, 0, none⟩) (by simp) _).setCell (p := ⟨wd.heap.size, 1, none⟩) (by simp) _).setCell (p := ⟨wd.heap.size, 2, none⟩) (by simp) _
    have hE2 : ve.heap[wd.heap.size]? = some (.cells #[.int .i64 f, .int .i64 (1 + l0), .int .i64 t] 36 (0, 0)) := by rw [hne]; exact set3 hE.out _ _ _
    replace hkR := hidI ((hbv.block _ (by omega)).trans hkR.out)
    replace hkB := hidI ((hbv.block _ (by omega)).trans hkB.out)
    replace hrow := hidI (hrow.out.keep (fun k h1 h2 => hbv.block k (by omega)))
    replace x0 : ve.cell? ⟨Bx, 0, none⟩ = some (.int .i64 r) := by simpa using cell_of_heap hkB.out 0
    replace x1 : ve.cell? ⟨Bx, 1, none⟩ = some (.int .i64 s) := by simpa using cell_of_heap hkB.out 1
    replace hd := hidI (hd.out.over hbv (by omega))
    replace hg := hidI (grown_below hg.out (hbv.mono (by omega)))
    have hszv : v3.heap.size ≤ ve.heap.size := hbv.size
    replace hne := hidI hne
    replace hE := hidI hE2
    clear hbv hE2
    go_simp
    rw [← hne.out]
    clear z0 z1 z2 fz
    refine hK.out _ _ ?_ (fun hHeld => ?_)
    · try dsimp only
      ((repeat' apply And.intro) <;> assumption)
    clear hK
    try simp only [Act.put, lyA, lyB, lyC]
    refine wpAnyH_done (by kernel_rfl) ?_ _
    refine hnorm _ _ ?_
    clear hnorm hpan
    repeat clear hHeld
    try simp only [Exit.then]
    have x2 : ve.cell? ⟨Bx, 2, none⟩ = some (.slice x m c) := by simpa using cell_of_heap hkB.out 2
    have y0 : ve.cell? ⟨wd.heap.size, 0, none⟩ = some (.int .i64 f) := by simpa using cell_of_heap hE.out 0
    have y1 : ve.cell? ⟨wd.heap.size, 1, none⟩ = some (.int .i64 (1 + l0)) := by simpa using cell_of_heap hE.out 1
    have y2 : ve.cell? ⟨wd.heap.size, 2, none⟩ = some (.int .i64 t) := by simpa using cell_of_heap hE.out 2
    have hrd : ReadE ve.heap.size ve (.slice x m c) es := by
     have := (hrow.out.wide (Nat.le_refl _) (show wr.heap.size ≤ ve.heap.size by omega)).read
     rw [hm.out] at this ⊢
     exact this
    have hcall := specAddE ve r s (.slice x m c) es f (1 + l0) t hrd (by omega) (by omega)
    have hlen2 := addE_length r s es (f, 1 + l0, t)
    have hgr2 := hidI (addE_isGr (e := (f, 1 + l0, t)) hgr.out)
    obtain ⟨R, hR⟩ := exq (addE r s es (f, 1 + l0, t))
    rw [← hR] at hcall hlen2 hgr2
    obtain ⟨bb, hbb⟩ := exq (addEb r s es (f, 1 + l0, t))
    rw [← hbb] at hcall
    replace hR := hidI hR
    replace hbb := hidI hbb
    clear hrd
    go_wp2_with fail
    refine hcall.mono ?_
    rintro e w6 ⟨a6, c6, rfl, hrow6, hb6⟩
    clear hcall x0 x1 x2 y0 y1 y2
    have hs6 := hb6.size
    replace hkR := hidI ((hb6.block _ (by omega)).trans hkR.out)
    replace hkB := hidI ((hb6.block _ (by omega)).trans hkB.out)
    replace hd := hidI (hd.out.over hb6 (by omega))
    replace hg := hidI (grown_below hg.out (hb6.mono (by omega)))
    obtain ⟨z0, z1, z2⟩ := cell3 hkB.out
    have fz := fun j => frozen_of_row w6 Bx j _ _ hkB.out
    simp at z0 z1 z2
    obtain ⟨n6, hn6⟩ := exq R.length
    rw [← hn6] at hrow6 ⊢
    obtain ⟨w7, hw7⟩ := exq (((w6.setCell ⟨Bx, 0, none⟩ (.int .i64 r)).setCell ⟨Bx, 1, none⟩ (.int .i64 s)).setCell ⟨Bx, 2, none⟩ (.slice a6 n6 c6))
    have hbv : Below Bx w6 w7 := by rw [hw7]; exact (((Below.refl _ _).setCell (p := ⟨Bx, 0, none⟩) (by simp) _).setCell (p := ⟨Bx, 1, none⟩) (by simp) _).setCell (p := ⟨Bx, 2, none⟩) (by simp) _
    have hkB7 : Hid (w7.heap[Bx]? = some (.cells #[.int .i64 r, .int .i64 s, .slice a6 n6 c6] 26 (0, 0))) := hidI (by rw [hw7]; exact set3 hkB.out _ _ _)
    have hrow7 : Hid (RowS 36 3 w7 (Bx + 1) w7.heap.size (.slice a6 n6 c6) n6 (flatE R)) := hidI ((hrow6.keep (fun k h1 h2 => by
     rw [hw7, Below.heap_setCell _ _ _ _ (show k ≠ Bx by omega), Below.heap_setCell _ _ _ _ (show k ≠ Bx by omega), Below.heap_setCell _ _ _ _ (show k ≠ Bx by omega)])).wide (by omega) hbv.size)
    have hkR7 := hidI ((hbv.block _ (by omega)).trans hkR.out)
    have hd7 := hidI (hd.out.over hbv (by omega))
    have hg7 := hidI (grown_below hg.out (hbv.mono (by omega)))
    have hs7 : Bx < w7.heap.size := by have := hbv.size; omega
    replace hw7 := hidI hw7
    replace hn6 := hidI hn6
    clear hbv hrow6 hkB hkR hd hg hrow
    go_wp2
    try rw [← hw7.out]
    go_roundg (gk - 1)
    case rel => exact ⟨a6, n6, c6, R, by go_num, by omega, hn6, hgr2, hkR7, hkB7, hrow7, hd7, hg7, hs7⟩
    case measure => omega
  · obtain rfl : gk = 0 := by omega
    obtain ⟨x0, x1, x2⟩ := cell3 hkB.out
    obtain ⟨z0, z1, z2⟩ := cell3 hkR.out
    have fz := fun j => frozen_of_row wr w.heap.size j _ _ hkR.out
    simp at x0 x1 x2 z0 z1 z2
    have hne : w.heap.size ≠ Bx := by omega
    obtain ⟨w7, hw7⟩ := exq (((wr.setCell ⟨w.heap.size, 0, none⟩ (.int .i64 r)).setCell ⟨w.heap.size, 1, none⟩ (.int .i64 s)).setCell ⟨w.heap.size, 2, none⟩ (.slice x m c))
    have hbv : Below w.heap.size wr w7 := by rw [hw7]; exact (((Below.refl _ _).setCell (p := ⟨w.heap.size, 0, none⟩) (by simp) _).setCell (p := ⟨w.heap.size, 1, none⟩) (by simp) _).setCell (p := ⟨w.heap.size, 2, none⟩) (by simp) _
    have hkR7 : Hid (w7.heap[w.heap.size]? = some (.cells #[.int .i64 r, .int .i64 s, .slice x m c] 26 (0, 0))) := hidI (by rw [hw7]; exact set3 hkR.out _ _ _)
    have hrow7 : RowS 36 3 w7 w.heap.size w7.heap.size (.slice x m c) m (flatE es) := (hrow.out.keep (fun k h1 h2 => by
     rw [hw7, Below.heap_setCell _ _ _ _ (show k ≠ w.heap.size by omega), Below.heap_setCell _ _ _ _ (show k ≠ w.heap.size by omega), Below.heap_setCell _ _ _ _ (show k ≠ w.heap.size by omega)])).wide (by omega) hbv.size
    have hfin : GrIn Gr4 B g a len cap w (.returned (.agg #[.int .i64 r, .int .i64 s, .slice x m c])) w7 := by
     rw [hm.out] at hrow7 ⊢
     exact ⟨r, s, x, c, es, ⟨hr1, hr3, s1a, s1b, hgr.out, by omega⟩, rfl, hrow7, grown_below hg.out hbv, hd.out.over hbv hlt⟩
    replace hfin := hidI hfin
    replace hw7 := hidI hw7
    clear hbv hrow7 hkB hkR hd hg hrow
    go_wp2
    (try simp only [Exit.inBlock, Exit.then])
    try rw [← hw7.out]
    refine ret_cell (cs := #[.int .i64 r, .int .i64 s, .slice x m c]) rfl (g := w.heap.size) rfl (by exact hkR7.out) Tryz.underlying26 sizeGraph ?_
    exact hfin.out
end Go.Proofs.YtgnomlcjikfdhaaGreat
