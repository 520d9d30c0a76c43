/- Graphs, the model: AddEdge. -/
import Derived.Test.YtjnhhhnehkmfmaaGS10
namespace Go.Proofs.Ytjnhhhnehkmfmaa
open Go.RowKit
set_option linter.unusedVariables false
set_option linter.unusedSimpArgs false

/-- May AddEdge add? -/
def mayE (r s : Int) (es : List Ed) (e : Ed) : Bool := isGr r s es && (edgeOk r s e && decide (es.length < 120))
def addE (r s : Int) (es : List Ed) (e : Ed) : List Ed := if mayE r s es e = true then putE e es else es
def addEb (r s : Int) (es : List Ed) (e : Ed) : Bool := mayE r s es e && decide (es.length < (putE e es).length)
theorem LwEdges.form {w w' : World} {es : List Ed} {e : Ending} (h : LwEdges w es e w') : ∃ a n cap, n = es.length ∧ e = .returned (.slice a n cap) ∧ RowS 64 3 w' w.heap.size w'.heap.size (.slice a n cap) es.length (flatE es) ∧ Below w.heap.size w w' := by
  obtain ⟨a, cap, he, hr, hb⟩ := h
  exact ⟨a, _, cap, rfl, he, hr, hb⟩
theorem isGr_len {r s : Int} {es : List Ed} (h : isGr r s es = true) : es.length ≤ 120 := (isGr_iff.1 h).2.2.2.2.2
set_option maxRecDepth 100000 in
set_option maxHeartbeats 3200000 in
theorem specAddE (w : World) (r s : Int) (v : Value) (es : List Ed) (f l t : Int) (h : ReadE w.heap.size w v es) (hs : -9223372036854775808 ≤ s ∧ s ≤ 9223372036854775807) (hl : es.length ≤ 100000000) :
    Calls Try.prog 53 #[.agg #[.int .i64 r, .int .i64 s, v], .agg #[.int .i64 f, .int .i64 l, .int .i64 t]] w (LwGraphBool w r s (addE r s es (f, l, t)) (addEb r s es (f, l, t))) := by
  obtain ⟨a, cap, rfl, hnc⟩ := h.form
  obtain ⟨n, hn⟩ : ∃ n, n = es.length := ⟨_, rfl⟩
  rw [← hn] at hnc ⊢
  rw [← hn] at h
  obtain ⟨wa, hwa⟩ : ∃ wa, wa = w.alloc (.cells #[.int .i64 r, .int .i64 s, .slice a n cap] 29) := ⟨_, rfl⟩
  obtain ⟨wb, hwb⟩ : ∃ wb, wb = wa.alloc (.cells #[.int .i64 f, .int .i64 l, .int .i64 t] 64) := ⟨_, rfl⟩
  obtain ⟨w1, hw1⟩ : ∃ w1, w1 = wb.alloc (.cells #[.int .i64 0, .int .i64 0, .slice none 0 0] 29) := ⟨_, rfl⟩
  have hsa : wa.heap.size = w.heap.size + 1 := by rw [hwa]; simp
  have hsb : wb.heap.size = w.heap.size + 1 + 1 := by rw [hwb]; simp; omega
  have hs1 : w1.heap.size = w.heap.size + 1 + 1 + 1 := by rw [hw1]; simp; omega
  have hba : Below w.heap.size w wa := by rw [hwa]; exact (Below.refl _ _).alloc (Nat.le_refl _) _
  have hbb : Below wa.heap.size wa wb := by rw [hwb]; exact (Below.refl _ _).alloc (Nat.le_refl _) _
  have hbc : Below wb.heap.size wb w1 := by rw [hw1]; exact (Below.refl _ _).alloc (Nat.le_refl _) _
  have hb1 : Below w.heap.size w w1 := hba.trans ((hbb.trans (hbc.mono hbb.size)).mono hba.size)
  obtain ⟨g0, g1, g2⟩ := box3 hwa
  obtain ⟨k0, k1, k2⟩ := box3 hwb
  rw [hsa] at k0 k1 k2
  have hbac := hbb.trans (hbc.mono hbb.size)
  replace g0 := below_cell g0 hbac (by omega)
  replace g1 := below_cell g1 hbac (by omega)
  replace g2 := below_cell g2 hbac (by omega)
  replace k0 := below_cell k0 hbc (by omega)
  replace k1 := below_cell k1 hbc (by omega)
  replace k2 := below_cell k2 hbc (by omega)
  have hk := heap_alloc_new wb (.cells #[.int .i64 0, .int .i64 0, .slice none 0 0] 29)
  rw [← hw1, hsb] at hk
  have hw : ((w.alloc (.cells #[.int .i64 r, .int .i64 s, .slice a n cap] 29)).alloc (.cells #[.int .i64 f, .int .i64 l, .int .i64 t] 64)).alloc (.cells #[.int .i64 0, .int .i64 0, .slice none 0 0] 29) = w1 := by rw [hw1, hwb, hwa]
  clear hba hbb hbc hbac
  have hrd1 := (h.below hb1).mono hb1.size
  rw [hn] at hrd1
  have hcopy := specCopy w1 r s _ es hrd1 (by omega)
  rw [← hn] at hcopy hrd1
  obtain ⟨B, hB⟩ : ∃ B, B = isGr r s es := ⟨_, rfl⟩
  obtain ⟨E, hE⟩ : ∃ E, E = edgeOk r s (f, l, t) := ⟨_, rfl⟩
  obtain ⟨R, hR⟩ : ∃ R, R = addE r s es (f, l, t) := ⟨_, rfl⟩
  obtain ⟨D, hD⟩ : ∃ D, D = addEb r s es (f, l, t) := ⟨_, rfl⟩
  rw [← hR, ← hD]
  have hM : mayE r s es (f, l, t) = (B && (E && decide (n < 120))) := by rw [hn, hB, hE]; rfl
  replace hD := hidI hD
  replace hR := hidI hR
  replace hn := hidI hn
  replace hwa := hidI hwa
  replace hwb := hidI hwb
  replace hw1 := hidI hw1
  replace hw := hidI hw
  replace hk := hidI hk
  replace hrd1 := hidI hrd1
  replace h := hidI h
  replace hsa := hidI hsa
  replace hsb := hidI hsb
  replace hs1 := hidI hs1
  replace hB := hidI hB
  replace hE := hidI hE
  replace hM := hidI hM
  go_enter Try.func53, Try.ntmps53
  go_wp2_with fail
  rw [hw.out]
  go_wp2_with fail
  refine hcopy.mono ?_
  intro e w2 h2
  obtain ⟨b, cap2, rfl, hrow, hb2⟩ := h2.form
  rw [← hn.out]
  have q0 := below_cell g0 hb2 (by have := hs1.out; omega)
  have q1 := below_cell g1 hb2 (by have := hs1.out; omega)
  have q2 := below_cell g2 hb2 (by have := hs1.out; omega)
  have j0 := below_cell k0 hb2 (by have := hs1.out; omega)
  have j1 := below_cell k1 hb2 (by have := hs1.out; omega)
  have j2 := below_cell k2 hb2 (by have := hs1.out; omega)
  clear h2 hcopy g0 g1 g2 k0 k1 k2
  obtain ⟨w3, hw3⟩ : ∃ w3, w3 = w2.alloc (.cells #[.int .i64 r, .int .i64 s, .slice b n cap2] 29) := ⟨_, rfl⟩
  have hb3 : Below w2.heap.size w2 w3 := by rw [hw3]; exact (Below.refl _ _).alloc (Nat.le_refl _) _
  have hk3 := heap_alloc_new w2 (.cells #[.int .i64 r, .int .i64 s, .slice b n cap2] 29)
  rw [← hw3] at hk3
  have hs12 := hb2.size
  have hs3 : w2.heap.size < w3.heap.size := by rw [hw3]; simp
  have p0 := below_cell q0 hb3 (by have := hs1.out; omega)
  have p1 := below_cell q1 hb3 (by have := hs1.out; omega)
  have p2 := below_cell q2 hb3 (by have := hs1.out; omega)
  have i0 := below_cell j0 hb3 (by have := hs1.out; omega)
  have i1 := below_cell j1 hb3 (by have := hs1.out; omega)
  have i2 := below_cell j2 hb3 (by have := hs1.out; omega)
  have hrd3 := hidI ((hrd1.out.below (hb2.trans (hb3.mono hb2.size))))
  have his := specIsGr w3 r s (.slice a n cap) es (by have := hrd3.out; rw [hn.out] at this; exact hn.out ▸ this.mono (by omega)) hs (by omega)
  rw [← hB.out] at his
  have hkr : w3.heap[w.heap.size + 1 + 1]? = some (.cells #[.int .i64 0, .int .i64 0, .slice none 0 0] 29 (0, 0)) := by rw [hb3.block _ (by have := hs1.out; omega), hb2.block _ (by have := hs1.out; omega)]; exact hk.out
  have r0 := p0
  have r1 := p1
  have r2 := p2
  rw [hw3] at r0 r1 r2
  replace hw3 := hidI hw3
  replace hk3 := hidI hk3
  replace hkr := hidI hkr
  clear q0 q1 q2 j0 j1 j2
  go_wp2_with fail
  rw [← hw3.out]
  refine his.mono ?_
  rintro e w4 ⟨rfl, hb4⟩
  clear r0 r1 r2 his
  have z0 := below_cell p0 hb4 (by have := hs1.out; omega)
  have z1 := below_cell p1 hb4 (by have := hs1.out; omega)
  have z2 := below_cell p2 hb4 (by have := hs1.out; omega)
  have z3 := below_cell i0 hb4 (by have := hs1.out; omega)
  have z4 := below_cell i1 hb4 (by have := hs1.out; omega)
  have z5 := below_cell i2 hb4 (by have := hs1.out; omega)
  clear p0 p1 p2 i0 i1 i2
  have hs34 := hb4.size
  have hrow4 := hidI ((hrow.below hb3 (Nat.le_refl _)).below hb4 (Nat.le_of_lt hs3))
  have hbz4 := hidI (hb1.trans ((hb2.trans ((hb3.mono hs12).trans (hb4.mono (by omega)))).mono hb1.size))
  have hkx4 := hidI (show w4.heap[w2.heap.size]? = some (.cells #[.int .i64 r, .int .i64 s, .slice b n cap2] 29 (0, 0)) by rw [hb4.block _ hs3]; exact hk3.out)
  have hky4 := hidI (show w4.heap[w.heap.size + 1 + 1]? = some (.cells #[.int .i64 0, .int .i64 0, .slice none 0 0] 29 (0, 0)) by rw [hb4.block _ (by have := hs1.out; omega)]; exact hkr.out)
  have hrd4 := hidI (hrd3.out.below (hb4.mono (by omega)))
  have hne : w2.heap.size ≠ w.heap.size + 1 + 1 := by have := hs1.out; omega
  have hne2 : w2.heap.size ≠ w.heap.size := by have := hs1.out; omega
  have hne3 : w2.heap.size ≠ w.heap.size + 1 := by have := hs1.out; omega
  have hne' := hne.symm
  have hne2' := hne2.symm
  have hne3' := hne3.symm
  have hse : ∀ y1 y2 y3 (wq : World), wq.heap.size = ((((wq.setCell ⟨w.heap.size + 1 + 1, 0, none⟩ y1).setCell ⟨w.heap.size + 1 + 1, 1, none⟩ y2).setCell ⟨w.heap.size + 1 + 1, 2, none⟩ y3)).heap.size := by intro y1 y2 y3 wq; simp [World.setCell]
  replace hse := hidI hse
  have hend : ∀ w5, Below w4.heap.size w4 w5 → R = es → LwGraphBool w r s R false (.returned (.tuple #[.agg #[.int .i64 r, .int .i64 s, .slice b n cap2], .bool false])) (((w5.setCell ⟨w.heap.size + 1 + 1, 0, none⟩ (.int .i64 r)).setCell ⟨w.heap.size + 1 + 1, 1, none⟩ (.int .i64 s)).setCell ⟨w.heap.size + 1 + 1, 2, none⟩ (.slice b n cap2)) := by
    intro w5 hb5 hRe
    have hs := hs1.out
    rw [hRe]
    refine ⟨b, cap2, by rw [hn.out], ?_, ?_⟩
    · refine RowS.wide (RowS.keep (hrow4.out.below hb5 (by omega)) (fun k h1 h2 => ?_)) (by omega) (by rw [← hse.out]; have := hb5.size; omega)
      rw [Below.heap_setCell _ _ _ _ (show k ≠ w.heap.size + 1 + 1 by omega), Below.heap_setCell _ _ _ _ (show k ≠ w.heap.size + 1 + 1 by omega), Below.heap_setCell _ _ _ _ (show k ≠ w.heap.size + 1 + 1 by omega)]
    · have hbz := hbz4.out.trans (hb5.mono hbz4.out.size)
      exact ((hbz.setCell (p := ⟨w.heap.size + 1 + 1, 0, none⟩) (by simp; omega) _).setCell (p := ⟨w.heap.size + 1 + 1, 1, none⟩) (by simp; omega) _).setCell (p := ⟨w.heap.size + 1 + 1, 2, none⟩) (by simp; omega) _
  replace hend := hidI hend
  cases B with
  | false =>
    have x0 := cell_of_heap hkx4.out 0
    have x1 := cell_of_heap hkx4.out 1
    have x2 := cell_of_heap hkx4.out 2
    have y0 := cell_of_heap hky4.out 0
    have y1 := cell_of_heap hky4.out 1
    have y2 := cell_of_heap hky4.out 2
    have f1 := fun j => frozen_of_row w4 (w.heap.size + 1 + 1) j _ _ hky4.out
    have f2 := fun j => frozen_of_row w4 w2.heap.size j _ _ hkx4.out
    simp at x0 x1 x2 y0 y1 y2
    have hMf : mayE r s es (f, l, t) = false := by rw [hM.out]; rfl
    have hRe : R = es := by rw [hR.out]; unfold addE; rw [hMf]; rfl
    have hDe : D = false := by rw [hD.out]; unfold addEb; rw [hMf]; rfl
    replace hMf := hidI hMf
    replace hRe := hidI hRe
    subst hDe
    have hse2 := hidI (set3 hky4.out (.int .i64 r) (.int .i64 s) (.slice b n cap2))
    go_wp2
    (try simp only [Exit.inBlock, Exit.then])
    refine ret_cell2 (x := .bool false) rfl rfl rfl hse2.out Try.underlying29 sizeGraph ?_
    exact hend.out _ (Below.refl _ _) hRe.out
  | true =>
    have h120 : n ≤ 120 := by rw [hn.out]; exact isGr_len hB.out.symm
    have hce := specEdge w4 r s a n cap f l t hs
    rw [← hE.out] at hce
    go_wp2_with fail
    refine hce.mono ?_
    rintro e w5 ⟨rfl, hb5⟩
    clear hce
    replace z0 := below_cell z0 hb5 (by have := hs1.out; omega)
    replace z1 := below_cell z1 hb5 (by have := hs1.out; omega)
    replace z2 := below_cell z2 hb5 (by have := hs1.out; omega)
    replace z3 := below_cell z3 hb5 (by have := hs1.out; omega)
    replace z4 := below_cell z4 hb5 (by have := hs1.out; omega)
    replace z5 := below_cell z5 hb5 (by have := hs1.out; omega)
    have hkx5 := hidI (show w5.heap[w2.heap.size]? = some (.cells #[.int .i64 r, .int .i64 s, .slice b n cap2] 29 (0, 0)) by rw [hb5.block _ (by omega)]; exact hkx4.out)
    have hky5 := hidI (show w5.heap[w.heap.size + 1 + 1]? = some (.cells #[.int .i64 0, .int .i64 0, .slice none 0 0] 29 (0, 0)) by rw [hb5.block _ (by have := hs1.out; omega)]; exact hky4.out)
    have hs45 := hb5.size
    have x0 := cell_of_heap hkx5.out 0
    have x1 := cell_of_heap hkx5.out 1
    have x2 := cell_of_heap hkx5.out 2
    have y0 := cell_of_heap hky5.out 0
    have y1 := cell_of_heap hky5.out 1
    have y2 := cell_of_heap hky5.out 2
    have f1 := fun j => frozen_of_row w5 (w.heap.size + 1 + 1) j _ _ hky5.out
    have f2 := fun j => frozen_of_row w5 w2.heap.size j _ _ hkx5.out
    simp at x0 x1 x2 y0 y1 y2
    cases E with
    | false =>
      have hMf : mayE r s es (f, l, t) = false := by rw [hM.out]; rfl
      have hRe : R = es := by rw [hR.out]; unfold addE; rw [hMf]; rfl
      have hDe : D = false := by rw [hD.out]; unfold addEb; rw [hMf]; rfl
      replace hMf := hidI hMf
      replace hRe := hidI hRe
      subst hDe
      have hse2 := hidI (set3 hky5.out (.int .i64 r) (.int .i64 s) (.slice b n cap2))
      go_wp2
      (try simp only [Exit.inBlock, Exit.then])
      refine ret_cell2 (x := .bool false) rfl rfl rfl hse2.out Try.underlying29 sizeGraph ?_
      exact hend.out _ hb5 hRe.out
    | true =>
      by_cases hn120 : n < 120
      case neg =>
        have hg120 : (120 : Int) ≤ (n : Int) := by omega
        have hMf : mayE r s es (f, l, t) = false := by rw [hM.out]; simp [hn120]
        have hRe : R = es := by rw [hR.out]; unfold addE; rw [hMf]; rfl
        have hDe : D = false := by rw [hD.out]; unfold addEb; rw [hMf]; rfl
        replace hMf := hidI hMf
        replace hRe := hidI hRe
        subst hDe
        have hse2 := hidI (set3 hky5.out (.int .i64 r) (.int .i64 s) (.slice b n cap2))
        go_wp2
        (try simp only [Exit.inBlock, Exit.then])
        refine ret_cell2 (x := .bool false) rfl rfl rfl hse2.out Try.underlying29 sizeGraph ?_
        exact hend.out _ hb5 hRe.out
      have hg120 : ¬ (120 : Int) ≤ (n : Int) := by omega
      have hMf : mayE r s es (f, l, t) = true := by rw [hM.out]; simp [hn120]
      have hRe : R = putE (f, l, t) es := by rw [hR.out]; unfold addE; rw [hMf]; rfl
      have hDe : D = decide (n < (putE (f, l, t) es).length) := by rw [hD.out]; unfold addEb; rw [hMf, hn.out]; rfl
      have hrd5 := hrd4.out.below (hb5.mono (by omega))
      rw [hn.out] at hrd5
      have hput := specPut w5 _ es f l t (hrd5.mono (by omega)) hl
      rw [← hn.out] at hput
      have hpl := putE_length (f, l, t) es
      rw [← hRe] at hput hDe hpl
      replace hMf := hidI hMf
      replace hRe := hidI hRe
      replace hDe := hidI hDe
      replace hpl := hidI hpl
      replace h120 := hidI h120
      replace hn120 := hidI hn120
      clear hrd5
      go_wp2_with fail
      refine hput.mono ?_
      intro e w6 h6
      obtain ⟨a6, n6, c6, hn6, rfl, hrow6, hb6⟩ := h6.form
      clear h6 hput x0 x1 x2 y0 y1 y2 f1 f2
      replace z0 := below_cell z0 hb6 (by have := hs1.out; omega)
      replace z1 := below_cell z1 hb6 (by have := hs1.out; omega)
      replace z2 := below_cell z2 hb6 (by have := hs1.out; omega)
      replace z3 := below_cell z3 hb6 (by have := hs1.out; omega)
      replace z4 := below_cell z4 hb6 (by have := hs1.out; omega)
      replace z5 := below_cell z5 hb6 (by have := hs1.out; omega)
      have hkx6 := hidI (show w6.heap[w2.heap.size]? = some (.cells #[.int .i64 r, .int .i64 s, .slice b n cap2] 29 (0, 0)) by rw [hb6.block _ (by omega)]; exact hkx5.out)
      have hky6 := hidI (show w6.heap[w.heap.size + 1 + 1]? = some (.cells #[.int .i64 0, .int .i64 0, .slice none 0 0] 29 (0, 0)) by rw [hb6.block _ (by have := hs1.out; omega)]; exact hky5.out)
      have x0 := cell_of_heap hkx6.out 0
      have x1 := cell_of_heap hkx6.out 1
      have x2 := cell_of_heap hkx6.out 2
      have y0 := cell_of_heap hky6.out 0
      have y1 := cell_of_heap hky6.out 1
      have y2 := cell_of_heap hky6.out 2
      have f1 := fun j => frozen_of_row w6 (w.heap.size + 1 + 1) j _ _ hky6.out
      have f2 := fun j => frozen_of_row w6 w2.heap.size j _ _ hkx6.out
      simp at x0 x1 x2 y0 y1 y2
      have hns : n6 ≤ 1000000000 := by have := hpl.out; have := hn.out; omega
      obtain ⟨dd, hdd⟩ : ∃ dd, dd = decide ((n : Int) < (n6 : Int)) := ⟨_, rfl⟩
      have hdd2 := hdd.symm
      replace hdd := hidI hdd
      replace hn6 := hidI hn6
      go_wp2
      go_region
      all_goals
        go_wp2
        (try simp only [Exit.inBlock, Exit.then])
        have hky7 : (w6.setCell ⟨w2.heap.size, 2, none⟩ (.slice a6 n6 c6)).heap[w.heap.size + 1 + 1]? = some (.cells #[.int .i64 0, .int .i64 0, .slice none 0 0] 29 (0, 0)) := by
          rw [Below.heap_setCell _ _ _ _ hne']
          exact hky6.out
        have hset := set3 hky7 (.int .i64 r) (.int .i64 s) (.slice a6 n6 c6)
        refine ret_cell2 (x := .bool (decide (n < n6))) (cs := #[.int .i64 r, .int .i64 s, .slice a6 n6 c6]) (g := w.heap.size + 1 + 1) rfl rfl rfl (by exact hset) Try.underlying29 sizeGraph ?_
        have hs' := hs1.out
        have hn6' := hn6.out
        have hs56 := hb6.size
        subst hn6'
        have hbz6 := hbz4.out.trans ((hb5.trans (hb6.mono hs45)).mono hbz4.out.size)
        refine ⟨a6, c6, by rw [hDe.out], ?_, ?_⟩
        · have hr7 := RowS.keep hrow6 (w' := (((((w6.setCell ⟨w2.heap.size, 2, none⟩ (.slice a6 R.length c6)).setCell ⟨w.heap.size + 1 + 1, 0, none⟩ (.int .i64 r)).setCell ⟨w.heap.size + 1 + 1, 1, none⟩ (.int .i64 s)).setCell ⟨w.heap.size + 1 + 1, 2, none⟩ (.slice a6 R.length c6)).drew)) (fun k h1 h2 => by
            show (((((w6.setCell ⟨w2.heap.size, 2, none⟩ (.slice a6 R.length c6)).setCell ⟨w.heap.size + 1 + 1, 0, none⟩ (.int .i64 r)).setCell ⟨w.heap.size + 1 + 1, 1, none⟩ (.int .i64 s)).setCell ⟨w.heap.size + 1 + 1, 2, none⟩ (.slice a6 R.length c6))).heap[k]? = _
            rw [Below.heap_setCell _ _ _ _ (show k ≠ w.heap.size + 1 + 1 by omega), Below.heap_setCell _ _ _ _ (show k ≠ w.heap.size + 1 + 1 by omega), Below.heap_setCell _ _ _ _ (show k ≠ w.heap.size + 1 + 1 by omega), Below.heap_setCell _ _ _ _ (show k ≠ w2.heap.size by omega)])
          exact RowS.wide hr7 (by omega) (by simp [World.setCell])
        · exact below_dn ((((hbz6.setCell (p := ⟨w2.heap.size, 2, none⟩) (by simp; omega) _).setCell (p := ⟨w.heap.size + 1 + 1, 0, none⟩) (by simp; omega) _).setCell (p := ⟨w.heap.size + 1 + 1, 1, none⟩) (by simp; omega) _).setCell (p := ⟨w.heap.size + 1 + 1, 2, none⟩) (by simp; omega) _) 1
end Go.Proofs.Ytjnhhhnehkmfmaa
