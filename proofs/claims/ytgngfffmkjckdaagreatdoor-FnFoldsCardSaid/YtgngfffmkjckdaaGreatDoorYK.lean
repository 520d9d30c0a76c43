/- Folding, the program: MergeVertices (tools/jk.py). Folding, the program: FoldOnce (tools/once.py). -/
import Derived.Test.YtgngfffmkjckdaaGreatDoorYJ
import Derived.Test.YtgngfffmkjckdaaGreatDoorQF
import Derived.Test.YtgngfffmkjckdaaGreatDoorJX
import Derived.Test.YtgngfffmkjckdaaGreatDoorHX
import Derived.Test.YtgngfffmkjckdaaGreatDoorHMS
import Derived.Deep.RegionHeld3
import Derived.Deep.Cut
namespace Go.Proofs.YtgngfffmkjckdaaGreatDoor
open Go.RowKit
set_option linter.unusedVariables false
set_option linter.unusedSimpArgs false

theorem resE_one {r s : Int} {es : List Ed} (hg : isGr r s es = true) (k d : Int) : resE (fun i => newV k d ((fun i : Nat => (i : Int)) i)) es = mergeE k d es := by
  rw [resE_next (fun i : Nat => (i : Int)) k d es, resE_id (asc_of_gr hg) (fun e he => ⟨(gr_edge hg he).1.1, (gr_edge hg he).2.1.1⟩)]
set_option maxRecDepth 100000 in
set_option maxHeartbeats 6400000 in
theorem progMerge (w : World) (r s k d : Int) (v : Value) (es : List Ed) (h : ReadE w.heap.size w v es) (hl : es.length ≤ 100000000) :
    Calls Tryz.prog 17 #[.agg #[.int .i64 r, .int .i64 s, v], .agg #[.int .i64 k, .int .i64 d]] w (LwGraphBool w r (mrS r s es (k, d)) (mrE r s es (k, d)) (okM r s es (k, d))) := by
  obtain ⟨a, cap, rfl, hnc⟩ := h.form
  obtain ⟨n, hn⟩ : ∃ n, n = es.length := ⟨_, rfl⟩
  rw [← hn] at h
  rw [← hn] at hl hnc ⊢
  obtain ⟨wa, hwa⟩ : ∃ z, z = (w.alloc (.cells #[.int .i64 r, .int .i64 s, .slice a n cap] 26)).alloc (.cells #[.int .i64 k, .int .i64 d] 37) := ⟨_, rfl⟩
  have hba : Below w.heap.size w wa := by rw [hwa]; exact ((Below.refl _ _).alloc (Nat.le_refl _) _).alloc (by simp) _
  have hsa : wa.heap.size = w.heap.size + 1 + 1 := by rw [hwa]; simp
  have hg := heap_box w (.cells #[.int .i64 r, .int .i64 s, .slice a n cap] 26) (.cells #[.int .i64 k, .int .i64 d] 37)
  have hk := heap_alloc_new (w.alloc (.cells #[.int .i64 r, .int .i64 s, .slice a n cap] 26)) (.cells #[.int .i64 k, .int .i64 d] 37)
  rw [← hwa] at hg hk
  rw [show (w.alloc (.cells #[.int .i64 r, .int .i64 s, .slice a n cap] 26)).heap.size = w.heap.size + 1 by simp] at hk
  obtain ⟨w1, hw1⟩ : ∃ z, z = wa.alloc (.cells #[.int .i64 0, .int .i64 0, .slice none 0 0] 26) := ⟨_, rfl⟩
  have hba1 : Below wa.heap.size wa w1 := by rw [hw1]; exact (Below.refl _ _).alloc (Nat.le_refl _) _
  have hs1 : w1.heap.size = w.heap.size + 1 + 1 + 1 := by rw [hw1]; simp; omega
  have hR := heap_alloc_new wa (.cells #[.int .i64 0, .int .i64 0, .slice none 0 0] 26)
  rw [← hw1, hsa] at hR
  have hb1 : Below w.heap.size w w1 := hba.trans (hba1.mono (by omega))
  rw [← hba1.block _ (by omega)] at hg hk
  have g0 : w1.cell? ⟨w.heap.size, 0, none⟩ = some (.int .i64 r) := by simpa using cell_of_heap hg 0
  have g1 : w1.cell? ⟨w.heap.size, 1, none⟩ = some (.int .i64 s) := by simpa using cell_of_heap hg 1
  have g2 : w1.cell? ⟨w.heap.size, 2, none⟩ = some (.slice a n cap) := by simpa using cell_of_heap hg 2
  have k0 : w1.cell? ⟨w.heap.size + 1, 0, none⟩ = some (.int .i64 k) := by simpa using cell_of_heap hk 0
  have k1 : w1.cell? ⟨w.heap.size + 1, 1, none⟩ = some (.int .i64 d) := by simpa using cell_of_heap hk 1
  have hww : ((w.alloc (.cells #[.int .i64 r, .int .i64 s, .slice a n cap] 26)).alloc (.cells #[.int .i64 k, .int .i64 d] 37)).alloc (.cells #[.int .i64 0, .int .i64 0, .slice none 0 0] 26) = w1 := by rw [hw1, hwa]
  have his := progIsGr w1 r s (.slice a n cap) es ((h.below hb1).mono hb1.size) (by omega)
  obtain ⟨B, hB⟩ : ∃ B, B = isGr r s es := ⟨_, rfl⟩
  rw [← hB] at his
  obtain ⟨O, hO⟩ : ∃ B, B = okM r s es (k, d) := ⟨_, rfl⟩
  obtain ⟨ZS, hZS⟩ : ∃ B, B = mrS r s es (k, d) := ⟨_, rfl⟩
  obtain ⟨ZE, hZE⟩ : ∃ B, B = mrE r s es (k, d) := ⟨_, rfl⟩
  rw [← hO, ← hZS, ← hZE]
  have hOno : ¬ (B = true ∧ 0 ≤ k ∧ k < d ∧ d < s) → O = false := fun hh => by
    rw [hO]; cases e : okM r s es (k, d) with
    | false => rfl
    | true => exact absurd (by rw [hB]; exact okM_iff.1 e) hh
  have hOyes : B = true → 0 ≤ k → k < d → d < s → O = true := fun h1 h2 h3 h4 => by rw [hO]; exact okM_iff.2 ⟨by rw [← hB]; exact h1, h2, h3, h4⟩
  have hno : O = false → ZS = s ∧ ZE = es := fun hf => by rw [hZS, hZE]; unfold mrS mrE; rw [← hO, hf]; exact ⟨rfl, rfl⟩
  have hyes : O = true → ZS = s - 1 ∧ ZE = mergeE k d es := fun hf => by rw [hZS, hZE]; unfold mrS mrE; rw [← hO, hf]; exact ⟨rfl, rfl⟩
  have hRk : ∀ W, Below w1.heap.size w1 W → W.heap[w.heap.size + 1 + 1]? = some (.cells #[.int .i64 0, .int .i64 0, .slice none 0 0] 26 (0, 0)) := fun W hW => by rw [hW.block _ (by omega)]; exact hR
  have hend : ∀ (W : World) (x0 x1 x2 : Value), Below w.heap.size w W → Below w.heap.size w (((W.setCell ⟨w.heap.size + 1 + 1, 0, none⟩ x0).setCell ⟨w.heap.size + 1 + 1, 1, none⟩ x1).setCell ⟨w.heap.size + 1 + 1, 2, none⟩ x2) := fun W x0 x1 x2 hW => below_set3 hW (by omega)
  have hcopy := fun (W : World) (hr : ReadE W.heap.size W (.slice a es.length cap) es) => gpCopy W r s _ es hr (by omega)
  rw [← hn] at hcopy
  replace hcopy := hidI hcopy
  replace hOno := hidI hOno
  replace hOyes := hidI hOyes
  replace hno := hidI hno
  replace hyes := hidI hyes
  replace hRk := hidI hRk
  replace hend := hidI hend
  replace hww := hidI hww
  replace hn := hidI hn
  replace h := hidI h
  replace hg := hidI hg
  replace hk := hidI hk
  replace hR := hidI hR
  replace hs1 := hidI hs1
  replace hsa := hidI hsa
  replace hO := hidI hO
  replace hZS := hidI hZS
  replace hZE := hidI hZE
  replace hwa := hidI hwa
  replace hw1 := hidI hw1
  clear hba hba1
  go_enter Tryz.func17, Tryz.ntmps17
  go_upto_region 1 with fail
  rw [hww.out]
  go_wp2_with fail
  refine his.mono ?_
  rintro e w2 ⟨rfl, hb2⟩
  clear his
  have hlt1 : w.heap.size + 1 + 1 < w1.heap.size := by have := hs1.out; omega
  replace g0 := below_cell g0 hb2 (by omega)
  replace g1 := below_cell g1 hb2 (by omega)
  replace g2 := below_cell g2 hb2 (by omega)
  replace k0 := below_cell k0 hb2 (by omega)
  replace k1 := below_cell k1 hb2 (by omega)
  have hb12 := hidI (hb1.trans (hb2.mono hb1.size))
  have hb12' := hidI hb2
  replace hB := hidI hB
  clear hb2
  cases B with
  | false =>
    have hOf := hOno.out (fun h => by cases h.1)
    replace hB := hidI hB.out
    replace hOf := hidI hOf
    obtain ⟨hZS0, hZE0⟩ := hno.out hOf.out
    have hcc := hcopy.out w2 ((h.out.below hb12.out).mono hb12.out.size)
    replace hZS0 := hidI hZS0
    replace hZE0 := hidI hZE0
    go_wp2_with fail
    refine hcc.mono ?_
    rintro e w5 ⟨ca, cc, rfl, hrow, hb5⟩
    rw [← hn.out]
    rw [← hn.out] at hrow
    clear hcc
    have hb15 : Below w.heap.size w w5 := hb12.out.trans (hb5.mono hb12.out.size)
    have hR5 := hRk.out w5 (hb12'.out.trans (hb5.mono hb12'.out.size))
    have y0 := cell_of_heap hR5 0
    have y1 := cell_of_heap hR5 1
    have y2 := cell_of_heap hR5 2
    have f2 := fun j => frozen_of_row w5 (w.heap.size + 1 + 1) j _ _ hR5
    simp at y0 y1 y2
    have hfin : LwGraphBool w r s es false (.returned (.tuple #[.agg #[.int .i64 r, .int .i64 s, .slice ca n cc], .bool false])) (((w5.setCell ⟨w.heap.size + 1 + 1, 0, none⟩ (.int .i64 r)).setCell ⟨w.heap.size + 1 + 1, 1, none⟩ (.int .i64 s)).setCell ⟨w.heap.size + 1 + 1, 2, none⟩ (.slice ca n cc)) := by
      have hrw := hrow
      rw [hn.out] at hrw
      rw [hn.out]
      have hRl : w.heap.size + 1 + 1 < w2.heap.size := by have := hs1.out; have := hb12'.out.size; omega
      exact ⟨ca, cc, rfl, (RowS.set3_ hrw (.inl hRl)).wide hb12.out.size (by rw [size_set3]; exact Nat.le_refl _), hend.out _ _ _ _ hb15⟩
    have hset := set3 hR5 (.int .i64 r) (.int .i64 s) (.slice ca n cc)
    replace hfin := hidI hfin
    replace hset := hidI hset
    replace hR5 := hidI hR5
    replace hrow := hidI hrow
    replace hb5 := hidI hb5
    replace hb15 := hidI hb15
    clear g0 g1 g2 k0 k1
    go_wp2
    (try simp only [Exit.inBlock, Exit.then])
    refine ret_cell2 (x := .bool false) rfl rfl rfl hset.out Tryz.underlying26 sizeGraph ?_
    rw [hOf.out, hZS0.out, hZE0.out]
    exact hfin.out
  | true =>
    have hgr := hidI hB.out.symm
    replace hB := hidI hB
    by_cases c0 : k < 0
    case pos =>
      have hOf := hOno.out (fun h => by omega)
      replace hOf := hidI hOf
      obtain ⟨hZS0, hZE0⟩ := hno.out hOf.out
      have hcc := hcopy.out w2 ((h.out.below hb12.out).mono hb12.out.size)
      replace hZS0 := hidI hZS0
      replace hZE0 := hidI hZE0
      go_wp2_with fail
      refine hcc.mono ?_
      rintro e w5 ⟨ca, cc, rfl, hrow, hb5⟩
      rw [← hn.out]
      rw [← hn.out] at hrow
      clear hcc
      have hb15 : Below w.heap.size w w5 := hb12.out.trans (hb5.mono hb12.out.size)
      have hR5 := hRk.out w5 (hb12'.out.trans (hb5.mono hb12'.out.size))
      have y0 := cell_of_heap hR5 0
      have y1 := cell_of_heap hR5 1
      have y2 := cell_of_heap hR5 2
      have f2 := fun j => frozen_of_row w5 (w.heap.size + 1 + 1) j _ _ hR5
      simp at y0 y1 y2
      have hfin : LwGraphBool w r s es false (.returned (.tuple #[.agg #[.int .i64 r, .int .i64 s, .slice ca n cc], .bool false])) (((w5.setCell ⟨w.heap.size + 1 + 1, 0, none⟩ (.int .i64 r)).setCell ⟨w.heap.size + 1 + 1, 1, none⟩ (.int .i64 s)).setCell ⟨w.heap.size + 1 + 1, 2, none⟩ (.slice ca n cc)) := by
        have hrw := hrow
        rw [hn.out] at hrw
        rw [hn.out]
        have hRl : w.heap.size + 1 + 1 < w2.heap.size := by have := hs1.out; have := hb12'.out.size; omega
        exact ⟨ca, cc, rfl, (RowS.set3_ hrw (.inl hRl)).wide hb12.out.size (by rw [size_set3]; exact Nat.le_refl _), hend.out _ _ _ _ hb15⟩
      have hset := set3 hR5 (.int .i64 r) (.int .i64 s) (.slice ca n cc)
      replace hfin := hidI hfin
      replace hset := hidI hset
      replace hR5 := hidI hR5
      replace hrow := hidI hrow
      replace hb5 := hidI hb5
      replace hb15 := hidI hb15
      clear g0 g1 g2 k0 k1
      go_wp2
      (try simp only [Exit.inBlock, Exit.then])
      refine ret_cell2 (x := .bool false) rfl rfl rfl hset.out Tryz.underlying26 sizeGraph ?_
      rw [hOf.out, hZS0.out, hZE0.out]
      exact hfin.out
    by_cases c1 : d ≤ k
    case pos =>
      have hOf := hOno.out (fun h => by omega)
      replace hOf := hidI hOf
      obtain ⟨hZS0, hZE0⟩ := hno.out hOf.out
      have hcc := hcopy.out w2 ((h.out.below hb12.out).mono hb12.out.size)
      replace hZS0 := hidI hZS0
      replace hZE0 := hidI hZE0
      go_wp2_with fail
      refine hcc.mono ?_
      rintro e w5 ⟨ca, cc, rfl, hrow, hb5⟩
      rw [← hn.out]
      rw [← hn.out] at hrow
      clear hcc
      have hb15 : Below w.heap.size w w5 := hb12.out.trans (hb5.mono hb12.out.size)
      have hR5 := hRk.out w5 (hb12'.out.trans (hb5.mono hb12'.out.size))
      have y0 := cell_of_heap hR5 0
      have y1 := cell_of_heap hR5 1
      have y2 := cell_of_heap hR5 2
      have f2 := fun j => frozen_of_row w5 (w.heap.size + 1 + 1) j _ _ hR5
      simp at y0 y1 y2
      have hfin : LwGraphBool w r s es false (.returned (.tuple #[.agg #[.int .i64 r, .int .i64 s, .slice ca n cc], .bool false])) (((w5.setCell ⟨w.heap.size + 1 + 1, 0, none⟩ (.int .i64 r)).setCell ⟨w.heap.size + 1 + 1, 1, none⟩ (.int .i64 s)).setCell ⟨w.heap.size + 1 + 1, 2, none⟩ (.slice ca n cc)) := by
        have hrw := hrow
        rw [hn.out] at hrw
        rw [hn.out]
        have hRl : w.heap.size + 1 + 1 < w2.heap.size := by have := hs1.out; have := hb12'.out.size; omega
        exact ⟨ca, cc, rfl, (RowS.set3_ hrw (.inl hRl)).wide hb12.out.size (by rw [size_set3]; exact Nat.le_refl _), hend.out _ _ _ _ hb15⟩
      have hset := set3 hR5 (.int .i64 r) (.int .i64 s) (.slice ca n cc)
      replace hfin := hidI hfin
      replace hset := hidI hset
      replace hR5 := hidI hR5
      replace hrow := hidI hrow
      replace hb5 := hidI hb5
      replace hb15 := hidI hb15
      clear g0 g1 g2 k0 k1
      go_wp2
      (try simp only [Exit.inBlock, Exit.then])
      refine ret_cell2 (x := .bool false) rfl rfl rfl hset.out Tryz.underlying26 sizeGraph ?_
      rw [hOf.out, hZS0.out, hZE0.out]
      exact hfin.out
    have hvx := gpVertex w2 r s d a n cap
    go_wp2_with fail
    refine hvx.mono ?_
    rintro e w3 ⟨rfl, hb3⟩
    clear hvx
    have hb2l : w1.heap.size ≤ w2.heap.size := hb12'.out.size
    replace g0 := below_cell g0 hb3 (by omega)
    replace g1 := below_cell g1 hb3 (by omega)
    replace g2 := below_cell g2 hb3 (by omega)
    replace k0 := below_cell k0 hb3 (by omega)
    replace k1 := below_cell k1 hb3 (by omega)
    replace hb12 := hidI (hb12.out.trans (hb3.mono hb12.out.size))
    replace hb12' := hidI (hb12'.out.trans (hb3.mono hb12'.out.size))
    replace hb2l : w1.heap.size ≤ w3.heap.size := by have := hb3.size; omega
    clear hb3
    obtain ⟨w2, rfl⟩ : ∃ z, z = w3 := ⟨_, rfl⟩
    by_cases c2 : 0 ≤ d ∧ d < s
    case neg =>
      have hOf := hOno.out (fun h => c2 ⟨by omega, h.2.2.2⟩)
      rw [decide_eq_false c2]
      replace c2 := hidI c2
      replace hOf := hidI hOf
      obtain ⟨hZS0, hZE0⟩ := hno.out hOf.out
      have hcc := hcopy.out w2 ((h.out.below hb12.out).mono hb12.out.size)
      replace hZS0 := hidI hZS0
      replace hZE0 := hidI hZE0
      go_wp2_with fail
      refine hcc.mono ?_
      rintro e w5 ⟨ca, cc, rfl, hrow, hb5⟩
      rw [← hn.out]
      rw [← hn.out] at hrow
      clear hcc
      have hb15 : Below w.heap.size w w5 := hb12.out.trans (hb5.mono hb12.out.size)
      have hR5 := hRk.out w5 (hb12'.out.trans (hb5.mono hb12'.out.size))
      have y0 := cell_of_heap hR5 0
      have y1 := cell_of_heap hR5 1
      have y2 := cell_of_heap hR5 2
      have f2 := fun j => frozen_of_row w5 (w.heap.size + 1 + 1) j _ _ hR5
      simp at y0 y1 y2
      have hfin : LwGraphBool w r s es false (.returned (.tuple #[.agg #[.int .i64 r, .int .i64 s, .slice ca n cc], .bool false])) (((w5.setCell ⟨w.heap.size + 1 + 1, 0, none⟩ (.int .i64 r)).setCell ⟨w.heap.size + 1 + 1, 1, none⟩ (.int .i64 s)).setCell ⟨w.heap.size + 1 + 1, 2, none⟩ (.slice ca n cc)) := by
        have hrw := hrow
        rw [hn.out] at hrw
        rw [hn.out]
        have hRl : w.heap.size + 1 + 1 < w2.heap.size := by have := hs1.out; have := hb12'.out.size; omega
        exact ⟨ca, cc, rfl, (RowS.set3_ hrw (.inl hRl)).wide hb12.out.size (by rw [size_set3]; exact Nat.le_refl _), hend.out _ _ _ _ hb15⟩
      have hset := set3 hR5 (.int .i64 r) (.int .i64 s) (.slice ca n cc)
      replace hfin := hidI hfin
      replace hset := hidI hset
      replace hR5 := hidI hR5
      replace hrow := hidI hrow
      replace hb5 := hidI hb5
      replace hb15 := hidI hb15
      clear g0 g1 g2 k0 k1
      go_wp2
      (try simp only [Exit.inBlock, Exit.then])
      refine ret_cell2 (x := .bool false) rfl rfl rfl hset.out Tryz.underlying26 sizeGraph ?_
      rw [hOf.out, hZS0.out, hZE0.out]
      exact hfin.out
    rw [decide_eq_true c2]
    have hOt := hOyes.out (by first | rfl | trivial) (by omega) (by omega) (by omega)
    subst hOt
    obtain ⟨hZS1, hZE1⟩ := hyes.out rfl
    have hlim := isGr_iff.1 hgr.out
    have hsl : 1 ≤ s ∧ s ≤ 40 ∧ es.length ≤ 120 := ⟨hlim.2.2.2.1, hlim.2.2.2.2.1, hlim.2.2.2.2.2⟩
    have hrd2 : ReadE w2.heap.size w2 (.slice a n cap) es := (h.out.below hb12.out).mono hb12.out.size
    have hmk := merging_any w2 r s (.slice a n cap) es hrd2 ⟨hsl.1, hsl.2.1⟩ (by omega)
    obtain ⟨kN, hkN⟩ : ∃ x : Nat, (x : Int) = k := ⟨k.toNat, by omega⟩
    obtain ⟨dN, hdN⟩ : ∃ x : Nat, (x : Int) = d := ⟨d.toNat, by omega⟩
    replace hlim := hidI hlim
    replace hrd2 := hidI hrd2
    replace hkN := hidI hkN
    replace hdN := hidI hdN
    replace hZS1 := hidI hZS1
    replace hZE1 := hidI hZE1
    go_wp2_with fail
    refine hmk.mono ?_
    rintro e w3 ⟨D, rfl, hok, hDS, hst3, hb3⟩
    clear hmk
    have hs23 := hb3.size
    replace g2 := below_cell g2 hb3 (by omega)
    replace k0 := below_cell k0 hb3 (by omega)
    replace k1 := below_cell k1 hb3 (by omega)
    have hmg := mergeV_any w3 D w2.heap.size r s (.slice a n cap) (fun i => (i : Int)) D.S kN dN hst3 hok (by have := hkN.out; have := hdN.out; omega) (by have := hdN.out; omega)
    rw [hkN.out, hdN.out] at hmg
    replace hok := hidI hok
    replace hDS := hidI hDS
    replace hst3 := hidI hst3
    go_wp2_with fail
    refine hmg.mono ?_
    rintro e w4 ⟨rfl, hst4, hoff4⟩
    clear hmg
    have hs34 := hoff4.size
    have hb4 : Below w2.heap.size w3 w4 := hoff4.below hok.out hs23
    have hrs := result_any w4 D w2.heap.size r s (.slice a n cap) es _ _ hst4 (hok.out.mono hs34) ((hrd2.out.below hb3).below hb4) (by omega) hDS.out hgr.out
    obtain ⟨E, hE⟩ : ∃ E, E = mergeE k d es := ⟨_, rfl⟩
    rw [hkN.out, hdN.out, resE_one hgr.out, ← hE] at hrs
    replace hst4 := hidI hst4
    replace hoff4 := hidI hoff4
    go_wp2_with fail
    refine hrs.mono ?_
    rintro e w5 ⟨ra, rc, rfl, hrow5, hst5, hoff5⟩
    clear hrs
    have hs45 := hoff5.size
    have hb5 : Below w2.heap.size w4 w5 := hoff5.below (hok.out.mono hs34) (by omega)
    have hb25 := hb3.trans (hb4.trans hb5)
    have hb15 : Below w.heap.size w w5 := hb12.out.trans (hb25.mono hb12.out.size)
    have hR5 := hRk.out w5 (hb12'.out.trans (hb25.mono hb12'.out.size))
    have y0 := cell_of_heap hR5 0
    have y1 := cell_of_heap hR5 1
    have y2 := cell_of_heap hR5 2
    have f2 := fun j => frozen_of_row w5 (w.heap.size + 1 + 1) j _ _ hR5
    simp at y0 y1 y2
    have hKi : ((D.S - 1 : Nat) : Int) = s - 1 := by have := hDS.out; omega
    rw [hKi]
    have hfin : LwGraphBool w r (s - 1) E true (.returned (.tuple #[.agg #[.int .i64 r, .int .i64 (s - 1), .slice ra E.length rc], .bool true])) (((w5.setCell ⟨w.heap.size + 1 + 1, 0, none⟩ (.int .i64 r)).setCell ⟨w.heap.size + 1 + 1, 1, none⟩ (.int .i64 (s - 1))).setCell ⟨w.heap.size + 1 + 1, 2, none⟩ (.slice ra E.length rc)) := by
      exact ⟨ra, rc, rfl, (RowS.set3_ hrow5 (.inl (by omega))).wide (by omega) (by rw [size_set3]; exact Nat.le_refl _), hend.out _ _ _ _ hb15⟩
    have hset := set3 hR5 (.int .i64 r) (.int .i64 (s - 1)) (.slice ra E.length rc)
    have hZEE : ZE = E := by rw [hE]; exact hZE1.out
    replace hfin := hidI hfin
    replace hset := hidI hset
    replace hR5 := hidI hR5
    replace hrow5 := hidI hrow5
    replace hst5 := hidI hst5
    replace hoff5 := hidI hoff5
    replace hKi := hidI hKi
    replace hE := hidI hE
    replace hZEE := hidI hZEE
    clear g0 g1 g2 k0 k1
    go_wp2
    (try simp only [Exit.inBlock, Exit.then])
    refine ret_cell2 (x := .bool true) rfl rfl rfl hset.out Tryz.underlying26 sizeGraph ?_
    rw [hZS1.out, hZEE.out]
    exact hfin.out
end Go.Proofs.YtgngfffmkjckdaaGreatDoor

namespace Go.Proofs.YtgngfffmkjckdaaGreatDoor
open Go.RowKit
set_option linter.unusedVariables false
set_option linter.unusedSimpArgs false

set_option maxRecDepth 100000 in
set_option maxHeartbeats 6400000 in
theorem progOnce (w : World) (r s : Int) (v : Value) (es : List Ed) (h : ReadE w.heap.size w v es) (hl : es.length ≤ 10000000) :
    Calls Tryz.prog 19 #[.agg #[.int .i64 r, .int .i64 s, v]] w (LwGraphFoldBool w r (onS r s es) (onE r s es) (ffF r s es) (ffB r s es)) := by
  obtain ⟨a, cap, rfl, hnc⟩ := h.form
  have hfirst := fun (W : World) (hr : ReadE W.heap.size W (.slice a es.length cap) es) => progFirst W r s _ es hr (by omega)
  have hcopy := fun (W : World) (hr : ReadE W.heap.size W (.slice a es.length cap) es) => gpCopy W r s _ es hr (by omega)
  have hmerge := fun (W : World) (k d : Int) (hr : ReadE W.heap.size W (.slice a es.length cap) es) => progMerge W r s k d _ es hr (by omega)
  obtain ⟨n, hn⟩ : ∃ n, n = es.length := ⟨_, rfl⟩
  rw [← hn] at h hl hnc hfirst hcopy hmerge ⊢
  obtain ⟨wa, hwa⟩ : ∃ z, z = (w.alloc (.cells #[.int .i64 r, .int .i64 s, .slice a n cap] 26)).alloc (.cells #[.int .i64 0, .int .i64 0, .slice none 0 0] 26) := ⟨_, rfl⟩
  have hba : Below w.heap.size w wa := by rw [hwa]; exact ((Below.refl _ _).alloc (Nat.le_refl _) _).alloc (by simp) _
  have hsa : wa.heap.size = w.heap.size + 1 + 1 := by rw [hwa]; simp
  have hg := heap_box w (.cells #[.int .i64 r, .int .i64 s, .slice a n cap] 26) (.cells #[.int .i64 0, .int .i64 0, .slice none 0 0] 26)
  have hR := heap_alloc_new (w.alloc (.cells #[.int .i64 r, .int .i64 s, .slice a n cap] 26)) (.cells #[.int .i64 0, .int .i64 0, .slice none 0 0] 26)
  rw [← hwa] at hg hR
  rw [show (w.alloc (.cells #[.int .i64 r, .int .i64 s, .slice a n cap] 26)).heap.size = w.heap.size + 1 by simp] at hR
  obtain ⟨w1, hw1⟩ : ∃ z, z = wa.alloc (.cells #[.int .i64 0, .int .i64 0] 37) := ⟨_, rfl⟩
  have hba1 : Below wa.heap.size wa w1 := by rw [hw1]; exact (Below.refl _ _).alloc (Nat.le_refl _) _
  have hs1 : w1.heap.size = w.heap.size + 1 + 1 + 1 := by rw [hw1]; simp; omega
  have hF := heap_alloc_new wa (.cells #[.int .i64 0, .int .i64 0] 37)
  rw [← hw1, hsa] at hF
  have hb1 : Below w.heap.size w w1 := hba.trans (hba1.mono (by omega))
  rw [← hba1.block _ (by omega)] at hg hR
  have g0 : w1.cell? ⟨w.heap.size, 0, none⟩ = some (.int .i64 r) := by simpa using cell_of_heap hg 0
  have g1 : w1.cell? ⟨w.heap.size, 1, none⟩ = some (.int .i64 s) := by simpa using cell_of_heap hg 1
  have g2 : w1.cell? ⟨w.heap.size, 2, none⟩ = some (.slice a n cap) := by simpa using cell_of_heap hg 2
  have hww : ((w.alloc (.cells #[.int .i64 r, .int .i64 s, .slice a n cap] 26)).alloc (.cells #[.int .i64 0, .int .i64 0, .slice none 0 0] 26)).alloc (.cells #[.int .i64 0, .int .i64 0] 37) = w1 := by rw [hw1, hwa]
  have his := hfirst w1 ((h.below hb1).mono hb1.size)
  obtain ⟨⟨k, d⟩, hFF⟩ : ∃ B, B = ffF r s es := ⟨_, rfl⟩
  obtain ⟨O, hO⟩ : ∃ B, B = ffB r s es := ⟨_, rfl⟩
  obtain ⟨ZS, hZS⟩ : ∃ B, B = onS r s es := ⟨_, rfl⟩
  obtain ⟨ZE, hZE⟩ : ∃ B, B = onE r s es := ⟨_, rfl⟩
  rw [← hO, ← hZS, ← hZE, ← hFF]
  rw [← hO, ← hFF] at his
  unfold LwFoldBool at his
  simp only at his
  have hno : O = false → ZS = s ∧ ZE = es ∧ (k, d) = zeroF := fun hf => by rw [hZS, hZE, hFF]; unfold onS onE ffF; rw [← hO, hf]; exact ⟨rfl, rfl, rfl⟩
  have hyes : O = true → ZS = mrS r s es (k, d) ∧ ZE = mrE r s es (k, d) := fun hf => by rw [hZS, hZE, hFF]; unfold onS onE; rw [← hO, hf]; exact ⟨rfl, rfl⟩
  have hRk : ∀ W, Below w1.heap.size w1 W → W.heap[w.heap.size + 1]? = some (.cells #[.int .i64 0, .int .i64 0, .slice none 0 0] 26 (0, 0)) := fun W hW => by rw [hW.block _ (by omega)]; exact hR
  have hFk : ∀ W, Below w1.heap.size w1 W → W.heap[w.heap.size + 1 + 1]? = some (.cells #[.int .i64 0, .int .i64 0] 37 (0, 0)) := fun W hW => by rw [hW.block _ (by omega)]; exact hF
  replace hcopy := hidI hcopy
  replace hmerge := hidI hmerge
  replace hfirst := hidI hfirst
  replace hno := hidI hno
  replace hyes := hidI hyes
  replace hRk := hidI hRk
  replace hFk := hidI hFk
  replace hww := hidI hww
  replace hn := hidI hn
  replace h := hidI h
  replace hg := hidI hg
  replace hR := hidI hR
  replace hF := hidI hF
  replace hs1 := hidI hs1
  replace hsa := hidI hsa
  replace hO := hidI hO
  replace hZS := hidI hZS
  replace hZE := hidI hZE
  replace hFF := hidI hFF
  replace hwa := hidI hwa
  replace hw1 := hidI hw1
  clear hba hba1
  go_enter Tryz.func19, Tryz.ntmps19
  go_upto_region 1 with fail
  rw [hww.out]
  go_wp2_with fail
  refine his.mono ?_
  rintro e w2 ⟨rfl, hb2⟩
  clear his
  have hlt1 : w.heap.size + 1 + 1 < w1.heap.size := by have := hs1.out; omega
  have hb2l : w1.heap.size ≤ w2.heap.size := hb2.size
  obtain ⟨w3, hw3⟩ : ∃ z, z = w2.alloc (.cells #[.int .i64 k, .int .i64 d] 37) := ⟨_, rfl⟩
  have hb3 : Below w2.heap.size w2 w3 := by rw [hw3]; exact (Below.refl _ _).alloc (Nat.le_refl _) _
  have hs3 : w3.heap.size = w2.heap.size + 1 := by rw [hw3]; simp
  have hk3 : w3.heap[w2.heap.size]? = some (.cells #[.int .i64 k, .int .i64 d] 37 (0, 0)) := by rw [hw3]; exact heap_alloc_new _ _
  obtain ⟨X, hX⟩ : ∃ X, X = w2.heap.size := ⟨_, rfl⟩
  rw [← hX] at hk3
  have q0 : w3.cell? ⟨X, 0, none⟩ = some (.int .i64 k) := by simpa using cell_of_heap hk3 0
  have q1 : w3.cell? ⟨X, 1, none⟩ = some (.int .i64 d) := by simpa using cell_of_heap hk3 1
  have hb23 := hb2.trans (hb3.mono hb2l)
  replace g0 := below_cell g0 hb23 (by omega)
  replace g1 := below_cell g1 hb23 (by omega)
  replace g2 := below_cell g2 hb23 (by omega)
  have hb13 := hidI hb23
  have hbw3 := hidI (hb1.trans (hb23.mono hb1.size))
  have hXl : w.heap.size + 1 + 1 < X := by omega
  have hX3 : X < w3.heap.size := by omega
  replace hs3 := hidI hs3
  replace hk3 := hidI hk3
  clear hb2 hb3 hb23
  go_upto_region 2 with fail
  rw [← hw3]
  replace hw3 := hidI hw3
  rw [← hX]
  replace hX := hidI hX
  cases O with
  | false =>
    obtain ⟨hZS0, hZE0, hz⟩ := hno.out rfl
    unfold zeroF at hz
    simp only [Prod.mk.injEq] at hz
    obtain ⟨hk0, hd0⟩ := hz
    have hcc := hcopy.out w3 ((h.out.below hbw3.out).mono hbw3.out.size)
    replace hZS0 := hidI hZS0
    replace hZE0 := hidI hZE0
    replace hk0 := hidI hk0
    replace hd0 := hidI hd0
    replace hO := hidI hO.out
    go_wp2_with fail
    refine hcc.mono ?_
    rintro e w5 ⟨ca, cc, rfl, hrow, hb5⟩
    rw [← hn.out]
    rw [← hn.out] at hrow
    clear hcc q0 q1 g0 g1 g2
    have hb15 : Below w.heap.size w w5 := hbw3.out.trans (hb5.mono hbw3.out.size)
    have hb15' := hb13.out.trans (hb5.mono hb13.out.size)
    have hR5 := hRk.out w5 hb15'
    have hF5 := hFk.out w5 hb15'
    have y0 := cell_of_heap hR5 0
    have y1 := cell_of_heap hR5 1
    have y2 := cell_of_heap hR5 2
    have f2 := fun j => frozen_of_row w5 (w.heap.size + 1) j _ _ hR5
    have z0 := cell_of_heap hF5 0
    have z1 := cell_of_heap hF5 1
    have f3 := fun j => frozen_of_row w5 (w.heap.size + 1 + 1) j _ _ hF5
    simp at y0 y1 y2 z0 z1
    have hrw := hrow
    rw [hn.out] at hrw
    have hsz5 := hb5.size
    have hfin := once_fin (w := w) (w9 := w5) (R := w.heap.size + 1) (Fr := w.heap.size + 1 + 1) (lo := w3.heap.size) (r := r) (s' := s) (es' := es) (a := ca) (c := cc) (k := 0) (d := 0) (b := false) (by omega) (by omega) (by omega) (by omega) hsz5 hb15 hrw
    rw [← hn.out] at hfin
    have hset := set3 hR5 (.int .i64 r) (.int .i64 s) (.slice ca n cc)
    have hset1 := (heap_set2 (b := w.heap.size + 1 + 1) (q := w.heap.size + 1) (w := ((w5.setCell ⟨w.heap.size + 1, 0, none⟩ (.int .i64 r)).setCell ⟨w.heap.size + 1, 1, none⟩ (.int .i64 s)).setCell ⟨w.heap.size + 1, 2, none⟩ (.slice ca n cc)) (x0 := .int .i64 0) (x1 := .int .i64 0) (by omega)).trans hset
    have hset2 := set2F ((heap_set3 (b := w.heap.size + 1) (k := w.heap.size + 1 + 1) (w := w5) (x0 := .int .i64 r) (x1 := .int .i64 s) (x2 := .slice ca n cc) (by omega)).trans hF5) (.int .i64 0) (.int .i64 0)
    replace hfin := hidI hfin
    replace hset := hidI hset
    replace hset1 := hidI hset1
    replace hset2 := hidI hset2
    replace hR5 := hidI hR5
    replace hF5 := hidI hF5
    replace hrow := hidI hrow
    replace hrw := hidI hrw
    replace hb5 := hidI hb5
    replace hb15 := hidI hb15
    replace hb15' := hidI hb15'
    go_wp2
    (try simp only [Exit.inBlock, Exit.then])
    refine ret_cell3 (x := .bool false) rfl rfl rfl rfl hset1.out hset2.out Tryz.underlying26 sizeGraph Tryz.underlying37 sizeFold ?_
    rw [hZS0.out, hZE0.out, hk0.out, hd0.out]
    exact hfin.out
  | true =>
    obtain ⟨hZS1, hZE1⟩ := hyes.out rfl
    have hcc := hmerge.out w3 k d ((h.out.below hbw3.out).mono hbw3.out.size)
    obtain ⟨OB, hOB⟩ : ∃ z, z = okM r s es (k, d) := ⟨_, rfl⟩
    rw [← hZS1, ← hZE1, ← hOB] at hcc
    replace hZS1 := hidI hZS1
    replace hZE1 := hidI hZE1
    replace hOB := hidI hOB
    replace hO := hidI hO.out
    go_wp2_with fail
    refine hcc.mono ?_
    rintro e w5 ⟨ca, cc, rfl, hrow, hb5⟩
    clear hcc g0 g1 g2
    have hsz5 := hb5.size
    obtain ⟨m, hm⟩ : ∃ m, m = ZE.length := ⟨_, rfl⟩
    rw [← hm]
    obtain ⟨w6, hw6⟩ : ∃ z, z = w5.alloc (.cells #[.int .i64 r, .int .i64 ZS, .slice ca m cc] 26) := ⟨_, rfl⟩
    have hb6 : Below w5.heap.size w5 w6 := by rw [hw6]; exact (Below.refl _ _).alloc (Nat.le_refl _) _
    have hs6 : w6.heap.size = w5.heap.size + 1 := by rw [hw6]; simp
    have hbx := box3 hw6
    obtain ⟨Y, hY⟩ : ∃ X, X = w5.heap.size := ⟨_, rfl⟩
    rw [← hY] at hbx
    obtain ⟨x0, x1, x2⟩ := hbx
    have hb56 := hb5.trans (hb6.mono hsz5)
    replace q0 := below_cell q0 hb56 hX3
    replace q1 := below_cell q1 hb56 hX3
    obtain ⟨u, hu⟩ : ∃ z, z = w6.drew := ⟨_, rfl⟩
    have hbu : Below w3.heap.size w3 u := by rw [hu]; exact below_dn hb56 1
    have hb15 : Below w.heap.size w u := hbw3.out.trans (hbu.mono hbw3.out.size)
    have hb15' := hb13.out.trans (hbu.mono hb13.out.size)
    have hR5 := hRk.out u hb15'
    have hF5 := hFk.out u hb15'
    have hsu : u.heap.size = w5.heap.size + 1 := by rw [hu]; exact hs6
    have y0 := cell_of_heap hR5 0
    have y1 := cell_of_heap hR5 1
    have y2 := cell_of_heap hR5 2
    have f2 := fun j => frozen_of_row u (w.heap.size + 1) j _ _ hR5
    simp at y0 y1 y2
    have hrow6 : RowS 55 3 u w3.heap.size u.heap.size (.slice ca ZE.length cc) ZE.length (flatE ZE) := by
      have h1 := hrow.below hb6 (Nat.le_refl _)
      have h2 : RowS 55 3 u w3.heap.size w5.heap.size (.slice ca ZE.length cc) ZE.length (flatE ZE) := by rw [hu]; exact h1
      exact h2.wide (Nat.le_refl _) (by omega)
    have hfin := once_fin (w := w) (w9 := u) (R := w.heap.size + 1) (Fr := w.heap.size + 1 + 1) (lo := w3.heap.size) (r := r) (s' := ZS) (es' := ZE) (a := ca) (c := cc) (k := k) (d := d) (b := true) (by omega) (by omega) (by omega) (by omega) (by omega) hb15 hrow6
    rw [← hm] at hfin
    obtain ⟨u1, hu1⟩ : ∃ z, z = ((u.setCell ⟨w.heap.size + 1, 0, none⟩ (.int .i64 r)).setCell ⟨w.heap.size + 1, 1, none⟩ (.int .i64 ZS)).setCell ⟨w.heap.size + 1, 2, none⟩ (.slice ca m cc) := ⟨_, rfl⟩
    obtain ⟨u2, hu2⟩ : ∃ z, z = (u1.setCell ⟨w.heap.size + 1 + 1, 0, none⟩ (.int .i64 k)).setCell ⟨w.heap.size + 1 + 1, 1, none⟩ (.int .i64 d) := ⟨_, rfl⟩
    have hset := set3 hR5 (.int .i64 r) (.int .i64 ZS) (.slice ca m cc)
    rw [← hu1] at hset
    have hF6 : u1.heap[w.heap.size + 1 + 1]? = some (.cells #[.int .i64 0, .int .i64 0] 37 (0, 0)) := by rw [hu1]; exact (heap_set3 (b := w.heap.size + 1) (k := w.heap.size + 1 + 1) (by omega)).trans hF5
    have hset1 := (heap_set2 (b := w.heap.size + 1 + 1) (q := w.heap.size + 1) (w := u1) (x0 := .int .i64 k) (x1 := .int .i64 d) (by omega)).trans hset
    have hset2 := set2F hF6 (.int .i64 k) (.int .i64 d)
    rw [← hu2] at hset1 hset2
    have z0 := cell_of_heap hF6 0
    have z1 := cell_of_heap hF6 1
    have f3 := fun j => frozen_of_row u1 (w.heap.size + 1 + 1) j _ _ hF6
    simp at z0 z1
    have hk1 : ∀ b, b ≠ w.heap.size + 1 → u1.heap[b]? = u.heap[b]? := fun b hb => by rw [hu1]; exact heap_set3 hb
    have hk2 : ∀ b, b ≠ w.heap.size + 1 → b ≠ w.heap.size + 1 + 1 → u2.heap[b]? = u.heap[b]? := fun b h1 h2 => by rw [hu2, heap_set2 h2]; exact hk1 b h1
    have xu0 : u.cell? ⟨Y, 0, none⟩ = some (.int .i64 r) := by rw [hu]; exact x0
    have xu1 : u.cell? ⟨Y, 1, none⟩ = some (.int .i64 ZS) := by rw [hu]; exact x1
    have xu2 : u.cell? ⟨Y, 2, none⟩ = some (.slice ca m cc) := by rw [hu]; exact x2
    have xu3 : u.cell? ⟨X, 0, none⟩ = some (.int .i64 k) := by rw [hu]; exact q0
    have xu4 : u.cell? ⟨X, 1, none⟩ = some (.int .i64 d) := by rw [hu]; exact q1
    have xv0 : u1.cell? ⟨Y, 0, none⟩ = some (.int .i64 r) := (World.cell?_of_block (w := u) (a := ⟨Y, 0, none⟩) (hk1 Y (by omega))).trans xu0
    have xw0 : u2.cell? ⟨Y, 0, none⟩ = some (.int .i64 r) := (World.cell?_of_block (w := u) (a := ⟨Y, 0, none⟩) (hk2 Y (by omega) (by omega))).trans xu0
    have xv1 : u1.cell? ⟨Y, 1, none⟩ = some (.int .i64 ZS) := (World.cell?_of_block (w := u) (a := ⟨Y, 1, none⟩) (hk1 Y (by omega))).trans xu1
    have xw1 : u2.cell? ⟨Y, 1, none⟩ = some (.int .i64 ZS) := (World.cell?_of_block (w := u) (a := ⟨Y, 1, none⟩) (hk2 Y (by omega) (by omega))).trans xu1
    have xv2 : u1.cell? ⟨Y, 2, none⟩ = some (.slice ca m cc) := (World.cell?_of_block (w := u) (a := ⟨Y, 2, none⟩) (hk1 Y (by omega))).trans xu2
    have xw2 : u2.cell? ⟨Y, 2, none⟩ = some (.slice ca m cc) := (World.cell?_of_block (w := u) (a := ⟨Y, 2, none⟩) (hk2 Y (by omega) (by omega))).trans xu2
    have xv3 : u1.cell? ⟨X, 0, none⟩ = some (.int .i64 k) := (World.cell?_of_block (w := u) (a := ⟨X, 0, none⟩) (hk1 X (by omega))).trans xu3
    have xw3 : u2.cell? ⟨X, 0, none⟩ = some (.int .i64 k) := (World.cell?_of_block (w := u) (a := ⟨X, 0, none⟩) (hk2 X (by omega) (by omega))).trans xu3
    have xv4 : u1.cell? ⟨X, 1, none⟩ = some (.int .i64 d) := (World.cell?_of_block (w := u) (a := ⟨X, 1, none⟩) (hk1 X (by omega))).trans xu4
    have xw4 : u2.cell? ⟨X, 1, none⟩ = some (.int .i64 d) := (World.cell?_of_block (w := u) (a := ⟨X, 1, none⟩) (hk2 X (by omega) (by omega))).trans xu4
    replace hrow := hidI hrow
    replace hb5 := hidI hb5
    replace hb6 := hidI hb6
    replace hs6 := hidI hs6
    replace hb56 := hidI hb56
    replace hbu := hidI hbu
    replace hb15 := hidI hb15
    replace hb15' := hidI hb15'
    replace hR5 := hidI hR5
    replace hF5 := hidI hF5
    replace hsu := hidI hsu
    replace hrow6 := hidI hrow6
    replace hfin := hidI hfin
    replace hset := hidI hset
    replace hset1 := hidI hset1
    replace hset2 := hidI hset2
    replace hF6 := hidI hF6
    replace hk1 := hidI hk1
    replace hk2 := hidI hk2
    replace hu := hidI hu
    replace hu1 := hidI hu1
    replace hu2 := hidI hu2
    replace hm := hidI hm
    go_upto_region 5 with fail
    rw [← hw6]
    replace hw6 := hidI hw6
    rw [← hY]
    replace hY := hidI hY
    clear x0 x1 x2 q0 q1
    refine hideQ (fun _ _ d _ _ h => by cases d <;> exact h) (fun Q' hnorm hpan => ?_)
    refine wp_region_held_drew (S := fun z => z.cell? ⟨Y, 0, none⟩ = some (.int .i64 r) ∧ z.cell? ⟨Y, 1, none⟩ = some (.int .i64 ZS) ∧ z.cell? ⟨Y, 2, none⟩ = some (.slice ca m cc) ∧ z.cell? ⟨X, 0, none⟩ = some (.int .i64 k) ∧ z.cell? ⟨X, 1, none⟩ = some (.int .i64 d)) (by kernel_rfl) ?_ (fun hHeld => ?_)
    · try dsimp only
      rw [← hu.out]
      ((repeat' apply And.intro) <;> assumption)
    rw [← hu.out] at hHeld ⊢
    refine tk 0 25 ?_
    refine tk 1 26 ?_
    refine wpAnyH_ready (rs := [2]) (by kernel_rfl) (by simp) ?_
    refine AllReadyH.cons rfl (fun Kz hK => ?_) AllReadyH.nil
    rw [if_pos (by rfl)]
    go_simp
    rw [← hu1.out]
    clear xu0 xu1 xu2 xu3 xu4
    refine hK.out _ _ ?_ (fun hHeld => ?_)
    · try dsimp only
      ((repeat' apply And.intro) <;> assumption)
    clear hK
    try simp only [Act.put, List.setIfInBounds_toArray, List.set_cons_zero, List.set_cons_succ]
    refine wpAnyH_ready (rs := [3]) (by kernel_rfl) (by simp) ?_
    refine AllReadyH.cons rfl (fun Kz hK => ?_) AllReadyH.nil
    rw [if_pos (by rfl)]
    go_simp
    rw [← hu2.out]
    clear xv0 xv1 xv2 xv3 xv4
    refine hK.out _ _ ?_ (fun hHeld => ?_)
    · try dsimp only
      ((repeat' apply And.intro) <;> assumption)
    clear hK
    try simp only [Act.put, List.setIfInBounds_toArray, List.set_cons_zero, List.set_cons_succ]
    refine tk 4 4 ?_
    refine wpAnyH_done (by kernel_rfl) ?_ _
    refine hnorm _ _ ?_
    clear hnorm hpan
    repeat clear hHeld
    try simp only [Exit.then]
    clear y0 y1 y2 z0 z1 f2 f3 xw0 xw1 xw2 xw3 xw4
    go_wp2
    (try simp only [Exit.inBlock, Exit.then])
    refine ret_cell3 (x := .bool true) rfl rfl rfl rfl hset1.out hset2.out Tryz.underlying26 sizeGraph Tryz.underlying37 sizeFold ?_
    have hf := hfin.out
    rw [← hu1.out, ← hu2.out] at hf
    exact hf
end Go.Proofs.YtgngfffmkjckdaaGreatDoor
