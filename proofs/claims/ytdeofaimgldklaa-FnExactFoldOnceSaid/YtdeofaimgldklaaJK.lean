/- Folding, the program: MergeVertices (tools/jk.py). -/
import Derived.Test.YtdeofaimgldklaaJI
import Derived.Test.YtdeofaimgldklaaGP3
import Derived.Test.YtdeofaimgldklaaGP4
namespace Go.Proofs.Ytdeofaimgldklaa
open Go.RowKit
set_option linter.unusedVariables false
set_option linter.unusedSimpArgs false

theorem resE_one {r s : Int} {es : List Ed} (hg : isGr r s es = true) (k d : Int) : resE (fun i => newV k d ((fun i : Nat => (i : Int)) i)) es = mergeE k d es := by
  rw [resE_next (fun i : Nat => (i : Int)) k d es, resE_id (asc_of_gr hg) (fun e he => ⟨(gr_edge hg he).1.1, (gr_edge hg he).2.1.1⟩)]
set_option maxRecDepth 100000 in
set_option maxHeartbeats 6400000 in
theorem progMerge (w : World) (r s k d : Int) (v : Value) (es : List Ed) (h : ReadE w.heap.size w v es) (hl : es.length ≤ 100000000) :
    Calls Try.prog 17 #[.agg #[.int .i64 r, .int .i64 s, v], .agg #[.int .i64 k, .int .i64 d]] w (LwGraphBool w r (mrS r s es (k, d)) (mrE r s es (k, d)) (okM r s es (k, d))) := by
  obtain ⟨a, cap, rfl, hnc⟩ := h.form
  obtain ⟨n, hn⟩ : ∃ n, n = es.length := ⟨_, rfl⟩
  rw [← hn] at h
  rw [← hn] at hl hnc ⊢
  obtain ⟨wa, hwa⟩ : ∃ z, z = (w.alloc (.cells #[.int .i64 r, .int .i64 s, .slice a n cap] 32)).alloc (.cells #[.int .i64 k, .int .i64 d] 27) := ⟨_, rfl⟩
  have hba : Below w.heap.size w wa := by rw [hwa]; exact ((Below.refl _ _).alloc (Nat.le_refl _) _).alloc (by simp) _
  have hsa : wa.heap.size = w.heap.size + 1 + 1 := by rw [hwa]; simp
  have hg := heap_box w (.cells #[.int .i64 r, .int .i64 s, .slice a n cap] 32) (.cells #[.int .i64 k, .int .i64 d] 27)
  have hk := heap_alloc_new (w.alloc (.cells #[.int .i64 r, .int .i64 s, .slice a n cap] 32)) (.cells #[.int .i64 k, .int .i64 d] 27)
  rw [← hwa] at hg hk
  rw [show (w.alloc (.cells #[.int .i64 r, .int .i64 s, .slice a n cap] 32)).heap.size = w.heap.size + 1 by simp] at hk
  obtain ⟨w1, hw1⟩ : ∃ z, z = wa.alloc (.cells #[.int .i64 0, .int .i64 0, .slice none 0 0] 32) := ⟨_, rfl⟩
  have hba1 : Below wa.heap.size wa w1 := by rw [hw1]; exact (Below.refl _ _).alloc (Nat.le_refl _) _
  have hs1 : w1.heap.size = w.heap.size + 1 + 1 + 1 := by rw [hw1]; simp; omega
  have hR := heap_alloc_new wa (.cells #[.int .i64 0, .int .i64 0, .slice none 0 0] 32)
  rw [← hw1, hsa] at hR
  have hb1 : Below w.heap.size w w1 := hba.trans (hba1.mono (by omega))
  rw [← hba1.block _ (by omega)] at hg hk
  have g0 : w1.cell? ⟨w.heap.size, 0, none⟩ = some (.int .i64 r) := by simpa using cell_of_heap hg 0
  have g1 : w1.cell? ⟨w.heap.size, 1, none⟩ = some (.int .i64 s) := by simpa using cell_of_heap hg 1
  have g2 : w1.cell? ⟨w.heap.size, 2, none⟩ = some (.slice a n cap) := by simpa using cell_of_heap hg 2
  have k0 : w1.cell? ⟨w.heap.size + 1, 0, none⟩ = some (.int .i64 k) := by simpa using cell_of_heap hk 0
  have k1 : w1.cell? ⟨w.heap.size + 1, 1, none⟩ = some (.int .i64 d) := by simpa using cell_of_heap hk 1
  have hww : ((w.alloc (.cells #[.int .i64 r, .int .i64 s, .slice a n cap] 32)).alloc (.cells #[.int .i64 k, .int .i64 d] 27)).alloc (.cells #[.int .i64 0, .int .i64 0, .slice none 0 0] 32) = w1 := by rw [hw1, hwa]
  have his := progIsGr w1 r s (.slice a n cap) es ((h.below hb1).mono hb1.size) (by omega)
  obtain ⟨B, hB⟩ : ∃ B, B = isGr r s es := ⟨_, rfl⟩
  rw [← hB] at his
  obtain ⟨O, hO⟩ : ∃ B, B = okM r s es (k, d) := ⟨_, rfl⟩
  obtain ⟨ZS, hZS⟩ : ∃ B, B = mrS r s es (k, d) := ⟨_, rfl⟩
  obtain ⟨ZE, hZE⟩ : ∃ B, B = mrE r s es (k, d) := ⟨_, rfl⟩
  rw [← hO, ← hZS, ← hZE]
  have hOno : ¬ (B = true ∧ 0 ≤ k ∧ k < d ∧ d < s) → O = false := fun hh => by
    rw [hO]; cases e : okM r s es (k, d) with
    | false => rfl
    | true => exact absurd (by rw [hB]; exact okM_iff.1 e) hh
  have hOyes : B = true → 0 ≤ k → k < d → d < s → O = true := fun h1 h2 h3 h4 => by rw [hO]; exact okM_iff.2 ⟨by rw [← hB]; exact h1, h2, h3, h4⟩
  have hno : O = false → ZS = s ∧ ZE = es := fun hf => by rw [hZS, hZE]; unfold mrS mrE; rw [← hO, hf]; exact ⟨rfl, rfl⟩
  have hyes : O = true → ZS = s - 1 ∧ ZE = mergeE k d es := fun hf => by rw [hZS, hZE]; unfold mrS mrE; rw [← hO, hf]; exact ⟨rfl, rfl⟩
  have hRk : ∀ W, Below w1.heap.size w1 W → W.heap[w.heap.size + 1 + 1]? = some (.cells #[.int .i64 0, .int .i64 0, .slice none 0 0] 32 (0, 0)) := fun W hW => by rw [hW.block _ (by omega)]; exact hR
  have hend : ∀ (W : World) (x0 x1 x2 : Value), Below w.heap.size w W → Below w.heap.size w (((W.setCell ⟨w.heap.size + 1 + 1, 0, none⟩ x0).setCell ⟨w.heap.size + 1 + 1, 1, none⟩ x1).setCell ⟨w.heap.size + 1 + 1, 2, none⟩ x2) := fun W x0 x1 x2 hW => below_set3 hW (by omega)
  have hcopy := fun (W : World) (hr : ReadE W.heap.size W (.slice a es.length cap) es) => gpCopy W r s _ es hr (by omega)
  rw [← hn] at hcopy
  replace hcopy := hidI hcopy
  replace hOno := hidI hOno
  replace hOyes := hidI hOyes
  replace hno := hidI hno
  replace hyes := hidI hyes
  replace hRk := hidI hRk
  replace hend := hidI hend
  replace hww := hidI hww
  replace hn := hidI hn
  replace h := hidI h
  replace hg := hidI hg
  replace hk := hidI hk
  replace hR := hidI hR
  replace hs1 := hidI hs1
  replace hsa := hidI hsa
  replace hO := hidI hO
  replace hZS := hidI hZS
  replace hZE := hidI hZE
  replace hwa := hidI hwa
  replace hw1 := hidI hw1
  clear hba hba1
  go_enter Try.func17, Try.ntmps17
  go_upto_region 1 with fail
  rw [hww.out]
  go_wp2_with fail
  refine his.mono ?_
  rintro e w2 ⟨rfl, hb2⟩
  clear his
  have hlt1 : w.heap.size + 1 + 1 < w1.heap.size := by have := hs1.out; omega
  replace g0 := below_cell g0 hb2 (by omega)
  replace g1 := below_cell g1 hb2 (by omega)
  replace g2 := below_cell g2 hb2 (by omega)
  replace k0 := below_cell k0 hb2 (by omega)
  replace k1 := below_cell k1 hb2 (by omega)
  have hb12 := hidI (hb1.trans (hb2.mono hb1.size))
  have hb12' := hidI hb2
  replace hB := hidI hB
  clear hb2
  cases B with
  | false =>
    have hOf := hOno.out (fun h => by cases h.1)
    replace hB := hidI hB.out
    replace hOf := hidI hOf
    obtain ⟨hZS0, hZE0⟩ := hno.out hOf.out
    have hcc := hcopy.out w2 ((h.out.below hb12.out).mono hb12.out.size)
    replace hZS0 := hidI hZS0
    replace hZE0 := hidI hZE0
    go_wp2_with fail
    refine hcc.mono ?_
    rintro e w5 ⟨ca, cc, rfl, hrow, hb5⟩
    rw [← hn.out]
    rw [← hn.out] at hrow
    clear hcc
    have hb15 : Below w.heap.size w w5 := hb12.out.trans (hb5.mono hb12.out.size)
    have hR5 := hRk.out w5 (hb12'.out.trans (hb5.mono hb12'.out.size))
    have y0 := cell_of_heap hR5 0
    have y1 := cell_of_heap hR5 1
    have y2 := cell_of_heap hR5 2
    have f2 := fun j => frozen_of_row w5 (w.heap.size + 1 + 1) j _ _ hR5
    simp at y0 y1 y2
    have hfin : LwGraphBool w r s es false (.returned (.tuple #[.agg #[.int .i64 r, .int .i64 s, .slice ca n cc], .bool false])) (((w5.setCell ⟨w.heap.size + 1 + 1, 0, none⟩ (.int .i64 r)).setCell ⟨w.heap.size + 1 + 1, 1, none⟩ (.int .i64 s)).setCell ⟨w.heap.size + 1 + 1, 2, none⟩ (.slice ca n cc)) := by
      have hrw := hrow
      rw [hn.out] at hrw
      rw [hn.out]
      have hRl : w.heap.size + 1 + 1 < w2.heap.size := by have := hs1.out; have := hb12'.out.size; omega
      exact ⟨ca, cc, rfl, (RowS.set3_ hrw (.inl hRl)).wide hb12.out.size (by rw [size_set3]; exact Nat.le_refl _), hend.out _ _ _ _ hb15⟩
    have hset := set3 hR5 (.int .i64 r) (.int .i64 s) (.slice ca n cc)
    replace hfin := hidI hfin
    replace hset := hidI hset
    replace hR5 := hidI hR5
    replace hrow := hidI hrow
    replace hb5 := hidI hb5
    replace hb15 := hidI hb15
    clear g0 g1 g2 k0 k1
    go_wp2
    (try simp only [Exit.inBlock, Exit.then])
    refine ret_cell2 (x := .bool false) rfl rfl rfl hset.out Try.underlying32 sizeGraph ?_
    rw [hOf.out, hZS0.out, hZE0.out]
    exact hfin.out
  | true =>
    have hgr := hidI hB.out.symm
    replace hB := hidI hB
    by_cases c0 : k < 0
    case pos =>
      have hOf := hOno.out (fun h => by omega)
      replace hOf := hidI hOf
      obtain ⟨hZS0, hZE0⟩ := hno.out hOf.out
      have hcc := hcopy.out w2 ((h.out.below hb12.out).mono hb12.out.size)
      replace hZS0 := hidI hZS0
      replace hZE0 := hidI hZE0
      go_wp2_with fail
      refine hcc.mono ?_
      rintro e w5 ⟨ca, cc, rfl, hrow, hb5⟩
      rw [← hn.out]
      rw [← hn.out] at hrow
      clear hcc
      have hb15 : Below w.heap.size w w5 := hb12.out.trans (hb5.mono hb12.out.size)
      have hR5 := hRk.out w5 (hb12'.out.trans (hb5.mono hb12'.out.size))
      have y0 := cell_of_heap hR5 0
      have y1 := cell_of_heap hR5 1
      have y2 := cell_of_heap hR5 2
      have f2 := fun j => frozen_of_row w5 (w.heap.size + 1 + 1) j _ _ hR5
      simp at y0 y1 y2
      have hfin : LwGraphBool w r s es false (.returned (.tuple #[.agg #[.int .i64 r, .int .i64 s, .slice ca n cc], .bool false])) (((w5.setCell ⟨w.heap.size + 1 + 1, 0, none⟩ (.int .i64 r)).setCell ⟨w.heap.size + 1 + 1, 1, none⟩ (.int .i64 s)).setCell ⟨w.heap.size + 1 + 1, 2, none⟩ (.slice ca n cc)) := by
        have hrw := hrow
        rw [hn.out] at hrw
        rw [hn.out]
        have hRl : w.heap.size + 1 + 1 < w2.heap.size := by have := hs1.out; have := hb12'.out.size; omega
        exact ⟨ca, cc, rfl, (RowS.set3_ hrw (.inl hRl)).wide hb12.out.size (by rw [size_set3]; exact Nat.le_refl _), hend.out _ _ _ _ hb15⟩
      have hset := set3 hR5 (.int .i64 r) (.int .i64 s) (.slice ca n cc)
      replace hfin := hidI hfin
      replace hset := hidI hset
      replace hR5 := hidI hR5
      replace hrow := hidI hrow
      replace hb5 := hidI hb5
      replace hb15 := hidI hb15
      clear g0 g1 g2 k0 k1
      go_wp2
      (try simp only [Exit.inBlock, Exit.then])
      refine ret_cell2 (x := .bool false) rfl rfl rfl hset.out Try.underlying32 sizeGraph ?_
      rw [hOf.out, hZS0.out, hZE0.out]
      exact hfin.out
    by_cases c1 : d ≤ k
    case pos =>
      have hOf := hOno.out (fun h => by omega)
      replace hOf := hidI hOf
      obtain ⟨hZS0, hZE0⟩ := hno.out hOf.out
      have hcc := hcopy.out w2 ((h.out.below hb12.out).mono hb12.out.size)
      replace hZS0 := hidI hZS0
      replace hZE0 := hidI hZE0
      go_wp2_with fail
      refine hcc.mono ?_
      rintro e w5 ⟨ca, cc, rfl, hrow, hb5⟩
      rw [← hn.out]
      rw [← hn.out] at hrow
      clear hcc
      have hb15 : Below w.heap.size w w5 := hb12.out.trans (hb5.mono hb12.out.size)
      have hR5 := hRk.out w5 (hb12'.out.trans (hb5.mono hb12'.out.size))
      have y0 := cell_of_heap hR5 0
      have y1 := cell_of_heap hR5 1
      have y2 := cell_of_heap hR5 2
      have f2 := fun j => frozen_of_row w5 (w.heap.size + 1 + 1) j _ _ hR5
      simp at y0 y1 y2
      have hfin : LwGraphBool w r s es false (.returned (.tuple #[.agg #[.int .i64 r, .int .i64 s, .slice ca n cc], .bool false])) (((w5.setCell ⟨w.heap.size + 1 + 1, 0, none⟩ (.int .i64 r)).setCell ⟨w.heap.size + 1 + 1, 1, none⟩ (.int .i64 s)).setCell ⟨w.heap.size + 1 + 1, 2, none⟩ (.slice ca n cc)) := by
        have hrw := hrow
        rw [hn.out] at hrw
        rw [hn.out]
        have hRl : w.heap.size + 1 + 1 < w2.heap.size := by have := hs1.out; have := hb12'.out.size; omega
        exact ⟨ca, cc, rfl, (RowS.set3_ hrw (.inl hRl)).wide hb12.out.size (by rw [size_set3]; exact Nat.le_refl _), hend.out _ _ _ _ hb15⟩
      have hset := set3 hR5 (.int .i64 r) (.int .i64 s) (.slice ca n cc)
      replace hfin := hidI hfin
      replace hset := hidI hset
      replace hR5 := hidI hR5
      replace hrow := hidI hrow
      replace hb5 := hidI hb5
      replace hb15 := hidI hb15
      clear g0 g1 g2 k0 k1
      go_wp2
      (try simp only [Exit.inBlock, Exit.then])
      refine ret_cell2 (x := .bool false) rfl rfl rfl hset.out Try.underlying32 sizeGraph ?_
      rw [hOf.out, hZS0.out, hZE0.out]
      exact hfin.out
    have hvx := gpVertex w2 r s d a n cap
    go_wp2_with fail
    refine hvx.mono ?_
    rintro e w3 ⟨rfl, hb3⟩
    clear hvx
    have hb2l : w1.heap.size ≤ w2.heap.size := hb12'.out.size
    replace g0 := below_cell g0 hb3 (by omega)
    replace g1 := below_cell g1 hb3 (by omega)
    replace g2 := below_cell g2 hb3 (by omega)
    replace k0 := below_cell k0 hb3 (by omega)
    replace k1 := below_cell k1 hb3 (by omega)
    replace hb12 := hidI (hb12.out.trans (hb3.mono hb12.out.size))
    replace hb12' := hidI (hb12'.out.trans (hb3.mono hb12'.out.size))
    replace hb2l : w1.heap.size ≤ w3.heap.size := by have := hb3.size; omega
    clear hb3
    obtain ⟨w2, rfl⟩ : ∃ z, z = w3 := ⟨_, rfl⟩
    by_cases c2 : 0 ≤ d ∧ d < s
    case neg =>
      have hOf := hOno.out (fun h => c2 ⟨by omega, h.2.2.2⟩)
      rw [decide_eq_false c2]
      replace c2 := hidI c2
      replace hOf := hidI hOf
      obtain ⟨hZS0, hZE0⟩ := hno.out hOf.out
      have hcc := hcopy.out w2 ((h.out.below hb12.out).mono hb12.out.size)
      replace hZS0 := hidI hZS0
      replace hZE0 := hidI hZE0
      go_wp2_with fail
      refine hcc.mono ?_
      rintro e w5 ⟨ca, cc, rfl, hrow, hb5⟩
      rw [← hn.out]
      rw [← hn.out] at hrow
      clear hcc
      have hb15 : Below w.heap.size w w5 := hb12.out.trans (hb5.mono hb12.out.size)
      have hR5 := hRk.out w5 (hb12'.out.trans (hb5.mono hb12'.out.size))
      have y0 := cell_of_heap hR5 0
      have y1 := cell_of_heap hR5 1
      have y2 := cell_of_heap hR5 2
      have f2 := fun j => frozen_of_row w5 (w.heap.size + 1 + 1) j _ _ hR5
      simp at y0 y1 y2
      have hfin : LwGraphBool w r s es false (.returned (.tuple #[.agg #[.int .i64 r, .int .i64 s, .slice ca n cc], .bool false])) (((w5.setCell ⟨w.heap.size + 1 + 1, 0, none⟩ (.int .i64 r)).setCell ⟨w.heap.size + 1 + 1, 1, none⟩ (.int .i64 s)).setCell ⟨w.heap.size + 1 + 1, 2, none⟩ (.slice ca n cc)) := by
        have hrw := hrow
        rw [hn.out] at hrw
        rw [hn.out]
        have hRl : w.heap.size + 1 + 1 < w2.heap.size := by have := hs1.out; have := hb12'.out.size; omega
        exact ⟨ca, cc, rfl, (RowS.set3_ hrw (.inl hRl)).wide hb12.out.size (by rw [size_set3]; exact Nat.le_refl _), hend.out _ _ _ _ hb15⟩
      have hset := set3 hR5 (.int .i64 r) (.int .i64 s) (.slice ca n cc)
      replace hfin := hidI hfin
      replace hset := hidI hset
      replace hR5 := hidI hR5
      replace hrow := hidI hrow
      replace hb5 := hidI hb5
      replace hb15 := hidI hb15
      clear g0 g1 g2 k0 k1
      go_wp2
      (try simp only [Exit.inBlock, Exit.then])
      refine ret_cell2 (x := .bool false) rfl rfl rfl hset.out Try.underlying32 sizeGraph ?_
      rw [hOf.out, hZS0.out, hZE0.out]
      exact hfin.out
    rw [decide_eq_true c2]
    have hOt := hOyes.out (by first | rfl | trivial) (by omega) (by omega) (by omega)
    subst hOt
    obtain ⟨hZS1, hZE1⟩ := hyes.out rfl
    have hlim := isGr_iff.1 hgr.out
    have hsl : 1 ≤ s ∧ s ≤ 40 ∧ es.length ≤ 120 := ⟨hlim.2.2.2.1, hlim.2.2.2.2.1, hlim.2.2.2.2.2⟩
    have hrd2 : ReadE w2.heap.size w2 (.slice a n cap) es := (h.out.below hb12.out).mono hb12.out.size
    have hmk := merging_any w2 r s (.slice a n cap) es hrd2 ⟨hsl.1, hsl.2.1⟩ (by omega)
    obtain ⟨kN, hkN⟩ : ∃ x : Nat, (x : Int) = k := ⟨k.toNat, by omega⟩
    obtain ⟨dN, hdN⟩ : ∃ x : Nat, (x : Int) = d := ⟨d.toNat, by omega⟩
    replace hlim := hidI hlim
    replace hrd2 := hidI hrd2
    replace hkN := hidI hkN
    replace hdN := hidI hdN
    replace hZS1 := hidI hZS1
    replace hZE1 := hidI hZE1
    go_wp2_with fail
    refine hmk.mono ?_
    rintro e w3 ⟨D, rfl, hok, hDS, hst3, hb3⟩
    clear hmk
    have hs23 := hb3.size
    replace g2 := below_cell g2 hb3 (by omega)
    replace k0 := below_cell k0 hb3 (by omega)
    replace k1 := below_cell k1 hb3 (by omega)
    have hmg := mergeV_any w3 D w2.heap.size r s (.slice a n cap) (fun i => (i : Int)) D.S kN dN hst3 hok (by have := hkN.out; have := hdN.out; omega) (by have := hdN.out; omega)
    rw [hkN.out, hdN.out] at hmg
    replace hok := hidI hok
    replace hDS := hidI hDS
    replace hst3 := hidI hst3
    go_wp2_with fail
    refine hmg.mono ?_
    rintro e w4 ⟨rfl, hst4, hoff4⟩
    clear hmg
    have hs34 := hoff4.size
    have hb4 : Below w2.heap.size w3 w4 := hoff4.below hok.out hs23
    have hrs := result_any w4 D w2.heap.size r s (.slice a n cap) es _ _ hst4 (hok.out.mono hs34) ((hrd2.out.below hb3).below hb4) (by omega) hDS.out hgr.out
    obtain ⟨E, hE⟩ : ∃ E, E = mergeE k d es := ⟨_, rfl⟩
    rw [hkN.out, hdN.out, resE_one hgr.out, ← hE] at hrs
    replace hst4 := hidI hst4
    replace hoff4 := hidI hoff4
    go_wp2_with fail
    refine hrs.mono ?_
    rintro e w5 ⟨ra, rc, rfl, hrow5, hst5, hoff5⟩
    clear hrs
    have hs45 := hoff5.size
    have hb5 : Below w2.heap.size w4 w5 := hoff5.below (hok.out.mono hs34) (by omega)
    have hb25 := hb3.trans (hb4.trans hb5)
    have hb15 : Below w.heap.size w w5 := hb12.out.trans (hb25.mono hb12.out.size)
    have hR5 := hRk.out w5 (hb12'.out.trans (hb25.mono hb12'.out.size))
    have y0 := cell_of_heap hR5 0
    have y1 := cell_of_heap hR5 1
    have y2 := cell_of_heap hR5 2
    have f2 := fun j => frozen_of_row w5 (w.heap.size + 1 + 1) j _ _ hR5
    simp at y0 y1 y2
    have hKi : ((D.S - 1 : Nat) : Int) = s - 1 := by have := hDS.out; omega
    rw [hKi]
    have hfin : LwGraphBool w r (s - 1) E true (.returned (.tuple #[.agg #[.int .i64 r, .int .i64 (s - 1), .slice ra E.length rc], .bool true])) (((w5.setCell ⟨w.heap.size + 1 + 1, 0, none⟩ (.int .i64 r)).setCell ⟨w.heap.size + 1 + 1, 1, none⟩ (.int .i64 (s - 1))).setCell ⟨w.heap.size + 1 + 1, 2, none⟩ (.slice ra E.length rc)) := by
      exact ⟨ra, rc, rfl, (RowS.set3_ hrow5 (.inl (by omega))).wide (by omega) (by rw [size_set3]; exact Nat.le_refl _), hend.out _ _ _ _ hb15⟩
    have hset := set3 hR5 (.int .i64 r) (.int .i64 (s - 1)) (.slice ra E.length rc)
    have hZEE : ZE = E := by rw [hE]; exact hZE1.out
    replace hfin := hidI hfin
    replace hset := hidI hset
    replace hR5 := hidI hR5
    replace hrow5 := hidI hrow5
    replace hst5 := hidI hst5
    replace hoff5 := hidI hoff5
    replace hKi := hidI hKi
    replace hE := hidI hE
    replace hZEE := hidI hZEE
    clear g0 g1 g2 k0 k1
    go_wp2
    (try simp only [Exit.inBlock, Exit.then])
    refine ret_cell2 (x := .bool true) rfl rfl rfl hset.out Try.underlying32 sizeGraph ?_
    rw [hZS1.out, hZEE.out]
    exact hfin.out
end Go.Proofs.Ytdeofaimgldklaa
