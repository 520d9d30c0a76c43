/- Cores, the model: CanonicalGraph. -/
import Derived.Test.YtecceaijdjnflaaGreatTC
import Derived.Test.YtecceaijdjnflaaGreatTE
namespace Go.Proofs.YtecceaijdjnflaaGreat
open Go.RowKit
set_option linter.unusedVariables false
set_option linter.unusedSimpArgs false

def cgL (r s : Int) (es : List Ed) : List Int := coL r s es (letsN r.toNat)
def cgS (r s : Int) (es : List Ed) : Int := if (cgL r s es).length = 0 then s else rnS r s es (cgL r s es)
def cgE (r s : Int) (es : List Ed) : List Ed := if (cgL r s es).length = 0 then es else rnE r s es (cgL r s es)
theorem cgL_length (r s : Int) (es : List Ed) : (cgL r s es).length ≤ 40 := by
  unfold cgL coL
  split
  case isTrue h =>
    have hgr : isGr r s es = true := by rw [isFo, Bool.and_eq_true] at h; exact h.1
    have hlim := isGr_iff.1 hgr
    have := (CoIn.all (endsIn_of hgr) (show 0 < s.toNat by omega) (letsN r.toNat) 40).len
    omega
  case isFalse h => simp
theorem cgE_length (r s : Int) (es : List Ed) : (cgE r s es).length ≤ es.length := by
  unfold cgE
  split
  · exact Nat.le_refl _
  · exact rnE_length _ _ _ _
set_option maxRecDepth 100000 in
set_option maxHeartbeats 3200000 in
theorem specCanG (w : World) (r s : Int) (v : Value) (es : List Ed) (h : ReadE w.heap.size w v es) (hs : -9223372036854775808 ≤ s ∧ s ≤ 9223372036854775807) (hl : es.length ≤ 10000000) :
    Calls Tryz.prog 14 #[.agg #[.int .i64 r, .int .i64 s, v]] w (LwGraph w r (cgS r s es) (cgE r s es)) := by
  obtain ⟨a, cap, rfl, hnc⟩ := h.form
  obtain ⟨n, hn⟩ : ∃ n, n = es.length := ⟨_, rfl⟩
  rw [← hn] at hl hnc ⊢
  rw [← hn] at h
  obtain ⟨w1, hw1⟩ : ∃ z, z = (w.alloc (.cells #[.int .i64 r, .int .i64 s, .slice a n cap] 28)).alloc (.cells #[.int .i64 0, .int .i64 0, .slice none 0 0] 28) := ⟨_, rfl⟩
  have hb1 : Below w.heap.size w w1 := by rw [hw1]; exact ((Below.refl _ _).alloc (Nat.le_refl _) _).alloc (by simp) _
  have hs1 : w1.heap.size = w.heap.size + 1 + 1 := by rw [hw1]; simp
  have hg : w1.heap[w.heap.size]? = some (.cells #[.int .i64 r, .int .i64 s, .slice a n cap] 28 (0, 0)) := by rw [hw1]; exact heap_box w _ _
  have hR : w1.heap[w.heap.size + 1]? = some (.cells #[.int .i64 0, .int .i64 0, .slice none 0 0] 28 (0, 0)) := by
    have := heap_alloc_new (w.alloc (.cells #[.int .i64 r, .int .i64 s, .slice a n cap] 28)) (.cells #[.int .i64 0, .int .i64 0, .slice none 0 0] 28)
    rw [← hw1] at this; simpa using this
  have g0 : w1.cell? ⟨w.heap.size, 0, none⟩ = some (.int .i64 r) := by simpa using cell_of_heap hg 0
  have g1 : w1.cell? ⟨w.heap.size, 1, none⟩ = some (.int .i64 s) := by simpa using cell_of_heap hg 1
  have g2 : w1.cell? ⟨w.heap.size, 2, none⟩ = some (.slice a n cap) := by simpa using cell_of_heap hg 2
  have hww := hw1.symm
  have hco := specCanO w1 r s (.slice a n cap) es ((h.below hb1).mono hb1.size) hs (by omega)
  have hCl := cgL_length r s es
  obtain ⟨ZS, hZS⟩ : ∃ B, B = cgS r s es := ⟨_, rfl⟩
  obtain ⟨ZE, hZE⟩ : ∃ B, B = cgE r s es := ⟨_, rfl⟩
  rw [← hZS, ← hZE]
  unfold cgS at hZS
  unfold cgE at hZE
  unfold cgL at hZS hZE hCl
  obtain ⟨C, hC⟩ : ∃ C, C = coL r s es (letsN r.toNat) := ⟨_, rfl⟩
  rw [← hC] at hco hCl hZS hZE
  obtain ⟨q, hq⟩ : ∃ q, q = C.length := ⟨_, rfl⟩
  rw [← hq] at hCl hZS hZE
  have hlt1 : w.heap.size + 1 < w1.heap.size := by omega
  replace hC := hidI hC
  replace hww := hidI hww
  replace hw1 := hidI hw1
  replace hs1 := hidI hs1
  replace hZS := hidI hZS
  replace hZE := hidI hZE
  replace hn := hidI hn
  replace hq := hidI hq
  replace h := hidI h
  replace hg := hidI hg
  replace hR := hidI hR
  go_enter Tryz.func14, Tryz.ntmps14
  go_upto_region 1 with fail
  rw [hww.out]
  go_wp2_with fail
  refine hco.mono ?_
  rintro e w2 ⟨ov, rfl, hrow, hb2⟩
  clear hco
  obtain ⟨oa, oc, hov⟩ : ∃ g c, ov = Value.slice g q c := by
    rw [hq.out]
    obtain ⟨_, ⟨h1, h2⟩ | ⟨g, off, cap, cur, h1, _⟩⟩ := hrow
    · exact ⟨none, 0, by rw [h1, h2]; rfl⟩
    · exact ⟨_, _, h1⟩
  subst hov
  have p0 := below_cell g0 hb2 (by omega)
  have p1 := below_cell g1 hb2 (by omega)
  have p2 := below_cell g2 hb2 (by omega)
  have hb12 := hb1.trans (hb2.mono hb1.size)
  have hsz2 := hb2.size
  have hR2 : w2.heap[w.heap.size + 1]? = some (.cells #[.int .i64 0, .int .i64 0, .slice none 0 0] 28 (0, 0)) := by rw [hb2.block _ hlt1]; exact hR.out
  have hrd2 := (h.out.below hb12).mono hb12.size
  clear g0 g1 g2 hb2
  by_cases hq0 : q = 0
  · have hqz : ((q : Int) == 0) = true := by rw [beq_iff_eq]; omega
    have hcc := specCopy w2 r s (.slice a n cap) es hrd2 (by have := hn.out; omega)
    have hZS0 : Hid (ZS = s) := hidI (by rw [hZS.out, if_pos hq0])
    have hZE0 : Hid (ZE = es) := hidI (by rw [hZE.out, if_pos hq0])
    replace hq0 := hidI hq0
    replace hb12 := hidI hb12
    replace hrow := hidI hrow
    go_wp2_with fail
    refine hcc.mono ?_
    rintro e w5 ⟨ca, cc, rfl, hrow5, hb5⟩
    clear hcc
    have hb15 := hb12.out.trans (hb5.mono hb12.out.size)
    have hR5 : w5.heap[w.heap.size + 1]? = some (.cells #[.int .i64 0, .int .i64 0, .slice none 0 0] 28 (0, 0)) := by rw [hb5.block _ (by omega)]; exact hR2
    have y0 := cell_of_heap hR5 0
    have y1 := cell_of_heap hR5 1
    have y2 := cell_of_heap hR5 2
    have f2 := fun j => frozen_of_row w5 (w.heap.size + 1) j _ _ hR5
    simp at y0 y1 y2
    have hset := hidI (set3 hR5 (.int .i64 r) (.int .i64 s) (.slice ca es.length cc))
    have hfin : Hid (LwGraph w r s es (.returned (.agg #[.int .i64 r, .int .i64 s, .slice ca es.length cc])) (((w5.setCell ⟨w.heap.size + 1, 0, none⟩ (.int .i64 r)).setCell ⟨w.heap.size + 1, 1, none⟩ (.int .i64 s)).setCell ⟨w.heap.size + 1, 2, none⟩ (.slice ca es.length cc))) := hidI
      ⟨ca, cc, rfl, (RowS.set3_ hrow5 (.inl (by omega))).wide (by have := hb12.out.size; omega) (by rw [size_set3]; exact Nat.le_refl _), below_set3 hb15 (by omega)⟩
    replace hR5 := hidI hR5
    replace hrow5 := hidI hrow5
    replace hb5 := hidI hb5
    replace hb15 := hidI hb15
    clear p0 p1 p2
    go_wp2
    (try simp only [Exit.inBlock, Exit.then])
    refine ret_cell (cs := #[.int .i64 r, .int .i64 s, .slice ca es.length cc]) rfl (g := w.heap.size + 1) rfl hset.out Tryz.underlying28 sizeGraph ?_
    rw [hZS0.out, hZE0.out]
    exact hfin.out
  · have hqz : ((q : Int) == 0) = false := by rw [beq_eq_false_iff_ne]; omega
    have hrn := specRenum w2 r s (.slice a n cap) (.slice oa q oc) es C hrd2 hs (by have := hn.out; omega) hrow.read (by have := hq.out; omega)
    have hZS1 : ZS = rnS r s es C := by rw [hZS.out, if_neg hq0]
    have hZE1 : ZE = rnE r s es C := by rw [hZE.out, if_neg hq0]
    rw [← hZS1, ← hZE1] at hrn
    obtain ⟨OB, hOB⟩ : ∃ B, B = okN r s es C := ⟨_, rfl⟩
    rw [← hOB] at hrn
    obtain ⟨m, hm⟩ : ∃ m, m = ZE.length := ⟨_, rfl⟩
    replace hOB := hidI hOB
    replace hZS1 := hidI hZS1
    replace hZE1 := hidI hZE1
    replace hq0 := hidI hq0
    replace hrow := hidI hrow
    go_wp2_with fail
    refine hrn.mono ?_
    rintro e w5 ⟨ca, cc, rfl, hrow5, hb5⟩
    rw [← hm]
    rw [← hm] at hrow5
    clear hrn
    have hb15 := hb12.trans (hb5.mono hb12.size)
    have hs5 := hb5.size
    obtain ⟨w6, hw6⟩ : ∃ z, z = w5.alloc (.cells #[.int .i64 r, .int .i64 ZS, .slice ca m cc] 28) := ⟨_, rfl⟩
    have hb6 : Below w5.heap.size w5 w6 := by rw [hw6]; exact (Below.refl _ _).alloc (Nat.le_refl _) _
    obtain ⟨e0_, e1_, e2_⟩ := box3 hw6
    have hR6 : w6.heap[w.heap.size + 1]? = some (.cells #[.int .i64 0, .int .i64 0, .slice none 0 0] 28 (0, 0)) := by rw [hb6.block _ (by omega), hb5.block _ (by omega)]; exact hR2
    have hb16 := hb15.trans (hb6.mono hb15.size)
    have hrow6 := hrow5.below hb6 (Nat.le_refl _)
    have y0 := cell_of_heap hR6 0
    have y1 := cell_of_heap hR6 1
    have y2 := cell_of_heap hR6 2
    have f2 := fun j => frozen_of_row w6 (w.heap.size + 1) j _ _ hR6
    simp at y0 y1 y2
    have hset := hidI (set3 hR6 (.int .i64 r) (.int .i64 ZS) (.slice ca m cc))
    have hfin : Hid (LwGraph w r ZS ZE (.returned (.agg #[.int .i64 r, .int .i64 ZS, .slice ca m cc])) (((w6.setCell ⟨w.heap.size + 1, 0, none⟩ (.int .i64 r)).setCell ⟨w.heap.size + 1, 1, none⟩ (.int .i64 ZS)).setCell ⟨w.heap.size + 1, 2, none⟩ (.slice ca m cc))) := hidI (by
      rw [hm] at hrow6 ⊢
      exact ⟨ca, cc, rfl, (RowS.set3_ hrow6 (.inl (by omega))).wide (by have := hb12.size; omega) (by rw [size_set3]; exact hb6.size), below_set3 hb16 (by omega)⟩)
    replace hm := hidI hm
    replace hR6 := hidI hR6
    replace hrow5 := hidI hrow5
    replace hrow6 := hidI hrow6
    replace hb5 := hidI hb5
    replace hb6 := hidI hb6
    replace hb15 := hidI hb15
    replace hb16 := hidI hb16
    clear p0 p1 p2
    go_upto_region 5 with fail
    rw [← hw6]
    replace hw6 := hidI hw6
    go_wp2
    (try simp only [Exit.inBlock, Exit.then])
    refine ret_cell (cs := #[.int .i64 r, .int .i64 ZS, .slice ca m cc]) rfl (g := w.heap.size + 1) rfl hset.out Tryz.underlying28 sizeGraph ?_
    exact hfin.out
end Go.Proofs.YtecceaijdjnflaaGreat
