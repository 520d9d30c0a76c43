import Derived.Deep.LoopGhost
import Derived.Deep.Cut
import Derived.Deep.RegionHeld3
import Derived.Test.YtpjlamnjiilgbaaGreatJ11Is
import Derived.Test.YtpjlamnjiilgbaaGreatJ12Is
import Derived.Test.YtpjlamnjiilgbaaGreatJ2Is
import Derived.Test.YtpjlamnjiilgbaaGreatJ9Is
namespace Go.Proofs.YtpjlamnjiilgbaaGreat
open Go.RowKit
set_option linter.unusedVariables false
set_option linter.unusedSimpArgs false
set_option maxRecDepth 100000 in
set_option maxHeartbeats 6400000 in
theorem specMerge (w : World) (r s k d : Int) (v : Value) (es : List Ed) (h : ReadE w.heap.size w v es) (hs : -9223372036854775808 ≤ s ∧ s ≤ 9223372036854775807) (hl : es.length ≤ 10000000) :
 Calls Tryz.prog 189 #[.agg #[.int .i64 r, .int .i64 s, v], .agg #[.int .i64 k, .int .i64 d]] w (LwGraphBool w r (mrS r s es (k, d)) (mrE r s es (k, d)) (okM r s es (k, d))) := by
 obtain ⟨a, cap, rfl, hnc⟩ := h.form
 obtain ⟨n, hn⟩ := exq es.length
 have h0 := h
 rw [← hn] at h
 rw [← hn] at hl hnc ⊢
 obtain ⟨wa, hwa⟩ := exq ((w.alloc (.cells #[.int .i64 r, .int .i64 s, .slice a n cap] 26)).alloc (.cells #[.int .i64 k, .int .i64 d] 167))
 have hba : Below w.heap.size w wa := by rw [hwa]; exact ((Below.refl _ _).alloc (Nat.le_refl _) _).alloc (by simp) _
 have hsa : wa.heap.size = w.heap.size + 1 + 1 := by rw [hwa]; simp
 have hg := heap_box w (.cells #[.int .i64 r, .int .i64 s, .slice a n cap] 26) (.cells #[.int .i64 k, .int .i64 d] 167)
 have hk := heap_alloc_new (w.alloc (.cells #[.int .i64 r, .int .i64 s, .slice a n cap] 26)) (.cells #[.int .i64 k, .int .i64 d] 167)
 rw [← hwa] at hg hk
 rw [show (w.alloc (.cells #[.int .i64 r, .int .i64 s, .slice a n cap] 26)).heap.size = w.heap.size + 1 by simp] at hk
 obtain ⟨w1, hw1⟩ := exq (wa.alloc (.cells #[.int .i64 0, .int .i64 0, .slice none 0 0] 26))
 have hba1 : Below wa.heap.size wa w1 := by rw [hw1]; exact (Below.refl _ _).alloc (Nat.le_refl _) _
 have hs1 : w1.heap.size = w.heap.size + 1 + 1 + 1 := by rw [hw1]; simp; omega
 have hR := heap_alloc_new wa (.cells #[.int .i64 0, .int .i64 0, .slice none 0 0] 26)
 rw [← hw1, hsa] at hR
 have hb1 : Below w.heap.size w w1 := hba.trans (hba1.mono (by omega))
 rw [← hba1.block _ (by omega)] at hg hk
 have g0 : w1.cell? ⟨w.heap.size, 0, none⟩ = some (.int .i64 r) := by simpa using cell_of_heap hg 0
 have g1 : w1.cell? ⟨w.heap.size, 1, none⟩ = some (.int .i64 s) := by simpa using cell_of_heap hg 1
 have g2 : w1.cell? ⟨w.heap.size, 2, none⟩ = some (.slice a n cap) := by simpa using cell_of_heap hg 2
 have k0 : w1.cell? ⟨w.heap.size + 1, 0, none⟩ = some (.int .i64 k) := by simpa using cell_of_heap hk 0
 have k1 : w1.cell? ⟨w.heap.size + 1, 1, none⟩ = some (.int .i64 d) := by simpa using cell_of_heap hk 1
 have hww : ((w.alloc (.cells #[.int .i64 r, .int .i64 s, .slice a n cap] 26)).alloc (.cells #[.int .i64 k, .int .i64 d] 167)).alloc (.cells #[.int .i64 0, .int .i64 0, .slice none 0 0] 26) = w1 := by rw [hw1, hwa]
 have his := specIsGr w1 r s (.slice a n cap) es ((h.below hb1).mono hb1.size) hs (by omega)
 obtain ⟨B, hB⟩ := exq (isGr r s es)
 rw [← hB] at his
 obtain ⟨O, hO⟩ := exq (okM r s es (k, d))
 obtain ⟨ZS, hZS⟩ := exq (mrS r s es (k, d))
 obtain ⟨ZE, hZE⟩ := exq (mrE r s es (k, d))
 rw [← hO, ← hZS, ← hZE]
 have hOno : ¬ (B = true ∧ 0 ≤ k ∧ k < d ∧ d < s) → O = false := fun hh => by
  rw [hO]; cases e : okM r s es (k, d) with
  | false => rfl
  | true => exact absurd (by rw [hB]; exact okM_iff.1 e) hh
 have hOyes : B = true → 0 ≤ k → k < d → d < s → O = true := fun h1 h2 h3 h4 => by rw [hO]; exact okM_iff.2 ⟨by rw [← hB]; exact h1, h2, h3, h4⟩
 have hno : O = false → ZS = s ∧ ZE = es := fun hf => by rw [hZS, hZE]; unfold mrS mrE; rw [← hO, hf]; exact ⟨rfl, rfl⟩
 have hyes : O = true → ZS = s - 1 ∧ ZE = mergeN k d es n := fun hf => by rw [hZS, hZE]; unfold mrS mrE; rw [← hO, hf, hn]; exact ⟨rfl, rfl⟩
 have hRk : ∀ W, Below w1.heap.size w1 W → W.heap[w.heap.size + 1 + 1]? = some (.cells #[.int .i64 0, .int .i64 0, .slice none 0 0] 26 (0, 0)) := fun W hW => by rw [hW.block _ (by omega)]; exact hR
 have hend : ∀ (W : World) (x0 x1 x2 : Value), Below w.heap.size w W → Below w.heap.size w (((W.setCell ⟨w.heap.size + 1 + 1, 0, none⟩ x0).setCell ⟨w.heap.size + 1 + 1, 1, none⟩ x1).setCell ⟨w.heap.size + 1 + 1, 2, none⟩ x2) := fun W x0 x1 x2 hW => below_set3 hW (by omega)
 have hcopy := fun (W : World) (hr : ReadE W.heap.size W (.slice a es.length cap) es) => specCopy W r s _ es hr (by omega)
 rw [← hn] at hcopy
 have hrd := h
 rw [hn] at hrd
 replace hrd := hidI hrd
 replace hcopy := hidI hcopy
 replace hOno := hidI hOno
 replace hOyes := hidI hOyes
 replace hno := hidI hno
 replace hyes := hidI hyes
 replace hRk := hidI hRk
 replace hend := hidI hend
 replace hww := hidI hww
 replace hn := hidI hn
 replace h := hidI h
 replace h0 := hidI h0
 replace hg := hidI hg
 replace hk := hidI hk
 replace hR := hidI hR
 replace hs1 := hidI hs1
 replace hsa := hidI hsa
 replace hO := hidI hO
 replace hZS := hidI hZS
 replace hZE := hidI hZE
 replace hwa := hidI hwa
 replace hw1 := hidI hw1
 clear hba hba1
 go_enter Tryz.func189, Tryz.ntmps189
 go_upto_region 1 with fail
 rw [hww.out]
 go_wp2_with fail
 refine his.mono ?_
 rintro e w2 ⟨rfl, hb2⟩
 clear his
 have hlt1 : w.heap.size + 1 + 1 < w1.heap.size := by have := hs1.out; omega
 replace g0 := below_cell g0 hb2 (by omega)
 replace g1 := below_cell g1 hb2 (by omega)
 replace g2 := below_cell g2 hb2 (by omega)
 replace k0 := below_cell k0 hb2 (by omega)
 replace k1 := below_cell k1 hb2 (by omega)
 have hb12 := hidI (hb1.trans (hb2.mono hb1.size))
 have hb12' := hidI hb2
 replace hB := hidI hB
 clear hb2
 cases B with
 | false =>
  have hOf := hOno.out (fun h => by cases h.1)
  replace hB := hidI hB.out
  replace hOf := hidI hOf
  obtain ⟨hZS0, hZE0⟩ := hno.out hOf.out
  have hcc := hcopy.out w2 ((h.out.below hb12.out).mono hb12.out.size)
  replace hZS0 := hidI hZS0
  replace hZE0 := hidI hZE0
  go_wp2_with fail
  refine hcc.mono ?_
  rintro e w5 ⟨ca, cc, rfl, hrow, hb5⟩
  rw [← hn.out]
  rw [← hn.out] at hrow
  clear hcc
  have hb15 : Below w.heap.size w w5 := hb12.out.trans (hb5.mono hb12.out.size)
  have hR5 := hRk.out w5 (hb12'.out.trans (hb5.mono hb12'.out.size))
  obtain ⟨y0, y1, y2⟩ := cell3 hR5
  have f2 := fun j => frozen_of_row w5 (w.heap.size + 1 + 1) j _ _ hR5
  simp at y0 y1 y2
  have hfin : LwGraphBool w r s es false (.returned (.tuple #[.agg #[.int .i64 r, .int .i64 s, .slice ca n cc], .bool false])) (((w5.setCell ⟨w.heap.size + 1 + 1, 0, none⟩ (.int .i64 r)).setCell ⟨w.heap.size + 1 + 1, 1, none⟩ (.int .i64 s)).setCell ⟨w.heap.size + 1 + 1, 2, none⟩ (.slice ca n cc)) := by
   have hrw := hrow
   rw [hn.out] at hrw
   rw [hn.out]
   have hRl : w.heap.size + 1 + 1 < w2.heap.size := by have := hs1.out; have := hb12'.out.size; omega
   exact ⟨ca, cc, rfl, (RowS.set3_ hrw (.inl hRl)).wide hb12.out.size (by rw [size_set3]; exact Nat.le_refl _), hend.out _ _ _ _ hb15⟩
  have hset := set3 hR5 (.int .i64 r) (.int .i64 s) (.slice ca n cc)
  replace hfin := hidI hfin
  replace hset := hidI hset
  replace hR5 := hidI hR5
  replace hrow := hidI hrow
  replace hb5 := hidI hb5
  replace hb15 := hidI hb15
  clear g0 g1 g2 k0 k1
  go_wp2
  (try simp only [Exit.inBlock, Exit.then])
  refine ret_cell2 (x := .bool false) rfl rfl rfl hset.out Tryz.underlying26 sizeGraph ?_
  rw [hOf.out, hZS0.out, hZE0.out]
  exact hfin.out
 | true =>
  have hgr := hidI hB.out.symm
  replace hB := hidI hB
  by_cases c0 : k < 0
  case pos =>
   have hOf := hOno.out (fun h => by omega)
   replace hOf := hidI hOf
   obtain ⟨hZS0, hZE0⟩ := hno.out hOf.out
   have hcc := hcopy.out w2 ((h.out.below hb12.out).mono hb12.out.size)
   replace hZS0 := hidI hZS0
   replace hZE0 := hidI hZE0
   go_wp2_with fail
   refine hcc.mono ?_
   rintro e w5 ⟨ca, cc, rfl, hrow, hb5⟩
   rw [← hn.out]
   rw [← hn.out] at hrow
   clear hcc
   have hb15 : Below w.heap.size w w5 := hb12.out.trans (hb5.mono hb12.out.size)
   have hR5 := hRk.out w5 (hb12'.out.trans (hb5.mono hb12'.out.size))
   obtain ⟨y0, y1, y2⟩ := cell3 hR5
   have f2 := fun j => frozen_of_row w5 (w.heap.size + 1 + 1) j _ _ hR5
   simp at y0 y1 y2
   have hfin : LwGraphBool w r s es false (.returned (.tuple #[.agg #[.int .i64 r, .int .i64 s, .slice ca n cc], .bool false])) (((w5.setCell ⟨w.heap.size + 1 + 1, 0, none⟩ (.int .i64 r)).setCell ⟨w.heap.size + 1 + 1, 1, none⟩ (.int .i64 s)).setCell ⟨w.heap.size + 1 + 1, 2, none⟩ (.slice ca n cc)) := by
    have hrw := hrow
    rw [hn.out] at hrw
    rw [hn.out]
    have hRl : w.heap.size + 1 + 1 < w2.heap.size := by have := hs1.out; have := hb12'.out.size; omega
    exact ⟨ca, cc, rfl, (RowS.set3_ hrw (.inl hRl)).wide hb12.out.size (by rw [size_set3]; exact Nat.le_refl _), hend.out _ _ _ _ hb15⟩
   have hset := set3 hR5 (.int .i64 r) (.int .i64 s) (.slice ca n cc)
   replace hfin := hidI hfin
   replace hset := hidI hset
   replace hR5 := hidI hR5
   replace hrow := hidI hrow
   replace hb5 := hidI hb5
   replace hb15 := hidI hb15
   clear g0 g1 g2 k0 k1
   go_wp2
   (try simp only [Exit.inBlock, Exit.then])
   refine ret_cell2 (x := .bool false) rfl rfl rfl hset.out Tryz.underlying26 sizeGraph ?_
   rw [hOf.out, hZS0.out, hZE0.out]
   exact hfin.out
  by_cases c1 : d ≤ k
  case pos =>
   have hOf := hOno.out (fun h => by omega)
   replace hOf := hidI hOf
   obtain ⟨hZS0, hZE0⟩ := hno.out hOf.out
   have hcc := hcopy.out w2 ((h.out.below hb12.out).mono hb12.out.size)
   replace hZS0 := hidI hZS0
   replace hZE0 := hidI hZE0
   go_wp2_with fail
   refine hcc.mono ?_
   rintro e w5 ⟨ca, cc, rfl, hrow, hb5⟩
   rw [← hn.out]
   rw [← hn.out] at hrow
   clear hcc
   have hb15 : Below w.heap.size w w5 := hb12.out.trans (hb5.mono hb12.out.size)
   have hR5 := hRk.out w5 (hb12'.out.trans (hb5.mono hb12'.out.size))
   obtain ⟨y0, y1, y2⟩ := cell3 hR5
   have f2 := fun j => frozen_of_row w5 (w.heap.size + 1 + 1) j _ _ hR5
   simp at y0 y1 y2
   have hfin : LwGraphBool w r s es false (.returned (.tuple #[.agg #[.int .i64 r, .int .i64 s, .slice ca n cc], .bool false])) (((w5.setCell ⟨w.heap.size + 1 + 1, 0, none⟩ (.int .i64 r)).setCell ⟨w.heap.size + 1 + 1, 1, none⟩ (.int .i64 s)).setCell ⟨w.heap.size + 1 + 1, 2, none⟩ (.slice ca n cc)) := by
    have hrw := hrow
    rw [hn.out] at hrw
    rw [hn.out]
    have hRl : w.heap.size + 1 + 1 < w2.heap.size := by have := hs1.out; have := hb12'.out.size; omega
    exact ⟨ca, cc, rfl, (RowS.set3_ hrw (.inl hRl)).wide hb12.out.size (by rw [size_set3]; exact Nat.le_refl _), hend.out _ _ _ _ hb15⟩
   have hset := set3 hR5 (.int .i64 r) (.int .i64 s) (.slice ca n cc)
   replace hfin := hidI hfin
   replace hset := hidI hset
   replace hR5 := hidI hR5
   replace hrow := hidI hrow
   replace hb5 := hidI hb5
   replace hb15 := hidI hb15
   clear g0 g1 g2 k0 k1
   go_wp2
   (try simp only [Exit.inBlock, Exit.then])
   refine ret_cell2 (x := .bool false) rfl rfl rfl hset.out Tryz.underlying26 sizeGraph ?_
   rw [hOf.out, hZS0.out, hZE0.out]
   exact hfin.out
  by_cases c2 : s ≤ d
  case pos =>
   have hOf := hOno.out (fun h => by omega)
   replace hOf := hidI hOf
   obtain ⟨hZS0, hZE0⟩ := hno.out hOf.out
   have hcc := hcopy.out w2 ((h.out.below hb12.out).mono hb12.out.size)
   replace hZS0 := hidI hZS0
   replace hZE0 := hidI hZE0
   go_wp2_with fail
   refine hcc.mono ?_
   rintro e w5 ⟨ca, cc, rfl, hrow, hb5⟩
   rw [← hn.out]
   rw [← hn.out] at hrow
   clear hcc
   have hb15 : Below w.heap.size w w5 := hb12.out.trans (hb5.mono hb12.out.size)
   have hR5 := hRk.out w5 (hb12'.out.trans (hb5.mono hb12'.out.size))
   obtain ⟨y0, y1, y2⟩ := cell3 hR5
   have f2 := fun j => frozen_of_row w5 (w.heap.size + 1 + 1) j _ _ hR5
   simp at y0 y1 y2
   have hfin : LwGraphBool w r s es false (.returned (.tuple #[.agg #[.int .i64 r, .int .i64 s, .slice ca n cc], .bool false])) (((w5.setCell ⟨w.heap.size + 1 + 1, 0, none⟩ (.int .i64 r)).setCell ⟨w.heap.size + 1 + 1, 1, none⟩ (.int .i64 s)).setCell ⟨w.heap.size + 1 + 1, 2, none⟩ (.slice ca n cc)) := by
    have hrw := hrow
    rw [hn.out] at hrw
    rw [hn.out]
    have hRl : w.heap.size + 1 + 1 < w2.heap.size := by have := hs1.out; have := hb12'.out.size; omega
    exact ⟨ca, cc, rfl, (RowS.set3_ hrw (.inl hRl)).wide hb12.out.size (by rw [size_set3]; exact Nat.le_refl _), hend.out _ _ _ _ hb15⟩
   have hset := set3 hR5 (.int .i64 r) (.int .i64 s) (.slice ca n cc)
   replace hfin := hidI hfin
   replace hset := hidI hset
   replace hR5 := hidI hR5
   replace hrow := hidI hrow
   replace hb5 := hidI hb5
   replace hb15 := hidI hb15
   clear g0 g1 g2 k0 k1
   go_wp2
   (try simp only [Exit.inBlock, Exit.then])
   refine ret_cell2 (x := .bool false) rfl rfl rfl hset.out Tryz.underlying26 sizeGraph ?_
   rw [hOf.out, hZS0.out, hZE0.out]
   exact hfin.out
  have hOt := hOyes.out rfl (by omega) (by omega) (by omega)
  subst hOt
  obtain ⟨hZS1, hZE1⟩ := hyes.out rfl
  have hlim := isGr_iff.1 hgr.out
  have hsl : 1 ≤ s ∧ s ≤ 40 ∧ es.length ≤ 120 := ⟨hlim.2.2.2.1, hlim.2.2.2.2.1, hlim.2.2.2.2.2⟩
  have hn120 : n ≤ 120 := by have := hn.out; omega
  have hsub : IntKind.i64.wrap (s - 1) = s - 1 := IntWalk.i64_in _ (by omega)
  obtain ⟨X, hX⟩ := exq w2.heap.size
  obtain ⟨w3, hw3⟩ := exq (w2.alloc (.cells #[.int .i64 r, .int .i64 (s - 1), .slice none 0 0] 26))
  have hb3 : Below w2.heap.size w2 w3 := by rw [hw3]; exact (Below.refl _ _).alloc (Nat.le_refl _) _
  have hs3 : w3.heap.size = X + 1 := by rw [hw3, hX]; simp
  have hX3 : w3.heap[X]? = some (.cells #[.int .i64 r, .int .i64 (s - 1), .slice none 0 0] 26 (0, 0)) := by rw [hw3, hX]; exact heap_alloc_new _ _
  have hbX : w.heap.size + 1 + 1 < X := by have := hs1.out; have := hb12'.out.size; omega
  have hst0 : Hid (∃ v', MSt w3 X X r (s - 1) v' (mergeN k d es 0)) := hidI ⟨.slice none 0 0, hX3, X, X, ⟨rfl, Nat.zero_le _, .inl ⟨rfl, rfl⟩⟩, Nat.le_refl _, by omega, .inl (Nat.le_refl _)⟩
  have hk0 : Hid (Below X w3 w3) := hidI (Below.refl _ _)
  have hb13 : Below w.heap.size w w3 := hb12.out.trans (hb3.mono hb12.out.size)
  have hbR3 : Below w1.heap.size w1 w3 := hb12'.out.trans (hb3.mono hb12'.out.size)
  have g2' := below_cell g2 hb3 (by omega)
  have k0' := below_cell k0 hb3 (by omega)
  have k1' := below_cell k1 hb3 (by omega)
  have hrd3 := hidI (hrd.out.below hb13)
  replace hb13 := hidI hb13
  replace hbR3 := hidI hbR3
  replace hX3 := hidI hX3
  replace hs3 := hidI hs3
  replace hZS1 := hidI hZS1
  replace hZE1 := hidI hZE1
  replace hlim := hidI hlim
  clear hb3
  go_upto_region 4 with fail
  rw [← hw3]
  replace hw3 := hidI hw3
  rw [← hX]
  replace hX := hidI hX
  clear g0 g1
  replace g2 := g2'
  replace k0 := k0'
  replace k1 := k1'
  go_wp2
  go_loopg [7] n (fun g i wr => ∃ j : Nat, j + g = n ∧ i = .int .i64 j ∧ Hid (∃ v', MSt wr X X r (s - 1) v' (mergeN k d es j)) ∧ Hid (Below X w3 wr))
  case atStart => exact ⟨0, by omega, rfl, hst0, hk0⟩
  case round =>
   clear hst0 hk0
   obtain ⟨j, hj, rfl, hst, hkb⟩ := hrel
   obtain ⟨v6, hP⟩ := hst.out
   obtain ⟨E, hE⟩ := exq (mergeN k d es j)
   rw [← hE] at hP
   have hEl : E.length ≤ 1000000 := by rw [hE]; have := mergeN_length k d es j; omega
   obtain ⟨av, cv, rfl⟩ := hP.form
   have p2 := below_cell g2 hkb.out (by omega)
   have q0 := below_cell k0 hkb.out (by omega)
   have q1 := below_cell k1 hkb.out (by omega)
   have hXr : X < wr.heap.size := by have := hkb.out.size; have := hs3.out; omega
   by_cases hlt : j < n
   · have hji : (j : Int) < (n : Int) := by omega
     obtain ⟨b, off, hab, hBb, x0, x1, x2⟩ := ReadE.at3 (hrd3.out.below (hkb.out.mono (by omega))) j (by have := hn.out; omega)
     subst hab
     have hee := gr_edge hgr.out (show es.getD j e0 ∈ es by rw [getE_el (by have := hn.out; omega)]; exact List.getElem_mem _)
     obtain ⟨f, hf⟩ := exq ((es.getD j e0).1)
     obtain ⟨l, hll⟩ := exq ((es.getD j e0).2.1)
     obtain ⟨t, ht⟩ := exq ((es.getD j e0).2.2)
     rw [← hf] at x0
     rw [← hll] at x1
     rw [← ht] at x2
     rw [← hf, ← hll, ← ht] at hee
     have hnext : putE (newV k d f, l, newV k d t) E = mergeN k d es (j + 1) := by rw [mergeN, ← hE, hf, hll, ht]; rfl
     obtain ⟨w4, hw4⟩ := exq (wr.alloc (.cells #[.int .i64 f, .int .i64 l, .int .i64 t] 72))
     have hb4 : Below wr.heap.size wr w4 := by rw [hw4]; exact (Below.refl _ _).alloc (Nat.le_refl _) _
     have hs4 : w4.heap.size = wr.heap.size + 1 := by rw [hw4]; simp
     obtain ⟨e0_, e1_, e2_⟩ := box3 hw4
     obtain ⟨Y, hY⟩ := exq wr.heap.size
     have hS4 : MSt w4 X X r (s - 1) (.slice av E.length cv) E := hP.below hXr hb4
     have hk4 : Below X w3 w4 := hkb.out.trans (hb4.mono (by omega))
     replace q0 := below_cell q0 hb4 (by omega)
     replace q1 := below_cell q1 hb4 (by omega)
     rw [← hY] at e0_ e1_ e2_
     obtain ⟨v0, hv0⟩ := exq w4.drew
     have hS0 : MSt v0 X X r (s - 1) (.slice av E.length cv) E := by rw [hv0]; exact hS4.drew
     have hB0 : Below X w3 v0 := by rw [hv0]; exact below_dn hk4 1
     have hZ0 : Y < v0.heap.size := by rw [hv0]; show Y < w4.heap.size; omega
     have hXY : X < Y := by omega
     have y0 : v0.cell? ⟨Y, 0, none⟩ = some (.int .i64 f) := by rw [hv0]; exact e0_
     have y1 : v0.cell? ⟨Y, 1, none⟩ = some (.int .i64 l) := by rw [hv0]; exact e1_
     have y2 : v0.cell? ⟨Y, 2, none⟩ = some (.int .i64 t) := by rw [hv0]; exact e2_
     have y3 : v0.cell? ⟨w.heap.size + 1, 0, none⟩ = some (.int .i64 k) := by rw [hv0]; exact q0
     have y4 : v0.cell? ⟨w.heap.size + 1, 1, none⟩ = some (.int .i64 d) := by rw [hv0]; exact q1
     replace hf := hidI hf
     replace hll := hidI hll
     replace ht := hidI ht
     replace hE := hidI hE
     replace hnext := hidI hnext
     replace hj := hidI hj
     replace hP := hidI hP
     replace hS4 := hidI hS4
     replace hk4 := hidI hk4
     replace hb4 := hidI hb4
     replace hs4 := hidI hs4
     replace hv0 := hidI hv0
     have hb_ := hkb
     clear hst
     go_upto_region 8 with fail
     rw [← hw4]
     replace hw4 := hidI hw4
     rw [← hY]
     replace hY := hidI hY
     clear x0 x1 x2 p2 q0 q1 e0_ e1_ e2_
     refine hideQ (fun _ _ d _ _ h => by cases d <;> exact h) (fun Q' hnorm hpan => ?_)
     refine wp_region_held_drew (S := (fun z => z.cell? ⟨Y, 0, none⟩ = some (.int .i64 f) ∧ z.cell? ⟨Y, 1, none⟩ = some (.int .i64 l) ∧ z.cell? ⟨Y, 2, none⟩ = some (.int .i64 t) ∧ z.cell? ⟨w.heap.size + 1, 0, none⟩ = some (.int .i64 k) ∧ z.cell? ⟨w.heap.size + 1, 1, none⟩ = some (.int .i64 d))) (by kernel_rfl) ?_ (fun hHeld => ?_)
     · try dsimp only
       rw [← hv0.out]
       ((repeat' apply And.intro) <;> assumption)
     rw [← hv0.out] at hHeld ⊢
     refine tk 0 51 ?_
     refine tk 2 53 ?_
     refine tk 3 54 ?_
     refine tk 4 55 ?_
     refine tk 6 57 ?_
     refine tk 7 58 ?_
     refine tk 8 59 ?_
     refine tk 9 60 ?_
     refine tk 10 61 ?_
     refine wpAnyH_ready (rs := [1, 5]) (by kernel_rfl) (by simp) ?_
     refine AllReadyH.cons rfl (fun K hK => ?_) ?_
     ·
      rw [if_pos (by rfl)]
      have cX := cell_of_heap hS0.1 2
      simp at cX
      go_simp
      clear cX
      refine hK.out _ _ ?_ (fun hHeld => ?_)
      · try dsimp only
        ((repeat' apply And.intro) <;> assumption)
      clear hK
      try simp only [Act.put, lyA, lyB, lyC]
      refine rd 5 (fun K hK => ?_)
      rw [if_pos (by rfl)]
      go_simp
      go_at_call 205
      (with_reducible refine (specNewV v0 f k d (by omega) (by omega)).mono ?_)
      rintro e v1 ⟨rfl, hbx⟩
      replace y0 := below_cell y0 hbx (by omega)
      replace y1 := below_cell y1 hbx (by omega)
      replace y2 := below_cell y2 hbx (by omega)
      replace y3 := below_cell y3 hbx (by omega)
      replace y4 := below_cell y4 hbx (by omega)
      have hS1 := hS0.below (by omega) hbx
      have hB1 := hB0.trans (hbx.mono (by omega))
      have hZ1 : Y < v1.heap.size := by have := hbx.size; omega
      clear hbx
      refine hK.out _ _ ?_ (fun hHeld => ?_)
      · try dsimp only
        ((repeat' apply And.intro) <;> assumption)
      clear hK
      try simp only [Act.put, lyA, lyB, lyC]
      refine rd 11 (fun K hK => ?_)
      rw [if_pos (by rfl)]
      go_simp
      go_at_call 205
      (with_reducible refine (specNewV v1 t k d (by omega) (by omega)).mono ?_)
      rintro e v2 ⟨rfl, hbx⟩
      replace y0 := below_cell y0 hbx (by omega)
      replace y1 := below_cell y1 hbx (by omega)
      replace y2 := below_cell y2 hbx (by omega)
      replace y3 := below_cell y3 hbx (by omega)
      replace y4 := below_cell y4 hbx (by omega)
      have hS2 := hS1.below (by omega) hbx
      have hB2 := hB1.trans (hbx.mono (by omega))
      have hZ2 : Y < v2.heap.size := by have := hbx.size; omega
      clear hbx
      refine hK.out _ _ ?_ (fun hHeld => ?_)
      · try dsimp only
        ((repeat' apply And.intro) <;> assumption)
      clear hK
      try simp only [Act.put, lyA, lyB, lyC]
      refine tk 12 63 ?_
      have hcall := specPut v2 (.slice av E.length cv) E (newV k d f) l (newV k d t) hS2.read (by omega)
      obtain ⟨E2, hE2⟩ := exq (putE (newV k d f, l, newV k d t) E)
      rw [← hE2] at hcall
      have hnx2 := hidI (hE2.trans hnext.out)
      replace hE2 := hidI hE2
      refine rd 13 (fun K hK => ?_)
      rw [if_pos (by rfl)]
      go_simp
      go_at_call 120
      (with_reducible refine hcall.mono ?_)
      rintro e w6 ⟨a2, c2, rfl, hrow, hb6⟩
      have hs6 := hb6.size
      replace y0 := below_cell y0 hb6 (by omega)
      replace y1 := below_cell y1 hb6 (by omega)
      replace y2 := below_cell y2 hb6 (by omega)
      replace y3 := below_cell y3 hb6 (by omega)
      replace y4 := below_cell y4 hb6 (by omega)
      have hX6 : w6.heap[X]? = _ := (hb6.block X (by omega)).trans hS2.1
      have c6 := cell_of_heap hX6 2
      have f6 := fun j => frozen_of_row w6 X j _ _ hX6
      simp at c6
      have hS7 := hS2.put (by omega) hb6 (by omega) hrow
      have hb7 : Below X w3 (w6.setCell ⟨X, 2, none⟩ (.slice a2 E2.length c2)) := (hB2.trans (hb6.mono (by omega))).setCell (p := ⟨X, 2, none⟩) (Nat.le_refl _) _
      have z0 : (w6.setCell ⟨X, 2, none⟩ (.slice a2 E2.length c2)).cell? ⟨Y, 0, none⟩ = some (.int .i64 f) := (World.cell?_of_block (w := w6) (a := ⟨Y, 0, none⟩) (Below.heap_setCell _ _ _ _ (show Y ≠ X by omega))).trans y0
      have z1 : (w6.setCell ⟨X, 2, none⟩ (.slice a2 E2.length c2)).cell? ⟨Y, 1, none⟩ = some (.int .i64 l) := (World.cell?_of_block (w := w6) (a := ⟨Y, 1, none⟩) (Below.heap_setCell _ _ _ _ (show Y ≠ X by omega))).trans y1
      have z2 : (w6.setCell ⟨X, 2, none⟩ (.slice a2 E2.length c2)).cell? ⟨Y, 2, none⟩ = some (.int .i64 t) := (World.cell?_of_block (w := w6) (a := ⟨Y, 2, none⟩) (Below.heap_setCell _ _ _ _ (show Y ≠ X by omega))).trans y2
      have z3 : (w6.setCell ⟨X, 2, none⟩ (.slice a2 E2.length c2)).cell? ⟨w.heap.size + 1, 0, none⟩ = some (.int .i64 k) := (World.cell?_of_block (w := w6) (a := ⟨w.heap.size + 1, 0, none⟩) (Below.heap_setCell _ _ _ _ (show w.heap.size + 1 ≠ X by omega))).trans y3
      have z4 : (w6.setCell ⟨X, 2, none⟩ (.slice a2 E2.length c2)).cell? ⟨w.heap.size + 1, 1, none⟩ = some (.int .i64 d) := (World.cell?_of_block (w := w6) (a := ⟨w.heap.size + 1, 1, none⟩) (Below.heap_setCell _ _ _ _ (show w.heap.size + 1 ≠ X by omega))).trans y4
      replace hX6 := hidI hX6
      replace hS7 := hidI hS7
      replace hb7 := hidI hb7
      replace hrow := hidI hrow
      replace hb6 := hidI hb6
      refine hK.out _ _ ?_ (fun hHeld => ?_)
      · try dsimp only
        ((repeat' apply And.intro) <;> assumption)
      clear hK
      try simp only [Act.put, lyA, lyB, lyC]
      refine tk 14 65 ?_
      refine rd 15 (fun K hK => ?_)
      rw [if_pos (by rfl)]
      go_simp
      replace y0 := z0
      replace y1 := z1
      replace y2 := z2
      replace y3 := z3
      replace y4 := z4
      refine hK.out _ _ ?_ (fun hHeld => ?_)
      · try dsimp only
        ((repeat' apply And.intro) <;> assumption)
      clear hK
      try simp only [Act.put, lyA, lyB, lyC]
      refine wpAnyH_done (by kernel_rfl) ?_ _
      refine hnorm _ _ ?_
      clear hnorm hpan
      repeat clear hHeld
      try simp only [Exit.then]
      have hst7 : Hid (∃ v', MSt (w6.setCell ⟨X, 2, none⟩ (.slice a2 E2.length c2)) X X r (s - 1) v' (mergeN k d es (j + 1))) := hidI ⟨_, by rw [← hnx2.out]; exact hS7.out⟩
      clear hcall
      go_wp2
      go_roundg (n - (j + 1))
      case rel => exact ⟨j + 1, by have := hj.out; omega, by go_num, hst7, hb7⟩
      case measure => have := hj.out; omega
     refine AllReadyH.cons rfl (fun K hK => ?_) AllReadyH.nil
     rw [if_pos (by rfl)]
     go_simp
     go_at_call 205
     (with_reducible refine (specNewV v0 f k d (by omega) (by omega)).mono ?_)
     rintro e v1 ⟨rfl, hbx⟩
     replace y0 := below_cell y0 hbx (by omega)
     replace y1 := below_cell y1 hbx (by omega)
     replace y2 := below_cell y2 hbx (by omega)
     replace y3 := below_cell y3 hbx (by omega)
     replace y4 := below_cell y4 hbx (by omega)
     have hS1 := hS0.below (by omega) hbx
     have hB1 := hB0.trans (hbx.mono (by omega))
     have hZ1 : Y < v1.heap.size := by have := hbx.size; omega
     clear hbx
     refine hK.out _ _ ?_ (fun hHeld => ?_)
     · try dsimp only
       ((repeat' apply And.intro) <;> assumption)
     clear hK
     try simp only [Act.put, lyA, lyB, lyC]
     refine wpAnyH_ready (rs := [1, 11]) (by kernel_rfl) (by simp) ?_
     refine AllReadyH.cons rfl (fun K hK => ?_) ?_
     ·
      rw [if_pos (by rfl)]
      have cX := cell_of_heap hS1.1 2
      simp at cX
      go_simp
      clear cX
      refine hK.out _ _ ?_ (fun hHeld => ?_)
      · try dsimp only
        ((repeat' apply And.intro) <;> assumption)
      clear hK
      try simp only [Act.put, lyA, lyB, lyC]
      refine rd 11 (fun K hK => ?_)
      rw [if_pos (by rfl)]
      go_simp
      go_at_call 205
      (with_reducible refine (specNewV v1 t k d (by omega) (by omega)).mono ?_)
      rintro e v2 ⟨rfl, hbx⟩
      replace y0 := below_cell y0 hbx (by omega)
      replace y1 := below_cell y1 hbx (by omega)
      replace y2 := below_cell y2 hbx (by omega)
      replace y3 := below_cell y3 hbx (by omega)
      replace y4 := below_cell y4 hbx (by omega)
      have hS2 := hS1.below (by omega) hbx
      have hB2 := hB1.trans (hbx.mono (by omega))
      have hZ2 : Y < v2.heap.size := by have := hbx.size; omega
      clear hbx
      refine hK.out _ _ ?_ (fun hHeld => ?_)
      · try dsimp only
        ((repeat' apply And.intro) <;> assumption)
      clear hK
      try simp only [Act.put, lyA, lyB, lyC]
      refine tk 12 63 ?_
      have hcall := specPut v2 (.slice av E.length cv) E (newV k d f) l (newV k d t) hS2.read (by omega)
      obtain ⟨E2, hE2⟩ := exq (putE (newV k d f, l, newV k d t) E)
      rw [← hE2] at hcall
      have hnx2 := hidI (hE2.trans hnext.out)
      replace hE2 := hidI hE2
      refine rd 13 (fun K hK => ?_)
      rw [if_pos (by rfl)]
      go_simp
      go_at_call 120
      (with_reducible refine hcall.mono ?_)
      rintro e w6 ⟨a2, c2, rfl, hrow, hb6⟩
      have hs6 := hb6.size
      replace y0 := below_cell y0 hb6 (by omega)
      replace y1 := below_cell y1 hb6 (by omega)
      replace y2 := below_cell y2 hb6 (by omega)
      replace y3 := below_cell y3 hb6 (by omega)
      replace y4 := below_cell y4 hb6 (by omega)
      have hX6 : w6.heap[X]? = _ := (hb6.block X (by omega)).trans hS2.1
      have c6 := cell_of_heap hX6 2
      have f6 := fun j => frozen_of_row w6 X j _ _ hX6
      simp at c6
      have hS7 := hS2.put (by omega) hb6 (by omega) hrow
      have hb7 : Below X w3 (w6.setCell ⟨X, 2, none⟩ (.slice a2 E2.length c2)) := (hB2.trans (hb6.mono (by omega))).setCell (p := ⟨X, 2, none⟩) (Nat.le_refl _) _
      have z0 : (w6.setCell ⟨X, 2, none⟩ (.slice a2 E2.length c2)).cell? ⟨Y, 0, none⟩ = some (.int .i64 f) := (World.cell?_of_block (w := w6) (a := ⟨Y, 0, none⟩) (Below.heap_setCell _ _ _ _ (show Y ≠ X by omega))).trans y0
      have z1 : (w6.setCell ⟨X, 2, none⟩ (.slice a2 E2.length c2)).cell? ⟨Y, 1, none⟩ = some (.int .i64 l) := (World.cell?_of_block (w := w6) (a := ⟨Y, 1, none⟩) (Below.heap_setCell _ _ _ _ (show Y ≠ X by omega))).trans y1
      have z2 : (w6.setCell ⟨X, 2, none⟩ (.slice a2 E2.length c2)).cell? ⟨Y, 2, none⟩ = some (.int .i64 t) := (World.cell?_of_block (w := w6) (a := ⟨Y, 2, none⟩) (Below.heap_setCell _ _ _ _ (show Y ≠ X by omega))).trans y2
      have z3 : (w6.setCell ⟨X, 2, none⟩ (.slice a2 E2.length c2)).cell? ⟨w.heap.size + 1, 0, none⟩ = some (.int .i64 k) := (World.cell?_of_block (w := w6) (a := ⟨w.heap.size + 1, 0, none⟩) (Below.heap_setCell _ _ _ _ (show w.heap.size + 1 ≠ X by omega))).trans y3
      have z4 : (w6.setCell ⟨X, 2, none⟩ (.slice a2 E2.length c2)).cell? ⟨w.heap.size + 1, 1, none⟩ = some (.int .i64 d) := (World.cell?_of_block (w := w6) (a := ⟨w.heap.size + 1, 1, none⟩) (Below.heap_setCell _ _ _ _ (show w.heap.size + 1 ≠ X by omega))).trans y4
      replace hX6 := hidI hX6
      replace hS7 := hidI hS7
      replace hb7 := hidI hb7
      replace hrow := hidI hrow
      replace hb6 := hidI hb6
      refine hK.out _ _ ?_ (fun hHeld => ?_)
      · try dsimp only
        ((repeat' apply And.intro) <;> assumption)
      clear hK
      try simp only [Act.put, lyA, lyB, lyC]
      refine tk 14 65 ?_
      refine rd 15 (fun K hK => ?_)
      rw [if_pos (by rfl)]
      go_simp
      replace y0 := z0
      replace y1 := z1
      replace y2 := z2
      replace y3 := z3
      replace y4 := z4
      refine hK.out _ _ ?_ (fun hHeld => ?_)
      · try dsimp only
        ((repeat' apply And.intro) <;> assumption)
      clear hK
      try simp only [Act.put, lyA, lyB, lyC]
      refine wpAnyH_done (by kernel_rfl) ?_ _
      refine hnorm _ _ ?_
      clear hnorm hpan
      repeat clear hHeld
      try simp only [Exit.then]
      have hst7 : Hid (∃ v', MSt (w6.setCell ⟨X, 2, none⟩ (.slice a2 E2.length c2)) X X r (s - 1) v' (mergeN k d es (j + 1))) := hidI ⟨_, by rw [← hnx2.out]; exact hS7.out⟩
      clear hcall
      go_wp2
      go_roundg (n - (j + 1))
      case rel => exact ⟨j + 1, by have := hj.out; omega, by go_num, hst7, hb7⟩
      case measure => have := hj.out; omega
     refine AllReadyH.cons rfl (fun K hK => ?_) AllReadyH.nil
     rw [if_pos (by rfl)]
     go_simp
     go_at_call 205
     (with_reducible refine (specNewV v1 t k d (by omega) (by omega)).mono ?_)
     rintro e v2 ⟨rfl, hbx⟩
     replace y0 := below_cell y0 hbx (by omega)
     replace y1 := below_cell y1 hbx (by omega)
     replace y2 := below_cell y2 hbx (by omega)
     replace y3 := below_cell y3 hbx (by omega)
     replace y4 := below_cell y4 hbx (by omega)
     have hS2 := hS1.below (by omega) hbx
     have hB2 := hB1.trans (hbx.mono (by omega))
     have hZ2 : Y < v2.heap.size := by have := hbx.size; omega
     clear hbx
     refine hK.out _ _ ?_ (fun hHeld => ?_)
     · try dsimp only
       ((repeat' apply And.intro) <;> assumption)
     clear hK
     try simp only [Act.put, lyA, lyB, lyC]
     refine tk 12 63 ?_
     refine rd 1 (fun K hK => ?_)
     rw [if_pos (by rfl)]
     have cX := cell_of_heap hS2.1 2
     simp at cX
     go_simp
     clear cX
     refine hK.out _ _ ?_ (fun hHeld => ?_)
     · try dsimp only
       ((repeat' apply And.intro) <;> assumption)
     clear hK
     try simp only [Act.put, lyA, lyB, lyC]
     have hcall := specPut v2 (.slice av E.length cv) E (newV k d f) l (newV k d t) hS2.read (by omega)
     obtain ⟨E2, hE2⟩ := exq (putE (newV k d f, l, newV k d t) E)
     rw [← hE2] at hcall
     have hnx2 := hidI (hE2.trans hnext.out)
     replace hE2 := hidI hE2
     refine rd 13 (fun K hK => ?_)
     rw [if_pos (by rfl)]
     go_simp
     go_at_call 120
     (with_reducible refine hcall.mono ?_)
     rintro e w6 ⟨a2, c2, rfl, hrow, hb6⟩
     have hs6 := hb6.size
     replace y0 := below_cell y0 hb6 (by omega)
     replace y1 := below_cell y1 hb6 (by omega)
     replace y2 := below_cell y2 hb6 (by omega)
     replace y3 := below_cell y3 hb6 (by omega)
     replace y4 := below_cell y4 hb6 (by omega)
     have hX6 : w6.heap[X]? = _ := (hb6.block X (by omega)).trans hS2.1
     have c6 := cell_of_heap hX6 2
     have f6 := fun j => frozen_of_row w6 X j _ _ hX6
     simp at c6
     have hS7 := hS2.put (by omega) hb6 (by omega) hrow
     have hb7 : Below X w3 (w6.setCell ⟨X, 2, none⟩ (.slice a2 E2.length c2)) := (hB2.trans (hb6.mono (by omega))).setCell (p := ⟨X, 2, none⟩) (Nat.le_refl _) _
     have z0 : (w6.setCell ⟨X, 2, none⟩ (.slice a2 E2.length c2)).cell? ⟨Y, 0, none⟩ = some (.int .i64 f) := (World.cell?_of_block (w := w6) (a := ⟨Y, 0, none⟩) (Below.heap_setCell _ _ _ _ (show Y ≠ X by omega))).trans y0
     have z1 : (w6.setCell ⟨X, 2, none⟩ (.slice a2 E2.length c2)).cell? ⟨Y, 1, none⟩ = some (.int .i64 l) := (World.cell?_of_block (w := w6) (a := ⟨Y, 1, none⟩) (Below.heap_setCell _ _ _ _ (show Y ≠ X by omega))).trans y1
     have z2 : (w6.setCell ⟨X, 2, none⟩ (.slice a2 E2.length c2)).cell? ⟨Y, 2, none⟩ = some (.int .i64 t) := (World.cell?_of_block (w := w6) (a := ⟨Y, 2, none⟩) (Below.heap_setCell _ _ _ _ (show Y ≠ X by omega))).trans y2
     have z3 : (w6.setCell ⟨X, 2, none⟩ (.slice a2 E2.length c2)).cell? ⟨w.heap.size + 1, 0, none⟩ = some (.int .i64 k) := (World.cell?_of_block (w := w6) (a := ⟨w.heap.size + 1, 0, none⟩) (Below.heap_setCell _ _ _ _ (show w.heap.size + 1 ≠ X by omega))).trans y3
     have z4 : (w6.setCell ⟨X, 2, none⟩ (.slice a2 E2.length c2)).cell? ⟨w.heap.size + 1, 1, none⟩ = some (.int .i64 d) := (World.cell?_of_block (w := w6) (a := ⟨w.heap.size + 1, 1, none⟩) (Below.heap_setCell _ _ _ _ (show w.heap.size + 1 ≠ X by omega))).trans y4
     replace hX6 := hidI hX6
     replace hS7 := hidI hS7
     replace hb7 := hidI hb7
     replace hrow := hidI hrow
     replace hb6 := hidI hb6
     refine hK.out _ _ ?_ (fun hHeld => ?_)
     · try dsimp only
       ((repeat' apply And.intro) <;> assumption)
     clear hK
     try simp only [Act.put, lyA, lyB, lyC]
     refine tk 14 65 ?_
     refine rd 15 (fun K hK => ?_)
     rw [if_pos (by rfl)]
     go_simp
     replace y0 := z0
     replace y1 := z1
     replace y2 := z2
     replace y3 := z3
     replace y4 := z4
     refine hK.out _ _ ?_ (fun hHeld => ?_)
     · try dsimp only
       ((repeat' apply And.intro) <;> assumption)
     clear hK
     try simp only [Act.put, lyA, lyB, lyC]
     refine wpAnyH_done (by kernel_rfl) ?_ _
     refine hnorm _ _ ?_
     clear hnorm hpan
     repeat clear hHeld
     try simp only [Exit.then]
     have hst7 : Hid (∃ v', MSt (w6.setCell ⟨X, 2, none⟩ (.slice a2 E2.length c2)) X X r (s - 1) v' (mergeN k d es (j + 1))) := hidI ⟨_, by rw [← hnx2.out]; exact hS7.out⟩
     clear hcall
     go_wp2
     go_roundg (n - (j + 1))
     case rel => exact ⟨j + 1, by have := hj.out; omega, by go_num, hst7, hb7⟩
     case measure => have := hj.out; omega
   · obtain rfl : j = n := by omega
     have hji : ¬ (j : Int) < (j : Int) := by omega
     have hEZ : E = ZE := by rw [hE, hZE1.out]
     rw [← hZS1.out] at hP
     subst hEZ
     have hR0 : wr.heap[w.heap.size + 1 + 1]? = some (.cells #[.int .i64 0, .int .i64 0, .slice none 0 0] 26 (0, 0)) := by rw [hkb.out.block _ (by omega)]; exact hRk.out w3 hbR3.out
     have hbr : Below w.heap.size w wr := hb13.out.trans (hkb.out.mono (by omega))
     have hfin := mst_fin (w := w) (w9 := wr) (X := X) (R := w.heap.size + 1 + 1) (base := X) (cap := cv) (r := r) (s' := ZS) (E := E) (b := true) (a := av) (by omega) (by omega) hbr hP
     have hX9 := hP.1
     obtain ⟨x0, x1, x2⟩ := cell3 hX9
     obtain ⟨y0, y1, y2⟩ := cell3 hR0
     have f2 := fun j => frozen_of_row wr (w.heap.size + 1 + 1) j _ _ hR0
     simp at x0 x1 x2 y0 y1 y2
     replace hfin := hidI hfin
     replace hR0 := hidI hR0
     replace hX9 := hidI hX9
     replace hP := hidI hP
     replace hj := hidI hj
     replace hbr := hidI hbr
     replace hE := hidI hE
     clear hst
     go_wp2
     (try simp only [Exit.inBlock, Exit.then])
     refine ret_cell2 (x := .bool true) rfl rfl rfl (set3 hR0.out _ _ _) Tryz.underlying26 sizeGraph ?_
     exact hfin.out
theorem ret_cell3 {fn : Func} {p q u : Tmp} {ty ty2 : TypeId} {fs fs2 : Array Field} (h : fn.results = #[.cell p ty, .cell q ty2, .tmp u]) {tmps : Array Value} {w : World} {g g2 : Nat} {t t2 : TypeId} {cs cs2 : Array Value} {fr fr2 : Nat × Nat} {x : Value} {R : Ending → World → Prop}
 (hp : tmps.getD p undef = .pointer (some ⟨g, 0, none⟩)) (hq : tmps.getD q undef = .pointer (some ⟨g2, 0, none⟩)) (hx : tmps.getD u undef = x) (hg : w.heap[g]? = some (.cells cs t fr)) (hg2 : w.heap[g2]? = some (.cells cs2 t2 fr2))
 (hu : Tryz.prog.underlying ty = some (.struct fs)) (hi : (Tryz.prog.info? ty).map (·.size) = some cs.size) (hu2 : Tryz.prog.underlying ty2 = some (.struct fs2)) (hi2 : (Tryz.prog.info? ty2).map (·.size) = some cs2.size)
 (hr : R (.returned (.tuple #[.agg cs, .agg cs2, x])) w) :
 bodyPost Tryz.prog fn R .ret { tmps := tmps, defers := [] } w := by
 refine bodyPost_ret (v := .tuple #[.agg cs, .agg cs2, x]) ?_ rfl hr
 have hp' : tmps[p]?.getD undef = .pointer (some ⟨g, 0, none⟩) := by simpa using hp
 have hq' : tmps[q]?.getD undef = .pointer (some ⟨g2, 0, none⟩) := by simpa using hq
 have hx' : tmps[u]?.getD undef = x := by simpa using hx
 simp [results, h, hp', hq', hx', asAddr, run_loadVar_row w g t ty cs fr _ hg hu rfl hi, run_loadVar_row w g2 t2 ty2 cs2 fr2 _ hg2 hu2 rfl hi2]
theorem heap_set2 {b q : Nat} {w : World} {x0 x1 : Value} (h : q ≠ b) : ((w.setCell ⟨b, 0, none⟩ x0).setCell ⟨b, 1, none⟩ x1).heap[q]? = w.heap[q]? := by
 rw [Below.heap_setCell _ _ _ _ h, Below.heap_setCell _ _ _ _ h]
theorem once_fin {w w9 : World} {R Fr lo : Nat} {r s' : Int} {es' : List Ed} {a : Option Addr} {c : Nat} {k d : Int} {b : Bool} (hR : w.heap.size ≤ R) (hF : w.heap.size ≤ Fr) (hRl : R < lo) (hFl : Fr < lo) (hlo : lo ≤ w9.heap.size) (hbw : Below w.heap.size w w9)
 (hrow : RowS 72 3 w9 lo w9.heap.size (.slice a es'.length c) es'.length (flatE es')) :
 LwGraphFoldBool w r s' es' (k, d) b (.returned (.tuple #[.agg #[.int .i64 r, .int .i64 s', .slice a es'.length c], .agg #[.int .i64 k, .int .i64 d], .bool b]))
  (((((w9.setCell ⟨R, 0, none⟩ (.int .i64 r)).setCell ⟨R, 1, none⟩ (.int .i64 s')).setCell ⟨R, 2, none⟩ (.slice a es'.length c)).setCell ⟨Fr, 0, none⟩ (.int .i64 k)).setCell ⟨Fr, 1, none⟩ (.int .i64 d)) := by
 refine ⟨a, c, rfl, ?_, ?_⟩
 · refine RowS.wide (lo := lo) (hi := w9.heap.size) (hrow.keep fun q q1 q2 => ?_) (by omega) (by simp [World.setCell])
   rw [heap_set2 (show q ≠ Fr by omega), heap_set3 (show q ≠ R by omega)]
 · exact ((below_set3 hbw hR).setCell (p := ⟨Fr, 0, none⟩) hF _).setCell (p := ⟨Fr, 1, none⟩) hF _
set_option maxRecDepth 100000 in
set_option maxHeartbeats 6400000 in
theorem specOnce (w : World) (r s : Int) (v : Value) (es : List Ed) (h : ReadE w.heap.size w v es) (hs : -9223372036854775808 ≤ s ∧ s ≤ 9223372036854775807) (hl : es.length ≤ 10000000) :
 Calls Tryz.prog 166 #[.agg #[.int .i64 r, .int .i64 s, v]] w (LwGraphFoldBool w r (onS r s es) (onE r s es) (ffF r s es) (ffB r s es)) := by
 obtain ⟨a, cap, rfl, hnc⟩ := h.form
 have hfirst := fun (W : World) (hr : ReadE W.heap.size W (.slice a es.length cap) es) => specFirst W r s _ es hr hs (by omega)
 have hcopy := fun (W : World) (hr : ReadE W.heap.size W (.slice a es.length cap) es) => specCopy W r s _ es hr (by omega)
 have hmerge := fun (W : World) (k d : Int) (hr : ReadE W.heap.size W (.slice a es.length cap) es) => specMerge W r s k d _ es hr hs (by omega)
 obtain ⟨n, hn⟩ := exq es.length
 rw [← hn] at h hl hnc hfirst hcopy hmerge ⊢
 obtain ⟨wa, hwa⟩ := exq ((w.alloc (.cells #[.int .i64 r, .int .i64 s, .slice a n cap] 26)).alloc (.cells #[.int .i64 0, .int .i64 0, .slice none 0 0] 26))
 have hba : Below w.heap.size w wa := by rw [hwa]; exact ((Below.refl _ _).alloc (Nat.le_refl _) _).alloc (by simp) _
 have hsa : wa.heap.size = w.heap.size + 1 + 1 := by rw [hwa]; simp
 have hg := heap_box w (.cells #[.int .i64 r, .int .i64 s, .slice a n cap] 26) (.cells #[.int .i64 0, .int .i64 0, .slice none 0 0] 26)
 have hR := heap_alloc_new (w.alloc (.cells #[.int .i64 r, .int .i64 s, .slice a n cap] 26)) (.cells #[.int .i64 0, .int .i64 0, .slice none 0 0] 26)
 rw [← hwa] at hg hR
 rw [show (w.alloc (.cells #[.int .i64 r, .int .i64 s, .slice a n cap] 26)).heap.size = w.heap.size + 1 by simp] at hR
 obtain ⟨w1, hw1⟩ := exq (wa.alloc (.cells #[.int .i64 0, .int .i64 0] 167))
 have hba1 : Below wa.heap.size wa w1 := by rw [hw1]; exact (Below.refl _ _).alloc (Nat.le_refl _) _
 have hs1 : w1.heap.size = w.heap.size + 1 + 1 + 1 := by rw [hw1]; simp; omega
 have hF := heap_alloc_new wa (.cells #[.int .i64 0, .int .i64 0] 167)
 rw [← hw1, hsa] at hF
 have hb1 : Below w.heap.size w w1 := hba.trans (hba1.mono (by omega))
 rw [← hba1.block _ (by omega)] at hg hR
 have g0 : w1.cell? ⟨w.heap.size, 0, none⟩ = some (.int .i64 r) := by simpa using cell_of_heap hg 0
 have g1 : w1.cell? ⟨w.heap.size, 1, none⟩ = some (.int .i64 s) := by simpa using cell_of_heap hg 1
 have g2 : w1.cell? ⟨w.heap.size, 2, none⟩ = some (.slice a n cap) := by simpa using cell_of_heap hg 2
 have hww : ((w.alloc (.cells #[.int .i64 r, .int .i64 s, .slice a n cap] 26)).alloc (.cells #[.int .i64 0, .int .i64 0, .slice none 0 0] 26)).alloc (.cells #[.int .i64 0, .int .i64 0] 167) = w1 := by rw [hw1, hwa]
 have his := hfirst w1 ((h.below hb1).mono hb1.size)
 obtain ⟨⟨k, d⟩, hFF⟩ : ∃ B, B = ffF r s es := ⟨_, rfl⟩
 obtain ⟨O, hO⟩ := exq (ffB r s es)
 obtain ⟨ZS, hZS⟩ := exq (onS r s es)
 obtain ⟨ZE, hZE⟩ := exq (onE r s es)
 rw [← hO, ← hZS, ← hZE, ← hFF]
 rw [← hO, ← hFF] at his
 unfold LwFoldBool at his
 simp only at his
 have hno : O = false → ZS = s ∧ ZE = es ∧ (k, d) = zeroF := fun hf => by rw [hZS, hZE, hFF]; unfold onS onE ffF; rw [← hO, hf]; exact ⟨rfl, rfl, rfl⟩
 have hyes : O = true → ZS = mrS r s es (k, d) ∧ ZE = mrE r s es (k, d) := fun hf => by rw [hZS, hZE, hFF]; unfold onS onE; rw [← hO, hf]; exact ⟨rfl, rfl⟩
 have hRk : ∀ W, Below w1.heap.size w1 W → W.heap[w.heap.size + 1]? = some (.cells #[.int .i64 0, .int .i64 0, .slice none 0 0] 26 (0, 0)) := fun W hW => by rw [hW.block _ (by omega)]; exact hR
 have hFk : ∀ W, Below w1.heap.size w1 W → W.heap[w.heap.size + 1 + 1]? = some (.cells #[.int .i64 0, .int .i64 0] 167 (0, 0)) := fun W hW => by rw [hW.block _ (by omega)]; exact hF
 replace hcopy := hidI hcopy
 replace hmerge := hidI hmerge
 replace hfirst := hidI hfirst
 replace hno := hidI hno
 replace hyes := hidI hyes
 replace hRk := hidI hRk
 replace hFk := hidI hFk
 replace hww := hidI hww
 replace hn := hidI hn
 replace h := hidI h
 replace hg := hidI hg
 replace hR := hidI hR
 replace hF := hidI hF
 replace hs1 := hidI hs1
 replace hsa := hidI hsa
 replace hO := hidI hO
 replace hZS := hidI hZS
 replace hZE := hidI hZE
 replace hFF := hidI hFF
 replace hwa := hidI hwa
 replace hw1 := hidI hw1
 clear hba hba1
 go_enter Tryz.func166, Tryz.ntmps166
 go_upto_region 1 with fail
 rw [hww.out]
 go_wp2_with fail
 refine his.mono ?_
 rintro e w2 ⟨rfl, hb2⟩
 clear his
 have hlt1 : w.heap.size + 1 + 1 < w1.heap.size := by have := hs1.out; omega
 have hb2l : w1.heap.size ≤ w2.heap.size := hb2.size
 obtain ⟨w3, hw3⟩ := exq (w2.alloc (.cells #[.int .i64 k, .int .i64 d] 167))
 have hb3 : Below w2.heap.size w2 w3 := by rw [hw3]; exact (Below.refl _ _).alloc (Nat.le_refl _) _
 have hs3 : w3.heap.size = w2.heap.size + 1 := by rw [hw3]; simp
 have hk3 : w3.heap[w2.heap.size]? = some (.cells #[.int .i64 k, .int .i64 d] 167 (0, 0)) := by rw [hw3]; exact heap_alloc_new _ _
 obtain ⟨X, hX⟩ := exq w2.heap.size
 rw [← hX] at hk3
 have q0 : w3.cell? ⟨X, 0, none⟩ = some (.int .i64 k) := by simpa using cell_of_heap hk3 0
 have q1 : w3.cell? ⟨X, 1, none⟩ = some (.int .i64 d) := by simpa using cell_of_heap hk3 1
 have hb23 := hb2.trans (hb3.mono hb2l)
 replace g0 := below_cell g0 hb23 (by omega)
 replace g1 := below_cell g1 hb23 (by omega)
 replace g2 := below_cell g2 hb23 (by omega)
 have hb13 := hidI hb23
 have hbw3 := hidI (hb1.trans (hb23.mono hb1.size))
 have hXl : w.heap.size + 1 + 1 < X := by omega
 have hX3 : X < w3.heap.size := by omega
 replace hs3 := hidI hs3
 replace hk3 := hidI hk3
 clear hb2 hb3 hb23
 go_upto_region 2 with fail
 rw [← hw3]
 replace hw3 := hidI hw3
 rw [← hX]
 replace hX := hidI hX
 cases O with
 | false =>
  obtain ⟨hZS0, hZE0, hz⟩ := hno.out rfl
  unfold zeroF at hz
  simp only [Prod.mk.injEq] at hz
  obtain ⟨hk0, hd0⟩ := hz
  have hcc := hcopy.out w3 ((h.out.below hbw3.out).mono hbw3.out.size)
  replace hZS0 := hidI hZS0
  replace hZE0 := hidI hZE0
  replace hk0 := hidI hk0
  replace hd0 := hidI hd0
  replace hO := hidI hO.out
  go_wp2_with fail
  refine hcc.mono ?_
  rintro e w5 ⟨ca, cc, rfl, hrow, hb5⟩
  rw [← hn.out]
  rw [← hn.out] at hrow
  clear hcc q0 q1 g0 g1 g2
  have hb15 : Below w.heap.size w w5 := hbw3.out.trans (hb5.mono hbw3.out.size)
  have hb15' := hb13.out.trans (hb5.mono hb13.out.size)
  have hR5 := hRk.out w5 hb15'
  have hF5 := hFk.out w5 hb15'
  obtain ⟨y0, y1, y2⟩ := cell3 hR5
  have f2 := fun j => frozen_of_row w5 (w.heap.size + 1) j _ _ hR5
  have z0 := cell_of_heap hF5 0
  have z1 := cell_of_heap hF5 1
  have f3 := fun j => frozen_of_row w5 (w.heap.size + 1 + 1) j _ _ hF5
  simp at y0 y1 y2 z0 z1
  have hrw := hrow
  rw [hn.out] at hrw
  have hsz5 := hb5.size
  have hfin := once_fin (w := w) (w9 := w5) (R := w.heap.size + 1) (Fr := w.heap.size + 1 + 1) (lo := w3.heap.size) (r := r) (s' := s) (es' := es) (a := ca) (c := cc) (k := 0) (d := 0) (b := false) (by omega) (by omega) (by omega) (by omega) hsz5 hb15 hrw
  rw [← hn.out] at hfin
  have hset := set3 hR5 (.int .i64 r) (.int .i64 s) (.slice ca n cc)
  have hset1 := (heap_set2 (b := w.heap.size + 1 + 1) (q := w.heap.size + 1) (w := ((w5.setCell ⟨w.heap.size + 1, 0, none⟩ (.int .i64 r)).setCell ⟨w.heap.size + 1, 1, none⟩ (.int .i64 s)).setCell ⟨w.heap.size + 1, 2, none⟩ (.slice ca n cc)) (x0 := .int .i64 0) (x1 := .int .i64 0) (by omega)).trans hset
  have hset2 := set2F ((heap_set3 (b := w.heap.size + 1) (k := w.heap.size + 1 + 1) (w := w5) (x0 := .int .i64 r) (x1 := .int .i64 s) (x2 := .slice ca n cc) (by omega)).trans hF5) (.int .i64 0) (.int .i64 0)
  replace hfin := hidI hfin
  replace hset := hidI hset
  replace hset1 := hidI hset1
  replace hset2 := hidI hset2
  replace hR5 := hidI hR5
  replace hF5 := hidI hF5
  replace hrow := hidI hrow
  replace hrw := hidI hrw
  replace hb5 := hidI hb5
  replace hb15 := hidI hb15
  replace hb15' := hidI hb15'
  go_wp2
  (try simp only [Exit.inBlock, Exit.then])
  refine ret_cell3 (x := .bool false) rfl rfl rfl rfl hset1.out hset2.out Tryz.underlying26 sizeGraph Tryz.underlying167 sizeFold ?_
  rw [hZS0.out, hZE0.out, hk0.out, hd0.out]
  exact hfin.out
 | true =>
  obtain ⟨hZS1, hZE1⟩ := hyes.out rfl
  have hcc := hmerge.out w3 k d ((h.out.below hbw3.out).mono hbw3.out.size)
  obtain ⟨OB, hOB⟩ := exq (okM r s es (k, d))
  rw [← hZS1, ← hZE1, ← hOB] at hcc
  replace hZS1 := hidI hZS1
  replace hZE1 := hidI hZE1
  replace hOB := hidI hOB
  replace hO := hidI hO.out
  go_wp2_with fail
  refine hcc.mono ?_
  rintro e w5 ⟨ca, cc, rfl, hrow, hb5⟩
  clear hcc g0 g1 g2
  have hsz5 := hb5.size
  obtain ⟨m, hm⟩ := exq ZE.length
  rw [← hm]
  obtain ⟨w6, hw6⟩ := exq (w5.alloc (.cells #[.int .i64 r, .int .i64 ZS, .slice ca m cc] 26))
  have hb6 : Below w5.heap.size w5 w6 := by rw [hw6]; exact (Below.refl _ _).alloc (Nat.le_refl _) _
  have hs6 : w6.heap.size = w5.heap.size + 1 := by rw [hw6]; simp
  have hbx := box3 hw6
  obtain ⟨Y, hY⟩ := exq w5.heap.size
  rw [← hY] at hbx
  obtain ⟨x0, x1, x2⟩ := hbx
  have hb56 := hb5.trans (hb6.mono hsz5)
  replace q0 := below_cell q0 hb56 hX3
  replace q1 := below_cell q1 hb56 hX3
  obtain ⟨u, hu⟩ := exq w6.drew
  have hbu : Below w3.heap.size w3 u := by rw [hu]; exact below_dn hb56 1
  have hb15 : Below w.heap.size w u := hbw3.out.trans (hbu.mono hbw3.out.size)
  have hb15' := hb13.out.trans (hbu.mono hb13.out.size)
  have hR5 := hRk.out u hb15'
  have hF5 := hFk.out u hb15'
  have hsu : u.heap.size = w5.heap.size + 1 := by rw [hu]; exact hs6
  obtain ⟨y0, y1, y2⟩ := cell3 hR5
  have f2 := fun j => frozen_of_row u (w.heap.size + 1) j _ _ hR5
  simp at y0 y1 y2
  have hrow6 : RowS 72 3 u w3.heap.size u.heap.size (.slice ca ZE.length cc) ZE.length (flatE ZE) := by
   have h1 := hrow.below hb6 (Nat.le_refl _)
   have h2 : RowS 72 3 u w3.heap.size w5.heap.size (.slice ca ZE.length cc) ZE.length (flatE ZE) := by rw [hu]; exact h1
   exact h2.wide (Nat.le_refl _) (by omega)
  have hfin := once_fin (w := w) (w9 := u) (R := w.heap.size + 1) (Fr := w.heap.size + 1 + 1) (lo := w3.heap.size) (r := r) (s' := ZS) (es' := ZE) (a := ca) (c := cc) (k := k) (d := d) (b := true) (by omega) (by omega) (by omega) (by omega) (by omega) hb15 hrow6
  rw [← hm] at hfin
  obtain ⟨u1, hu1⟩ := exq (((u.setCell ⟨w.heap.size + 1, 0, none⟩ (.int .i64 r)).setCell ⟨w.heap.size + 1, 1, none⟩ (.int .i64 ZS)).setCell ⟨w.heap.size + 1, 2, none⟩ (.slice ca m cc))
  obtain ⟨u2, hu2⟩ := exq ((u1.setCell ⟨w.heap.size + 1 + 1, 0, none⟩ (.int .i64 k)).setCell ⟨w.heap.size + 1 + 1, 1, none⟩ (.int .i64 d))
  have hset := set3 hR5 (.int .i64 r) (.int .i64 ZS) (.slice ca m cc)
  rw [← hu1] at hset
  have hF6 : u1.heap[w.heap.size + 1 + 1]? = some (.cells #[.int .i64 0, .int .i64 0] 167 (0, 0)) := by rw [hu1]; exact (heap_set3 (b := w.heap.size + 1) (k := w.heap.size + 1 + 1) (by omega)).trans hF5
  have hset1 := (heap_set2 (b := w.heap.size + 1 + 1) (q := w.heap.size + 1) (w := u1) (x0 := .int .i64 k) (x1 := .int .i64 d) (by omega)).trans hset
  have hset2 := set2F hF6 (.int .i64 k) (.int .i64 d)
  rw [← hu2] at hset1 hset2
  have z0 := cell_of_heap hF6 0
  have z1 := cell_of_heap hF6 1
  have f3 := fun j => frozen_of_row u1 (w.heap.size + 1 + 1) j _ _ hF6
  simp at z0 z1
  have hk1 : ∀ b, b ≠ w.heap.size + 1 → u1.heap[b]? = u.heap[b]? := fun b hb => by rw [hu1]; exact heap_set3 hb
  have hk2 : ∀ b, b ≠ w.heap.size + 1 → b ≠ w.heap.size + 1 + 1 → u2.heap[b]? = u.heap[b]? := fun b h1 h2 => by rw [hu2, heap_set2 h2]; exact hk1 b h1
  have xu0 : u.cell? ⟨Y, 0, none⟩ = some (.int .i64 r) := by rw [hu]; exact x0
  have xu1 : u.cell? ⟨Y, 1, none⟩ = some (.int .i64 ZS) := by rw [hu]; exact x1
  have xu2 : u.cell? ⟨Y, 2, none⟩ = some (.slice ca m cc) := by rw [hu]; exact x2
  have xu3 : u.cell? ⟨X, 0, none⟩ = some (.int .i64 k) := by rw [hu]; exact q0
  have xu4 : u.cell? ⟨X, 1, none⟩ = some (.int .i64 d) := by rw [hu]; exact q1
  have xv0 : u1.cell? ⟨Y, 0, none⟩ = some (.int .i64 r) := (World.cell?_of_block (w := u) (a := ⟨Y, 0, none⟩) (hk1 Y (by omega))).trans xu0
  have xw0 : u2.cell? ⟨Y, 0, none⟩ = some (.int .i64 r) := (World.cell?_of_block (w := u) (a := ⟨Y, 0, none⟩) (hk2 Y (by omega) (by omega))).trans xu0
  have xv1 : u1.cell? ⟨Y, 1, none⟩ = some (.int .i64 ZS) := (World.cell?_of_block (w := u) (a := ⟨Y, 1, none⟩) (hk1 Y (by omega))).trans xu1
  have xw1 : u2.cell? ⟨Y, 1, none⟩ = some (.int .i64 ZS) := (World.cell?_of_block (w := u) (a := ⟨Y, 1, none⟩) (hk2 Y (by omega) (by omega))).trans xu1
  have xv2 : u1.cell? ⟨Y, 2, none⟩ = some (.slice ca m cc) := (World.cell?_of_block (w := u) (a := ⟨Y, 2, none⟩) (hk1 Y (by omega))).trans xu2
  have xw2 : u2.cell? ⟨Y, 2, none⟩ = some (.slice ca m cc) := (World.cell?_of_block (w := u) (a := ⟨Y, 2, none⟩) (hk2 Y (by omega) (by omega))).trans xu2
  have xv3 : u1.cell? ⟨X, 0, none⟩ = some (.int .i64 k) := (World.cell?_of_block (w := u) (a := ⟨X, 0, none⟩) (hk1 X (by omega))).trans xu3
  have xw3 : u2.cell? ⟨X, 0, none⟩ = some (.int .i64 k) := (World.cell?_of_block (w := u) (a := ⟨X, 0, none⟩) (hk2 X (by omega) (by omega))).trans xu3
  have xv4 : u1.cell? ⟨X, 1, none⟩ = some (.int .i64 d) := (World.cell?_of_block (w := u) (a := ⟨X, 1, none⟩) (hk1 X (by omega))).trans xu4
  have xw4 : u2.cell? ⟨X, 1, none⟩ = some (.int .i64 d) := (World.cell?_of_block (w := u) (a := ⟨X, 1, none⟩) (hk2 X (by omega) (by omega))).trans xu4
  replace hrow := hidI hrow
  replace hb5 := hidI hb5
  replace hb6 := hidI hb6
  replace hs6 := hidI hs6
  replace hb56 := hidI hb56
  replace hbu := hidI hbu
  replace hb15 := hidI hb15
  replace hb15' := hidI hb15'
  replace hR5 := hidI hR5
  replace hF5 := hidI hF5
  replace hsu := hidI hsu
  replace hrow6 := hidI hrow6
  replace hfin := hidI hfin
  replace hset := hidI hset
  replace hset1 := hidI hset1
  replace hset2 := hidI hset2
  replace hF6 := hidI hF6
  replace hk1 := hidI hk1
  replace hk2 := hidI hk2
  replace hu := hidI hu
  replace hu1 := hidI hu1
  replace hu2 := hidI hu2
  replace hm := hidI hm
  go_upto_region 5 with fail
  rw [← hw6]
  replace hw6 := hidI hw6
  rw [← hY]
  replace hY := hidI hY
  clear x0 x1 x2 q0 q1
  refine hideQ (fun _ _ d _ _ h => by cases d <;> exact h) (fun Q' hnorm hpan => ?_)
  refine wp_region_held_drew (S := fun z => z.cell? ⟨Y, 0, none⟩ = some (.int .i64 r) ∧ z.cell? ⟨Y, 1, none⟩ = some (.int .i64 ZS) ∧ z.cell? ⟨Y, 2, none⟩ = some (.slice ca m cc) ∧ z.cell? ⟨X, 0, none⟩ = some (.int .i64 k) ∧ z.cell? ⟨X, 1, none⟩ = some (.int .i64 d)) (by kernel_rfl) ?_ (fun hHeld => ?_)
  · try dsimp only
    rw [← hu.out]
    ((repeat' apply And.intro) <;> assumption)
  rw [← hu.out] at hHeld ⊢
  refine tk 0 25 ?_
  refine tk 1 26 ?_
  refine wpAnyH_ready (rs := [2]) (by kernel_rfl) (by simp) ?_
  refine AllReadyH.cons rfl (fun Kz hK => ?_) AllReadyH.nil
  rw [if_pos (by rfl)]
  go_simp
  rw [← hu1.out]
  clear xu0 xu1 xu2 xu3 xu4
  refine hK.out _ _ ?_ (fun hHeld => ?_)
  · try dsimp only
    ((repeat' apply And.intro) <;> assumption)
  clear hK
  try simp only [Act.put, lyA, lyB, lyC]
  refine wpAnyH_ready (rs := [3]) (by kernel_rfl) (by simp) ?_
  refine AllReadyH.cons rfl (fun Kz hK => ?_) AllReadyH.nil
  rw [if_pos (by rfl)]
  go_simp
  rw [← hu2.out]
  clear xv0 xv1 xv2 xv3 xv4
  refine hK.out _ _ ?_ (fun hHeld => ?_)
  · try dsimp only
    ((repeat' apply And.intro) <;> assumption)
  clear hK
  try simp only [Act.put, lyA, lyB, lyC]
  refine tk 4 4 ?_
  refine wpAnyH_done (by kernel_rfl) ?_ _
  refine hnorm _ _ ?_
  clear hnorm hpan
  repeat clear hHeld
  try simp only [Exit.then]
  clear y0 y1 y2 z0 z1 f2 f3 xw0 xw1 xw2 xw3 xw4
  go_wp2
  (try simp only [Exit.inBlock, Exit.then])
  refine ret_cell3 (x := .bool true) rfl rfl rfl rfl hset1.out hset2.out Tryz.underlying26 sizeGraph Tryz.underlying167 sizeFold ?_
  have hf := hfin.out
  rw [← hu1.out, ← hu2.out] at hf
  exact hf
end Go.Proofs.YtpjlamnjiilgbaaGreat
