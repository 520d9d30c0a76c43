/- Cores, the program: CanonicalGraph (tools/uh.py). -/
import Derived.Test.YtecceaijdjnflaaGreatUE
import Derived.Test.YtecceaijdjnflaaGreatUF
import Derived.Test.YtecceaijdjnflaaGreatTF
import Derived.Deep.RegionHeld3
namespace Go.Proofs.YtecceaijdjnflaaGreat
open Go.RowKit
set_option linter.unusedVariables false
set_option linter.unusedSimpArgs false

theorem cg_ren (r s : Int) (es : List Ed) : cgS r s es = rnS r s es (cgL r s es) ∧ cgE r s es = rnE r s es (cgL r s es) := by
  unfold cgS cgE
  by_cases h : (cgL r s es).length = 0
  · have hf : okN r s es (cgL r s es) = false := by
      cases e : okN r s es (cgL r s es) with
      | false => rfl
      | true => exact absurd h (okN_iff.1 e).2.1
    rw [if_pos h, if_pos h, rnS, rnE, hf]
    exact ⟨rfl, rfl⟩
  · rw [if_neg h, if_neg h]; exact ⟨rfl, rfl⟩
set_option maxRecDepth 100000 in
set_option maxHeartbeats 6400000 in
theorem progCanG (w : World) (r s : Int) (v : Value) (es : List Ed) (h : ReadE w.heap.size w v es) (hl : es.length ≤ 10000000) :
    Calls Tryz.prog 18 #[.agg #[.int .i64 r, .int .i64 s, v]] w (LwGraph w r (cgS r s es) (cgE r s es)) := by
  obtain ⟨a, cap, rfl, hnc⟩ := h.form
  obtain ⟨n, hn⟩ : ∃ n, n = es.length := ⟨_, rfl⟩
  rw [← hn] at hl hnc ⊢
  rw [← hn] at h
  obtain ⟨w1, hw1⟩ : ∃ z, z = (w.alloc (.cells #[.int .i64 r, .int .i64 s, .slice a n cap] 28)).alloc (.cells #[.int .i64 0, .int .i64 0, .slice none 0 0] 28) := ⟨_, rfl⟩
  have hb1 : Below w.heap.size w w1 := by rw [hw1]; exact ((Below.refl _ _).alloc (Nat.le_refl _) _).alloc (by simp) _
  have hs1 : w1.heap.size = w.heap.size + 1 + 1 := by rw [hw1]; simp
  have hg := heap_box w (.cells #[.int .i64 r, .int .i64 s, .slice a n cap] 28) (.cells #[.int .i64 0, .int .i64 0, .slice none 0 0] 28)
  have hR := heap_alloc_new (w.alloc (.cells #[.int .i64 r, .int .i64 s, .slice a n cap] 28)) (.cells #[.int .i64 0, .int .i64 0, .slice none 0 0] 28)
  rw [← hw1] at hg hR
  rw [show (w.alloc (.cells #[.int .i64 r, .int .i64 s, .slice a n cap] 28)).heap.size = w.heap.size + 1 by simp] at hR
  obtain ⟨wd, hwd⟩ : ∃ z, z = w1.drew := ⟨_, rfl⟩
  have hbd : Below w1.heap.size w1 wd := by rw [hwd]; exact below_dn (Below.refl _ _) 1
  have g0 : wd.cell? ⟨w.heap.size, 0, none⟩ = some (.int .i64 r) := by rw [hwd]; simpa using cell_of_heap hg 0
  have g1 : wd.cell? ⟨w.heap.size, 1, none⟩ = some (.int .i64 s) := by rw [hwd]; simpa using cell_of_heap hg 1
  have g2 : wd.cell? ⟨w.heap.size, 2, none⟩ = some (.slice a n cap) := by rw [hwd]; simpa using cell_of_heap hg 2
  have hRd : Hid (wd.heap[w.heap.size + 1]? = some (.cells #[.int .i64 0, .int .i64 0, .slice none 0 0] 28 (0, 0))) := hidI (by rw [hwd]; exact hR)
  have hb1d := hidI (hb1.trans (hbd.mono hb1.size))
  have hsw : w.heap.size < wd.heap.size := by have := hbd.size; omega
  have hsw1 : w.heap.size + 1 < wd.heap.size := by have := hbd.size; omega
  have hbwd : Below wd.heap.size wd wd := Below.refl _ _
  have hco := fun (W : World) (hr : ReadE W.heap.size W (.slice a n cap) es) => progCanO W r s (.slice a n cap) es hr (by omega)
  have hrn := fun (W : World) (ov : Value) (hr : ReadE W.heap.size W (.slice a n cap) es) (ho : ReadI W.heap.size W ov (cgL r s es)) => progRenum W r s (.slice a n cap) ov es (cgL r s es) hr (by omega) ho (by have := cgL_length r s es; omega)
  rw [← (cg_ren r s es).1, ← (cg_ren r s es).2] at hrn
  change ∀ W, _ → Calls _ _ _ W (IntsRet W (cgL r s es)) at hco
  obtain ⟨ZL, hZL⟩ : ∃ B, B = cgL r s es := ⟨_, rfl⟩
  obtain ⟨ZS, hZS⟩ : ∃ B, B = cgS r s es := ⟨_, rfl⟩
  obtain ⟨ZE, hZE⟩ : ∃ B, B = cgE r s es := ⟨_, rfl⟩
  rw [← hZL] at hco hrn
  rw [← hZS, ← hZE] at hrn ⊢
  have hww := hidI hw1.symm
  have hwdw := hidI hwd.symm
  replace hco := hidI hco
  replace hrn := hidI hrn
  replace hZL := hidI hZL
  replace hZS := hidI hZS
  replace hZE := hidI hZE
  replace hn := hidI hn
  replace h := hidI h
  replace hg := hidI hg
  replace hR := hidI hR
  replace hw1 := hidI hw1
  replace hwd := hidI hwd
  replace hs1 := hidI hs1
  clear hb1 hbd
  go_enter Tryz.func18, Tryz.ntmps18
  go_upto_region 1 with fail
  rw [hww.out]
  refine hideQ (fun _ _ d _ _ h => by cases d <;> exact h) (fun Q' hnorm hpan => ?_)
  refine wp_region_held_drew (S := (fun W0 => W0.cell? ⟨w.heap.size, 0, none⟩ = some (.int .i64 r) ∧ W0.cell? ⟨w.heap.size, 1, none⟩ = some (.int .i64 s) ∧ W0.cell? ⟨w.heap.size, 2, none⟩ = some (.slice a n cap))) (by kernel_rfl) ?_ (fun hHeld => ?_)
  · try dsimp only
    rw [hwdw.out]
    ((repeat' apply And.intro) <;> assumption)
  rw [hwdw.out] at hHeld ⊢
  refine take_at 0 6 (v := ?_) rfl (by kernel_rfl) (by kernel_rfl) (by kernel_rfl) (by kernel_rfl) hpan (Or.inl ⟨by rfl, ?_⟩) (by assumption) ?_
  rotate_left
  · intro w hSw; (try dsimp only at hSw); go_simp; with_reducible rfl
  simp only [Act.put, List.setIfInBounds_toArray, List.set_cons_zero, List.set_cons_succ]
  refine take_at 1 7 (v := ?_) rfl (by kernel_rfl) (by kernel_rfl) (by kernel_rfl) (by kernel_rfl) hpan (Or.inl ⟨by rfl, ?_⟩) (by assumption) ?_
  rotate_left
  · intro w hSw; (try dsimp only at hSw); go_simp; with_reducible rfl
  simp only [Act.put, List.setIfInBounds_toArray, List.set_cons_zero, List.set_cons_succ]
  refine wpAnyH_ready (rs := [2, 7]) (by kernel_rfl) (by simp) ?_
  refine AllReadyH.cons rfl (fun K hK => ?_) ?_
  ·
    rw [if_pos (by rfl)]
    go_simp
    refine (hco.out wd ((h.out.below (hb1d.out.trans (hbwd.mono hb1d.out.size))).mono (by have := hbwd.size; have := hb1d.out.size; omega))).mono ?_
    rintro e wdx2 ⟨ov, rfl, hord0, hbc⟩
    have hbbwdx2 : Below wd.heap.size wd wdx2 := hbc
    have hszwdx2 := hbbwdx2.size
    have hbwdx2 : Below wd.heap.size wd wdx2 := hbwd.trans (hbbwdx2.mono hbwd.size)
    have k0wdx2 := below_cell g0 hbwdx2 hsw
    have k1wdx2 := below_cell g1 hbwdx2 hsw
    have k2wdx2 := below_cell g2 hbwdx2 hsw
    have hord := hord0.read
    clear hord0 hbc
    refine hK.out _ _ ?_ (fun hHeld => ?_)
    · try dsimp only
      ((repeat' apply And.intro) <;> assumption)
    clear hK
    try simp only [Act.put, List.setIfInBounds_toArray, List.set_cons_zero, List.set_cons_succ]
    refine wpAnyH_ready (rs := [3, 7]) (by kernel_rfl) (by simp) ?_
    refine AllReadyH.cons rfl (fun K hK => ?_) ?_
    ·
      rw [if_pos (by rfl)]
      go_simp
      refine (hrn.out wdx2 ov ((h.out.below (hb1d.out.trans (hbwdx2.mono hb1d.out.size))).mono (by have := hbwdx2.size; have := hb1d.out.size; omega)) hord).mono ?_
      rintro e wdx2x3 ⟨ca, cc, rfl, hrow0, hbc⟩
      have hbbwdx2x3 : Below wdx2.heap.size wdx2 wdx2x3 := hbc
      have hszwdx2x3 := hbbwdx2x3.size
      have hbwdx2x3 : Below wd.heap.size wd wdx2x3 := hbwdx2.trans (hbbwdx2x3.mono hbwdx2.size)
      have k0wdx2x3 := below_cell g0 hbwdx2x3 hsw
      have k1wdx2x3 := below_cell g1 hbwdx2x3 hsw
      have k2wdx2x3 := below_cell g2 hbwdx2x3 hsw
      obtain ⟨glo, hglo⟩ : ∃ z, z = wdx2.heap.size := ⟨_, rfl⟩
      obtain ⟨ghi, hghi0⟩ : ∃ z, z = wdx2x3.heap.size := ⟨_, rfl⟩
      have hrow := hrow0
      rw [← hglo, ← hghi0] at hrow
      have hghi : ghi ≤ wdx2x3.heap.size := by omega
      have hglo0 : wd.heap.size ≤ glo := by rw [hglo]; exact hbwdx2.size
      clear hrow0 hbc
      refine hK.out _ _ ?_ (fun hHeld => ?_)
      · try dsimp only
        ((repeat' apply And.intro) <;> assumption)
      clear hK
      try simp only [Act.put, List.setIfInBounds_toArray, List.set_cons_zero, List.set_cons_succ]
      refine take_at 4 5 (v := ?_) rfl (by kernel_rfl) (by kernel_rfl) (by kernel_rfl) (by kernel_rfl) hpan (Or.inl ⟨by rfl, ?_⟩) (by assumption) ?_
      rotate_left
      · intro w hSw; (try dsimp only at hSw); go_simp; with_reducible rfl
      simp only [Act.put, List.setIfInBounds_toArray, List.set_cons_zero, List.set_cons_succ]
      refine take_at 5 10 (v := ?_) rfl (by kernel_rfl) (by kernel_rfl) (by kernel_rfl) (by kernel_rfl) hpan (Or.inl ⟨by rfl, ?_⟩) (by assumption) ?_
      rotate_left
      · intro w hSw; (try dsimp only at hSw); go_simp; with_reducible rfl
      simp only [Act.put, List.setIfInBounds_toArray, List.set_cons_zero, List.set_cons_succ]
      refine take_at 6 11 (v := ?_) rfl (by kernel_rfl) (by kernel_rfl) (by kernel_rfl) (by kernel_rfl) hpan (Or.inl ⟨by rfl, ?_⟩) (by assumption) ?_
      rotate_left
      · intro w hSw; (try dsimp only at hSw); go_simp; with_reducible rfl
      simp only [Act.put, List.setIfInBounds_toArray, List.set_cons_zero, List.set_cons_succ]
      refine wpAnyH_ready (rs := [7]) (by kernel_rfl) (by simp) ?_
      refine AllReadyH.cons rfl (fun K hK => ?_) AllReadyH.nil
      rw [if_pos (by rfl)]
      go_simp
      obtain ⟨wdx2x3x7, hwdx2x3x7⟩ : ∃ z, z = wdx2x3.alloc (.cells #[.int .i64 0, .int .i64 0, .slice none 0 0] 28) := ⟨_, rfl⟩
      have hbbwdx2x3x7 : Below wdx2x3.heap.size wdx2x3 wdx2x3x7 := by rw [hwdx2x3x7]; exact (Below.refl _ _).alloc (Nat.le_refl _) _
      have hszwdx2x3x7 := hbbwdx2x3x7.size
      have hbwdx2x3x7 : Below wd.heap.size wd wdx2x3x7 := hbwdx2x3.trans (hbbwdx2x3x7.mono hbwdx2x3.size)
      have k0wdx2x3x7 := below_cell g0 hbwdx2x3x7 hsw
      have k1wdx2x3x7 := below_cell g1 hbwdx2x3x7 hsw
      have k2wdx2x3x7 := below_cell g2 hbwdx2x3x7 hsw
      obtain ⟨Bx, hBx⟩ : ∃ z, z = wdx2x3.heap.size := ⟨_, rfl⟩
      have hbox : wdx2x3x7.heap[Bx]? = some (.cells #[.int .i64 0, .int .i64 0, .slice none 0 0] 28 (0, 0)) := by rw [hwdx2x3x7, hBx]; exact heap_alloc_new _ _
      have hBl : Bx < wdx2x3x7.heap.size := (Array.getElem?_eq_some_iff.1 hbox).1
      have hBx0 : wd.heap.size ≤ Bx := by rw [hBx]; exact hbwdx2x3.size
      replace hrow := RowS.below hrow hbbwdx2x3x7 hghi
      have hghi2 : ghi ≤ Bx := by omega
      rw [← hwdx2x3x7, ← hBx]
      replace hwdx2x3x7 := hidI hwdx2x3x7
      replace hBx := hidI hBx
      refine hK.out _ _ ?_ (fun hHeld => ?_)
      · try dsimp only
        ((repeat' apply And.intro) <;> assumption)
      clear hK
      try simp only [Act.put, List.setIfInBounds_toArray, List.set_cons_zero, List.set_cons_succ]
      have c0 := cell_of_heap hbox 0
      have c1 := cell_of_heap hbox 1
      have c2 := cell_of_heap hbox 2
      have fb := fun j => frozen_of_row wdx2x3x7 Bx j _ _ hbox
      simp at c0 c1 c2
      refine wpAnyH_ready (rs := [8]) (by kernel_rfl) (by simp) ?_
      refine AllReadyH.cons rfl (fun K hK => ?_) AllReadyH.nil
      rw [if_pos (by rfl)]
      go_simp
      obtain ⟨w8, hw8⟩ : ∃ z, z = ((wdx2x3x7.setCell ⟨Bx, 0, none⟩ (.int .i64 r)).setCell ⟨Bx, 1, none⟩ (.int .i64 ZS)).setCell ⟨Bx, 2, none⟩ (.slice ca ZE.length cc) := ⟨_, rfl⟩
      rw [← hw8]
      have hB8 : w8.heap[Bx]? = some (.cells #[.int .i64 r, .int .i64 ZS, .slice ca ZE.length cc] 28 (0, 0)) := by rw [hw8]; exact set3 hbox _ _ _
      have hb8 : Below wd.heap.size wd w8 := by rw [hw8]; exact below_set3 hbwdx2x3x7 hBx0
      have hs8 : w8.heap.size = wdx2x3x7.heap.size := by rw [hw8]; exact size_set3
      have hrow8 : RowS 54 3 w8 glo ghi (.slice ca ZE.length cc) ZE.length (flatE ZE) := by rw [hw8]; exact RowS.set3_ hrow (by omega)
      have k08 := below_cell g0 hb8 hsw
      have k18 := below_cell g1 hb8 hsw
      have k28 := below_cell g2 hb8 hsw
      replace hw8 := hidI hw8
      refine hK.out _ _ ?_ (fun hHeld => ?_)
      · try dsimp only
        ((repeat' apply And.intro) <;> assumption)
      clear hK
      try simp only [Act.put, List.setIfInBounds_toArray, List.set_cons_zero, List.set_cons_succ]
      refine take_at 9 4 (v := ?_) rfl (by kernel_rfl) (by kernel_rfl) (by kernel_rfl) (by kernel_rfl) hpan (Or.inl ⟨by rfl, ?_⟩) (by assumption) ?_
      rotate_left
      · intro w hSw; (try dsimp only at hSw); go_simp; with_reducible rfl
      simp only [Act.put, List.setIfInBounds_toArray, List.set_cons_zero, List.set_cons_succ]
      refine wpAnyH_done (by kernel_rfl) ?_ _
      refine hnorm _ _ ?_
      clear hnorm hpan
      repeat clear hHeld
      try simp only [Exit.then]
      have hR8 : w8.heap[w.heap.size + 1]? = some (.cells #[.int .i64 0, .int .i64 0, .slice none 0 0] 28 (0, 0)) := (hb8.block _ (by omega)).trans hRd.out
      have b0 := cell_of_heap hB8 0
      have b1 := cell_of_heap hB8 1
      have b2 := cell_of_heap hB8 2
      have y0 := cell_of_heap hR8 0
      have y1 := cell_of_heap hR8 1
      have y2 := cell_of_heap hR8 2
      have f2 := fun j => frozen_of_row w8 (w.heap.size + 1) j _ _ hR8
      simp at y0 y1 y2 b0 b1 b2
      have hfin : LwGraph w r ZS ZE (.returned (.agg #[.int .i64 r, .int .i64 ZS, .slice ca ZE.length cc])) (((w8.setCell ⟨w.heap.size + 1, 0, none⟩ (.int .i64 r)).setCell ⟨w.heap.size + 1, 1, none⟩ (.int .i64 ZS)).setCell ⟨w.heap.size + 1, 2, none⟩ (.slice ca ZE.length cc)) := by
        refine ⟨ca, cc, rfl, (RowS.set3_ hrow8 (.inl (by omega))).wide (by have := hb1d.out.size; omega) (by rw [size_set3]; omega), below_set3 (hb1d.out.trans (hb8.mono hb1d.out.size)) (by omega)⟩
      have hset := set3 hR8 (.int .i64 r) (.int .i64 ZS) (.slice ca ZE.length cc)
      replace hfin := hidI hfin
      replace hset := hidI hset
      replace hR8 := hidI hR8
      replace hB8 := hidI hB8
      replace hbox := hidI hbox
      replace hrow := hidI hrow
      replace hrow8 := hidI hrow8
      replace hb8 := hidI hb8
      replace hs8 := hidI hs8
      clear c0 c1 c2 fb
      go_wp2
      (try simp only [Exit.inBlock, Exit.then])
      refine ret_cell rfl (g := w.heap.size + 1) rfl hset.out Tryz.underlying28 sizeGraph ?_
      exact hfin.out
    refine AllReadyH.cons rfl (fun K hK => ?_) AllReadyH.nil
    rw [if_pos (by rfl)]
    go_simp
    obtain ⟨wdx2x7, hwdx2x7⟩ : ∃ z, z = wdx2.alloc (.cells #[.int .i64 0, .int .i64 0, .slice none 0 0] 28) := ⟨_, rfl⟩
    have hbbwdx2x7 : Below wdx2.heap.size wdx2 wdx2x7 := by rw [hwdx2x7]; exact (Below.refl _ _).alloc (Nat.le_refl _) _
    have hszwdx2x7 := hbbwdx2x7.size
    have hbwdx2x7 : Below wd.heap.size wd wdx2x7 := hbwdx2.trans (hbbwdx2x7.mono hbwdx2.size)
    have k0wdx2x7 := below_cell g0 hbwdx2x7 hsw
    have k1wdx2x7 := below_cell g1 hbwdx2x7 hsw
    have k2wdx2x7 := below_cell g2 hbwdx2x7 hsw
    obtain ⟨Bx, hBx⟩ : ∃ z, z = wdx2.heap.size := ⟨_, rfl⟩
    have hbox : wdx2x7.heap[Bx]? = some (.cells #[.int .i64 0, .int .i64 0, .slice none 0 0] 28 (0, 0)) := by rw [hwdx2x7, hBx]; exact heap_alloc_new _ _
    have hBl : Bx < wdx2x7.heap.size := (Array.getElem?_eq_some_iff.1 hbox).1
    have hBx0 : wd.heap.size ≤ Bx := by rw [hBx]; exact hbwdx2.size
    replace hord := (hord.below hbbwdx2x7).mono hszwdx2x7
    rw [← hwdx2x7, ← hBx]
    replace hwdx2x7 := hidI hwdx2x7
    replace hBx := hidI hBx
    refine hK.out _ _ ?_ (fun hHeld => ?_)
    · try dsimp only
      ((repeat' apply And.intro) <;> assumption)
    clear hK
    try simp only [Act.put, List.setIfInBounds_toArray, List.set_cons_zero, List.set_cons_succ]
    refine wpAnyH_ready (rs := [3]) (by kernel_rfl) (by simp) ?_
    refine AllReadyH.cons rfl (fun K hK => ?_) AllReadyH.nil
    rw [if_pos (by rfl)]
    go_simp
    refine (hrn.out wdx2x7 ov ((h.out.below (hb1d.out.trans (hbwdx2x7.mono hb1d.out.size))).mono (by have := hbwdx2x7.size; have := hb1d.out.size; omega)) hord).mono ?_
    rintro e wdx2x7x3 ⟨ca, cc, rfl, hrow0, hbc⟩
    have hbbwdx2x7x3 : Below wdx2x7.heap.size wdx2x7 wdx2x7x3 := hbc
    have hszwdx2x7x3 := hbbwdx2x7x3.size
    have hbwdx2x7x3 : Below wd.heap.size wd wdx2x7x3 := hbwdx2x7.trans (hbbwdx2x7x3.mono hbwdx2x7.size)
    have k0wdx2x7x3 := below_cell g0 hbwdx2x7x3 hsw
    have k1wdx2x7x3 := below_cell g1 hbwdx2x7x3 hsw
    have k2wdx2x7x3 := below_cell g2 hbwdx2x7x3 hsw
    obtain ⟨glo, hglo⟩ : ∃ z, z = wdx2x7.heap.size := ⟨_, rfl⟩
    obtain ⟨ghi, hghi0⟩ : ∃ z, z = wdx2x7x3.heap.size := ⟨_, rfl⟩
    have hrow := hrow0
    rw [← hglo, ← hghi0] at hrow
    have hghi : ghi ≤ wdx2x7x3.heap.size := by omega
    have hglo0 : wd.heap.size ≤ glo := by rw [hglo]; exact hbwdx2x7.size
    clear hrow0 hbc
    replace hbox := (hbbwdx2x7x3.block Bx hBl).trans hbox
    have hghi2 : Bx < glo := by omega
    replace hBl : Bx < wdx2x7x3.heap.size := by omega
    refine hK.out _ _ ?_ (fun hHeld => ?_)
    · try dsimp only
      ((repeat' apply And.intro) <;> assumption)
    clear hK
    try simp only [Act.put, List.setIfInBounds_toArray, List.set_cons_zero, List.set_cons_succ]
    refine take_at 4 5 (v := ?_) rfl (by kernel_rfl) (by kernel_rfl) (by kernel_rfl) (by kernel_rfl) hpan (Or.inl ⟨by rfl, ?_⟩) (by assumption) ?_
    rotate_left
    · intro w hSw; (try dsimp only at hSw); go_simp; with_reducible rfl
    simp only [Act.put, List.setIfInBounds_toArray, List.set_cons_zero, List.set_cons_succ]
    refine take_at 5 10 (v := ?_) rfl (by kernel_rfl) (by kernel_rfl) (by kernel_rfl) (by kernel_rfl) hpan (Or.inl ⟨by rfl, ?_⟩) (by assumption) ?_
    rotate_left
    · intro w hSw; (try dsimp only at hSw); go_simp; with_reducible rfl
    simp only [Act.put, List.setIfInBounds_toArray, List.set_cons_zero, List.set_cons_succ]
    refine take_at 6 11 (v := ?_) rfl (by kernel_rfl) (by kernel_rfl) (by kernel_rfl) (by kernel_rfl) hpan (Or.inl ⟨by rfl, ?_⟩) (by assumption) ?_
    rotate_left
    · intro w hSw; (try dsimp only at hSw); go_simp; with_reducible rfl
    simp only [Act.put, List.setIfInBounds_toArray, List.set_cons_zero, List.set_cons_succ]
    have c0 := cell_of_heap hbox 0
    have c1 := cell_of_heap hbox 1
    have c2 := cell_of_heap hbox 2
    have fb := fun j => frozen_of_row wdx2x7x3 Bx j _ _ hbox
    simp at c0 c1 c2
    refine wpAnyH_ready (rs := [8]) (by kernel_rfl) (by simp) ?_
    refine AllReadyH.cons rfl (fun K hK => ?_) AllReadyH.nil
    rw [if_pos (by rfl)]
    go_simp
    obtain ⟨w8, hw8⟩ : ∃ z, z = ((wdx2x7x3.setCell ⟨Bx, 0, none⟩ (.int .i64 r)).setCell ⟨Bx, 1, none⟩ (.int .i64 ZS)).setCell ⟨Bx, 2, none⟩ (.slice ca ZE.length cc) := ⟨_, rfl⟩
    rw [← hw8]
    have hB8 : w8.heap[Bx]? = some (.cells #[.int .i64 r, .int .i64 ZS, .slice ca ZE.length cc] 28 (0, 0)) := by rw [hw8]; exact set3 hbox _ _ _
    have hb8 : Below wd.heap.size wd w8 := by rw [hw8]; exact below_set3 hbwdx2x7x3 hBx0
    have hs8 : w8.heap.size = wdx2x7x3.heap.size := by rw [hw8]; exact size_set3
    have hrow8 : RowS 54 3 w8 glo ghi (.slice ca ZE.length cc) ZE.length (flatE ZE) := by rw [hw8]; exact RowS.set3_ hrow (by omega)
    have k08 := below_cell g0 hb8 hsw
    have k18 := below_cell g1 hb8 hsw
    have k28 := below_cell g2 hb8 hsw
    replace hw8 := hidI hw8
    refine hK.out _ _ ?_ (fun hHeld => ?_)
    · try dsimp only
      ((repeat' apply And.intro) <;> assumption)
    clear hK
    try simp only [Act.put, List.setIfInBounds_toArray, List.set_cons_zero, List.set_cons_succ]
    refine take_at 9 4 (v := ?_) rfl (by kernel_rfl) (by kernel_rfl) (by kernel_rfl) (by kernel_rfl) hpan (Or.inl ⟨by rfl, ?_⟩) (by assumption) ?_
    rotate_left
    · intro w hSw; (try dsimp only at hSw); go_simp; with_reducible rfl
    simp only [Act.put, List.setIfInBounds_toArray, List.set_cons_zero, List.set_cons_succ]
    refine wpAnyH_done (by kernel_rfl) ?_ _
    refine hnorm _ _ ?_
    clear hnorm hpan
    repeat clear hHeld
    try simp only [Exit.then]
    have hR8 : w8.heap[w.heap.size + 1]? = some (.cells #[.int .i64 0, .int .i64 0, .slice none 0 0] 28 (0, 0)) := (hb8.block _ (by omega)).trans hRd.out
    have b0 := cell_of_heap hB8 0
    have b1 := cell_of_heap hB8 1
    have b2 := cell_of_heap hB8 2
    have y0 := cell_of_heap hR8 0
    have y1 := cell_of_heap hR8 1
    have y2 := cell_of_heap hR8 2
    have f2 := fun j => frozen_of_row w8 (w.heap.size + 1) j _ _ hR8
    simp at y0 y1 y2 b0 b1 b2
    have hfin : LwGraph w r ZS ZE (.returned (.agg #[.int .i64 r, .int .i64 ZS, .slice ca ZE.length cc])) (((w8.setCell ⟨w.heap.size + 1, 0, none⟩ (.int .i64 r)).setCell ⟨w.heap.size + 1, 1, none⟩ (.int .i64 ZS)).setCell ⟨w.heap.size + 1, 2, none⟩ (.slice ca ZE.length cc)) := by
      refine ⟨ca, cc, rfl, (RowS.set3_ hrow8 (.inl (by omega))).wide (by have := hb1d.out.size; omega) (by rw [size_set3]; omega), below_set3 (hb1d.out.trans (hb8.mono hb1d.out.size)) (by omega)⟩
    have hset := set3 hR8 (.int .i64 r) (.int .i64 ZS) (.slice ca ZE.length cc)
    replace hfin := hidI hfin
    replace hset := hidI hset
    replace hR8 := hidI hR8
    replace hB8 := hidI hB8
    replace hbox := hidI hbox
    replace hrow := hidI hrow
    replace hrow8 := hidI hrow8
    replace hb8 := hidI hb8
    replace hs8 := hidI hs8
    clear c0 c1 c2 fb
    go_wp2
    (try simp only [Exit.inBlock, Exit.then])
    refine ret_cell rfl (g := w.heap.size + 1) rfl hset.out Tryz.underlying28 sizeGraph ?_
    exact hfin.out
  refine AllReadyH.cons rfl (fun K hK => ?_) AllReadyH.nil
  rw [if_pos (by rfl)]
  go_simp
  obtain ⟨wdx7, hwdx7⟩ : ∃ z, z = wd.alloc (.cells #[.int .i64 0, .int .i64 0, .slice none 0 0] 28) := ⟨_, rfl⟩
  have hbbwdx7 : Below wd.heap.size wd wdx7 := by rw [hwdx7]; exact (Below.refl _ _).alloc (Nat.le_refl _) _
  have hszwdx7 := hbbwdx7.size
  have hbwdx7 : Below wd.heap.size wd wdx7 := hbwd.trans (hbbwdx7.mono hbwd.size)
  have k0wdx7 := below_cell g0 hbwdx7 hsw
  have k1wdx7 := below_cell g1 hbwdx7 hsw
  have k2wdx7 := below_cell g2 hbwdx7 hsw
  obtain ⟨Bx, hBx⟩ : ∃ z, z = wd.heap.size := ⟨_, rfl⟩
  have hbox : wdx7.heap[Bx]? = some (.cells #[.int .i64 0, .int .i64 0, .slice none 0 0] 28 (0, 0)) := by rw [hwdx7, hBx]; exact heap_alloc_new _ _
  have hBl : Bx < wdx7.heap.size := (Array.getElem?_eq_some_iff.1 hbox).1
  have hBx0 : wd.heap.size ≤ Bx := by rw [hBx]; exact hbwd.size
  rw [← hwdx7, ← hBx]
  replace hwdx7 := hidI hwdx7
  replace hBx := hidI hBx
  refine hK.out _ _ ?_ (fun hHeld => ?_)
  · try dsimp only
    ((repeat' apply And.intro) <;> assumption)
  clear hK
  try simp only [Act.put, List.setIfInBounds_toArray, List.set_cons_zero, List.set_cons_succ]
  refine wpAnyH_ready (rs := [2]) (by kernel_rfl) (by simp) ?_
  refine AllReadyH.cons rfl (fun K hK => ?_) AllReadyH.nil
  rw [if_pos (by rfl)]
  go_simp
  refine (hco.out wdx7 ((h.out.below (hb1d.out.trans (hbwdx7.mono hb1d.out.size))).mono (by have := hbwdx7.size; have := hb1d.out.size; omega))).mono ?_
  rintro e wdx7x2 ⟨ov, rfl, hord0, hbc⟩
  have hbbwdx7x2 : Below wdx7.heap.size wdx7 wdx7x2 := hbc
  have hszwdx7x2 := hbbwdx7x2.size
  have hbwdx7x2 : Below wd.heap.size wd wdx7x2 := hbwdx7.trans (hbbwdx7x2.mono hbwdx7.size)
  have k0wdx7x2 := below_cell g0 hbwdx7x2 hsw
  have k1wdx7x2 := below_cell g1 hbwdx7x2 hsw
  have k2wdx7x2 := below_cell g2 hbwdx7x2 hsw
  have hord := hord0.read
  clear hord0 hbc
  replace hbox := (hbbwdx7x2.block Bx hBl).trans hbox
  replace hBl : Bx < wdx7x2.heap.size := by omega
  refine hK.out _ _ ?_ (fun hHeld => ?_)
  · try dsimp only
    ((repeat' apply And.intro) <;> assumption)
  clear hK
  try simp only [Act.put, List.setIfInBounds_toArray, List.set_cons_zero, List.set_cons_succ]
  refine wpAnyH_ready (rs := [3]) (by kernel_rfl) (by simp) ?_
  refine AllReadyH.cons rfl (fun K hK => ?_) AllReadyH.nil
  rw [if_pos (by rfl)]
  go_simp
  refine (hrn.out wdx7x2 ov ((h.out.below (hb1d.out.trans (hbwdx7x2.mono hb1d.out.size))).mono (by have := hbwdx7x2.size; have := hb1d.out.size; omega)) hord).mono ?_
  rintro e wdx7x2x3 ⟨ca, cc, rfl, hrow0, hbc⟩
  have hbbwdx7x2x3 : Below wdx7x2.heap.size wdx7x2 wdx7x2x3 := hbc
  have hszwdx7x2x3 := hbbwdx7x2x3.size
  have hbwdx7x2x3 : Below wd.heap.size wd wdx7x2x3 := hbwdx7x2.trans (hbbwdx7x2x3.mono hbwdx7x2.size)
  have k0wdx7x2x3 := below_cell g0 hbwdx7x2x3 hsw
  have k1wdx7x2x3 := below_cell g1 hbwdx7x2x3 hsw
  have k2wdx7x2x3 := below_cell g2 hbwdx7x2x3 hsw
  obtain ⟨glo, hglo⟩ : ∃ z, z = wdx7x2.heap.size := ⟨_, rfl⟩
  obtain ⟨ghi, hghi0⟩ : ∃ z, z = wdx7x2x3.heap.size := ⟨_, rfl⟩
  have hrow := hrow0
  rw [← hglo, ← hghi0] at hrow
  have hghi : ghi ≤ wdx7x2x3.heap.size := by omega
  have hglo0 : wd.heap.size ≤ glo := by rw [hglo]; exact hbwdx7x2.size
  clear hrow0 hbc
  replace hbox := (hbbwdx7x2x3.block Bx hBl).trans hbox
  have hghi2 : Bx < glo := by omega
  replace hBl : Bx < wdx7x2x3.heap.size := by omega
  refine hK.out _ _ ?_ (fun hHeld => ?_)
  · try dsimp only
    ((repeat' apply And.intro) <;> assumption)
  clear hK
  try simp only [Act.put, List.setIfInBounds_toArray, List.set_cons_zero, List.set_cons_succ]
  refine take_at 4 5 (v := ?_) rfl (by kernel_rfl) (by kernel_rfl) (by kernel_rfl) (by kernel_rfl) hpan (Or.inl ⟨by rfl, ?_⟩) (by assumption) ?_
  rotate_left
  · intro w hSw; (try dsimp only at hSw); go_simp; with_reducible rfl
  simp only [Act.put, List.setIfInBounds_toArray, List.set_cons_zero, List.set_cons_succ]
  refine take_at 5 10 (v := ?_) rfl (by kernel_rfl) (by kernel_rfl) (by kernel_rfl) (by kernel_rfl) hpan (Or.inl ⟨by rfl, ?_⟩) (by assumption) ?_
  rotate_left
  · intro w hSw; (try dsimp only at hSw); go_simp; with_reducible rfl
  simp only [Act.put, List.setIfInBounds_toArray, List.set_cons_zero, List.set_cons_succ]
  refine take_at 6 11 (v := ?_) rfl (by kernel_rfl) (by kernel_rfl) (by kernel_rfl) (by kernel_rfl) hpan (Or.inl ⟨by rfl, ?_⟩) (by assumption) ?_
  rotate_left
  · intro w hSw; (try dsimp only at hSw); go_simp; with_reducible rfl
  simp only [Act.put, List.setIfInBounds_toArray, List.set_cons_zero, List.set_cons_succ]
  have c0 := cell_of_heap hbox 0
  have c1 := cell_of_heap hbox 1
  have c2 := cell_of_heap hbox 2
  have fb := fun j => frozen_of_row wdx7x2x3 Bx j _ _ hbox
  simp at c0 c1 c2
  refine wpAnyH_ready (rs := [8]) (by kernel_rfl) (by simp) ?_
  refine AllReadyH.cons rfl (fun K hK => ?_) AllReadyH.nil
  rw [if_pos (by rfl)]
  go_simp
  obtain ⟨w8, hw8⟩ : ∃ z, z = ((wdx7x2x3.setCell ⟨Bx, 0, none⟩ (.int .i64 r)).setCell ⟨Bx, 1, none⟩ (.int .i64 ZS)).setCell ⟨Bx, 2, none⟩ (.slice ca ZE.length cc) := ⟨_, rfl⟩
  rw [← hw8]
  have hB8 : w8.heap[Bx]? = some (.cells #[.int .i64 r, .int .i64 ZS, .slice ca ZE.length cc] 28 (0, 0)) := by rw [hw8]; exact set3 hbox _ _ _
  have hb8 : Below wd.heap.size wd w8 := by rw [hw8]; exact below_set3 hbwdx7x2x3 hBx0
  have hs8 : w8.heap.size = wdx7x2x3.heap.size := by rw [hw8]; exact size_set3
  have hrow8 : RowS 54 3 w8 glo ghi (.slice ca ZE.length cc) ZE.length (flatE ZE) := by rw [hw8]; exact RowS.set3_ hrow (by omega)
  have k08 := below_cell g0 hb8 hsw
  have k18 := below_cell g1 hb8 hsw
  have k28 := below_cell g2 hb8 hsw
  replace hw8 := hidI hw8
  refine hK.out _ _ ?_ (fun hHeld => ?_)
  · try dsimp only
    ((repeat' apply And.intro) <;> assumption)
  clear hK
  try simp only [Act.put, List.setIfInBounds_toArray, List.set_cons_zero, List.set_cons_succ]
  refine take_at 9 4 (v := ?_) rfl (by kernel_rfl) (by kernel_rfl) (by kernel_rfl) (by kernel_rfl) hpan (Or.inl ⟨by rfl, ?_⟩) (by assumption) ?_
  rotate_left
  · intro w hSw; (try dsimp only at hSw); go_simp; with_reducible rfl
  simp only [Act.put, List.setIfInBounds_toArray, List.set_cons_zero, List.set_cons_succ]
  refine wpAnyH_done (by kernel_rfl) ?_ _
  refine hnorm _ _ ?_
  clear hnorm hpan
  repeat clear hHeld
  try simp only [Exit.then]
  have hR8 : w8.heap[w.heap.size + 1]? = some (.cells #[.int .i64 0, .int .i64 0, .slice none 0 0] 28 (0, 0)) := (hb8.block _ (by omega)).trans hRd.out
  have b0 := cell_of_heap hB8 0
  have b1 := cell_of_heap hB8 1
  have b2 := cell_of_heap hB8 2
  have y0 := cell_of_heap hR8 0
  have y1 := cell_of_heap hR8 1
  have y2 := cell_of_heap hR8 2
  have f2 := fun j => frozen_of_row w8 (w.heap.size + 1) j _ _ hR8
  simp at y0 y1 y2 b0 b1 b2
  have hfin : LwGraph w r ZS ZE (.returned (.agg #[.int .i64 r, .int .i64 ZS, .slice ca ZE.length cc])) (((w8.setCell ⟨w.heap.size + 1, 0, none⟩ (.int .i64 r)).setCell ⟨w.heap.size + 1, 1, none⟩ (.int .i64 ZS)).setCell ⟨w.heap.size + 1, 2, none⟩ (.slice ca ZE.length cc)) := by
    refine ⟨ca, cc, rfl, (RowS.set3_ hrow8 (.inl (by omega))).wide (by have := hb1d.out.size; omega) (by rw [size_set3]; omega), below_set3 (hb1d.out.trans (hb8.mono hb1d.out.size)) (by omega)⟩
  have hset := set3 hR8 (.int .i64 r) (.int .i64 ZS) (.slice ca ZE.length cc)
  replace hfin := hidI hfin
  replace hset := hidI hset
  replace hR8 := hidI hR8
  replace hB8 := hidI hB8
  replace hbox := hidI hbox
  replace hrow := hidI hrow
  replace hrow8 := hidI hrow8
  replace hb8 := hidI hb8
  replace hs8 := hidI hs8
  clear c0 c1 c2 fb
  go_wp2
  (try simp only [Exit.inBlock, Exit.then])
  refine ret_cell rfl (g := w.heap.size + 1) rfl hset.out Tryz.underlying28 sizeGraph ?_
  exact hfin.out
end Go.Proofs.YtecceaijdjnflaaGreat
