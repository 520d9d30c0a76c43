/- Cores, the program: TrimGraph. -/
import Derived.Test.YtecceaijdjnflaaGreatUB
import Derived.Test.YtecceaijdjnflaaGreatUE
import Derived.Test.YtecceaijdjnflaaGreatFP3
import Derived.Test.YtecceaijdjnflaaGreatTL
import Derived.Deep.LoopGhost
namespace Go.Proofs.YtecceaijdjnflaaGreat
open Go.RowKit
set_option linter.unusedVariables false
set_option linter.unusedSimpArgs false

theorem inE_gr {r s : Int} {es : List Ed} (h : isGr r s es = true) : InE es := by
  have hl := isGr_lim h
  intro e he
  have := gr_mem8 h he
  omega
theorem tm_no {r s : Int} {es : List Ed} (h : isGr r s es = false) : tmS r s es = s ∧ tmE r s es = es ∧ tmL r s es = [] := by
  unfold tmS tmE tmL
  rw [h]
  exact ⟨rfl, rfl, rfl⟩
set_option maxRecDepth 100000 in
set_option maxHeartbeats 6400000 in
theorem progTrim (w : World) (r s : Int) (v : Value) (es : List Ed) (h : ReadE w.heap.size w v es) (hl : es.length ≤ 10000000) :
    Calls Tryz.prog 17 #[.agg #[.int .i64 r, .int .i64 s, v]] w (LwGraphInts w r (tmS r s es) (tmE r s es) (tmL r s es)) := by
  obtain ⟨a, cap, rfl, hnc⟩ := h.form
  obtain ⟨n, hn⟩ : ∃ n, n = es.length := ⟨_, rfl⟩
  rw [← hn] at h
  rw [← hn] at hl hnc ⊢
  obtain ⟨w1, hw1⟩ : ∃ z, z = (w.alloc (.cells #[.int .i64 r, .int .i64 s, .slice a n cap] 28)).alloc (.cells #[.int .i64 0, .int .i64 0, .slice none 0 0] 28) := ⟨_, rfl⟩
  have hb1 : Below w.heap.size w w1 := by rw [hw1]; exact ((Below.refl _ _).alloc (Nat.le_refl _) _).alloc (by simp) _
  have hs1 : w1.heap.size = w.heap.size + 1 + 1 := by rw [hw1]; simp
  have hg := heap_box w (.cells #[.int .i64 r, .int .i64 s, .slice a n cap] 28) (.cells #[.int .i64 0, .int .i64 0, .slice none 0 0] 28)
  have hR := heap_alloc_new (w.alloc (.cells #[.int .i64 r, .int .i64 s, .slice a n cap] 28)) (.cells #[.int .i64 0, .int .i64 0, .slice none 0 0] 28)
  rw [← hw1] at hg hR
  rw [show (w.alloc (.cells #[.int .i64 r, .int .i64 s, .slice a n cap] 28)).heap.size = w.heap.size + 1 by simp] at hR
  have g0 : w1.cell? ⟨w.heap.size, 0, none⟩ = some (.int .i64 r) := by simpa using cell_of_heap hg 0
  have g1 : w1.cell? ⟨w.heap.size, 1, none⟩ = some (.int .i64 s) := by simpa using cell_of_heap hg 1
  have g2 : w1.cell? ⟨w.heap.size, 2, none⟩ = some (.slice a n cap) := by simpa using cell_of_heap hg 2
  have hig := progIsGr w1 r s (.slice a n cap) es (by have := (h.below hb1).mono hb1.size; rw [hn] at this ⊢; exact this) (by omega)
  obtain ⟨B, hB⟩ : ∃ B, B = isGr r s es := ⟨_, rfl⟩
  obtain ⟨ZS, hZS⟩ : ∃ B, B = tmS r s es := ⟨_, rfl⟩
  obtain ⟨ZE, hZE⟩ : ∃ B, B = tmE r s es := ⟨_, rfl⟩
  obtain ⟨ZL, hZL⟩ : ∃ B, B = tmL r s es := ⟨_, rfl⟩
  rw [← hB] at hig
  rw [← hZS, ← hZE, ← hZL]
  have hno : B = false → ZS = s ∧ ZE = es ∧ ZL = [] := fun hf => by rw [hZS, hZE, hZL]; exact tm_no (by rw [← hB, hf])
  have hend : ∀ m, isGr r s es = true → PrIn s es m → ld (m.length : Int) (rnE r s es m) < 0 → m = ZL ∧ (m.length : Int) = ZS ∧ rnE r s es m = ZE := fun m hg hp hd => by rw [hZS, hZE, hZL]; exact pr_end hg hp hd
  have hRk : ∀ W, Below w1.heap.size w1 W → W.heap[w.heap.size + 1]? = some (.cells #[.int .i64 0, .int .i64 0, .slice none 0 0] 28 (0, 0)) := fun W hW => by rw [hW.block _ (by omega)]; exact hR
  have hcopy := fun (W : World) (hr : ReadE W.heap.size W (.slice a es.length cap) es) => gpCopy W r s _ es hr (by omega)
  have hreach := fun (W : World) (hr : ReadE W.heap.size W (.slice a es.length cap) es) => progReach W r s _ es 0 hr (by omega)
  have hren := fun (W : World) (u : Value) (m : List Int) (hr : ReadE W.heap.size W (.slice a es.length cap) es) (hu : ReadI W.heap.size W u m) (hm : m.length ≤ 10000000) => progRenum W r s _ u es m hr (by omega) hu hm
  rw [← hn] at hcopy hreach hren
  have hww := hidI hw1.symm
  replace hcopy := hidI hcopy
  replace hreach := hidI hreach
  replace hren := hidI hren
  replace hno := hidI hno
  replace hend := hidI hend
  replace hRk := hidI hRk
  replace hn := hidI hn
  replace h := hidI h
  replace hg := hidI hg
  replace hR := hidI hR
  replace hs1 := hidI hs1
  replace hZS := hidI hZS
  replace hZE := hidI hZE
  replace hZL := hidI hZL
  replace hw1 := hidI hw1
  go_enter Tryz.func17, Tryz.ntmps17
  go_upto_region 1 with fail
  rw [hww.out]
  go_wp2_with fail
  refine hig.mono ?_
  rintro e w2 ⟨rfl, hb2⟩
  clear hig
  have hlt1 : w.heap.size + 1 < w1.heap.size := by have := hs1.out; omega
  have hlt2 : w.heap.size + 1 < w2.heap.size := by have := hb2.size; omega
  replace g0 := below_cell g0 hb2 (by omega)
  replace g1 := below_cell g1 hb2 (by omega)
  replace g2 := below_cell g2 hb2 (by omega)
  have hb12 := hidI (hb1.trans (hb2.mono hb1.size))
  have hb12' := hidI hb2
  clear hb2 hb1
  have hrd2 : ReadE w2.heap.size w2 (.slice a n cap) es := (h.out.below hb12.out).mono hb12.out.size
  cases B with
  | false =>
    obtain ⟨hZS0, hZE0, hZL0⟩ := hno.out rfl
    have hcc := hcopy.out w2 hrd2
    replace hZS0 := hidI hZS0
    replace hZE0 := hidI hZE0
    replace hZL0 := hidI hZL0
    replace hB := hidI hB
    replace hrd2 := hidI hrd2
    go_wp2_with fail
    refine hcc.mono ?_
    rintro e w5 ⟨ca, cc, rfl, hrow5, hb5⟩
    rw [← hn.out]
    rw [← hn.out] at hrow5
    clear hcc
    have hb15 : Below w.heap.size w w5 := hb12.out.trans (hb5.mono hb12.out.size)
    have hR5 := hRk.out w5 (hb12'.out.trans (hb5.mono hb12'.out.size))
    have y0 := cell_of_heap hR5 0
    have y1 := cell_of_heap hR5 1
    have y2 := cell_of_heap hR5 2
    have f2 := fun j => frozen_of_row w5 (w.heap.size + 1) j _ _ hR5
    simp at y0 y1 y2
    have hfin : LwGraphInts w r s es [] (.returned (.tuple #[.agg #[.int .i64 r, .int .i64 s, .slice ca n cc], .slice none 0 0])) (((w5.setCell ⟨w.heap.size + 1, 0, none⟩ (.int .i64 r)).setCell ⟨w.heap.size + 1, 1, none⟩ (.int .i64 s)).setCell ⟨w.heap.size + 1, 2, none⟩ (.slice ca n cc)) := by
      have hrw := hrow5
      rw [hn.out] at hrw
      rw [hn.out]
      have hsz5 := hb5.size
      exact ⟨ca, cc, .slice none 0 0, w2.heap.size, w5.heap.size, w.heap.size, w.heap.size, rfl, ⟨by omega, by omega, by rw [size_set3]; omega, by omega, by omega, by rw [size_set3]; omega, .inr (by omega)⟩, RowS.set3_ hrw (.inl hlt2), ⟨by simp, .inl ⟨rfl, rfl⟩⟩, below_set3 hb15 (by omega)⟩
    have hset := set3 hR5 (.int .i64 r) (.int .i64 s) (.slice ca n cc)
    replace hfin := hidI hfin
    replace hset := hidI hset
    replace hR5 := hidI hR5
    replace hrow5 := hidI hrow5
    replace hb5 := hidI hb5
    replace hb15 := hidI hb15
    clear g0 g1 g2
    go_wp2
    (try simp only [Exit.inBlock, Exit.then])
    refine ret_cell2 (x := .slice none 0 0) rfl rfl rfl hset.out Tryz.underlying28 sizeGraph ?_
    rw [hZS0.out, hZE0.out, hZL0.out]
    exact hfin.out
  | true =>
    have hgr := hidI hB.symm
    have hlim := isGr_lim hgr.out
    have hn120 : n ≤ 120 := by have := hn.out; omega
    have hrc := hreach.out w2 hrd2
    obtain ⟨m0, hm0⟩ : ∃ z, z = reachG r s es 0 := ⟨_, rfl⟩
    have hp0 : PrIn s es m0 := by rw [hm0]; exact pr_start hgr.out
    rw [← hm0] at hrc
    replace hm0 := hidI hm0
    replace hp0 := hidI hp0
    replace hlim := hidI hlim
    replace hB := hidI hB
    replace hrd2 := hidI hrd2
    go_wp2_with fail
    refine hrc.mono ?_
    rintro e w3 ⟨u0, rfl, hrow0, hb3⟩
    clear hrc
    have hsz3 := hb3.size
    have hst0 : Hid (RowI w3 w2.heap.size w3.heap.size u0 m0) := hidI hrow0
    have hb3' := hidI hb3
    clear hb3 hrow0
    go_wp2
    go_loopg [4] m0.length (fun g u wr => ∃ m : List Int, g = m.length ∧ Hid (PrIn s es m) ∧ Hid (RowI wr w2.heap.size w3.heap.size u m) ∧ Hid (Below w2.heap.size w2 wr) ∧ w3.heap.size ≤ wr.heap.size)
    case atStart => exact ⟨m0, rfl, hp0, hst0, hb3', Nat.le_refl _⟩
    case round =>
      clear hst0 hp0
      obtain ⟨m, hg, hp, hst, hb, hsz⟩ := hrel
      replace hg := hidI hg
      have hok := hp.out.sub.ok hgr.out
      have hml : m.length ≤ 40 := by have := hp.out.sub.co.len; have := hlim.out; omega
      have hbr := hb12.out.trans (hb.out.mono hb12.out.size)
      have hrn := hren.out wr u4 m ((h.out.below hbr).mono hbr.size) (hst.out.read.mono hsz) (by omega)
      have hrS : rnS r s es m = (m.length : Int) := by unfold rnS; rw [if_pos hok]
      have hgE := ren_gr hok
      have hlE := rnE_length r s es m
      obtain ⟨E, hE⟩ : ∃ E, E = rnE r s es m := ⟨_, rfl⟩
      obtain ⟨q, hq⟩ : ∃ q : Int, q = (m.length : Int) := ⟨_, rfl⟩
      rw [hok, hrS, ← hE, ← hq] at hrn
      rw [← hE, ← hq] at hgE
      rw [← hE] at hlE
      have q0 := below_cell g0 hb.out (by omega)
      have q1 := below_cell g1 hb.out (by omega)
      have q2 := below_cell g2 hb.out (by omega)
      have hq40 : 0 ≤ q ∧ q ≤ 40 := by omega
      replace hok := hidI hok
      replace hq := hidI hq
      replace hE := hidI hE
      replace hgE := hidI hgE
      replace hrS := hidI hrS
      replace hbr := hidI hbr
      replace hlE := hidI hlE
      have hsw := hb.out.size
      go_wp2_with fail
      refine hrn.mono ?_
      rintro e w4 ⟨ca, cc, rfl, hrow4, hb4⟩
      clear hrn
      have hsz4 := hb4.size
      obtain ⟨w5, hw5⟩ : ∃ z, z = w4.alloc (.cells #[.int .i64 0, .int .i64 0, .slice none 0 0] 28) := ⟨_, rfl⟩
      have hb5 : Below w4.heap.size w4 w5 := by rw [hw5]; exact (Below.refl _ _).alloc (Nat.le_refl _) _
      have hX5 : w5.heap[w4.heap.size]? = some (.cells #[.int .i64 0, .int .i64 0, .slice none 0 0] 28 (0, 0)) := by rw [hw5]; exact heap_alloc_new _ _
      obtain ⟨w6, hw6⟩ : ∃ z, z = ((w5.setCell ⟨w4.heap.size, 0, none⟩ (.int .i64 r)).setCell ⟨w4.heap.size, 1, none⟩ (.int .i64 q)).setCell ⟨w4.heap.size, 2, none⟩ (.slice ca E.length cc) := ⟨_, rfl⟩
      have hX6 : w6.heap[w4.heap.size]? = some (.cells #[.int .i64 r, .int .i64 q, .slice ca E.length cc] 28 (0, 0)) := by rw [hw6]; exact set3 hX5 _ _ _
      have hb6 : Below w4.heap.size w4 w6 := by rw [hw6]; exact below_set3 hb5 (Nat.le_refl _)
      have hs6 : w4.heap.size < w6.heap.size := (Array.getElem?_eq_some_iff.1 hX6).1
      have hbr6 : Below wr.heap.size wr w6 := hb4.trans (hb6.mono hsz4)
      have hrow6 : RowS 54 3 w6 wr.heap.size w4.heap.size (.slice ca E.length cc) E.length (flatE E) := hrow4.below hb6 (Nat.le_refl _)
      have hst6 : RowI w6 w2.heap.size w3.heap.size u4 m := hst.out.below hbr6 hsz
      have hb26 := hb.out.trans (hbr6.mono hsw)
      have c0 := cell_of_heap hX6 0
      have c1 := cell_of_heap hX6 1
      have c2 := cell_of_heap hX6 2
      have t0 := cell_of_heap hX5 0
      have t1 := cell_of_heap hX5 1
      have t2 := cell_of_heap hX5 2
      have ft := fun j => frozen_of_row w5 w4.heap.size j _ _ hX5
      simp at c0 c1 c2 t0 t1 t2
      have hll := leastLeaf_any w6 r q (.slice ca E.length cc) E (hrow6.read.mono (by omega)) (inE_gr hgE.out) (by omega) (by have := hlE.out; have := hn.out; omega)
      have hdor := ld_or q E
      have hpe := hend.out m hgr.out hp.out
      have hps := fun v (hv : v = ld (m.length : Int) (rnE r s es m)) (h0 : 0 ≤ v) => pr_step hgr.out hp.out hv h0
      rw [← hE.out, ← hq.out] at hpe hps
      obtain ⟨d, hd⟩ : ∃ d, d = ld q E := ⟨_, rfl⟩
      rw [← hd] at hll hdor hpe hps
      have hps2 := hps d rfl
      clear hps
      have hw5w := hidI hw5.symm
      have hw6w := hidI hw6.symm
      have hY : w4.heap.size < w5.heap.size := by rw [hw5]; simp
      replace hd := hidI hd
      replace hw5 := hidI hw5
      replace hw6 := hidI hw6
      replace hX5 := hidI hX5
      replace hX6 := hidI hX6
      replace hpe := hidI hpe
      replace hps2 := hidI hps2
      replace hb5 := hidI hb5
      replace hb6 := hidI hb6
      replace hb4 := hidI hb4
      replace hbr6 := hidI hbr6
      replace hrow4 := hidI hrow4
      replace hrow6 := hidI hrow6
      replace hst6 := hidI hst6
      replace hb26 := hidI hb26
      obtain ⟨Y, hYe⟩ : ∃ z, z = w4.heap.size := ⟨_, rfl⟩
      rw [← hYe] at c0 c1 c2 t0 t1 t2 ft hw6w
      replace hYe := hidI hYe
      go_upto_region 5 with (first | rw [hw5w.out] | rw [← hYe.out] | fail)
      rw [hw6w.out]
      clear t0 t1 t2 ft
      go_wp2_with fail
      refine hll.mono ?_
      rintro e w7 ⟨rfl, hb7⟩
      clear hll
      have hsz7 := hb7.size
      have hYw : Y < w6.heap.size := by have := hYe.out; omega
      have hYr : wr.heap.size ≤ Y := by have := hYe.out; omega
      replace c0 := below_cell c0 hb7 hYw
      replace c1 := below_cell c1 hb7 hYw
      replace c2 := below_cell c2 hb7 hYw
      have hb27 := hidI (hb26.out.trans (hb7.mono hb26.out.size))
      have hst7 : RowI w7 w2.heap.size w3.heap.size u4 m := hst6.out.below hb7 (by omega)
      have hrow7 : RowS 54 3 w7 wr.heap.size w4.heap.size (.slice ca E.length cc) E.length (flatE E) := hrow6.out.below hb7 (by omega)
      have hR7 := hRk.out w7 (hb12'.out.trans (hb27.out.mono hb12'.out.size))
      have hb7' := hidI hb7
      clear hb7
      by_cases hd0 : d < 0
      · have hd1 : d = -1 := by omega
        subst hd1
        obtain ⟨hmL, hmS, hmE⟩ := hpe.out (by omega)
        have y0 := cell_of_heap hR7 0
        have y1 := cell_of_heap hR7 1
        have y2 := cell_of_heap hR7 2
        have f2 := fun j => frozen_of_row w7 (w.heap.size + 1) j _ _ hR7
        simp at y0 y1 y2
        have hfin : LwGraphInts w r ZS ZE ZL (.returned (.tuple #[.agg #[.int .i64 r, .int .i64 q, .slice ca E.length cc], u4])) (((w7.setCell ⟨w.heap.size + 1, 0, none⟩ (.int .i64 r)).setCell ⟨w.heap.size + 1, 1, none⟩ (.int .i64 q)).setCell ⟨w.heap.size + 1, 2, none⟩ (.slice ca E.length cc)) := by
          rw [← hmL, ← hmS, ← hmE]
          refine ⟨ca, cc, u4, wr.heap.size, w4.heap.size, w2.heap.size, w3.heap.size, rfl, ⟨by omega, by omega, by rw [size_set3]; omega, by omega, by omega, by rw [size_set3]; omega, .inr (by omega)⟩, RowS.set3_ hrow7 (.inl (by omega)), hst7.keep (fun k h1 h2 => heap_set3 (by omega)), below_set3 (hb12.out.trans (hb27.out.mono hb12.out.size)) (by omega)⟩
        have hset := set3 hR7 (.int .i64 r) (.int .i64 q) (.slice ca E.length cc)
        replace hfin := hidI hfin
        replace hset := hidI hset
        replace hR7 := hidI hR7
        replace hst7 := hidI hst7
        replace hrow7 := hidI hrow7
        replace hmL := hidI hmL
        replace hmS := hidI hmS
        replace hmE := hidI hmE
        clear g0 g1 g2 q0 q1 q2
        go_wp2
        (try simp only [Exit.inBlock, Exit.then])
        refine ret_cell2 (x := u4) rfl rfl rfl hset.out Tryz.underlying28 sizeGraph ?_
        exact hfin.out
      · obtain ⟨hps3, hdr⟩ := hps2.out (by omega)
        have hdr2 : 1 ≤ d ∧ d < (m.length : Int) := by have := hq.out; omega
        obtain ⟨p, rfl⟩ : ∃ p : Nat, d = (p : Int) := ⟨d.toNat, by omega⟩
        have hwo := without_any w7 w2.heap.size w3.heap.size u4 m p (by omega) hst7 (by omega)
        have hln := res_len (l := m) (v := (p : Int)) (by omega)
        have hps4 : PrIn s es (resN (p : Int) m m.length) := hps3
        obtain ⟨m2, hm2⟩ : ∃ z, z = resN (p : Int) m m.length := ⟨_, rfl⟩
        rw [← hm2] at hwo hps4 hln
        have hne : ((p : Int) == -1) = false := by rw [beq_eq_false_iff_ne]; omega
        replace hps3 := hidI hps3
        replace hps4 := hidI hps4
        replace hm2 := hidI hm2
        replace hln := hidI hln
        replace hdr := hidI hdr
        replace hdr2 := hidI hdr2
        replace hst7 := hidI hst7
        replace hrow7 := hidI hrow7
        replace hR7 := hidI hR7
        go_wp2_with fail
        refine hwo.mono ?_
        rintro e w8 ⟨u8, rfl, hst8, hb8⟩
        have hs8 := hb8.size
        have hb28 := hidI (hb27.out.trans hb8)
        replace hst8 := hidI hst8
        replace hb8 := hidI hb8
        clear hwo
        go_wp2
        go_roundg m2.length
        case rel => exact ⟨m2, rfl, hps4, hst8, hb28, by omega⟩
        case measure => have := hg.out; have := hln.out; omega
end Go.Proofs.YtecceaijdjnflaaGreat
