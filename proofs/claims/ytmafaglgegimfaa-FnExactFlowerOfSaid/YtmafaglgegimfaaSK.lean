/- Paths of new edges, the model: AddPath (tools/sk.py). -/
import Derived.Test.YtmafaglgegimfaaSG
import Derived.Test.YtmafaglgegimfaaGS6
import Derived.Test.YtmafaglgegimfaaGS2
import Derived.Test.YtmafaglgegimfaaGS3
import Derived.Deep.Cut
namespace Go.Proofs.Ytmafaglgegimfaa
open Go.RowKit
set_option linter.unusedVariables false
set_option linter.unusedSimpArgs false

/-- The model's graph in its box X, the row of its edges elsewhere. -/
def MSt (w : World) (X base : Nat) (r sz : Int) (v : Value) (E : List Ed) : Prop :=
  w.heap[X]? = some (.cells #[.int .i64 r, .int .i64 sz, v] 30 (0, 0)) ∧ ∃ lo hi, RowS 77 3 w lo hi v E.length (flatE E) ∧ base ≤ lo ∧ hi ≤ w.heap.size ∧ (hi ≤ X ∨ X < lo)
theorem MSt.sized {w : World} {X base : Nat} {r sz : Int} {v : Value} {E : List Ed} (h : MSt w X base r sz v E) (s' : Int) : MSt (w.setCell ⟨X, 1, none⟩ (.int .i64 s')) X base r s' v E := by
  obtain ⟨h1, lo, hi, h2, h3, h4, h5⟩ := h
  refine ⟨?_, lo, hi, h2.keep (fun k q1 q2 => Below.heap_setCell _ _ _ _ (show k ≠ X by omega)), h3, by simpa [World.setCell] using h4, h5⟩
  have := heap_setCell_same w X 1 _ _ (.int .i64 s') h1
  simpa using this
theorem MSt.put {w w' : World} {X base : Nat} {r sz : Int} {v v' : Value} {E E' : List Ed} (h : MSt w X base r sz v E) (hX : X < w.heap.size) (hb : Below w.heap.size w w') (hbase : base ≤ w.heap.size) (hr : RowS 77 3 w' w.heap.size w'.heap.size v' E'.length (flatE E')) :
    MSt (w'.setCell ⟨X, 2, none⟩ v') X base r sz v' E' := by
  obtain ⟨h1, lo, hi, h2, h3, h4, h5⟩ := h
  refine ⟨?_, w.heap.size, w'.heap.size, hr.keep (fun k q1 q2 => Below.heap_setCell _ _ _ _ (show k ≠ X by omega)), hbase, by simp [World.setCell], .inr hX⟩
  have hx : w'.heap[X]? = some (.cells #[.int .i64 r, .int .i64 sz, v] 30 (0, 0)) := by rw [hb.block X hX]; exact h1
  have := heap_setCell_same w' X 2 _ _ v' hx
  simpa using this
theorem MSt.form {w : World} {X base : Nat} {r sz : Int} {v : Value} {E : List Ed} (h : MSt w X base r sz v E) : ∃ a c, v = .slice a E.length c := by
  obtain ⟨_, lo, hi, ⟨_, _, ⟨h1, h2⟩ | ⟨g, off, cap, cur, h1, _⟩⟩, _⟩ := h
  · exact ⟨none, 0, by rw [h1, h2]⟩
  · exact ⟨_, _, h1⟩
theorem MSt.drew {w : World} {X base : Nat} {r sz : Int} {v : Value} {E : List Ed} (h : MSt w X base r sz v E) : MSt w.drew X base r sz v E := h
theorem MSt.read {w : World} {X base : Nat} {r sz : Int} {v : Value} {E : List Ed} (h : MSt w X base r sz v E) : ReadE w.heap.size w v E := by
  obtain ⟨h1, lo, hi, h2, h3, h4, h5⟩ := h
  exact h2.read.mono h4
theorem size_set3K {b : Nat} {w : World} {x0 x1 x2 : Value} : (((w.setCell ⟨b, 0, none⟩ x0).setCell ⟨b, 1, none⟩ x1).setCell ⟨b, 2, none⟩ x2).heap.size = w.heap.size := by simp [World.setCell]
/-- The answer, behind the last stores. -/
theorem mst_fin {w w9 : World} {X R base cap : Nat} {r s' : Int} {E : List Ed} {b : Bool} {a : Option Addr} (hR : w.heap.size ≤ R) (hRX : R < base) (hbw : Below w.heap.size w w9) (h : MSt w9 X base r s' (.slice a E.length cap) E) :
    LwGraphBool w r s' E b (.returned (.tuple #[.agg #[.int .i64 r, .int .i64 s', .slice a E.length cap], .bool b])) (((w9.setCell ⟨R, 0, none⟩ (.int .i64 r)).setCell ⟨R, 1, none⟩ (.int .i64 s')).setCell ⟨R, 2, none⟩ (.slice a E.length cap)) := by
  obtain ⟨h1, lo, hi, h2, h3, h4, h5⟩ := h
  refine ⟨a, cap, rfl, ?_, below_set3 hbw hR⟩
  have hsz : (((w9.setCell ⟨R, 0, none⟩ (.int .i64 r)).setCell ⟨R, 1, none⟩ (.int .i64 s')).setCell ⟨R, 2, none⟩ (.slice a E.length cap)).heap.size = w9.heap.size := size_set3K
  have h9 : RowS 77 3 (((w9.setCell ⟨R, 0, none⟩ (.int .i64 r)).setCell ⟨R, 1, none⟩ (.int .i64 s')).setCell ⟨R, 2, none⟩ (.slice a E.length cap)) lo hi (.slice a E.length cap) E.length (flatE E) := h2.keep (fun k q1 q2 => by
    have hk : k ≠ R := by omega
    rw [Below.heap_setCell _ _ _ _ hk, Below.heap_setCell _ _ _ _ hk, Below.heap_setCell _ _ _ _ hk])
  exact h9.wide (by omega) (by rw [hsz]; exact h4)
set_option maxRecDepth 100000 in
set_option maxHeartbeats 6400000 in
theorem specAddPath (w : World) (r s u v : Int) (va vw : Value) (es : List Ed) (wd : List Int) (h : ReadE w.heap.size w va es) (hs : -9223372036854775808 ≤ s ∧ s ≤ 9223372036854775807) (hl : es.length ≤ 10000000) (hw : ReadI w.heap.size w vw wd) (hwl : wd.length ≤ 10000000) :
    Calls Try.prog 24 #[.agg #[.int .i64 r, .int .i64 s, va], .int .i64 u, vw, .int .i64 v] w (LwGraphBool w r (pthS r s es u wd v) (pthE r s es u wd v) (tkP r s es u wd v)) := by
  obtain ⟨a, cap, rfl, hnc⟩ := h.form
  obtain ⟨m, hm⟩ : ∃ m, m = es.length := ⟨_, rfl⟩
  have h0 := h
  rw [← hm] at h
  obtain ⟨w1, hw1⟩ : ∃ z, z = (w.alloc (.cells #[.int .i64 r, .int .i64 s, .slice a m cap] 30)).alloc (.cells #[.int .i64 0, .int .i64 0, .slice none 0 0] 30) := ⟨_, rfl⟩
  have hb1 : Below w.heap.size w w1 := by rw [hw1]; exact ((Below.refl _ _).alloc (Nat.le_refl _) _).alloc (by simp) _
  have hs1 : w1.heap.size = w.heap.size + 1 + 1 := by rw [hw1]; simp
  have hg := heap_box w (.cells #[.int .i64 r, .int .i64 s, .slice a m cap] 30) (.cells #[.int .i64 0, .int .i64 0, .slice none 0 0] 30)
  have hk := heap_alloc_new (w.alloc (.cells #[.int .i64 r, .int .i64 s, .slice a m cap] 30)) (.cells #[.int .i64 0, .int .i64 0, .slice none 0 0] 30)
  rw [← hw1] at hg hk
  rw [show (w.alloc (.cells #[.int .i64 r, .int .i64 s, .slice a m cap] 30)).heap.size = w.heap.size + 1 by simp] at hk
  have g0 : w1.cell? ⟨w.heap.size, 0, none⟩ = some (.int .i64 r) := by simpa using cell_of_heap hg 0
  have g1 : w1.cell? ⟨w.heap.size, 1, none⟩ = some (.int .i64 s) := by simpa using cell_of_heap hg 1
  have g2 : w1.cell? ⟨w.heap.size, 2, none⟩ = some (.slice a m cap) := by simpa using cell_of_heap hg 2
  have hcopy := specCopy w1 r s (.slice a es.length cap) es ((h0.below hb1).mono hb1.size) (by omega)
  rw [← hm] at hcopy ⊢
  obtain ⟨B, hB⟩ : ∃ B, B = tkP r s es u wd v := ⟨_, rfl⟩
  obtain ⟨PS, hPS⟩ : ∃ B, B = pthS r s es u wd v := ⟨_, rfl⟩
  obtain ⟨PE, hPE⟩ : ∃ B, B = pthE r s es u wd v := ⟨_, rfl⟩
  obtain ⟨n, hn⟩ : ∃ n, n = wd.length := ⟨_, rfl⟩
  have hparts : B = (isGr r s es && decide (0 ≤ u ∧ u < s) && decide (0 ≤ v ∧ v < s) && isW r wd && decide (n ≠ 0) && decide (s + n - 1 ≤ 40) && decide (es.length + n ≤ 120)) := by rw [hB, hn]; rfl
  rw [← hB, ← hPS, ← hPE]
  have hfalse : B = false → PS = s ∧ PE = es := fun hf => by
    rw [hPS, hPE]; unfold pthS pthE; rw [← hB, hf]; exact ⟨rfl, rfl⟩
  have htrue : B = true → PS = s + n - 1 ∧ PE = putAll es (pathK s u v wd n) := fun hf => by
    rw [hPS, hPE, hn]; unfold pthS pthE; rw [← hB, hf]; exact ⟨rfl, rfl⟩
  have hlim : isGr r s es = true → 1 ≤ s ∧ s ≤ 40 ∧ es.length ≤ 120 ∧ 1 ≤ r ∧ r ≤ 3 := fun h => by obtain ⟨_, g0, g1, g2, g3, g4⟩ := isGr_iff.1 h; exact ⟨g2, g3, g4, g0, g1⟩
  obtain ⟨b1, hb1_⟩ : ∃ b, b = isGr r s es := ⟨_, rfl⟩
  obtain ⟨b4, hb4_⟩ : ∃ b, b = isW r wd := ⟨_, rfl⟩
  obtain ⟨hwz, aw, cw, rfl, hwn, hwc⟩ := hw
  have hw9 : ReadI w.heap.size w (.slice aw wd.length cw) wd := ⟨hwz, aw, cw, rfl, hwn, hwc⟩
  clear hwn hwc hwz
  rw [← hn] at hw9 hwl ⊢
  have hwx := fun W B (hr : ReadI B W (.slice aw n cw) wd) => specIsW W B _ wd r hr
  have hgrx := fun W (hr : ReadE W.heap.size W (.slice a es.length cap) es) => specIsGr W r s _ es hr hs (by omega)
  rw [← hb1_] at hparts hlim
  rw [← hb4_] at hparts
  rw [← hm] at hgrx
  simp only [← hb4_] at hwx
  simp only [← hb1_] at hgrx
  have hrd1 : ReadE w.heap.size w1 (.slice a m cap) es := h.below hb1
  replace hm := hidI hm
  replace hB := hidI hB
  replace hPS := hidI hPS
  replace hPE := hidI hPE
  replace hfalse := hidI hfalse
  replace htrue := hidI htrue
  replace hparts := hidI hparts
  replace hlim := hidI hlim
  replace h := hidI h
  replace h0 := hidI h0
  replace hg := hidI hg
  replace hk := hidI hk
  replace hn := hidI hn
  replace hw9 := hidI hw9
  replace hnc := hidI hnc
  replace hs1 := hidI hs1
  replace hwx := hidI hwx
  replace hgrx := hidI hgrx
  replace hrd1 := hidI hrd1
  replace hb1_ := hidI hb1_
  replace hb4_ := hidI hb4_
  go_enter Try.func24, Try.ntmps24
  go_upto_region 1 with fail
  rw [← hw1]
  replace hw1 := hidI hw1
  go_wp2_with fail
  refine hcopy.mono ?_
  rintro e w2 ⟨b, cap2, rfl, hrow2, hb2⟩
  rw [← hm.out]
  rw [← hm.out] at hrow2
  clear hcopy
  have hs2 := hb2.size
  replace g0 := below_cell g0 hb2 (by have := hs1.out; omega)
  replace g1 := below_cell g1 hb2 (by have := hs1.out; omega)
  replace g2 := below_cell g2 hb2 (by have := hs1.out; omega)
  have hR2 : w2.heap[w.heap.size + 1]? = some (.cells #[.int .i64 0, .int .i64 0, .slice none 0 0] 30 (0, 0)) := by rw [hb2.block _ (by have := hs1.out; omega)]; exact hk.out
  obtain ⟨w3, hw3⟩ : ∃ z, z = w2.alloc (.cells #[.int .i64 r, .int .i64 s, .slice b m cap2] 30) := ⟨_, rfl⟩
  have hb3 : Below w2.heap.size w2 w3 := by rw [hw3]; exact (Below.refl _ _).alloc (Nat.le_refl _) _
  have hs3 : w3.heap.size = w2.heap.size + 1 := by rw [hw3]; simp
  obtain ⟨X, hX⟩ : ∃ X, X = w2.heap.size := ⟨_, rfl⟩
  have hX3 : w3.heap[X]? = some (.cells #[.int .i64 r, .int .i64 s, .slice b m cap2] 30 (0, 0)) := by rw [hw3, hX]; exact heap_alloc_new _ _
  replace g0 := below_cell g0 hb3 (by have := hs1.out; omega)
  replace g1 := below_cell g1 hb3 (by have := hs1.out; omega)
  replace g2 := below_cell g2 hb3 (by have := hs1.out; omega)
  have hR3 : w3.heap[w.heap.size + 1]? = some (.cells #[.int .i64 0, .int .i64 0, .slice none 0 0] 30 (0, 0)) := by rw [hb3.block _ (by have := hs1.out; omega)]; exact hR2
  have hbw3 : Below w.heap.size w w3 := (hb1.trans (hb2.mono hb1.size)).trans (hb3.mono (by have := hb1.size; omega))
  have hst3 : MSt w3 X w1.heap.size r s (.slice b m cap2) es := ⟨hX3, w1.heap.size, w2.heap.size, by rw [hm.out] at hrow2 ⊢; exact hrow2.below hb3 (Nat.le_refl _), Nat.le_refl _, by omega, .inl (by omega)⟩
  have hrd3 : ReadE w3.heap.size w3 (.slice a m cap) es := ((hrd1.out.below (hb2.mono (by have := hb1.size; omega))).below (hb3.mono (by have := hb1.size; omega))).mono (by have := hb1.size; omega)
  have hrw3 : ReadI w.heap.size w3 (.slice aw n cw) wd := hw9.out.below hbw3
  have hgr := hgrx.out w3 hrd3
  have hbase : w1.heap.size = w.heap.size + 1 + 1 := hs1.out
  have hbX : w1.heap.size ≤ X := by omega
  have hX3s : X < w3.heap.size := by omega
  replace hX3 := hidI hX3
  replace hR2 := hidI hR2
  replace hR3 := hidI hR3
  replace hst3 := hidI hst3
  replace hrd3 := hidI hrd3
  replace hrw3 := hidI hrw3
  replace hrow2 := hidI hrow2
  replace hbw3 := hidI hbw3
  replace hs3 := hidI hs3
  replace hbase := hidI hbase
  go_upto_region 2 with fail
  rw [← hw3, ← hX]
  replace hw3 := hidI hw3
  replace hX := hidI hX
  clear hb2 hb3
  cases b1 with
  | false =>
    replace hparts : Hid (B = false) := hidI (by rw [hparts.out]; rfl)
    have hpz : B = false := by rw [hparts.out]
    obtain ⟨hPS9, hPE9⟩ := hfalse.out hpz
    replace hPS9 := hPS9.symm
    replace hPE9 := hPE9.symm
    subst hpz
    subst hPS9
    subst hPE9
    have hbz3 := Below.refl w3.heap.size w3
    go_wp2_with fail
    refine hgr.mono ?_
    rintro e w4 ⟨rfl, hbn⟩
    have hbz4 := hbz3.trans (hbn.mono hbz3.size)
    replace g0 := below_cell g0 hbn (by have := hbase.out; omega)
    replace g1 := below_cell g1 hbn (by have := hbase.out; omega)
    replace g2 := below_cell g2 hbn (by have := hbase.out; omega)
    have hsz4 := hbn.size
    clear hbn
    have hR9 : w4.heap[w.heap.size + 1]? = some (.cells #[.int .i64 0, .int .i64 0, .slice none 0 0] 30 (0, 0)) := by rw [hbz4.block _ (by have := hbase.out; omega)]; exact hR3.out
    have hst9 : MSt w4 X w1.heap.size r s (.slice b m cap2) es := by
      obtain ⟨q1, lo, hi, q2, q3, q4, q5⟩ := hst3.out
      exact ⟨by rw [hbz4.block _ hX3s]; exact q1, lo, hi, q2.below hbz4 q4, q3, Nat.le_trans q4 hbz4.size, q5⟩
    have hX9 := hst9.1
    have hfin := mst_fin (w := w) (w9 := w4) (X := X) (R := w.heap.size + 1) (base := w1.heap.size) (cap := cap2) (r := r) (s' := s) (E := es) (b := false) (a := b) (by omega) (by have := hbase.out; omega) (hbw3.out.trans (hbz4.mono hbw3.out.size)) (by rw [← hm.out]; exact hst9)
    rw [← hm.out] at hfin
    have x0 := cell_of_heap hX9 0
    have x1 := cell_of_heap hX9 1
    have x2 := cell_of_heap hX9 2
    have y0 := cell_of_heap hR9 0
    have y1 := cell_of_heap hR9 1
    have y2 := cell_of_heap hR9 2
    have f2 := fun j => frozen_of_row w4 (w.heap.size + 1) j _ _ hR9
    simp at x0 x1 x2 y0 y1 y2
    replace hfin := hidI hfin
    replace hR9 := hidI hR9
    replace hX9 := hidI hX9
    replace hst9 := hidI hst9
    go_wp2
    (try simp only [Exit.inBlock, Exit.then])
    refine ret_cell2 (x := .bool false) rfl rfl rfl (set3 hR9.out _ _ _) Try.underlying30 sizeGraph ?_
    exact hfin.out
  | true =>
    obtain ⟨hs1_, hs2_, hel, hr1, hr3⟩ := hlim.out rfl
    have hmb : m ≤ 120 := by have := hm.out; omega
    have hpar := hparts.out
    rw [Bool.true_and] at hpar
    replace hparts := hidI hpar
    clear hpar
    by_cases c1 : 0 ≤ u ∧ u < s
    case neg =>
      replace hparts : Hid (B = false) := hidI (by rw [hparts.out, decide_eq_false c1]; rfl)
      have hvu : ∀ W, Calls Try.prog 42 #[.int .i64 u, .int .i64 0, .int .i64 (s - 1)] W (fun e w' => e = .returned (.bool false) ∧ W = w') := fun W => by have := in_any W u 0 (s - 1); rwa [decide_eq_false (show ¬ (0 ≤ u ∧ u ≤ s - 1) by omega)] at this
      replace c1 := hidI c1
      have hpz : B = false := by rw [hparts.out]
      obtain ⟨hPS9, hPE9⟩ := hfalse.out hpz
      replace hPS9 := hPS9.symm
      replace hPE9 := hPE9.symm
      subst hpz
      subst hPS9
      subst hPE9
      have hbz3 := Below.refl w3.heap.size w3
      go_wp2_with fail
      refine hgr.mono ?_
      rintro e w4 ⟨rfl, hbn⟩
      have hbz4 := hbz3.trans (hbn.mono hbz3.size)
      replace g0 := below_cell g0 hbn (by have := hbase.out; omega)
      replace g1 := below_cell g1 hbn (by have := hbase.out; omega)
      replace g2 := below_cell g2 hbn (by have := hbase.out; omega)
      have hsz4 := hbn.size
      clear hbn
      go_wp2_with fail
      refine (hvu w4).mono ?_
      rintro e wz ⟨rfl, rfl⟩
      have hR9 : w4.heap[w.heap.size + 1]? = some (.cells #[.int .i64 0, .int .i64 0, .slice none 0 0] 30 (0, 0)) := by rw [hbz4.block _ (by have := hbase.out; omega)]; exact hR3.out
      have hst9 : MSt w4 X w1.heap.size r s (.slice b m cap2) es := by
        obtain ⟨q1, lo, hi, q2, q3, q4, q5⟩ := hst3.out
        exact ⟨by rw [hbz4.block _ hX3s]; exact q1, lo, hi, q2.below hbz4 q4, q3, Nat.le_trans q4 hbz4.size, q5⟩
      have hX9 := hst9.1
      have hfin := mst_fin (w := w) (w9 := w4) (X := X) (R := w.heap.size + 1) (base := w1.heap.size) (cap := cap2) (r := r) (s' := s) (E := es) (b := false) (a := b) (by omega) (by have := hbase.out; omega) (hbw3.out.trans (hbz4.mono hbw3.out.size)) (by rw [← hm.out]; exact hst9)
      rw [← hm.out] at hfin
      have x0 := cell_of_heap hX9 0
      have x1 := cell_of_heap hX9 1
      have x2 := cell_of_heap hX9 2
      have y0 := cell_of_heap hR9 0
      have y1 := cell_of_heap hR9 1
      have y2 := cell_of_heap hR9 2
      have f2 := fun j => frozen_of_row w4 (w.heap.size + 1) j _ _ hR9
      simp at x0 x1 x2 y0 y1 y2
      replace hfin := hidI hfin
      replace hR9 := hidI hR9
      replace hX9 := hidI hX9
      replace hst9 := hidI hst9
      go_wp2
      (try simp only [Exit.inBlock, Exit.then])
      refine ret_cell2 (x := .bool false) rfl rfl rfl (set3 hR9.out _ _ _) Try.underlying30 sizeGraph ?_
      exact hfin.out
    have hvu : ∀ W, Calls Try.prog 42 #[.int .i64 u, .int .i64 0, .int .i64 (s - 1)] W (fun e w' => e = .returned (.bool true) ∧ W = w') := fun W => by have := in_any W u 0 (s - 1); rwa [decide_eq_true (show 0 ≤ u ∧ u ≤ s - 1 by omega)] at this
    have hpar := hparts.out
    rw [decide_eq_true c1, Bool.true_and] at hpar
    replace hparts := hidI hpar
    clear hpar
    replace c1 := hidI c1
    by_cases c2 : 0 ≤ v ∧ v < s
    case neg =>
      replace hparts : Hid (B = false) := hidI (by rw [hparts.out, decide_eq_false c2]; rfl)
      have hvv : ∀ W, Calls Try.prog 42 #[.int .i64 v, .int .i64 0, .int .i64 (s - 1)] W (fun e w' => e = .returned (.bool false) ∧ W = w') := fun W => by have := in_any W v 0 (s - 1); rwa [decide_eq_false (show ¬ (0 ≤ v ∧ v ≤ s - 1) by omega)] at this
      replace c2 := hidI c2
      have hpz : B = false := by rw [hparts.out]
      obtain ⟨hPS9, hPE9⟩ := hfalse.out hpz
      replace hPS9 := hPS9.symm
      replace hPE9 := hPE9.symm
      subst hpz
      subst hPS9
      subst hPE9
      have hbz3 := Below.refl w3.heap.size w3
      go_wp2_with fail
      refine hgr.mono ?_
      rintro e w4 ⟨rfl, hbn⟩
      have hbz4 := hbz3.trans (hbn.mono hbz3.size)
      replace g0 := below_cell g0 hbn (by have := hbase.out; omega)
      replace g1 := below_cell g1 hbn (by have := hbase.out; omega)
      replace g2 := below_cell g2 hbn (by have := hbase.out; omega)
      have hsz4 := hbn.size
      clear hbn
      go_wp2_with fail
      refine (hvu w4).mono ?_
      rintro e wz ⟨rfl, rfl⟩
      go_wp2_with fail
      refine (hvv w4).mono ?_
      rintro e wz ⟨rfl, rfl⟩
      have hR9 : w4.heap[w.heap.size + 1]? = some (.cells #[.int .i64 0, .int .i64 0, .slice none 0 0] 30 (0, 0)) := by rw [hbz4.block _ (by have := hbase.out; omega)]; exact hR3.out
      have hst9 : MSt w4 X w1.heap.size r s (.slice b m cap2) es := by
        obtain ⟨q1, lo, hi, q2, q3, q4, q5⟩ := hst3.out
        exact ⟨by rw [hbz4.block _ hX3s]; exact q1, lo, hi, q2.below hbz4 q4, q3, Nat.le_trans q4 hbz4.size, q5⟩
      have hX9 := hst9.1
      have hfin := mst_fin (w := w) (w9 := w4) (X := X) (R := w.heap.size + 1) (base := w1.heap.size) (cap := cap2) (r := r) (s' := s) (E := es) (b := false) (a := b) (by omega) (by have := hbase.out; omega) (hbw3.out.trans (hbz4.mono hbw3.out.size)) (by rw [← hm.out]; exact hst9)
      rw [← hm.out] at hfin
      have x0 := cell_of_heap hX9 0
      have x1 := cell_of_heap hX9 1
      have x2 := cell_of_heap hX9 2
      have y0 := cell_of_heap hR9 0
      have y1 := cell_of_heap hR9 1
      have y2 := cell_of_heap hR9 2
      have f2 := fun j => frozen_of_row w4 (w.heap.size + 1) j _ _ hR9
      simp at x0 x1 x2 y0 y1 y2
      replace hfin := hidI hfin
      replace hR9 := hidI hR9
      replace hX9 := hidI hX9
      replace hst9 := hidI hst9
      go_wp2
      (try simp only [Exit.inBlock, Exit.then])
      refine ret_cell2 (x := .bool false) rfl rfl rfl (set3 hR9.out _ _ _) Try.underlying30 sizeGraph ?_
      exact hfin.out
    have hvv : ∀ W, Calls Try.prog 42 #[.int .i64 v, .int .i64 0, .int .i64 (s - 1)] W (fun e w' => e = .returned (.bool true) ∧ W = w') := fun W => by have := in_any W v 0 (s - 1); rwa [decide_eq_true (show 0 ≤ v ∧ v ≤ s - 1 by omega)] at this
    have hpar := hparts.out
    rw [decide_eq_true c2, Bool.true_and] at hpar
    replace hparts := hidI hpar
    clear hpar
    replace c2 := hidI c2
    cases b4 with
    | false =>
      replace hparts : Hid (B = false) := hidI (by rw [hparts.out]; rfl)
      have hpz : B = false := by rw [hparts.out]
      obtain ⟨hPS9, hPE9⟩ := hfalse.out hpz
      replace hPS9 := hPS9.symm
      replace hPE9 := hPE9.symm
      subst hpz
      subst hPS9
      subst hPE9
      have hbz3 := Below.refl w3.heap.size w3
      go_wp2_with fail
      refine hgr.mono ?_
      rintro e w4 ⟨rfl, hbn⟩
      have hbz4 := hbz3.trans (hbn.mono hbz3.size)
      replace g0 := below_cell g0 hbn (by have := hbase.out; omega)
      replace g1 := below_cell g1 hbn (by have := hbase.out; omega)
      replace g2 := below_cell g2 hbn (by have := hbase.out; omega)
      have hsz4 := hbn.size
      clear hbn
      go_wp2_with fail
      refine (hvu w4).mono ?_
      rintro e wz ⟨rfl, rfl⟩
      go_wp2_with fail
      refine (hvv w4).mono ?_
      rintro e wz ⟨rfl, rfl⟩
      have q5 := hrw3.out.below (hbz4.mono (by have := hbase.out; omega))
      go_wp2_with fail
      refine (hwx.out w4 _ q5).mono ?_
      rintro e w5 ⟨rfl, mm, rfl⟩
      replace hbz4 := below_dn hbz4 mm
      have hR9 : (w4.drewN mm).heap[w.heap.size + 1]? = some (.cells #[.int .i64 0, .int .i64 0, .slice none 0 0] 30 (0, 0)) := by rw [hbz4.block _ (by have := hbase.out; omega)]; exact hR3.out
      have hst9 : MSt (w4.drewN mm) X w1.heap.size r s (.slice b m cap2) es := by
        obtain ⟨q1, lo, hi, q2, q3, q4, q5⟩ := hst3.out
        exact ⟨by rw [hbz4.block _ hX3s]; exact q1, lo, hi, q2.below hbz4 q4, q3, Nat.le_trans q4 hbz4.size, q5⟩
      have hX9 := hst9.1
      have hfin := mst_fin (w := w) (w9 := (w4.drewN mm)) (X := X) (R := w.heap.size + 1) (base := w1.heap.size) (cap := cap2) (r := r) (s' := s) (E := es) (b := false) (a := b) (by omega) (by have := hbase.out; omega) (hbw3.out.trans (hbz4.mono hbw3.out.size)) (by rw [← hm.out]; exact hst9)
      rw [← hm.out] at hfin
      have x0 := cell_of_heap hX9 0
      have x1 := cell_of_heap hX9 1
      have x2 := cell_of_heap hX9 2
      have y0 := cell_of_heap hR9 0
      have y1 := cell_of_heap hR9 1
      have y2 := cell_of_heap hR9 2
      have f2 := fun j => frozen_of_row (w4.drewN mm) (w.heap.size + 1) j _ _ hR9
      simp at x0 x1 x2 y0 y1 y2
      replace hfin := hidI hfin
      replace hR9 := hidI hR9
      replace hX9 := hidI hX9
      replace hst9 := hidI hst9
      go_wp2
      (try simp only [Exit.inBlock, Exit.then])
      refine ret_cell2 (x := .bool false) rfl rfl rfl (set3 hR9.out _ _ _) Try.underlying30 sizeGraph ?_
      exact hfin.out
    | true =>
      have hpar := hparts.out
      rw [Bool.true_and] at hpar
      replace hparts := hidI hpar
      clear hpar
      have hn24 : n ≤ 24 := by
        have hiw := hb4_.out.symm
        unfold isW at hiw
        rw [decide_eq_true_eq] at hiw
        have := hn.out
        omega
      by_cases c3 : 0 < n
      case neg =>
        have hn0 : n = 0 := by omega
        replace hparts : Hid (B = false) := hidI (by rw [hparts.out, decide_eq_false (show ¬ n ≠ 0 by omega)]; rfl)
        have t3d : ((n : Int) == 0) = true := by rw [beq_iff_eq]; omega
        replace hn0 := hidI hn0
        replace c3 := hidI c3
        have hpz : B = false := by rw [hparts.out]
        obtain ⟨hPS9, hPE9⟩ := hfalse.out hpz
        replace hPS9 := hPS9.symm
        replace hPE9 := hPE9.symm
        subst hpz
        subst hPS9
        subst hPE9
        have hbz3 := Below.refl w3.heap.size w3
        go_wp2_with fail
        refine hgr.mono ?_
        rintro e w4 ⟨rfl, hbn⟩
        have hbz4 := hbz3.trans (hbn.mono hbz3.size)
        replace g0 := below_cell g0 hbn (by have := hbase.out; omega)
        replace g1 := below_cell g1 hbn (by have := hbase.out; omega)
        replace g2 := below_cell g2 hbn (by have := hbase.out; omega)
        have hsz4 := hbn.size
        clear hbn
        go_wp2_with fail
        refine (hvu w4).mono ?_
        rintro e wz ⟨rfl, rfl⟩
        go_wp2_with fail
        refine (hvv w4).mono ?_
        rintro e wz ⟨rfl, rfl⟩
        have q5 := hrw3.out.below (hbz4.mono (by have := hbase.out; omega))
        go_wp2_with fail
        refine (hwx.out w4 _ q5).mono ?_
        rintro e w5 ⟨rfl, mm, rfl⟩
        replace hbz4 := below_dn hbz4 mm
        have hR9 : (w4.drewN mm).heap[w.heap.size + 1]? = some (.cells #[.int .i64 0, .int .i64 0, .slice none 0 0] 30 (0, 0)) := by rw [hbz4.block _ (by have := hbase.out; omega)]; exact hR3.out
        have hst9 : MSt (w4.drewN mm) X w1.heap.size r s (.slice b m cap2) es := by
          obtain ⟨q1, lo, hi, q2, q3, q4, q5⟩ := hst3.out
          exact ⟨by rw [hbz4.block _ hX3s]; exact q1, lo, hi, q2.below hbz4 q4, q3, Nat.le_trans q4 hbz4.size, q5⟩
        have hX9 := hst9.1
        have hfin := mst_fin (w := w) (w9 := (w4.drewN mm)) (X := X) (R := w.heap.size + 1) (base := w1.heap.size) (cap := cap2) (r := r) (s' := s) (E := es) (b := false) (a := b) (by omega) (by have := hbase.out; omega) (hbw3.out.trans (hbz4.mono hbw3.out.size)) (by rw [← hm.out]; exact hst9)
        rw [← hm.out] at hfin
        have x0 := cell_of_heap hX9 0
        have x1 := cell_of_heap hX9 1
        have x2 := cell_of_heap hX9 2
        have y0 := cell_of_heap hR9 0
        have y1 := cell_of_heap hR9 1
        have y2 := cell_of_heap hR9 2
        have f2 := fun j => frozen_of_row (w4.drewN mm) (w.heap.size + 1) j _ _ hR9
        simp at x0 x1 x2 y0 y1 y2
        replace hfin := hidI hfin
        replace hR9 := hidI hR9
        replace hX9 := hidI hX9
        replace hst9 := hidI hst9
        go_wp2
        (try simp only [Exit.inBlock, Exit.then])
        refine ret_cell2 (x := .bool false) rfl rfl rfl (set3 hR9.out _ _ _) Try.underlying30 sizeGraph ?_
        exact hfin.out
      have hpar := hparts.out
      rw [decide_eq_true (show n ≠ 0 by omega), Bool.true_and] at hpar
      replace hparts := hidI hpar
      clear hpar
      have t3d : ((n : Int) == 0) = false := by rw [beq_eq_false_iff_ne]; omega
      by_cases c5 : s + n - 1 ≤ 40
      case neg =>
        replace hparts : Hid (B = false) := hidI (by rw [hparts.out, decide_eq_false c5]; rfl)
        have hpz : B = false := by rw [hparts.out]
        obtain ⟨hPS9, hPE9⟩ := hfalse.out hpz
        replace hPS9 := hPS9.symm
        replace hPE9 := hPE9.symm
        subst hpz
        subst hPS9
        subst hPE9
        have hbz3 := Below.refl w3.heap.size w3
        go_wp2_with fail
        refine hgr.mono ?_
        rintro e w4 ⟨rfl, hbn⟩
        have hbz4 := hbz3.trans (hbn.mono hbz3.size)
        replace g0 := below_cell g0 hbn (by have := hbase.out; omega)
        replace g1 := below_cell g1 hbn (by have := hbase.out; omega)
        replace g2 := below_cell g2 hbn (by have := hbase.out; omega)
        have hsz4 := hbn.size
        clear hbn
        go_wp2_with fail
        refine (hvu w4).mono ?_
        rintro e wz ⟨rfl, rfl⟩
        go_wp2_with fail
        refine (hvv w4).mono ?_
        rintro e wz ⟨rfl, rfl⟩
        have q5 := hrw3.out.below (hbz4.mono (by have := hbase.out; omega))
        go_wp2_with fail
        refine (hwx.out w4 _ q5).mono ?_
        rintro e w5 ⟨rfl, mm, rfl⟩
        replace hbz4 := below_dn hbz4 mm
        have hR9 : (w4.drewN mm).heap[w.heap.size + 1]? = some (.cells #[.int .i64 0, .int .i64 0, .slice none 0 0] 30 (0, 0)) := by rw [hbz4.block _ (by have := hbase.out; omega)]; exact hR3.out
        have hst9 : MSt (w4.drewN mm) X w1.heap.size r s (.slice b m cap2) es := by
          obtain ⟨q1, lo, hi, q2, q3, q4, q5⟩ := hst3.out
          exact ⟨by rw [hbz4.block _ hX3s]; exact q1, lo, hi, q2.below hbz4 q4, q3, Nat.le_trans q4 hbz4.size, q5⟩
        have hX9 := hst9.1
        have hfin := mst_fin (w := w) (w9 := (w4.drewN mm)) (X := X) (R := w.heap.size + 1) (base := w1.heap.size) (cap := cap2) (r := r) (s' := s) (E := es) (b := false) (a := b) (by omega) (by have := hbase.out; omega) (hbw3.out.trans (hbz4.mono hbw3.out.size)) (by rw [← hm.out]; exact hst9)
        rw [← hm.out] at hfin
        have x0 := cell_of_heap hX9 0
        have x1 := cell_of_heap hX9 1
        have x2 := cell_of_heap hX9 2
        have y0 := cell_of_heap hR9 0
        have y1 := cell_of_heap hR9 1
        have y2 := cell_of_heap hR9 2
        have f2 := fun j => frozen_of_row (w4.drewN mm) (w.heap.size + 1) j _ _ hR9
        simp at x0 x1 x2 y0 y1 y2
        replace hfin := hidI hfin
        replace hR9 := hidI hR9
        replace hX9 := hidI hX9
        replace hst9 := hidI hst9
        go_wp2
        all_goals first | (exfalso; omega) | skip
        (try simp only [Exit.inBlock, Exit.then])
        refine ret_cell2 (x := .bool false) rfl rfl rfl (set3 hR9.out _ _ _) Try.underlying30 sizeGraph ?_
        exact hfin.out
      have hpar := hparts.out
      rw [decide_eq_true c5, Bool.true_and] at hpar
      replace hparts := hidI hpar
      clear hpar
      by_cases c6 : (m : Int) + n ≤ 120
      case neg =>
        replace hparts : Hid (B = false) := hidI (by rw [hparts.out, decide_eq_false_iff_not]; have := hm.out; omega)
        have hpz : B = false := by rw [hparts.out]
        obtain ⟨hPS9, hPE9⟩ := hfalse.out hpz
        replace hPS9 := hPS9.symm
        replace hPE9 := hPE9.symm
        subst hpz
        subst hPS9
        subst hPE9
        have hbz3 := Below.refl w3.heap.size w3
        go_wp2_with fail
        refine hgr.mono ?_
        rintro e w4 ⟨rfl, hbn⟩
        have hbz4 := hbz3.trans (hbn.mono hbz3.size)
        replace g0 := below_cell g0 hbn (by have := hbase.out; omega)
        replace g1 := below_cell g1 hbn (by have := hbase.out; omega)
        replace g2 := below_cell g2 hbn (by have := hbase.out; omega)
        have hsz4 := hbn.size
        clear hbn
        go_wp2_with fail
        refine (hvu w4).mono ?_
        rintro e wz ⟨rfl, rfl⟩
        go_wp2_with fail
        refine (hvv w4).mono ?_
        rintro e wz ⟨rfl, rfl⟩
        have q5 := hrw3.out.below (hbz4.mono (by have := hbase.out; omega))
        go_wp2_with fail
        refine (hwx.out w4 _ q5).mono ?_
        rintro e w5 ⟨rfl, mm, rfl⟩
        replace hbz4 := below_dn hbz4 mm
        have hR9 : (w4.drewN mm).heap[w.heap.size + 1]? = some (.cells #[.int .i64 0, .int .i64 0, .slice none 0 0] 30 (0, 0)) := by rw [hbz4.block _ (by have := hbase.out; omega)]; exact hR3.out
        have hst9 : MSt (w4.drewN mm) X w1.heap.size r s (.slice b m cap2) es := by
          obtain ⟨q1, lo, hi, q2, q3, q4, q5⟩ := hst3.out
          exact ⟨by rw [hbz4.block _ hX3s]; exact q1, lo, hi, q2.below hbz4 q4, q3, Nat.le_trans q4 hbz4.size, q5⟩
        have hX9 := hst9.1
        have hfin := mst_fin (w := w) (w9 := (w4.drewN mm)) (X := X) (R := w.heap.size + 1) (base := w1.heap.size) (cap := cap2) (r := r) (s' := s) (E := es) (b := false) (a := b) (by omega) (by have := hbase.out; omega) (hbw3.out.trans (hbz4.mono hbw3.out.size)) (by rw [← hm.out]; exact hst9)
        rw [← hm.out] at hfin
        have x0 := cell_of_heap hX9 0
        have x1 := cell_of_heap hX9 1
        have x2 := cell_of_heap hX9 2
        have y0 := cell_of_heap hR9 0
        have y1 := cell_of_heap hR9 1
        have y2 := cell_of_heap hR9 2
        have f2 := fun j => frozen_of_row (w4.drewN mm) (w.heap.size + 1) j _ _ hR9
        simp at x0 x1 x2 y0 y1 y2
        replace hfin := hidI hfin
        replace hR9 := hidI hR9
        replace hX9 := hidI hX9
        replace hst9 := hidI hst9
        go_wp2
        all_goals first | (exfalso; omega) | skip
        (try simp only [Exit.inBlock, Exit.then])
        refine ret_cell2 (x := .bool false) rfl rfl rfl (set3 hR9.out _ _ _) Try.underlying30 sizeGraph ?_
        exact hfin.out
      have hpz : B = true := by rw [hparts.out, decide_eq_true_eq]; have := hm.out; omega
      have hbz3 := Below.refl w3.heap.size w3
      go_wp2_with fail
      refine hgr.mono ?_
      rintro e w4 ⟨rfl, hbn⟩
      have hbz4 := hbz3.trans (hbn.mono hbz3.size)
      replace g0 := below_cell g0 hbn (by have := hbase.out; omega)
      replace g1 := below_cell g1 hbn (by have := hbase.out; omega)
      replace g2 := below_cell g2 hbn (by have := hbase.out; omega)
      have hsz4 := hbn.size
      clear hbn
      go_wp2_with fail
      refine (hvu w4).mono ?_
      rintro e wz ⟨rfl, rfl⟩
      go_wp2_with fail
      refine (hvv w4).mono ?_
      rintro e wz ⟨rfl, rfl⟩
      have q5 := hrw3.out.below (hbz4.mono (by have := hbase.out; omega))
      go_wp2_with fail
      refine (hwx.out w4 _ q5).mono ?_
      rintro e w5 ⟨rfl, mm, rfl⟩
      replace hbz4 := below_dn hbz4 mm
      have hR9 : (w4.drewN mm).heap[w.heap.size + 1]? = some (.cells #[.int .i64 0, .int .i64 0, .slice none 0 0] 30 (0, 0)) := by rw [hbz4.block _ (by have := hbase.out; omega)]; exact hR3.out
      have hst9 : MSt (w4.drewN mm) X w1.heap.size r s (.slice b m cap2) es := by
        obtain ⟨q1, lo, hi, q2, q3, q4, q5⟩ := hst3.out
        exact ⟨by rw [hbz4.block _ hX3s]; exact q1, lo, hi, q2.below hbz4 q4, q3, Nat.le_trans q4 hbz4.size, q5⟩
      obtain ⟨hPS9, hPE9⟩ := htrue.out hpz
      obtain ⟨w5, hw5⟩ : ∃ z, z = w4.drewN mm := ⟨_, rfl⟩
      rw [← hw5] at hR9 hst9 hbz4 ⊢
      have hbw5 : Below w.heap.size w w5 := hbw3.out.trans (hbz4.mono hbw3.out.size)
      have hX5s : X < w5.heap.size := by have := hbz4.size; omega
      replace g0 : w5.cell? ⟨w.heap.size, 0, none⟩ = some (.int .i64 r) := by rw [hw5]; exact g0
      replace g1 : w5.cell? ⟨w.heap.size, 1, none⟩ = some (.int .i64 s) := by rw [hw5]; exact g1
      replace g2 : w5.cell? ⟨w.heap.size, 2, none⟩ = some (.slice a m cap) := by rw [hw5]; exact g2
      have hiw := hb4_.out.symm
      obtain ⟨bw, ow, rfl, hbwl, _⟩ := hw9.out.at2 0 (by have := hn.out; omega)
      have hwc : ∀ j, j < n → ∀ W, Below w.heap.size w W → W.cell? ⟨bw, ow + j, none⟩ = some (.int .i64 (wd.getD j 0)) := fun j hj W hW => by
        obtain ⟨b', o', e, _, hc⟩ := hw9.out.at2 j (by have := hn.out; omega)
        cases e
        exact below_cell hc hW hbwl
      have hlet : ∀ j, j < n → wd.getD j 0 ≠ 0 ∧ -3 ≤ wd.getD j 0 ∧ wd.getD j 0 ≤ 3 := fun j hj => isW_let hiw ⟨hr1, hr3⟩ (by have := hn.out; omega)
      have hst0 : Hid (∃ v', MSt w5 X w1.heap.size r (s + (0 : Nat)) v' (putAll es (pathK s u v wd 0))) := hidI ⟨_, by
        have e1 : s + ((0 : Nat) : Int) = s := by simp
        have e3 : putAll es (pathK s u v wd 0) = es := by simp [pathK, putAll]
        rw [e1, e3]
        exact hst9⟩
      have hk0 : Hid (Below X w5 w5) := hidI (Below.refl _ _)
      replace hw5 := hidI hw5
      replace hR9 := hidI hR9
      replace hst9 := hidI hst9
      replace hbz4 := hidI hbz4
      replace hbw5 := hidI hbw5
      replace hwc := hidI hwc
      replace hlet := hidI hlet
      replace hiw := hidI hiw
      replace hpz := hidI hpz
      replace hPS9 := hidI hPS9
      replace hPE9 := hidI hPE9
      clear hwx hgrx hvu hvv
      go_wp2
      all_goals first | (exfalso; omega) | skip
      clear g0 g1 g2
      go_loopg [11, 12, 13] n (fun gg x i nx wr => ∃ (k : Nat) (y : Int), k + gg = n ∧ i = .int .i64 k ∧ x = .int .i64 y ∧ Hid (k < n → y = atP s u k) ∧ Hid (∃ v', MSt wr X w1.heap.size r (if k < n then s + (k : Nat) else s + n - 1) v' (putAll es (pathK s u v wd k))) ∧ Hid (Below X w5 wr))
      case atStart => exact ⟨0, u, by omega, rfl, rfl, hidI (fun _ => rfl), by rw [if_pos c3]; exact hst0, hk0⟩
      case round =>
        clear hst0 hk0
        obtain ⟨k, y, hk9, rfl, rfl, hat, hst, hkb⟩ := hrel
        obtain ⟨v6, hP⟩ := hst.out
        obtain ⟨E, hE⟩ : ∃ E, E = putAll es (pathK s u v wd k) := ⟨_, rfl⟩
        rw [← hE] at hP
        have hEl : E.length ≤ 1000 := by
          rw [hE]
          have := putAll_length (pathK s u v wd k) es
          rw [pathK_length] at this
          omega
        obtain ⟨av, cv, rfl⟩ := hP.form
        have hbr : Below w.heap.size w wr := hbw5.out.trans (hkb.out.mono (by have := hbase.out; omega))
        have hXr : X < wr.heap.size := by have := hkb.out.size; omega
        by_cases hlt : k < n
        · have hki : (k : Int) < (n : Int) := by omega
          rw [if_pos hlt] at hP
          have hy := hat.out hlt
          obtain ⟨z, hz⟩ : ∃ z, z = wd.getD k 0 := ⟨_, rfl⟩
          have hzb := hlet.out k hlt
          rw [← hz] at hzb
          have czr := hwc.out k hlt wr hbr
          rw [← hz] at czr
          obtain ⟨sk, hsk⟩ : ∃ x : Int, x = s + (k : Nat) := ⟨_, rfl⟩
          rw [← hsk] at hP
          have hskb : 1 ≤ sk ∧ sk ≤ 100 := by omega
          by_cases hmid : k + 1 < n
          · have hmi : (k : Int) + 1 < (n : Int) := by omega
            by_cases hpos : 0 < z
            ·
              obtain ⟨wa, hwa⟩ : ∃ x, x = wr.setCell ⟨X, 1, none⟩ (.int .i64 (sk + 1)) := ⟨_, rfl⟩
              have hSa : MSt wa X w1.heap.size r (sk + 1) (.slice av E.length cv) E := by rw [hwa]; exact hP.sized (sk + 1)
              have hba : Below X w5 wa := by rw [hwa]; exact hkb.out.setCell (p := ⟨X, 1, none⟩) (Nat.le_refl _) _
              have hsa : wa.heap.size = wr.heap.size := by rw [hwa]; simp [World.setCell]
              have hbx := hP.1
              have c1 := cell_of_heap hbx 1
              simp at c1
              have ff := fun j => frozen_of_row wr X j _ _ hbx
              have hbwa : Below w.heap.size w wa := hbw5.out.trans (hba.mono (by have := hbase.out; omega))
              have cza := hwc.out k hlt wa hbwa
              rw [← hz] at cza
              obtain ⟨wd_, hwd⟩ : ∃ x, x = wa.drew := ⟨_, rfl⟩
              have hSd : MSt wd_ X w1.heap.size r (sk + 1) (.slice av E.length cv) E := by rw [hwd]; exact hSa.drew
              have hsd : wd_.heap.size = wa.heap.size := by rw [hwd]; rfl
              have hbd : Below X w5 wd_ := by rw [hwd]; exact below_dn hba 1
              have cz : wd_.cell? ⟨bw, ow + k, none⟩ = some (.int .i64 z) := by rw [hwd]; exact cza
              have cX := cell_of_heap hSd.1 2
              simp at cX
              have hcall := specPut wd_ (.slice av E.length cv) E y z sk hSd.read (by omega)
              obtain ⟨E2, hE2⟩ : ∃ E2, E2 = putE (y, z, sk) E := ⟨_, rfl⟩
              rw [← hE2] at hcall
              have hnext : E2 = putAll es (pathK s u v wd (k + 1)) := by
                rw [pathK_succ, putAll_snoc, ← hE, hE2]
                congr 1
                unfold edP eB
                rw [← hy, ← hz, ← hn.out, nxP_mid hmid, ← hsk]
                rw [if_neg (by omega)]
              have hzpos : (0 : Int) < z := by omega
              replace hE2 := hidI hE2
              replace hnext := hidI hnext
              replace hSa := hidI hSa
              replace hSd := hidI hSd
              replace hba := hidI hba
              replace hbd := hidI hbd
              replace hbwa := hidI hbwa
              replace hbx := hidI hbx
              replace hP := hidI hP
              replace hwd := hidI hwd
              replace hz := hidI hz
              replace hy := hidI hy
              replace hE := hidI hE
              replace hsk := hidI hsk
              replace hk9 := hidI hk9
              clear hst
              go_upto_region 12 with fail
              rw [← hwa]
              replace hwa := hidI hwa
              clear c1 ff
              go_wp2
              refine hideQ (fun _ _ d _ _ h => by cases d <;> exact h) (fun Q' hnorm hpan => ?_)
              refine wp_region_held_drew (S := fun x => x.cell? ⟨bw, ow + k, none⟩ = some (.int .i64 z)) (by kernel_rfl) ?_ (fun hHeld => ?_)
              · try dsimp only
                rw [← hwd.out]
                exact cz
              rw [← hwd.out] at hHeld ⊢
              refine take_at 0 90 (v := ?_) rfl (by kernel_rfl) (by kernel_rfl) (by kernel_rfl) (by kernel_rfl) hpan (Or.inl ⟨by rfl, ?_⟩) (by assumption) ?_
              rotate_left
              · intro w hSw; (try dsimp only at hSw); go_simp; with_reducible rfl
              simp only [Act.put, List.setIfInBounds_toArray, List.set_cons_zero, List.set_cons_succ]
              refine take_at 2 92 (v := ?_) rfl (by kernel_rfl) (by kernel_rfl) (by kernel_rfl) (by kernel_rfl) hpan (Or.inl ⟨by rfl, ?_⟩) (by assumption) ?_
              rotate_left
              · intro w hSw; (try dsimp only at hSw); go_simp; with_reducible rfl
              simp only [Act.put, List.setIfInBounds_toArray, List.set_cons_zero, List.set_cons_succ]
              refine take_at 3 93 (v := ?_) rfl (by kernel_rfl) (by kernel_rfl) (by kernel_rfl) (by kernel_rfl) hpan (Or.inl ⟨by rfl, ?_⟩) (by assumption) ?_
              rotate_left
              · intro w hSw; (try dsimp only at hSw); go_simp; with_reducible rfl
              simp only [Act.put, List.setIfInBounds_toArray, List.set_cons_zero, List.set_cons_succ]
              refine take_at 4 94 (v := ?_) rfl (by kernel_rfl) (by kernel_rfl) (by kernel_rfl) (by kernel_rfl) hpan (Or.inl ⟨by rfl, ?_⟩) (by assumption) ?_
              rotate_left
              · intro w hSw; (try dsimp only at hSw); go_simp; with_reducible rfl
              simp only [Act.put, List.setIfInBounds_toArray, List.set_cons_zero, List.set_cons_succ]
              refine take_at 5 95 (v := ?_) rfl (by kernel_rfl) (by kernel_rfl) (by kernel_rfl) (by kernel_rfl) hpan (Or.inl ⟨by rfl, ?_⟩) (by assumption) ?_
              rotate_left
              · intro w hSw; (try dsimp only at hSw); go_simp; with_reducible rfl
              simp only [Act.put, List.setIfInBounds_toArray, List.set_cons_zero, List.set_cons_succ]
              refine take_at 6 96 (v := ?_) rfl (by kernel_rfl) (by kernel_rfl) (by kernel_rfl) (by kernel_rfl) hpan (Or.inl ⟨by rfl, ?_⟩) (by assumption) ?_
              rotate_left
              · intro w hSw; (try dsimp only at hSw); go_simp; with_reducible rfl
              simp only [Act.put, List.setIfInBounds_toArray, List.set_cons_zero, List.set_cons_succ]
              refine take_at 7 97 (v := ?_) rfl (by kernel_rfl) (by kernel_rfl) (by kernel_rfl) (by kernel_rfl) hpan (Or.inl ⟨by rfl, ?_⟩) (by assumption) ?_
              rotate_left
              · intro w hSw; (try dsimp only at hSw); go_simp; with_reducible rfl
              simp only [Act.put, List.setIfInBounds_toArray, List.set_cons_zero, List.set_cons_succ]
              refine take_at 8 98 (v := ?_) rfl (by kernel_rfl) (by kernel_rfl) (by kernel_rfl) (by kernel_rfl) hpan (Or.inl ⟨by rfl, ?_⟩) (by assumption) ?_
              rotate_left
              · intro w hSw; (try dsimp only at hSw); go_simp; with_reducible rfl
              simp only [Act.put, List.setIfInBounds_toArray, List.set_cons_zero, List.set_cons_succ]
              refine wpAnyH_ready (rs := [1]) (by kernel_rfl) (by simp) ?_
              refine AllReadyH.cons rfl (fun K hK => ?_) AllReadyH.nil
              rw [if_pos (by rfl)]
              go_simp
              refine hK.out _ _ ?_ (fun hHeld => ?_)
              · try dsimp only
                first | assumption | exact cz
              clear hK
              try simp only [Act.put, List.setIfInBounds_toArray, List.set_cons_zero, List.set_cons_succ]
              refine wpAnyH_ready (rs := [9]) (by kernel_rfl) (by simp) ?_
              refine AllReadyH.cons rfl (fun K hK => ?_) AllReadyH.nil
              rw [if_pos (by rfl)]
              go_simp
              go_at_call 61
              (with_reducible refine hcall.mono ?_)
              rintro e w6 ⟨a2, c2, rfl, hrow, hb6⟩
              have hs6 := hb6.size
              replace cz := below_cell cz hb6 (by have := hbase.out; omega)
              have hX6 : w6.heap[X]? = _ := (hb6.block X (by omega)).trans hSd.out.1
              have c6 := cell_of_heap hX6 2
              have f6 := fun j => frozen_of_row w6 X j _ _ hX6
              simp at c6
              have hS7 := hSd.out.put (by omega) hb6 (by have := hbase.out; omega) hrow
              have hb7 : Below X w5 (w6.setCell ⟨X, 2, none⟩ (.slice a2 E2.length c2)) := (hbd.out.trans (hb6.mono (by omega))).setCell (p := ⟨X, 2, none⟩) (Nat.le_refl _) _
              have k9 : (w6.setCell ⟨X, 2, none⟩ (.slice a2 E2.length c2)).cell? ⟨bw, ow + k, none⟩ = some (.int .i64 z) := by
                rw [World.cell?_of_block (w := w6) (a := ⟨bw, ow + k, none⟩) (Below.heap_setCell _ _ _ _ (show bw ≠ X by have := hbase.out; omega))]; exact cz
              replace hX6 := hidI hX6
              replace hS7 := hidI hS7
              replace hb7 := hidI hb7
              replace hrow := hidI hrow
              replace hb6 := hidI hb6
              refine hK.out _ _ ?_ (fun hHeld => ?_)
              · try dsimp only
                first | assumption | exact cz
              clear hK
              try simp only [Act.put, List.setIfInBounds_toArray, List.set_cons_zero, List.set_cons_succ]
              refine take_at 10 100 (v := ?_) rfl (by kernel_rfl) (by kernel_rfl) (by kernel_rfl) (by kernel_rfl) hpan (Or.inl ⟨by rfl, ?_⟩) (by assumption) ?_
              rotate_left
              · intro w hSw; (try dsimp only at hSw); go_simp; with_reducible rfl
              simp only [Act.put, List.setIfInBounds_toArray, List.set_cons_zero, List.set_cons_succ]
              refine wpAnyH_ready (rs := [11]) (by kernel_rfl) (by simp) ?_
              refine AllReadyH.cons rfl (fun K hK => ?_) AllReadyH.nil
              rw [if_pos (by rfl)]
              go_simp
              replace cz := k9
              refine hK.out _ _ ?_ (fun hHeld => ?_)
              · try dsimp only
                first | assumption | exact cz
              clear hK
              try simp only [Act.put, List.setIfInBounds_toArray, List.set_cons_zero, List.set_cons_succ]
              refine wpAnyH_done (by kernel_rfl) ?_ _
              refine hnorm _ _ ?_
              clear hnorm hpan
              repeat clear hHeld
              try simp only [Exit.then]
              have hst7 : Hid (∃ v', MSt (w6.setCell ⟨X, 2, none⟩ (.slice a2 E2.length c2)) X w1.heap.size r (if k + 1 < n then s + ((k + 1 : Nat) : Int) else s + n - 1) v' (putAll es (pathK s u v wd (k + 1)))) := hidI ⟨_, by
                have hsz : (if k + 1 < n then s + ((k + 1 : Nat) : Int) else s + n - 1) = sk + 1 := by
                  rw [if_pos hmid]; have := hsk.out; push_cast; omega
                rw [hsz, ← hnext.out]; exact hS7.out⟩
              have hat7 : Hid (k + 1 < n → sk = atP s u (k + 1)) := hidI (fun h => by rw [atP_succ]; exact hsk.out)
              clear hcall cX
              go_wp2
              go_roundg (n - (k + 1))
              case rel => exact ⟨k + 1, sk, by have := hk9.out; omega, by go_num, rfl, hat7, hst7, hb7⟩
              case measure => have := hk9.out; omega
            ·
              obtain ⟨wa, hwa⟩ : ∃ x, x = wr.setCell ⟨X, 1, none⟩ (.int .i64 (sk + 1)) := ⟨_, rfl⟩
              have hSa : MSt wa X w1.heap.size r (sk + 1) (.slice av E.length cv) E := by rw [hwa]; exact hP.sized (sk + 1)
              have hba : Below X w5 wa := by rw [hwa]; exact hkb.out.setCell (p := ⟨X, 1, none⟩) (Nat.le_refl _) _
              have hsa : wa.heap.size = wr.heap.size := by rw [hwa]; simp [World.setCell]
              have hbx := hP.1
              have c1 := cell_of_heap hbx 1
              simp at c1
              have ff := fun j => frozen_of_row wr X j _ _ hbx
              have hbwa : Below w.heap.size w wa := hbw5.out.trans (hba.mono (by have := hbase.out; omega))
              have cza := hwc.out k hlt wa hbwa
              rw [← hz] at cza
              obtain ⟨wd_, hwd⟩ : ∃ x, x = wa.drew := ⟨_, rfl⟩
              have hSd : MSt wd_ X w1.heap.size r (sk + 1) (.slice av E.length cv) E := by rw [hwd]; exact hSa.drew
              have hsd : wd_.heap.size = wa.heap.size := by rw [hwd]; rfl
              have hbd : Below X w5 wd_ := by rw [hwd]; exact below_dn hba 1
              have cz : wd_.cell? ⟨bw, ow + k, none⟩ = some (.int .i64 z) := by rw [hwd]; exact cza
              have cX := cell_of_heap hSd.1 2
              simp at cX
              have hcall := specPut wd_ (.slice av E.length cv) E sk (-z) y hSd.read (by omega)
              obtain ⟨E2, hE2⟩ : ∃ E2, E2 = putE (sk, -z, y) E := ⟨_, rfl⟩
              rw [← hE2] at hcall
              have hnext : E2 = putAll es (pathK s u v wd (k + 1)) := by
                rw [pathK_succ, putAll_snoc, ← hE, hE2]
                congr 1
                unfold edP eB
                rw [← hy, ← hz, ← hn.out, nxP_mid hmid, ← hsk]
                rw [if_pos (by omega)]
              have hq1 : wrap64 (-z) = -z := by unfold wrap64; omega
              have hq2 : IntKind.i64.wrap (-z) = -z := IntWalk.i64_in _ (by omega)
              have hzpos : ¬ (0 : Int) < z := by omega
              replace hE2 := hidI hE2
              replace hnext := hidI hnext
              replace hSa := hidI hSa
              replace hSd := hidI hSd
              replace hba := hidI hba
              replace hbd := hidI hbd
              replace hbwa := hidI hbwa
              replace hbx := hidI hbx
              replace hP := hidI hP
              replace hwd := hidI hwd
              replace hz := hidI hz
              replace hy := hidI hy
              replace hE := hidI hE
              replace hsk := hidI hsk
              replace hk9 := hidI hk9
              clear hst
              go_upto_region 12 with fail
              rw [← hwa]
              replace hwa := hidI hwa
              clear c1 ff
              go_wp2
              refine hideQ (fun _ _ d _ _ h => by cases d <;> exact h) (fun Q' hnorm hpan => ?_)
              refine wp_region_held_drew (S := fun x => x.cell? ⟨bw, ow + k, none⟩ = some (.int .i64 z)) (by kernel_rfl) ?_ (fun hHeld => ?_)
              · try dsimp only
                rw [← hwd.out]
                exact cz
              rw [← hwd.out] at hHeld ⊢
              refine take_at 0 101 (v := ?_) rfl (by kernel_rfl) (by kernel_rfl) (by kernel_rfl) (by kernel_rfl) hpan (Or.inl ⟨by rfl, ?_⟩) (by assumption) ?_
              rotate_left
              · intro w hSw; (try dsimp only at hSw); go_simp; with_reducible rfl
              simp only [Act.put, List.setIfInBounds_toArray, List.set_cons_zero, List.set_cons_succ]
              refine take_at 2 103 (v := ?_) rfl (by kernel_rfl) (by kernel_rfl) (by kernel_rfl) (by kernel_rfl) hpan (Or.inl ⟨by rfl, ?_⟩) (by assumption) ?_
              rotate_left
              · intro w hSw; (try dsimp only at hSw); go_simp; with_reducible rfl
              simp only [Act.put, List.setIfInBounds_toArray, List.set_cons_zero, List.set_cons_succ]
              refine take_at 3 104 (v := ?_) rfl (by kernel_rfl) (by kernel_rfl) (by kernel_rfl) (by kernel_rfl) hpan (Or.inl ⟨by rfl, ?_⟩) (by assumption) ?_
              rotate_left
              · intro w hSw; (try dsimp only at hSw); go_simp; with_reducible rfl
              simp only [Act.put, List.setIfInBounds_toArray, List.set_cons_zero, List.set_cons_succ]
              refine take_at 4 105 (v := ?_) rfl (by kernel_rfl) (by kernel_rfl) (by kernel_rfl) (by kernel_rfl) hpan (Or.inl ⟨by rfl, ?_⟩) (by assumption) ?_
              rotate_left
              · intro w hSw; (try dsimp only at hSw); go_simp; with_reducible rfl
              simp only [Act.put, List.setIfInBounds_toArray, List.set_cons_zero, List.set_cons_succ]
              refine take_at 5 106 (v := ?_) rfl (by kernel_rfl) (by kernel_rfl) (by kernel_rfl) (by kernel_rfl) hpan (Or.inl ⟨by rfl, ?_⟩) (by assumption) ?_
              rotate_left
              · intro w hSw; (try dsimp only at hSw); go_simp; with_reducible rfl
              simp only [Act.put, List.setIfInBounds_toArray, List.set_cons_zero, List.set_cons_succ]
              refine take_at 6 107 (v := ?_) rfl (by kernel_rfl) (by kernel_rfl) (by kernel_rfl) (by kernel_rfl) hpan (Or.inl ⟨by rfl, ?_⟩) (by assumption) ?_
              rotate_left
              · intro w hSw; (try dsimp only at hSw); go_simp; with_reducible rfl
              simp only [Act.put, List.setIfInBounds_toArray, List.set_cons_zero, List.set_cons_succ]
              refine take_at 7 108 (v := ?_) rfl (by kernel_rfl) (by kernel_rfl) (by kernel_rfl) (by kernel_rfl) hpan (Or.inl ⟨by rfl, ?_⟩) (by assumption) ?_
              rotate_left
              · intro w hSw; (try dsimp only at hSw); go_simp; with_reducible rfl
              simp only [Act.put, List.setIfInBounds_toArray, List.set_cons_zero, List.set_cons_succ]
              refine take_at 8 109 (v := ?_) rfl (by kernel_rfl) (by kernel_rfl) (by kernel_rfl) (by kernel_rfl) hpan (Or.inl ⟨by rfl, ?_⟩) (by assumption) ?_
              rotate_left
              · intro w hSw; (try dsimp only at hSw); go_simp; with_reducible rfl
              simp only [Act.put, List.setIfInBounds_toArray, List.set_cons_zero, List.set_cons_succ]
              refine take_at 9 110 (v := ?_) rfl (by kernel_rfl) (by kernel_rfl) (by kernel_rfl) (by kernel_rfl) hpan (Or.inl ⟨by rfl, ?_⟩) (by assumption) ?_
              rotate_left
              · intro w hSw; (try dsimp only at hSw); go_simp; with_reducible rfl
              simp only [Act.put, List.setIfInBounds_toArray, List.set_cons_zero, List.set_cons_succ]
              refine wpAnyH_ready (rs := [1]) (by kernel_rfl) (by simp) ?_
              refine AllReadyH.cons rfl (fun K hK => ?_) AllReadyH.nil
              rw [if_pos (by rfl)]
              go_simp
              refine hK.out _ _ ?_ (fun hHeld => ?_)
              · try dsimp only
                first | assumption | exact cz
              clear hK
              try simp only [Act.put, List.setIfInBounds_toArray, List.set_cons_zero, List.set_cons_succ]
              refine wpAnyH_ready (rs := [10]) (by kernel_rfl) (by simp) ?_
              refine AllReadyH.cons rfl (fun K hK => ?_) AllReadyH.nil
              rw [if_pos (by rfl)]
              go_simp
              go_at_call 61
              (with_reducible refine hcall.mono ?_)
              rintro e w6 ⟨a2, c2, rfl, hrow, hb6⟩
              have hs6 := hb6.size
              replace cz := below_cell cz hb6 (by have := hbase.out; omega)
              have hX6 : w6.heap[X]? = _ := (hb6.block X (by omega)).trans hSd.out.1
              have c6 := cell_of_heap hX6 2
              have f6 := fun j => frozen_of_row w6 X j _ _ hX6
              simp at c6
              have hS7 := hSd.out.put (by omega) hb6 (by have := hbase.out; omega) hrow
              have hb7 : Below X w5 (w6.setCell ⟨X, 2, none⟩ (.slice a2 E2.length c2)) := (hbd.out.trans (hb6.mono (by omega))).setCell (p := ⟨X, 2, none⟩) (Nat.le_refl _) _
              have k9 : (w6.setCell ⟨X, 2, none⟩ (.slice a2 E2.length c2)).cell? ⟨bw, ow + k, none⟩ = some (.int .i64 z) := by
                rw [World.cell?_of_block (w := w6) (a := ⟨bw, ow + k, none⟩) (Below.heap_setCell _ _ _ _ (show bw ≠ X by have := hbase.out; omega))]; exact cz
              replace hX6 := hidI hX6
              replace hS7 := hidI hS7
              replace hb7 := hidI hb7
              replace hrow := hidI hrow
              replace hb6 := hidI hb6
              refine hK.out _ _ ?_ (fun hHeld => ?_)
              · try dsimp only
                first | assumption | exact cz
              clear hK
              try simp only [Act.put, List.setIfInBounds_toArray, List.set_cons_zero, List.set_cons_succ]
              refine take_at 11 112 (v := ?_) rfl (by kernel_rfl) (by kernel_rfl) (by kernel_rfl) (by kernel_rfl) hpan (Or.inl ⟨by rfl, ?_⟩) (by assumption) ?_
              rotate_left
              · intro w hSw; (try dsimp only at hSw); go_simp; with_reducible rfl
              simp only [Act.put, List.setIfInBounds_toArray, List.set_cons_zero, List.set_cons_succ]
              refine wpAnyH_ready (rs := [12]) (by kernel_rfl) (by simp) ?_
              refine AllReadyH.cons rfl (fun K hK => ?_) AllReadyH.nil
              rw [if_pos (by rfl)]
              go_simp
              replace cz := k9
              refine hK.out _ _ ?_ (fun hHeld => ?_)
              · try dsimp only
                first | assumption | exact cz
              clear hK
              try simp only [Act.put, List.setIfInBounds_toArray, List.set_cons_zero, List.set_cons_succ]
              refine wpAnyH_done (by kernel_rfl) ?_ _
              refine hnorm _ _ ?_
              clear hnorm hpan
              repeat clear hHeld
              try simp only [Exit.then]
              have hst7 : Hid (∃ v', MSt (w6.setCell ⟨X, 2, none⟩ (.slice a2 E2.length c2)) X w1.heap.size r (if k + 1 < n then s + ((k + 1 : Nat) : Int) else s + n - 1) v' (putAll es (pathK s u v wd (k + 1)))) := hidI ⟨_, by
                have hsz : (if k + 1 < n then s + ((k + 1 : Nat) : Int) else s + n - 1) = sk + 1 := by
                  rw [if_pos hmid]; have := hsk.out; push_cast; omega
                rw [hsz, ← hnext.out]; exact hS7.out⟩
              have hat7 : Hid (k + 1 < n → sk = atP s u (k + 1)) := hidI (fun h => by rw [atP_succ]; exact hsk.out)
              clear hcall cX
              go_wp2
              go_roundg (n - (k + 1))
              case rel => exact ⟨k + 1, sk, by have := hk9.out; omega, by go_num, rfl, hat7, hst7, hb7⟩
              case measure => have := hk9.out; omega
          · have hmi : ¬ (k : Int) + 1 < (n : Int) := by omega
            by_cases hpos : 0 < z
            ·
              obtain ⟨wa, hwa⟩ : ∃ x, x = wr := ⟨_, rfl⟩
              have hSa : MSt wa X w1.heap.size r sk (.slice av E.length cv) E := by rw [hwa]; exact hP
              have hba : Below X w5 wa := by rw [hwa]; exact hkb.out
              have hsa : wa.heap.size = wr.heap.size := by rw [hwa]
              have hbx := hP.1
              have hbwa : Below w.heap.size w wa := hbw5.out.trans (hba.mono (by have := hbase.out; omega))
              have cza := hwc.out k hlt wa hbwa
              rw [← hz] at cza
              obtain ⟨wd_, hwd⟩ : ∃ x, x = wa.drew := ⟨_, rfl⟩
              have hSd : MSt wd_ X w1.heap.size r sk (.slice av E.length cv) E := by rw [hwd]; exact hSa.drew
              have hsd : wd_.heap.size = wa.heap.size := by rw [hwd]; rfl
              have hbd : Below X w5 wd_ := by rw [hwd]; exact below_dn hba 1
              have cz : wd_.cell? ⟨bw, ow + k, none⟩ = some (.int .i64 z) := by rw [hwd]; exact cza
              have cX := cell_of_heap hSd.1 2
              simp at cX
              have hcall := specPut wd_ (.slice av E.length cv) E y z v hSd.read (by omega)
              obtain ⟨E2, hE2⟩ : ∃ E2, E2 = putE (y, z, v) E := ⟨_, rfl⟩
              rw [← hE2] at hcall
              have hnext : E2 = putAll es (pathK s u v wd (k + 1)) := by
                rw [pathK_succ, putAll_snoc, ← hE, hE2]
                congr 1
                unfold edP eB
                rw [← hy, ← hz, ← hn.out, nxP_last hmid]
                rw [if_neg (by omega)]
              have hzpos : (0 : Int) < z := by omega
              replace hE2 := hidI hE2
              replace hnext := hidI hnext
              replace hSa := hidI hSa
              replace hSd := hidI hSd
              replace hba := hidI hba
              replace hbd := hidI hbd
              replace hbwa := hidI hbwa
              replace hbx := hidI hbx
              replace hP := hidI hP
              replace hwd := hidI hwd
              replace hz := hidI hz
              replace hy := hidI hy
              replace hE := hidI hE
              replace hsk := hidI hsk
              replace hk9 := hidI hk9
              clear hst
              rw [← hwa]
              replace hwa := hidI hwa
              go_wp2
              refine hideQ (fun _ _ d _ _ h => by cases d <;> exact h) (fun Q' hnorm hpan => ?_)
              refine wp_region_held_drew (S := fun x => x.cell? ⟨bw, ow + k, none⟩ = some (.int .i64 z)) (by kernel_rfl) ?_ (fun hHeld => ?_)
              · try dsimp only
                rw [← hwd.out]
                exact cz
              rw [← hwd.out] at hHeld ⊢
              refine take_at 0 90 (v := ?_) rfl (by kernel_rfl) (by kernel_rfl) (by kernel_rfl) (by kernel_rfl) hpan (Or.inl ⟨by rfl, ?_⟩) (by assumption) ?_
              rotate_left
              · intro w hSw; (try dsimp only at hSw); go_simp; with_reducible rfl
              simp only [Act.put, List.setIfInBounds_toArray, List.set_cons_zero, List.set_cons_succ]
              refine take_at 2 92 (v := ?_) rfl (by kernel_rfl) (by kernel_rfl) (by kernel_rfl) (by kernel_rfl) hpan (Or.inl ⟨by rfl, ?_⟩) (by assumption) ?_
              rotate_left
              · intro w hSw; (try dsimp only at hSw); go_simp; with_reducible rfl
              simp only [Act.put, List.setIfInBounds_toArray, List.set_cons_zero, List.set_cons_succ]
              refine take_at 3 93 (v := ?_) rfl (by kernel_rfl) (by kernel_rfl) (by kernel_rfl) (by kernel_rfl) hpan (Or.inl ⟨by rfl, ?_⟩) (by assumption) ?_
              rotate_left
              · intro w hSw; (try dsimp only at hSw); go_simp; with_reducible rfl
              simp only [Act.put, List.setIfInBounds_toArray, List.set_cons_zero, List.set_cons_succ]
              refine take_at 4 94 (v := ?_) rfl (by kernel_rfl) (by kernel_rfl) (by kernel_rfl) (by kernel_rfl) hpan (Or.inl ⟨by rfl, ?_⟩) (by assumption) ?_
              rotate_left
              · intro w hSw; (try dsimp only at hSw); go_simp; with_reducible rfl
              simp only [Act.put, List.setIfInBounds_toArray, List.set_cons_zero, List.set_cons_succ]
              refine take_at 5 95 (v := ?_) rfl (by kernel_rfl) (by kernel_rfl) (by kernel_rfl) (by kernel_rfl) hpan (Or.inl ⟨by rfl, ?_⟩) (by assumption) ?_
              rotate_left
              · intro w hSw; (try dsimp only at hSw); go_simp; with_reducible rfl
              simp only [Act.put, List.setIfInBounds_toArray, List.set_cons_zero, List.set_cons_succ]
              refine take_at 6 96 (v := ?_) rfl (by kernel_rfl) (by kernel_rfl) (by kernel_rfl) (by kernel_rfl) hpan (Or.inl ⟨by rfl, ?_⟩) (by assumption) ?_
              rotate_left
              · intro w hSw; (try dsimp only at hSw); go_simp; with_reducible rfl
              simp only [Act.put, List.setIfInBounds_toArray, List.set_cons_zero, List.set_cons_succ]
              refine take_at 7 97 (v := ?_) rfl (by kernel_rfl) (by kernel_rfl) (by kernel_rfl) (by kernel_rfl) hpan (Or.inl ⟨by rfl, ?_⟩) (by assumption) ?_
              rotate_left
              · intro w hSw; (try dsimp only at hSw); go_simp; with_reducible rfl
              simp only [Act.put, List.setIfInBounds_toArray, List.set_cons_zero, List.set_cons_succ]
              refine take_at 8 98 (v := ?_) rfl (by kernel_rfl) (by kernel_rfl) (by kernel_rfl) (by kernel_rfl) hpan (Or.inl ⟨by rfl, ?_⟩) (by assumption) ?_
              rotate_left
              · intro w hSw; (try dsimp only at hSw); go_simp; with_reducible rfl
              simp only [Act.put, List.setIfInBounds_toArray, List.set_cons_zero, List.set_cons_succ]
              refine wpAnyH_ready (rs := [1]) (by kernel_rfl) (by simp) ?_
              refine AllReadyH.cons rfl (fun K hK => ?_) AllReadyH.nil
              rw [if_pos (by rfl)]
              go_simp
              refine hK.out _ _ ?_ (fun hHeld => ?_)
              · try dsimp only
                first | assumption | exact cz
              clear hK
              try simp only [Act.put, List.setIfInBounds_toArray, List.set_cons_zero, List.set_cons_succ]
              refine wpAnyH_ready (rs := [9]) (by kernel_rfl) (by simp) ?_
              refine AllReadyH.cons rfl (fun K hK => ?_) AllReadyH.nil
              rw [if_pos (by rfl)]
              go_simp
              go_at_call 61
              (with_reducible refine hcall.mono ?_)
              rintro e w6 ⟨a2, c2, rfl, hrow, hb6⟩
              have hs6 := hb6.size
              replace cz := below_cell cz hb6 (by have := hbase.out; omega)
              have hX6 : w6.heap[X]? = _ := (hb6.block X (by omega)).trans hSd.out.1
              have c6 := cell_of_heap hX6 2
              have f6 := fun j => frozen_of_row w6 X j _ _ hX6
              simp at c6
              have hS7 := hSd.out.put (by omega) hb6 (by have := hbase.out; omega) hrow
              have hb7 : Below X w5 (w6.setCell ⟨X, 2, none⟩ (.slice a2 E2.length c2)) := (hbd.out.trans (hb6.mono (by omega))).setCell (p := ⟨X, 2, none⟩) (Nat.le_refl _) _
              have k9 : (w6.setCell ⟨X, 2, none⟩ (.slice a2 E2.length c2)).cell? ⟨bw, ow + k, none⟩ = some (.int .i64 z) := by
                rw [World.cell?_of_block (w := w6) (a := ⟨bw, ow + k, none⟩) (Below.heap_setCell _ _ _ _ (show bw ≠ X by have := hbase.out; omega))]; exact cz
              replace hX6 := hidI hX6
              replace hS7 := hidI hS7
              replace hb7 := hidI hb7
              replace hrow := hidI hrow
              replace hb6 := hidI hb6
              refine hK.out _ _ ?_ (fun hHeld => ?_)
              · try dsimp only
                first | assumption | exact cz
              clear hK
              try simp only [Act.put, List.setIfInBounds_toArray, List.set_cons_zero, List.set_cons_succ]
              refine take_at 10 100 (v := ?_) rfl (by kernel_rfl) (by kernel_rfl) (by kernel_rfl) (by kernel_rfl) hpan (Or.inl ⟨by rfl, ?_⟩) (by assumption) ?_
              rotate_left
              · intro w hSw; (try dsimp only at hSw); go_simp; with_reducible rfl
              simp only [Act.put, List.setIfInBounds_toArray, List.set_cons_zero, List.set_cons_succ]
              refine wpAnyH_ready (rs := [11]) (by kernel_rfl) (by simp) ?_
              refine AllReadyH.cons rfl (fun K hK => ?_) AllReadyH.nil
              rw [if_pos (by rfl)]
              go_simp
              replace cz := k9
              refine hK.out _ _ ?_ (fun hHeld => ?_)
              · try dsimp only
                first | assumption | exact cz
              clear hK
              try simp only [Act.put, List.setIfInBounds_toArray, List.set_cons_zero, List.set_cons_succ]
              refine wpAnyH_done (by kernel_rfl) ?_ _
              refine hnorm _ _ ?_
              clear hnorm hpan
              repeat clear hHeld
              try simp only [Exit.then]
              have hst7 : Hid (∃ v', MSt (w6.setCell ⟨X, 2, none⟩ (.slice a2 E2.length c2)) X w1.heap.size r (if k + 1 < n then s + ((k + 1 : Nat) : Int) else s + n - 1) v' (putAll es (pathK s u v wd (k + 1)))) := hidI ⟨_, by
                have hsz : (if k + 1 < n then s + ((k + 1 : Nat) : Int) else s + n - 1) = sk := by
                  rw [if_neg hmid]; have := hsk.out; omega
                rw [hsz, ← hnext.out]; exact hS7.out⟩
              have hat7 : Hid (k + 1 < n → v = atP s u (k + 1)) := hidI (fun h => by exact absurd h hmid)
              clear hcall cX
              go_wp2
              go_roundg (n - (k + 1))
              case rel => exact ⟨k + 1, v, by have := hk9.out; omega, by go_num, rfl, hat7, hst7, hb7⟩
              case measure => have := hk9.out; omega
            ·
              obtain ⟨wa, hwa⟩ : ∃ x, x = wr := ⟨_, rfl⟩
              have hSa : MSt wa X w1.heap.size r sk (.slice av E.length cv) E := by rw [hwa]; exact hP
              have hba : Below X w5 wa := by rw [hwa]; exact hkb.out
              have hsa : wa.heap.size = wr.heap.size := by rw [hwa]
              have hbx := hP.1
              have hbwa : Below w.heap.size w wa := hbw5.out.trans (hba.mono (by have := hbase.out; omega))
              have cza := hwc.out k hlt wa hbwa
              rw [← hz] at cza
              obtain ⟨wd_, hwd⟩ : ∃ x, x = wa.drew := ⟨_, rfl⟩
              have hSd : MSt wd_ X w1.heap.size r sk (.slice av E.length cv) E := by rw [hwd]; exact hSa.drew
              have hsd : wd_.heap.size = wa.heap.size := by rw [hwd]; rfl
              have hbd : Below X w5 wd_ := by rw [hwd]; exact below_dn hba 1
              have cz : wd_.cell? ⟨bw, ow + k, none⟩ = some (.int .i64 z) := by rw [hwd]; exact cza
              have cX := cell_of_heap hSd.1 2
              simp at cX
              have hcall := specPut wd_ (.slice av E.length cv) E v (-z) y hSd.read (by omega)
              obtain ⟨E2, hE2⟩ : ∃ E2, E2 = putE (v, -z, y) E := ⟨_, rfl⟩
              rw [← hE2] at hcall
              have hnext : E2 = putAll es (pathK s u v wd (k + 1)) := by
                rw [pathK_succ, putAll_snoc, ← hE, hE2]
                congr 1
                unfold edP eB
                rw [← hy, ← hz, ← hn.out, nxP_last hmid]
                rw [if_pos (by omega)]
              have hq1 : wrap64 (-z) = -z := by unfold wrap64; omega
              have hq2 : IntKind.i64.wrap (-z) = -z := IntWalk.i64_in _ (by omega)
              have hzpos : ¬ (0 : Int) < z := by omega
              replace hE2 := hidI hE2
              replace hnext := hidI hnext
              replace hSa := hidI hSa
              replace hSd := hidI hSd
              replace hba := hidI hba
              replace hbd := hidI hbd
              replace hbwa := hidI hbwa
              replace hbx := hidI hbx
              replace hP := hidI hP
              replace hwd := hidI hwd
              replace hz := hidI hz
              replace hy := hidI hy
              replace hE := hidI hE
              replace hsk := hidI hsk
              replace hk9 := hidI hk9
              clear hst
              rw [← hwa]
              replace hwa := hidI hwa
              go_wp2
              refine hideQ (fun _ _ d _ _ h => by cases d <;> exact h) (fun Q' hnorm hpan => ?_)
              refine wp_region_held_drew (S := fun x => x.cell? ⟨bw, ow + k, none⟩ = some (.int .i64 z)) (by kernel_rfl) ?_ (fun hHeld => ?_)
              · try dsimp only
                rw [← hwd.out]
                exact cz
              rw [← hwd.out] at hHeld ⊢
              refine take_at 0 101 (v := ?_) rfl (by kernel_rfl) (by kernel_rfl) (by kernel_rfl) (by kernel_rfl) hpan (Or.inl ⟨by rfl, ?_⟩) (by assumption) ?_
              rotate_left
              · intro w hSw; (try dsimp only at hSw); go_simp; with_reducible rfl
              simp only [Act.put, List.setIfInBounds_toArray, List.set_cons_zero, List.set_cons_succ]
              refine take_at 2 103 (v := ?_) rfl (by kernel_rfl) (by kernel_rfl) (by kernel_rfl) (by kernel_rfl) hpan (Or.inl ⟨by rfl, ?_⟩) (by assumption) ?_
              rotate_left
              · intro w hSw; (try dsimp only at hSw); go_simp; with_reducible rfl
              simp only [Act.put, List.setIfInBounds_toArray, List.set_cons_zero, List.set_cons_succ]
              refine take_at 3 104 (v := ?_) rfl (by kernel_rfl) (by kernel_rfl) (by kernel_rfl) (by kernel_rfl) hpan (Or.inl ⟨by rfl, ?_⟩) (by assumption) ?_
              rotate_left
              · intro w hSw; (try dsimp only at hSw); go_simp; with_reducible rfl
              simp only [Act.put, List.setIfInBounds_toArray, List.set_cons_zero, List.set_cons_succ]
              refine take_at 4 105 (v := ?_) rfl (by kernel_rfl) (by kernel_rfl) (by kernel_rfl) (by kernel_rfl) hpan (Or.inl ⟨by rfl, ?_⟩) (by assumption) ?_
              rotate_left
              · intro w hSw; (try dsimp only at hSw); go_simp; with_reducible rfl
              simp only [Act.put, List.setIfInBounds_toArray, List.set_cons_zero, List.set_cons_succ]
              refine take_at 5 106 (v := ?_) rfl (by kernel_rfl) (by kernel_rfl) (by kernel_rfl) (by kernel_rfl) hpan (Or.inl ⟨by rfl, ?_⟩) (by assumption) ?_
              rotate_left
              · intro w hSw; (try dsimp only at hSw); go_simp; with_reducible rfl
              simp only [Act.put, List.setIfInBounds_toArray, List.set_cons_zero, List.set_cons_succ]
              refine take_at 6 107 (v := ?_) rfl (by kernel_rfl) (by kernel_rfl) (by kernel_rfl) (by kernel_rfl) hpan (Or.inl ⟨by rfl, ?_⟩) (by assumption) ?_
              rotate_left
              · intro w hSw; (try dsimp only at hSw); go_simp; with_reducible rfl
              simp only [Act.put, List.setIfInBounds_toArray, List.set_cons_zero, List.set_cons_succ]
              refine take_at 7 108 (v := ?_) rfl (by kernel_rfl) (by kernel_rfl) (by kernel_rfl) (by kernel_rfl) hpan (Or.inl ⟨by rfl, ?_⟩) (by assumption) ?_
              rotate_left
              · intro w hSw; (try dsimp only at hSw); go_simp; with_reducible rfl
              simp only [Act.put, List.setIfInBounds_toArray, List.set_cons_zero, List.set_cons_succ]
              refine take_at 8 109 (v := ?_) rfl (by kernel_rfl) (by kernel_rfl) (by kernel_rfl) (by kernel_rfl) hpan (Or.inl ⟨by rfl, ?_⟩) (by assumption) ?_
              rotate_left
              · intro w hSw; (try dsimp only at hSw); go_simp; with_reducible rfl
              simp only [Act.put, List.setIfInBounds_toArray, List.set_cons_zero, List.set_cons_succ]
              refine take_at 9 110 (v := ?_) rfl (by kernel_rfl) (by kernel_rfl) (by kernel_rfl) (by kernel_rfl) hpan (Or.inl ⟨by rfl, ?_⟩) (by assumption) ?_
              rotate_left
              · intro w hSw; (try dsimp only at hSw); go_simp; with_reducible rfl
              simp only [Act.put, List.setIfInBounds_toArray, List.set_cons_zero, List.set_cons_succ]
              refine wpAnyH_ready (rs := [1]) (by kernel_rfl) (by simp) ?_
              refine AllReadyH.cons rfl (fun K hK => ?_) AllReadyH.nil
              rw [if_pos (by rfl)]
              go_simp
              refine hK.out _ _ ?_ (fun hHeld => ?_)
              · try dsimp only
                first | assumption | exact cz
              clear hK
              try simp only [Act.put, List.setIfInBounds_toArray, List.set_cons_zero, List.set_cons_succ]
              refine wpAnyH_ready (rs := [10]) (by kernel_rfl) (by simp) ?_
              refine AllReadyH.cons rfl (fun K hK => ?_) AllReadyH.nil
              rw [if_pos (by rfl)]
              go_simp
              go_at_call 61
              (with_reducible refine hcall.mono ?_)
              rintro e w6 ⟨a2, c2, rfl, hrow, hb6⟩
              have hs6 := hb6.size
              replace cz := below_cell cz hb6 (by have := hbase.out; omega)
              have hX6 : w6.heap[X]? = _ := (hb6.block X (by omega)).trans hSd.out.1
              have c6 := cell_of_heap hX6 2
              have f6 := fun j => frozen_of_row w6 X j _ _ hX6
              simp at c6
              have hS7 := hSd.out.put (by omega) hb6 (by have := hbase.out; omega) hrow
              have hb7 : Below X w5 (w6.setCell ⟨X, 2, none⟩ (.slice a2 E2.length c2)) := (hbd.out.trans (hb6.mono (by omega))).setCell (p := ⟨X, 2, none⟩) (Nat.le_refl _) _
              have k9 : (w6.setCell ⟨X, 2, none⟩ (.slice a2 E2.length c2)).cell? ⟨bw, ow + k, none⟩ = some (.int .i64 z) := by
                rw [World.cell?_of_block (w := w6) (a := ⟨bw, ow + k, none⟩) (Below.heap_setCell _ _ _ _ (show bw ≠ X by have := hbase.out; omega))]; exact cz
              replace hX6 := hidI hX6
              replace hS7 := hidI hS7
              replace hb7 := hidI hb7
              replace hrow := hidI hrow
              replace hb6 := hidI hb6
              refine hK.out _ _ ?_ (fun hHeld => ?_)
              · try dsimp only
                first | assumption | exact cz
              clear hK
              try simp only [Act.put, List.setIfInBounds_toArray, List.set_cons_zero, List.set_cons_succ]
              refine take_at 11 112 (v := ?_) rfl (by kernel_rfl) (by kernel_rfl) (by kernel_rfl) (by kernel_rfl) hpan (Or.inl ⟨by rfl, ?_⟩) (by assumption) ?_
              rotate_left
              · intro w hSw; (try dsimp only at hSw); go_simp; with_reducible rfl
              simp only [Act.put, List.setIfInBounds_toArray, List.set_cons_zero, List.set_cons_succ]
              refine wpAnyH_ready (rs := [12]) (by kernel_rfl) (by simp) ?_
              refine AllReadyH.cons rfl (fun K hK => ?_) AllReadyH.nil
              rw [if_pos (by rfl)]
              go_simp
              replace cz := k9
              refine hK.out _ _ ?_ (fun hHeld => ?_)
              · try dsimp only
                first | assumption | exact cz
              clear hK
              try simp only [Act.put, List.setIfInBounds_toArray, List.set_cons_zero, List.set_cons_succ]
              refine wpAnyH_done (by kernel_rfl) ?_ _
              refine hnorm _ _ ?_
              clear hnorm hpan
              repeat clear hHeld
              try simp only [Exit.then]
              have hst7 : Hid (∃ v', MSt (w6.setCell ⟨X, 2, none⟩ (.slice a2 E2.length c2)) X w1.heap.size r (if k + 1 < n then s + ((k + 1 : Nat) : Int) else s + n - 1) v' (putAll es (pathK s u v wd (k + 1)))) := hidI ⟨_, by
                have hsz : (if k + 1 < n then s + ((k + 1 : Nat) : Int) else s + n - 1) = sk := by
                  rw [if_neg hmid]; have := hsk.out; omega
                rw [hsz, ← hnext.out]; exact hS7.out⟩
              have hat7 : Hid (k + 1 < n → v = atP s u (k + 1)) := hidI (fun h => by exact absurd h hmid)
              clear hcall cX
              go_wp2
              go_roundg (n - (k + 1))
              case rel => exact ⟨k + 1, v, by have := hk9.out; omega, by go_num, rfl, hat7, hst7, hb7⟩
              case measure => have := hk9.out; omega
        · obtain rfl : k = n := by omega
          have hki : ¬ (k : Int) < (k : Int) := by omega
          rw [if_neg (by omega), ← hPS9.out] at hP
          have hEP : E = PE := by rw [hE, hPE9.out]
          subst hEP
          have hR0 : wr.heap[w.heap.size + 1]? = some (.cells #[.int .i64 0, .int .i64 0, .slice none 0 0] 30 (0, 0)) := by rw [hkb.out.block _ (by have := hbase.out; omega)]; exact hR9.out
          have hX9 := hP.1
          have hfin := mst_fin (w := w) (w9 := wr) (X := X) (R := w.heap.size + 1) (base := w1.heap.size) (cap := cv) (r := r) (s' := PS) (E := E) (b := true) (a := av) (by omega) (by have := hbase.out; omega) hbr hP
          have hpz9 := hpz.out
          subst hpz9
          have x0 := cell_of_heap hX9 0
          have x1 := cell_of_heap hX9 1
          have x2 := cell_of_heap hX9 2
          have y0 := cell_of_heap hR0 0
          have y1 := cell_of_heap hR0 1
          have y2 := cell_of_heap hR0 2
          have f2 := fun j => frozen_of_row wr (w.heap.size + 1) j _ _ hR0
          simp at x0 x1 x2 y0 y1 y2
          replace hfin := hidI hfin
          replace hR0 := hidI hR0
          replace hX9 := hidI hX9
          replace hP := hidI hP
          replace hk9 := hidI hk9
          replace hbr := hidI hbr
          replace hE := hidI hE
          clear hst
          go_wp2
          (try simp only [Exit.inBlock, Exit.then])
          refine ret_cell2 (x := .bool true) rfl rfl rfl (set3 hR0.out _ _ _) Try.underlying30 sizeGraph ?_
          exact hfin.out
end Go.Proofs.Ytmafaglgegimfaa
