/- Flowers: FlowerOf of the model and of the program (tools/sm.py). -/
import Derived.Test.YtmafaglgegimfaaSL
import Derived.Test.YtmafaglgegimfaaSC
import Derived.Test.YtmafaglgegimfaaGP2
namespace Go.Proofs.Ytmafaglgegimfaa
open Go.RowKit
set_option linter.unusedVariables false
set_option linter.unusedSimpArgs false

/-- One petal more. -/
def floS (r : Int) (p : Int × List Ed) (w : List Int) : Int × List Ed := (pthS r p.1 p.2 0 w 0, pthE r p.1 p.2 0 w 0)
def floL (r : Int) (zss : List (List Int)) : Int × List Ed := zss.foldl (floS r) (1, [])
theorem floL_take {r : Int} {zss : List (List Int)} {k : Nat} (h : k < zss.length) : floL r (zss.take (k + 1)) = floS r (floL r (zss.take k)) (zss.getD k []) := by
  unfold floL
  rw [List.take_add_one, List.getElem?_eq_getElem h, Option.toList_some, List.foldl_append, List.getD_eq_getElem?_getD, List.getElem?_eq_getElem h]
  rfl
theorem floS_lim {r : Int} {p : Int × List Ed} {w : List Int} (h : 1 ≤ p.1 ∧ p.1 ≤ 40) : 1 ≤ (floS r p w).1 ∧ (floS r p w).1 ≤ 40 := by
  unfold floS pthS
  simp only
  split
  · rename_i ht
    obtain ⟨_, _, _, _, h5, h6, _⟩ := tkP_yes ht
    omega
  · exact h
theorem floL_lim (r : Int) (zss : List (List Int)) : ∀ k, k ≤ zss.length → (1 ≤ (floL r (zss.take k)).1 ∧ (floL r (zss.take k)).1 ≤ 40) ∧ (floL r (zss.take k)).2.length ≤ sumN ((zss.map List.length).take k) := by
  intro k
  induction k with
  | zero => intro _; exact ⟨⟨by simp [floL], by simp [floL]⟩, by simp [floL, sumN]⟩
  | succ k ih =>
    intro hk
    obtain ⟨h1, h2⟩ := ih (by omega)
    rw [floL_take (by omega), totL_take (by omega)]
    refine ⟨floS_lim h1, ?_⟩
    have := pthE_length r (floL r (zss.take k)).1 (floL r (zss.take k)).2 0 (zss.getD k []) 0
    unfold floS
    simp only
    omega
def floR (r : Int) (zss : List (List Int)) : Int := if arew r zss = true then r else 0
def floZ (r : Int) (zss : List (List Int)) : Int := if arew r zss = true then (floL r zss).1 else 0
def floE (r : Int) (zss : List (List Int)) : List Ed := if arew r zss = true then (floL r zss).2 else []
theorem floE_length (r : Int) (zss : List (List Int)) : (floE r zss).length ≤ totL zss := by
  unfold floE
  split
  · have := (floL_lim r zss zss.length (Nat.le_refl _)).2
    rw [List.take_length, List.take_of_length_le (by rw [List.length_map]; omega)] at this
    exact this
  · simp
theorem MSt.set3 {w w' : World} {X base : Nat} {r sz r' sz' : Int} {v v' : Value} {E E' : List Ed} (h : MSt w X base r sz v E) (hX : X < w.heap.size) (hb : Below w.heap.size w w') (hbase : base ≤ w.heap.size) (hr : RowS 77 3 w' w.heap.size w'.heap.size v' E'.length (flatE E')) :
    MSt (((w'.setCell ⟨X, 0, none⟩ (.int .i64 r')).setCell ⟨X, 1, none⟩ (.int .i64 sz')).setCell ⟨X, 2, none⟩ v') X base r' sz' v' E' := by
  obtain ⟨h1, lo, hi, h2, h3, h4, h5⟩ := h
  have hx : w'.heap[X]? = some (.cells #[.int .i64 r, .int .i64 sz, v] 30 (0, 0)) := by rw [hb.block X hX]; exact h1
  refine ⟨Go.Proofs.Ytmafaglgegimfaa.set3 hx _ _ _, w.heap.size, w'.heap.size, hr.keep (fun k q1 q2 => ?_), hbase, by rw [size_set3K]; exact Nat.le_refl _, .inr hX⟩
  have hk : k ≠ X := by omega
  rw [Below.heap_setCell _ _ _ _ hk, Below.heap_setCell _ _ _ _ hk, Below.heap_setCell _ _ _ _ hk]
set_option maxRecDepth 100000 in
set_option maxHeartbeats 6400000 in
theorem progFlower (w : World) (r : Int) (v : Value) (zss : List (List Int)) (h : ReadSS w.heap.size w v zss) (hs : totL zss ≤ 1048576) :
    Calls Try.prog 33 #[.int .i64 r, v] w (LwGraphBool w (floR r zss) (floZ r zss) (floE r zss) (arew r zss)) := by
  have h' := h
  obtain ⟨hl, a, cap, rfl, _, _⟩ := h'
  obtain ⟨n, hn⟩ : ∃ n, n = zss.length := ⟨_, rfl⟩
  obtain ⟨w1, hw1⟩ : ∃ z, z = w.alloc (.cells #[.int .i64 0, .int .i64 0, .slice none 0 0] 30) := ⟨_, rfl⟩
  have hb1 : Below w.heap.size w w1 := by rw [hw1]; exact (Below.refl _ _).alloc (Nat.le_refl _) _
  have hs1 : w1.heap.size = w.heap.size + 1 := by rw [hw1]; simp
  have hk := heap_alloc_new w (.cells #[.int .i64 0, .int .i64 0, .slice none 0 0] 30)
  rw [← hw1] at hk
  have hare := progAreW w1 (.slice a zss.length cap) zss r ((h.below hb1).mono hb1.size) (by omega)
  rw [← hn] at hare h hl
  have hfull : zss.take n = zss := List.take_of_length_le (by omega)
  obtain ⟨B, hB⟩ : ∃ B, B = arew r zss := ⟨_, rfl⟩
  have hr13 : B = true → 1 ≤ r ∧ r ≤ 3 := fun hh => by
    rw [hB] at hh; unfold arew at hh; rw [decide_eq_true_eq] at hh; exact ⟨hh.2.1, hh.2.2.1⟩
  obtain ⟨FR, hFR⟩ : ∃ x, x = floR r zss := ⟨_, rfl⟩
  obtain ⟨FZ, hFZ⟩ : ∃ x, x = floZ r zss := ⟨_, rfl⟩
  obtain ⟨FE, hFE⟩ : ∃ x, x = floE r zss := ⟨_, rfl⟩
  have hno : B = false → FR = 0 ∧ FZ = 0 ∧ FE = [] := fun hh => by
    rw [hFR, hFZ, hFE]; unfold floR floZ floE; rw [← hB, hh]; exact ⟨rfl, rfl, rfl⟩
  have hyes : B = true → FR = r ∧ FZ = (floL r (zss.take n)).1 ∧ FE = (floL r (zss.take n)).2 := fun hh => by
    rw [hFR, hFZ, hFE, hfull]; unfold floR floZ floE; rw [← hB, hh]; exact ⟨rfl, rfl, rfl⟩
  rw [← hB] at hare
  rw [← hn, ← hB, ← hFR, ← hFZ, ← hFE]
  have hzl : ∀ i, i < n → (zss.getD i []).length ≤ 1048576 := fun i hi => by
    have h1 := sumN_getD (zss.map List.length) i (by rw [List.length_map]; omega)
    rw [getD_map_len] at h1
    have h2 : sumN (zss.map List.length) = totL zss := rfl
    omega
  have hlim : ∀ k, k ≤ n → (1 ≤ (floL r (zss.take k)).1 ∧ (floL r (zss.take k)).1 ≤ 40) ∧ (floL r (zss.take k)).2.length ≤ 1048576 := fun k hk => by
    obtain ⟨h1, h2⟩ := floL_lim r zss k (by omega)
    have h3 := sumN_le (zss.map List.length) k
    have h4 : sumN (zss.map List.length) = totL zss := rfl
    exact ⟨h1, by omega⟩
  replace hn := hidI hn
  replace hB := hidI hB
  replace hFR := hidI hFR
  replace hFZ := hidI hFZ
  replace hFE := hidI hFE
  replace hno := hidI hno
  replace hyes := hidI hyes
  replace hzl := hidI hzl
  replace hlim := hidI hlim
  replace hr13 := hidI hr13
  replace h := hidI h
  replace hk := hidI hk
  replace hs1 := hidI hs1
  replace hfull := hidI hfull
  go_enter Try.func33, Try.ntmps33
  go_upto_region 1 with fail
  rw [← hw1]
  replace hw1 := hidI hw1
  go_wp2_with fail
  refine hare.mono ?_
  rintro e w2 ⟨rfl, hb2⟩
  clear hare
  have hs2 := hb2.size
  have hR2 : w2.heap[w.heap.size]? = some (.cells #[.int .i64 0, .int .i64 0, .slice none 0 0] 30 (0, 0)) := by rw [hb2.block _ (by have := hs1.out; omega)]; exact hk.out
  have hbw2 : Below w.heap.size w w2 := hb1.trans (hb2.mono hb1.size)
  cases B with
  | false =>
    obtain ⟨e1, e2, e3⟩ := hno.out rfl
    subst e1
    subst e2
    subst e3
    have y0 := cell_of_heap hR2 0
    have y1 := cell_of_heap hR2 1
    have y2 := cell_of_heap hR2 2
    have f2 := fun j => frozen_of_row w2 w.heap.size j _ _ hR2
    simp at y0 y1 y2
    have hfin : LwGraphBool w 0 0 [] false (.returned (.tuple #[.agg #[.int .i64 0, .int .i64 0, .slice none 0 0], .bool false])) (((w2.setCell ⟨w.heap.size, 0, none⟩ (.int .i64 0)).setCell ⟨w.heap.size, 1, none⟩ (.int .i64 0)).setCell ⟨w.heap.size, 2, none⟩ (.slice none 0 0)) :=
      ⟨none, 0, rfl, ⟨rfl, by simp, .inl ⟨rfl, rfl⟩⟩, below_set3 hbw2 (Nat.le_refl _)⟩
    replace hfin := hidI hfin
    replace hR2 := hidI hR2
    go_wp2
    (try simp only [Exit.inBlock, Exit.then])
    refine ret_cell2 (x := .bool false) rfl rfl rfl (Go.Proofs.Ytmafaglgegimfaa.set3 hR2.out _ _ _) Try.underlying30 sizeGraph ?_
    exact hfin.out
  | true =>
    obtain ⟨e1, e2, e3⟩ := hyes.out rfl
    have hr := hr13.out rfl
    have hnew := progNewG w2 r
    rw [if_pos hr, if_pos hr, decide_eq_true hr] at hnew
    replace hR2 := hidI hR2
    go_wp2_with fail
    refine hnew.mono ?_
    rintro e w3 ⟨b3, c3, rfl, hrow3, hb3⟩
    clear hnew
    have hs3 := hb3.size
    obtain ⟨w4, hw4⟩ : ∃ z, z = w3.alloc (.cells #[.int .i64 r, .int .i64 1, .slice b3 ([] : List Ed).length c3] 30) := ⟨_, rfl⟩
    have hb4 : Below w3.heap.size w3 w4 := by rw [hw4]; exact (Below.refl _ _).alloc (Nat.le_refl _) _
    have hs4 : w4.heap.size = w3.heap.size + 1 := by rw [hw4]; simp
    obtain ⟨X, hX⟩ : ∃ X, X = w3.heap.size := ⟨_, rfl⟩
    have hX4 : w4.heap[X]? = some (.cells #[.int .i64 r, .int .i64 1, .slice b3 ([] : List Ed).length c3] 30 (0, 0)) := by rw [hw4, hX]; exact heap_alloc_new _ _
    have hst4 : MSt w4 X w1.heap.size r 1 (.slice b3 ([] : List Ed).length c3) [] := ⟨hX4, w2.heap.size, w3.heap.size, hrow3.below hb4 (Nat.le_refl _), hs2, by omega, .inl (by omega)⟩
    have hbw4 : Below w.heap.size w w4 := (hbw2.trans (hb3.mono hbw2.size)).trans (hb4.mono (by have := hbw2.size; omega))
    have hR4 : w4.heap[w.heap.size]? = some (.cells #[.int .i64 0, .int .i64 0, .slice none 0 0] 30 (0, 0)) := by
      rw [hb4.block _ (by have := hs1.out; omega), hb3.block _ (by have := hs1.out; omega)]; exact hR2.out
    have hbX : w1.heap.size ≤ X := by omega
    have hX4s : X < w4.heap.size := by omega
    have hst0 : Hid (∃ v', MSt w4 X w1.heap.size r (floL r (zss.take 0)).1 v' (floL r (zss.take 0)).2) := hidI ⟨_, hst4⟩
    have hk0 : Hid (Below X w4 w4) := hidI (Below.refl _ _)
    replace hX4 := hidI hX4
    replace hst4 := hidI hst4
    replace hbw4 := hidI hbw4
    replace hR4 := hidI hR4
    replace hrow3 := hidI hrow3
    replace hs4 := hidI hs4
    replace e2 := hidI e2
    replace e3 := hidI e3
    subst e1
    go_upto_region 4 with fail
    try simp only [List.length_nil] at hw4
    rw [← hw4, ← hX]
    replace hw4 := hidI hw4
    replace hX := hidI hX
    clear hb4
    go_wp2

    go_loopg [9, 22] n (fun gg x1 i wr => ∃ k : Nat, k + gg = n ∧ i = .int .i64 k ∧ Hid (∃ v', MSt wr X w1.heap.size FR (floL FR (zss.take k)).1 v' (floL FR (zss.take k)).2) ∧ Hid (Below X w4 wr))
    case atStart => exact ⟨0, by omega, rfl, hst0, hk0⟩
    case round =>
      clear hst0 hk0
      obtain ⟨k, hk9, rfl, hst, hkb⟩ := hrel
      obtain ⟨v6, hP⟩ := hst.out
      obtain ⟨hl1, hl2⟩ := hlim.out k (by omega)
      obtain ⟨sz, hsz⟩ : ∃ x, x = (floL FR (zss.take k)).1 := ⟨_, rfl⟩
      obtain ⟨E, hE⟩ : ∃ x, x = (floL FR (zss.take k)).2 := ⟨_, rfl⟩
      rw [← hsz, ← hE] at hP
      rw [← hsz] at hl1
      rw [← hE] at hl2
      obtain ⟨av, cv, rfl⟩ := hP.form
      have hbr : Below w.heap.size w wr := hbw4.out.trans (hkb.out.mono (by have := hs1.out; omega))
      have hXr : X < wr.heap.size := by have := hkb.out.size; omega
      have hX9 := hP.1
      have x0 := cell_of_heap hX9 0
      have x1 := cell_of_heap hX9 1
      have x2 := cell_of_heap hX9 2
      simp at x0 x1 x2
      by_cases hlt : k < n
      · have hki : (k : Int) < (n : Int) := by omega
        obtain ⟨bu, ou, u, rfl, hbu, cu, ru⟩ := h.out.at_ k (by have := hn.out; omega)
        have cur := below_cell cu hbr hbu
        obtain ⟨z, hz⟩ : ∃ z, z = zss.getD k [] := ⟨_, rfl⟩
        have hzl9 := hzl.out k hlt
        rw [← hz] at ru hzl9
        have hstep := floL_take (r := FR) (zss := zss) (k := k) (by have := hn.out; omega)
        obtain ⟨N, hN⟩ : ∃ N, N = E.length := ⟨_, rfl⟩
        obtain ⟨PS, hPS⟩ : ∃ x, x = pthS FR sz E 0 z 0 := ⟨_, rfl⟩
        obtain ⟨PE, hPE⟩ : ∃ x, x = pthE FR sz E 0 z 0 := ⟨_, rfl⟩
        obtain ⟨PB, hPB⟩ : ∃ x, x = tkP FR sz E 0 z 0 := ⟨_, rfl⟩
        have hnx1 : (floL FR (zss.take (k + 1))).1 = PS := by rw [hstep, ← hz, hPS, hsz, hE]; rfl
        have hnx2 : (floL FR (zss.take (k + 1))).2 = PE := by rw [hstep, ← hz, hPE, hsz, hE]; rfl
        have hcall := progAddPetal wr FR sz (.slice av E.length cv) u E z hP.read (by omega) ((ru.below hbr).mono hbr.size) (by omega)
        rw [← hPS, ← hPE, ← hPB, ← hN] at hcall
        rw [← hN] at hX9 hP x2
        replace hsz := hidI hsz
        replace hE := hidI hE
        replace hz := hidI hz
        replace hstep := hidI hstep
        replace hN := hidI hN
        replace hPS := hidI hPS
        replace hPE := hidI hPE
        replace hPB := hidI hPB
        replace hnx1 := hidI hnx1
        replace hnx2 := hidI hnx2
        replace hX9 := hidI hX9
        replace hP := hidI hP
        replace hbr := hidI hbr
        replace hk9 := hidI hk9
        replace ru := hidI ru
        clear hst cu
        go_wp2_with fail
        refine hcall.mono ?_
        rintro e w6 ⟨a6, c6, rfl, hrow6, hb6⟩
        clear hcall
        have hs6 := hb6.size
        obtain ⟨M, hM⟩ : ∃ M, M = PE.length := ⟨_, rfl⟩
        have hS7 := (show MSt wr X w1.heap.size FR sz (.slice av N cv) E from hP.out).set3 (r' := FR) (sz' := PS) hXr hb6 (by omega) hrow6
        have hX6 : w6.heap[X]? = some (.cells #[.int .i64 FR, .int .i64 sz, .slice av N cv] 30 (0, 0)) := (hb6.block X hXr).trans hX9.out
        rw [← hM] at hS7 ⊢
        have k0 := cell_of_heap hX6 0
        have k1 := cell_of_heap hX6 1
        have k2 := cell_of_heap hX6 2
        have fz := fun j => frozen_of_row w6 X j _ _ hX6
        simp at k0 k1 k2
        have hst7 : Hid (∃ v', MSt (((w6.setCell ⟨X, 0, none⟩ (.int .i64 FR)).setCell ⟨X, 1, none⟩ (.int .i64 PS)).setCell ⟨X, 2, none⟩ (.slice a6 M c6)) X w1.heap.size FR (floL FR (zss.take (k + 1))).1 v' (floL FR (zss.take (k + 1))).2) := hidI ⟨_, by rw [hnx1.out, hnx2.out]; exact hS7⟩
        have hb7 : Hid (Below X w4 (((w6.setCell ⟨X, 0, none⟩ (.int .i64 FR)).setCell ⟨X, 1, none⟩ (.int .i64 PS)).setCell ⟨X, 2, none⟩ (.slice a6 M c6))) := hidI (below_set3 (hkb.out.trans (hb6.mono (by omega))) (Nat.le_refl _))
        replace hX6 := hidI hX6
        replace hM := hidI hM
        clear hS7 hb6 hrow6 x0 x1 x2 cur
        go_wp2
        go_roundg (n - (k + 1))
        case rel => exact ⟨k + 1, by have := hk9.out; omega, by go_num, hst7, hb7⟩
        case measure => have := hk9.out; omega
      · obtain rfl : k = n := by omega
        have hki : ¬ (k : Int) < (k : Int) := by omega
        have hEP : FE = E := by rw [e3.out, hE]
        have hZP : FZ = sz := by rw [e2.out, hsz]
        subst hEP
        subst hZP
        have hR0 : wr.heap[w.heap.size]? = some (.cells #[.int .i64 0, .int .i64 0, .slice none 0 0] 30 (0, 0)) := by rw [hkb.out.block _ (by have := hs1.out; omega)]; exact hR4.out
        have hfin := mst_fin (w := w) (w9 := wr) (X := X) (R := w.heap.size) (base := w1.heap.size) (cap := cv) (r := FR) (s' := FZ) (E := FE) (b := true) (a := av) (Nat.le_refl _) (by have := hs1.out; omega) hbr hP
        have y0 := cell_of_heap hR0 0
        have y1 := cell_of_heap hR0 1
        have y2 := cell_of_heap hR0 2
        have f2 := fun j => frozen_of_row wr w.heap.size j _ _ hR0
        simp at y0 y1 y2
        replace hfin := hidI hfin
        replace hR0 := hidI hR0
        replace hX9 := hidI hX9
        replace hP := hidI hP
        replace hk9 := hidI hk9
        replace hbr := hidI hbr
        replace hE := hidI hE
        replace hsz := hidI hsz
        clear hst
        go_wp2
        (try simp only [Exit.inBlock, Exit.then])
        refine ret_cell2 (x := .bool true) rfl rfl rfl (Go.Proofs.Ytmafaglgegimfaa.set3 hR0.out _ _ _) Try.underlying30 sizeGraph ?_
        exact hfin.out
set_option maxRecDepth 100000 in
set_option maxHeartbeats 6400000 in
theorem specFlower (w : World) (r : Int) (v : Value) (zss : List (List Int)) (h : ReadSS w.heap.size w v zss) (hs : totL zss ≤ 1048576) :
    Calls Try.prog 32 #[.int .i64 r, v] w (LwGraphBool w (floR r zss) (floZ r zss) (floE r zss) (arew r zss)) := by
  have h' := h
  obtain ⟨hl, a, cap, rfl, _, _⟩ := h'
  obtain ⟨n, hn⟩ : ∃ n, n = zss.length := ⟨_, rfl⟩
  obtain ⟨w1, hw1⟩ : ∃ z, z = w.alloc (.cells #[.int .i64 0, .int .i64 0, .slice none 0 0] 30) := ⟨_, rfl⟩
  have hb1 : Below w.heap.size w w1 := by rw [hw1]; exact (Below.refl _ _).alloc (Nat.le_refl _) _
  have hs1 : w1.heap.size = w.heap.size + 1 := by rw [hw1]; simp
  have hk := heap_alloc_new w (.cells #[.int .i64 0, .int .i64 0, .slice none 0 0] 30)
  rw [← hw1] at hk
  have hare := specAreW w1 w.heap.size (.slice a zss.length cap) zss r (h.below hb1) (by omega)
  rw [← hn] at hare h hl
  have hfull : zss.take n = zss := List.take_of_length_le (by omega)
  obtain ⟨B, hB⟩ : ∃ B, B = arew r zss := ⟨_, rfl⟩
  have hr13 : B = true → 1 ≤ r ∧ r ≤ 3 := fun hh => by
    rw [hB] at hh; unfold arew at hh; rw [decide_eq_true_eq] at hh; exact ⟨hh.2.1, hh.2.2.1⟩
  obtain ⟨FR, hFR⟩ : ∃ x, x = floR r zss := ⟨_, rfl⟩
  obtain ⟨FZ, hFZ⟩ : ∃ x, x = floZ r zss := ⟨_, rfl⟩
  obtain ⟨FE, hFE⟩ : ∃ x, x = floE r zss := ⟨_, rfl⟩
  have hno : B = false → FR = 0 ∧ FZ = 0 ∧ FE = [] := fun hh => by
    rw [hFR, hFZ, hFE]; unfold floR floZ floE; rw [← hB, hh]; exact ⟨rfl, rfl, rfl⟩
  have hyes : B = true → FR = r ∧ FZ = (floL r (zss.take n)).1 ∧ FE = (floL r (zss.take n)).2 := fun hh => by
    rw [hFR, hFZ, hFE, hfull]; unfold floR floZ floE; rw [← hB, hh]; exact ⟨rfl, rfl, rfl⟩
  rw [← hB] at hare
  rw [← hn, ← hB, ← hFR, ← hFZ, ← hFE]
  have hzl : ∀ i, i < n → (zss.getD i []).length ≤ 1048576 := fun i hi => by
    have h1 := sumN_getD (zss.map List.length) i (by rw [List.length_map]; omega)
    rw [getD_map_len] at h1
    have h2 : sumN (zss.map List.length) = totL zss := rfl
    omega
  have hlim : ∀ k, k ≤ n → (1 ≤ (floL r (zss.take k)).1 ∧ (floL r (zss.take k)).1 ≤ 40) ∧ (floL r (zss.take k)).2.length ≤ 1048576 := fun k hk => by
    obtain ⟨h1, h2⟩ := floL_lim r zss k (by omega)
    have h3 := sumN_le (zss.map List.length) k
    have h4 : sumN (zss.map List.length) = totL zss := rfl
    exact ⟨h1, by omega⟩
  replace hn := hidI hn
  replace hB := hidI hB
  replace hFR := hidI hFR
  replace hFZ := hidI hFZ
  replace hFE := hidI hFE
  replace hno := hidI hno
  replace hyes := hidI hyes
  replace hzl := hidI hzl
  replace hlim := hidI hlim
  replace hr13 := hidI hr13
  replace h := hidI h
  replace hk := hidI hk
  replace hs1 := hidI hs1
  replace hfull := hidI hfull
  go_enter Try.func32, Try.ntmps32
  go_upto_region 1 with fail
  rw [← hw1]
  replace hw1 := hidI hw1
  go_wp2_with fail
  refine hare.mono ?_
  rintro e w2 ⟨rfl, m2, hw2⟩
  have hb2 : Below w1.heap.size w1 w2 := by rw [hw2]; exact below_dn (Below.refl _ _) _
  replace hw2 := hidI hw2
  clear hare
  have hs2 := hb2.size
  have hR2 : w2.heap[w.heap.size]? = some (.cells #[.int .i64 0, .int .i64 0, .slice none 0 0] 30 (0, 0)) := by rw [hb2.block _ (by have := hs1.out; omega)]; exact hk.out
  have hbw2 : Below w.heap.size w w2 := hb1.trans (hb2.mono hb1.size)
  cases B with
  | false =>
    obtain ⟨e1, e2, e3⟩ := hno.out rfl
    subst e1
    subst e2
    subst e3
    have y0 := cell_of_heap hR2 0
    have y1 := cell_of_heap hR2 1
    have y2 := cell_of_heap hR2 2
    have f2 := fun j => frozen_of_row w2 w.heap.size j _ _ hR2
    simp at y0 y1 y2
    have hfin : LwGraphBool w 0 0 [] false (.returned (.tuple #[.agg #[.int .i64 0, .int .i64 0, .slice none 0 0], .bool false])) (((w2.setCell ⟨w.heap.size, 0, none⟩ (.int .i64 0)).setCell ⟨w.heap.size, 1, none⟩ (.int .i64 0)).setCell ⟨w.heap.size, 2, none⟩ (.slice none 0 0)) :=
      ⟨none, 0, rfl, ⟨rfl, by simp, .inl ⟨rfl, rfl⟩⟩, below_set3 hbw2 (Nat.le_refl _)⟩
    replace hfin := hidI hfin
    replace hR2 := hidI hR2
    go_wp2
    (try simp only [Exit.inBlock, Exit.then])
    refine ret_cell2 (x := .bool false) rfl rfl rfl (Go.Proofs.Ytmafaglgegimfaa.set3 hR2.out _ _ _) Try.underlying30 sizeGraph ?_
    exact hfin.out
  | true =>
    obtain ⟨e1, e2, e3⟩ := hyes.out rfl
    have hr := hr13.out rfl
    have hnew := specNewG w2 r
    rw [if_pos hr, if_pos hr, decide_eq_true hr] at hnew
    replace hR2 := hidI hR2
    go_wp2_with fail
    refine hnew.mono ?_
    rintro e w3 ⟨b3, c3, rfl, hrow3, hb3⟩
    clear hnew
    have hs3 := hb3.size
    obtain ⟨w4, hw4⟩ : ∃ z, z = w3.alloc (.cells #[.int .i64 r, .int .i64 1, .slice b3 ([] : List Ed).length c3] 30) := ⟨_, rfl⟩
    have hb4 : Below w3.heap.size w3 w4 := by rw [hw4]; exact (Below.refl _ _).alloc (Nat.le_refl _) _
    have hs4 : w4.heap.size = w3.heap.size + 1 := by rw [hw4]; simp
    obtain ⟨X, hX⟩ : ∃ X, X = w3.heap.size := ⟨_, rfl⟩
    have hX4 : w4.heap[X]? = some (.cells #[.int .i64 r, .int .i64 1, .slice b3 ([] : List Ed).length c3] 30 (0, 0)) := by rw [hw4, hX]; exact heap_alloc_new _ _
    have hst4 : MSt w4 X w1.heap.size r 1 (.slice b3 ([] : List Ed).length c3) [] := ⟨hX4, w2.heap.size, w3.heap.size, hrow3.below hb4 (Nat.le_refl _), hs2, by omega, .inl (by omega)⟩
    have hbw4 : Below w.heap.size w w4 := (hbw2.trans (hb3.mono hbw2.size)).trans (hb4.mono (by have := hbw2.size; omega))
    have hR4 : w4.heap[w.heap.size]? = some (.cells #[.int .i64 0, .int .i64 0, .slice none 0 0] 30 (0, 0)) := by
      rw [hb4.block _ (by have := hs1.out; omega), hb3.block _ (by have := hs1.out; omega)]; exact hR2.out
    have hbX : w1.heap.size ≤ X := by omega
    have hX4s : X < w4.heap.size := by omega
    have hst0 : Hid (∃ v', MSt w4 X w1.heap.size r (floL r (zss.take 0)).1 v' (floL r (zss.take 0)).2) := hidI ⟨_, hst4⟩
    have hk0 : Hid (Below X w4 w4) := hidI (Below.refl _ _)
    replace hX4 := hidI hX4
    replace hst4 := hidI hst4
    replace hbw4 := hidI hbw4
    replace hR4 := hidI hR4
    replace hrow3 := hidI hrow3
    replace hs4 := hidI hs4
    replace e2 := hidI e2
    replace e3 := hidI e3
    subst e1
    go_upto_region 4 with fail
    try simp only [List.length_nil] at hw4
    rw [← hw4, ← hX]
    replace hw4 := hidI hw4
    replace hX := hidI hX
    clear hb4
    go_wp2

    go_loopg [8, 9, 10] n (fun gg i x1 x2 wr => ∃ k : Nat, k + gg = n ∧ i = .int .i64 k ∧ Hid (∃ v', MSt wr X w1.heap.size FR (floL FR (zss.take k)).1 v' (floL FR (zss.take k)).2) ∧ Hid (Below X w4 wr))
    case atStart => exact ⟨0, by omega, rfl, hst0, hk0⟩
    case round =>
      clear hst0 hk0
      obtain ⟨k, hk9, rfl, hst, hkb⟩ := hrel
      obtain ⟨v6, hP⟩ := hst.out
      obtain ⟨hl1, hl2⟩ := hlim.out k (by omega)
      obtain ⟨sz, hsz⟩ : ∃ x, x = (floL FR (zss.take k)).1 := ⟨_, rfl⟩
      obtain ⟨E, hE⟩ : ∃ x, x = (floL FR (zss.take k)).2 := ⟨_, rfl⟩
      rw [← hsz, ← hE] at hP
      rw [← hsz] at hl1
      rw [← hE] at hl2
      obtain ⟨av, cv, rfl⟩ := hP.form
      have hbr : Below w.heap.size w wr := hbw4.out.trans (hkb.out.mono (by have := hs1.out; omega))
      have hXr : X < wr.heap.size := by have := hkb.out.size; omega
      have hX9 := hP.1
      have x0 := cell_of_heap hX9 0
      have x1 := cell_of_heap hX9 1
      have x2 := cell_of_heap hX9 2
      simp at x0 x1 x2
      by_cases hlt : k < n
      · have hki : (k : Int) < (n : Int) := by omega
        obtain ⟨bu, ou, u, rfl, hbu, cu, ru⟩ := h.out.at_ k (by have := hn.out; omega)
        have cur := below_cell cu hbr hbu
        obtain ⟨z, hz⟩ : ∃ z, z = zss.getD k [] := ⟨_, rfl⟩
        have hzl9 := hzl.out k hlt
        rw [← hz] at ru hzl9
        have hstep := floL_take (r := FR) (zss := zss) (k := k) (by have := hn.out; omega)
        obtain ⟨N, hN⟩ : ∃ N, N = E.length := ⟨_, rfl⟩
        obtain ⟨PS, hPS⟩ : ∃ x, x = pthS FR sz E 0 z 0 := ⟨_, rfl⟩
        obtain ⟨PE, hPE⟩ : ∃ x, x = pthE FR sz E 0 z 0 := ⟨_, rfl⟩
        obtain ⟨PB, hPB⟩ : ∃ x, x = tkP FR sz E 0 z 0 := ⟨_, rfl⟩
        have hnx1 : (floL FR (zss.take (k + 1))).1 = PS := by rw [hstep, ← hz, hPS, hsz, hE]; rfl
        have hnx2 : (floL FR (zss.take (k + 1))).2 = PE := by rw [hstep, ← hz, hPE, hsz, hE]; rfl
        obtain ⟨wd_, hwd⟩ : ∃ x, x = wr.drew := ⟨_, rfl⟩
        have hSd : MSt wd_ X w1.heap.size FR sz (.slice av E.length cv) E := by rw [hwd]; exact hP.drew
        have hsd : wd_.heap.size = wr.heap.size := by rw [hwd]; rfl
        have hbd : Below X w4 wd_ := by rw [hwd]; exact below_dn hkb.out 1
        have hbrd : Below w.heap.size w wd_ := by rw [hwd]; exact below_dn hbr 1
        have d0 : wd_.cell? ⟨X, 0, none⟩ = some (.int .i64 FR) := by rw [hwd]; exact x0
        have d1 : wd_.cell? ⟨X, 1, none⟩ = some (.int .i64 sz) := by rw [hwd]; exact x1
        have d2 : wd_.cell? ⟨X, 2, none⟩ = some (.slice av N cv) := by rw [hwd, hN]; exact x2
        have du : wd_.cell? ⟨bu, ou + k, none⟩ = some u := by rw [hwd]; exact cur
        have hcall := fun W (hW : Below wd_.heap.size wd_ W) => specAddPetal W FR sz (.slice av E.length cv) u E z ((hSd.read.below hW).mono hW.size) (by omega) (by omega) (((ru.below hbrd).below (hW.mono (by have := hbrd.size; omega))).mono (by have := hbrd.size; have := hW.size; omega)) (by omega)
        simp only [← hPS, ← hPE, ← hPB, ← hN] at hcall
        rw [← hN] at hX9 hP hSd x2
        have hXd : X < wd_.heap.size := by omega
        replace hsd := hidI hsd
        replace hsz := hidI hsz
        replace hE := hidI hE
        replace hz := hidI hz
        replace hstep := hidI hstep
        replace hN := hidI hN
        replace hPS := hidI hPS
        replace hPE := hidI hPE
        replace hPB := hidI hPB
        replace hnx1 := hidI hnx1
        replace hnx2 := hidI hnx2
        replace hX9 := hidI hX9
        replace hP := hidI hP
        replace hbr := hidI hbr
        replace hk9 := hidI hk9
        replace ru := hidI ru
        replace hwd := hidI hwd
        clear hst cu
        go_wp2
        refine hideQ (fun _ _ d _ _ h => by cases d <;> exact h) (fun Q' hnorm hpan => ?_)
        refine wp_region_held_drew (S := (fun x => x.cell? ⟨X, 0, none⟩ = some (.int .i64 FR) ∧ x.cell? ⟨X, 1, none⟩ = some (.int .i64 sz) ∧ x.cell? ⟨X, 2, none⟩ = some (.slice av N cv) ∧ x.cell? ⟨bu, ou + k, none⟩ = some u)) (by kernel_rfl) ?_ (fun hHeld => ?_)
        · try dsimp only
          rw [← hwd.out]
          ((repeat' apply And.intro) <;> assumption)
        rw [← hwd.out] at hHeld ⊢
        clear x0 x1 x2 cur
        refine take_at 0 28 (v := ?_) rfl (by kernel_rfl) (by kernel_rfl) (by kernel_rfl) (by kernel_rfl) hpan (Or.inl ⟨by rfl, ?_⟩) (by assumption) ?_
        rotate_left
        · intro w hSw; (try dsimp only at hSw); go_simp; with_reducible rfl
        simp only [Act.put, List.setIfInBounds_toArray, List.set_cons_zero, List.set_cons_succ]
        refine take_at 1 29 (v := ?_) rfl (by kernel_rfl) (by kernel_rfl) (by kernel_rfl) (by kernel_rfl) hpan (Or.inl ⟨by rfl, ?_⟩) (by assumption) ?_
        rotate_left
        · intro w hSw; (try dsimp only at hSw); go_simp; with_reducible rfl
        simp only [Act.put, List.setIfInBounds_toArray, List.set_cons_zero, List.set_cons_succ]
        refine take_at 2 30 (v := ?_) rfl (by kernel_rfl) (by kernel_rfl) (by kernel_rfl) (by kernel_rfl) hpan (Or.inl ⟨by rfl, ?_⟩) (by assumption) ?_
        rotate_left
        · intro w hSw; (try dsimp only at hSw); go_simp; with_reducible rfl
        simp only [Act.put, List.setIfInBounds_toArray, List.set_cons_zero, List.set_cons_succ]
        refine take_at 3 31 (v := ?_) rfl (by kernel_rfl) (by kernel_rfl) (by kernel_rfl) (by kernel_rfl) hpan (Or.inl ⟨by rfl, ?_⟩) (by assumption) ?_
        rotate_left
        · intro w hSw; (try dsimp only at hSw); go_simp; with_reducible rfl
        simp only [Act.put, List.setIfInBounds_toArray, List.set_cons_zero, List.set_cons_succ]
        refine take_at 4 32 (v := ?_) rfl (by kernel_rfl) (by kernel_rfl) (by kernel_rfl) (by kernel_rfl) hpan (Or.inl ⟨by rfl, ?_⟩) (by assumption) ?_
        rotate_left
        · intro w hSw; (try dsimp only at hSw); go_simp; with_reducible rfl
        simp only [Act.put, List.setIfInBounds_toArray, List.set_cons_zero, List.set_cons_succ]
        refine wpAnyH_ready (rs := [5, 9]) (by kernel_rfl) (by simp) ?_
        refine AllReadyH.cons rfl (fun K hK => ?_) ?_
        · rw [if_pos (by rfl)]
          go_simp
          go_at_call 30
          (with_reducible refine (hcall wd_ (Below.refl _ _)).mono ?_)
          rintro e w6 ⟨a6, c6, rfl, hrow6, hb6⟩
          have hs6 := hb6.size
          replace d0 := below_cell d0 hb6 (by omega)
          replace d1 := below_cell d1 hb6 (by omega)
          replace d2 := below_cell d2 hb6 (by omega)
          replace du := below_cell du hb6 (by have := hbrd.size; omega)
          refine hK.out _ _ ?_ (fun hHeld => ?_)
          · try dsimp only
            ((repeat' apply And.intro) <;> assumption)
          clear hK
          try simp only [Act.put, List.setIfInBounds_toArray, List.set_cons_zero, List.set_cons_succ]
          have hX6 : w6.heap[X]? = some (.cells #[.int .i64 FR, .int .i64 sz, .slice av N cv] 30 (0, 0)) := by rw [hb6.block X (by omega)]; exact hSd.1
          refine take_at 6 27 (v := ?_) rfl (by kernel_rfl) (by kernel_rfl) (by kernel_rfl) (by kernel_rfl) hpan (Or.inl ⟨by rfl, ?_⟩) (by assumption) ?_
          rotate_left
          · intro w hSw; (try dsimp only at hSw); go_simp; with_reducible rfl
          simp only [Act.put, List.setIfInBounds_toArray, List.set_cons_zero, List.set_cons_succ]
          refine take_at 7 34 (v := ?_) rfl (by kernel_rfl) (by kernel_rfl) (by kernel_rfl) (by kernel_rfl) hpan (Or.inl ⟨by rfl, ?_⟩) (by assumption) ?_
          rotate_left
          · intro w hSw; (try dsimp only at hSw); go_simp; with_reducible rfl
          simp only [Act.put, List.setIfInBounds_toArray, List.set_cons_zero, List.set_cons_succ]
          refine take_at 8 35 (v := ?_) rfl (by kernel_rfl) (by kernel_rfl) (by kernel_rfl) (by kernel_rfl) hpan (Or.inl ⟨by rfl, ?_⟩) (by assumption) ?_
          rotate_left
          · intro w hSw; (try dsimp only at hSw); go_simp; with_reducible rfl
          simp only [Act.put, List.setIfInBounds_toArray, List.set_cons_zero, List.set_cons_succ]
          refine wpAnyH_ready (rs := [9]) (by kernel_rfl) (by simp) ?_
          refine AllReadyH.cons rfl (fun K hK => ?_) AllReadyH.nil
          rw [if_pos (by rfl)]
          obtain ⟨wb, hw_wb⟩ : ∃ z, z = w6.alloc (.cells #[.int .i64 0, .int .i64 0, .slice none 0 0] 30) := ⟨_, rfl⟩
          have hb_wb : Below w6.heap.size w6 wb := by rw [hw_wb]; exact (Below.refl _ _).alloc (Nat.le_refl _) _
          have hs_wb : wb.heap.size = w6.heap.size + 1 := by rw [hw_wb]; simp
          have hn_wb := heap_alloc_new w6 (.cells #[.int .i64 0, .int .i64 0, .slice none 0 0] 30)
          rw [← hw_wb] at hn_wb
          go_simp
          rw [← hw_wb]
          replace hw_wb := hidI hw_wb
          replace d0 := below_cell d0 hb_wb (by omega)
          replace d1 := below_cell d1 hb_wb (by omega)
          replace d2 := below_cell d2 hb_wb (by omega)
          replace du := below_cell du hb_wb (by have := hbrd.size; omega)
          refine hK.out _ _ ?_ (fun hHeld => ?_)
          · try dsimp only
            ((repeat' apply And.intro) <;> assumption)
          clear hK
          try simp only [Act.put, List.setIfInBounds_toArray, List.set_cons_zero, List.set_cons_succ]
          have hBx := hn_wb
          have hXx : wb.heap[X]? = some (.cells #[.int .i64 FR, .int .i64 sz, .slice av N cv] 30 (0, 0)) := by rw [hb_wb.block X (by omega)]; exact hX6
          have hbx : Below X w4 wb := (hbd.trans (hb6.mono (by omega))).trans (hb_wb.mono (by omega))
          have hS6 : ∀ w8 : World, w8.heap.size = wb.heap.size → (∀ q, q ≠ w6.heap.size → w8.heap[q]? = wb.heap[q]?) → MSt (((w8.setCell ⟨X, 0, none⟩ (.int .i64 FR)).setCell ⟨X, 1, none⟩ (.int .i64 PS)).setCell ⟨X, 2, none⟩ (.slice a6 PE.length c6)) X w1.heap.size FR PS (.slice a6 PE.length c6) PE := fun w8 h8 ho => by
            have hx8 : w8.heap[X]? = some (.cells #[.int .i64 FR, .int .i64 sz, .slice av N cv] 30 (0, 0)) := by rw [ho X (by omega)]; exact hXx
            refine ⟨Go.Proofs.Ytmafaglgegimfaa.set3 hx8 _ _ _, wd_.heap.size, w6.heap.size, (hrow6.keep (fun q q1 q2 => ?_)), by omega, by rw [size_set3K]; omega, .inr (by omega)⟩
            have hq : q ≠ X := by omega
            rw [Below.heap_setCell _ _ _ _ hq, Below.heap_setCell _ _ _ _ hq, Below.heap_setCell _ _ _ _ hq, ho q (by omega), hb_wb.block q (by omega)]
          obtain ⟨M, hM⟩ : ∃ M, M = PE.length := ⟨_, rfl⟩
          rw [← hM] at hrow6 hS6 ⊢
          replace hM := hidI hM
          have l0 := cell_of_heap hBx 0
          have l1 := cell_of_heap hBx 1
          have l2 := cell_of_heap hBx 2
          have fl := fun j => frozen_of_row wb w6.heap.size j _ _ hBx
          simp at l0 l1 l2
          obtain ⟨w8, hw8⟩ : ∃ z, z = (((wb.setCell ⟨w6.heap.size, 0, none⟩ (.int .i64 FR)).setCell ⟨w6.heap.size, 1, none⟩ (.int .i64 PS)).setCell ⟨w6.heap.size, 2, none⟩ (.slice a6 M c6)) := ⟨_, rfl⟩
          have hB8 : w8.heap[w6.heap.size]? = some (.cells #[.int .i64 FR, .int .i64 PS, .slice a6 M c6] 30 (0, 0)) := by rw [hw8]; exact Go.Proofs.Ytmafaglgegimfaa.set3 hBx _ _ _
          have ho8 : ∀ q, q ≠ w6.heap.size → w8.heap[q]? = wb.heap[q]? := fun q hq => by rw [hw8]; exact heap_set3 hq
          have hs8 : w8.heap.size = wb.heap.size := by rw [hw8]; exact size_set3K
          have hb8 : Below X w4 w8 := by rw [hw8]; exact below_set3 hbx (by omega)
          have hX8 : w8.heap[X]? = some (.cells #[.int .i64 FR, .int .i64 sz, .slice av N cv] 30 (0, 0)) := by rw [ho8 X (by omega)]; exact hXx
          replace d0 := by simpa using cell_of_heap hX8 0
          replace d1 := by simpa using cell_of_heap hX8 1
          replace d2 := by simpa using cell_of_heap hX8 2
          replace du := by simpa using (World.cell?_of_block (w := wb) (a := ⟨bu, ou + k, none⟩) (ho8 bu (by have := hbrd.size; omega))).trans du
          have hS8 := hS6 w8 hs8 ho8
          replace hBx := hidI hBx
          replace hrow6 := hidI hrow6
          replace hS6 := hidI hS6
          replace hXx := hidI hXx
          refine wpAnyH_ready (rs := [10]) (by kernel_rfl) (by simp) ?_
          refine AllReadyH.cons rfl (fun K hK => ?_) AllReadyH.nil
          rw [if_pos (by rfl)]
          go_simp
          rw [← hw8]
          replace hw8 := hidI hw8
          refine hK.out _ _ ?_ (fun hHeld => ?_)
          · try dsimp only
            ((repeat' apply And.intro) <;> assumption)
          clear hK
          try simp only [Act.put, List.setIfInBounds_toArray, List.set_cons_zero, List.set_cons_succ]
          refine take_at 11 10 (v := ?_) rfl (by kernel_rfl) (by kernel_rfl) (by kernel_rfl) (by kernel_rfl) hpan (Or.inl ⟨by rfl, ?_⟩) (by assumption) ?_
          rotate_left
          · intro w hSw; (try dsimp only at hSw); go_simp; with_reducible rfl
          simp only [Act.put, List.setIfInBounds_toArray, List.set_cons_zero, List.set_cons_succ]
          refine wpAnyH_done (by kernel_rfl) ?_ _
          refine hnorm _ _ ?_
          clear hnorm hpan
          repeat clear hHeld
          try simp only [Exit.then]
          clear l0 l1 l2 fl
          have z0 := cell_of_heap hB8 0
          have z1 := cell_of_heap hB8 1
          have z2 := cell_of_heap hB8 2
          have fz := fun j => frozen_of_row w8 X j _ _ hX8
          simp at z0 z1 z2
          have hst7 : Hid (∃ v', MSt (((w8.setCell ⟨X, 0, none⟩ (.int .i64 FR)).setCell ⟨X, 1, none⟩ (.int .i64 PS)).setCell ⟨X, 2, none⟩ (.slice a6 M c6)) X w1.heap.size FR (floL FR (zss.take (k + 1))).1 v' (floL FR (zss.take (k + 1))).2) := hidI ⟨_, by rw [hnx1.out, hnx2.out]; exact hS8⟩
          have hb7 : Hid (Below X w4 (((w8.setCell ⟨X, 0, none⟩ (.int .i64 FR)).setCell ⟨X, 1, none⟩ (.int .i64 PS)).setCell ⟨X, 2, none⟩ (.slice a6 M c6))) := hidI (below_set3 hb8 (Nat.le_refl _))
          replace hX8 := hidI hX8
          replace hB8 := hidI hB8
          clear hS8 hb8 ho8
          go_wp2
          go_roundg (n - (k + 1))
          case rel => exact ⟨k + 1, by have := hk9.out; omega, by go_num, hst7, hb7⟩
          case measure => have := hk9.out; omega
        refine AllReadyH.cons rfl (fun K hK => ?_) AllReadyH.nil
        rw [if_pos (by rfl)]
        obtain ⟨wb, hw_wb⟩ : ∃ z, z = wd_.alloc (.cells #[.int .i64 0, .int .i64 0, .slice none 0 0] 30) := ⟨_, rfl⟩
        have hb_wb : Below wd_.heap.size wd_ wb := by rw [hw_wb]; exact (Below.refl _ _).alloc (Nat.le_refl _) _
        have hs_wb : wb.heap.size = wd_.heap.size + 1 := by rw [hw_wb]; simp
        have hn_wb := heap_alloc_new wd_ (.cells #[.int .i64 0, .int .i64 0, .slice none 0 0] 30)
        rw [← hw_wb] at hn_wb
        go_simp
        rw [← hw_wb]
        replace hw_wb := hidI hw_wb
        replace d0 := below_cell d0 hb_wb (by omega)
        replace d1 := below_cell d1 hb_wb (by omega)
        replace d2 := below_cell d2 hb_wb (by omega)
        replace du := below_cell du hb_wb (by have := hbrd.size; omega)
        refine hK.out _ _ ?_ (fun hHeld => ?_)
        · try dsimp only
          ((repeat' apply And.intro) <;> assumption)
        clear hK
        try simp only [Act.put, List.setIfInBounds_toArray, List.set_cons_zero, List.set_cons_succ]
        refine wpAnyH_ready (rs := [5]) (by kernel_rfl) (by simp) ?_
        refine AllReadyH.cons rfl (fun K hK => ?_) AllReadyH.nil
        rw [if_pos (by rfl)]
        go_simp
        go_at_call 30
        (with_reducible refine (hcall wb hb_wb).mono ?_)
        rintro e w6 ⟨a6, c6, rfl, hrow6, hb6⟩
        have hs6 := hb6.size
        replace d0 := below_cell d0 hb6 (by omega)
        replace d1 := below_cell d1 hb6 (by omega)
        replace d2 := below_cell d2 hb6 (by omega)
        replace du := below_cell du hb6 (by have := hbrd.size; omega)
        refine hK.out _ _ ?_ (fun hHeld => ?_)
        · try dsimp only
          ((repeat' apply And.intro) <;> assumption)
        clear hK
        try simp only [Act.put, List.setIfInBounds_toArray, List.set_cons_zero, List.set_cons_succ]
        refine take_at 6 27 (v := ?_) rfl (by kernel_rfl) (by kernel_rfl) (by kernel_rfl) (by kernel_rfl) hpan (Or.inl ⟨by rfl, ?_⟩) (by assumption) ?_
        rotate_left
        · intro w hSw; (try dsimp only at hSw); go_simp; with_reducible rfl
        simp only [Act.put, List.setIfInBounds_toArray, List.set_cons_zero, List.set_cons_succ]
        refine take_at 7 34 (v := ?_) rfl (by kernel_rfl) (by kernel_rfl) (by kernel_rfl) (by kernel_rfl) hpan (Or.inl ⟨by rfl, ?_⟩) (by assumption) ?_
        rotate_left
        · intro w hSw; (try dsimp only at hSw); go_simp; with_reducible rfl
        simp only [Act.put, List.setIfInBounds_toArray, List.set_cons_zero, List.set_cons_succ]
        refine take_at 8 35 (v := ?_) rfl (by kernel_rfl) (by kernel_rfl) (by kernel_rfl) (by kernel_rfl) hpan (Or.inl ⟨by rfl, ?_⟩) (by assumption) ?_
        rotate_left
        · intro w hSw; (try dsimp only at hSw); go_simp; with_reducible rfl
        simp only [Act.put, List.setIfInBounds_toArray, List.set_cons_zero, List.set_cons_succ]
        have hBx : w6.heap[wd_.heap.size]? = some (.cells #[.int .i64 0, .int .i64 0, .slice none 0 0] 30 (0, 0)) := by rw [hb6.block _ (by omega)]; exact hn_wb
        have hXx : w6.heap[X]? = some (.cells #[.int .i64 FR, .int .i64 sz, .slice av N cv] 30 (0, 0)) := by rw [hb6.block X (by omega), hb_wb.block X (by omega)]; exact hSd.1
        have hbx : Below X w4 w6 := (hbd.trans (hb_wb.mono (by omega))).trans (hb6.mono (by omega))
        have hS6 : ∀ w8 : World, w8.heap.size = w6.heap.size → (∀ q, q ≠ wd_.heap.size → w8.heap[q]? = w6.heap[q]?) → MSt (((w8.setCell ⟨X, 0, none⟩ (.int .i64 FR)).setCell ⟨X, 1, none⟩ (.int .i64 PS)).setCell ⟨X, 2, none⟩ (.slice a6 PE.length c6)) X w1.heap.size FR PS (.slice a6 PE.length c6) PE := fun w8 h8 ho => by
          have hx8 : w8.heap[X]? = some (.cells #[.int .i64 FR, .int .i64 sz, .slice av N cv] 30 (0, 0)) := by rw [ho X (by omega)]; exact hXx
          refine ⟨Go.Proofs.Ytmafaglgegimfaa.set3 hx8 _ _ _, wb.heap.size, w6.heap.size, (hrow6.keep (fun q q1 q2 => ?_)), by omega, by rw [size_set3K]; omega, .inr (by omega)⟩
          have hq : q ≠ X := by omega
          rw [Below.heap_setCell _ _ _ _ hq, Below.heap_setCell _ _ _ _ hq, Below.heap_setCell _ _ _ _ hq, ho q (by omega)]
        obtain ⟨M, hM⟩ : ∃ M, M = PE.length := ⟨_, rfl⟩
        rw [← hM] at hrow6 hS6 ⊢
        replace hM := hidI hM
        have l0 := cell_of_heap hBx 0
        have l1 := cell_of_heap hBx 1
        have l2 := cell_of_heap hBx 2
        have fl := fun j => frozen_of_row w6 wd_.heap.size j _ _ hBx
        simp at l0 l1 l2
        obtain ⟨w8, hw8⟩ : ∃ z, z = (((w6.setCell ⟨wd_.heap.size, 0, none⟩ (.int .i64 FR)).setCell ⟨wd_.heap.size, 1, none⟩ (.int .i64 PS)).setCell ⟨wd_.heap.size, 2, none⟩ (.slice a6 M c6)) := ⟨_, rfl⟩
        have hB8 : w8.heap[wd_.heap.size]? = some (.cells #[.int .i64 FR, .int .i64 PS, .slice a6 M c6] 30 (0, 0)) := by rw [hw8]; exact Go.Proofs.Ytmafaglgegimfaa.set3 hBx _ _ _
        have ho8 : ∀ q, q ≠ wd_.heap.size → w8.heap[q]? = w6.heap[q]? := fun q hq => by rw [hw8]; exact heap_set3 hq
        have hs8 : w8.heap.size = w6.heap.size := by rw [hw8]; exact size_set3K
        have hb8 : Below X w4 w8 := by rw [hw8]; exact below_set3 hbx (by omega)
        have hX8 : w8.heap[X]? = some (.cells #[.int .i64 FR, .int .i64 sz, .slice av N cv] 30 (0, 0)) := by rw [ho8 X (by omega)]; exact hXx
        replace d0 := by simpa using cell_of_heap hX8 0
        replace d1 := by simpa using cell_of_heap hX8 1
        replace d2 := by simpa using cell_of_heap hX8 2
        replace du := by simpa using (World.cell?_of_block (w := w6) (a := ⟨bu, ou + k, none⟩) (ho8 bu (by have := hbrd.size; omega))).trans du
        have hS8 := hS6 w8 hs8 ho8
        replace hBx := hidI hBx
        replace hrow6 := hidI hrow6
        replace hS6 := hidI hS6
        replace hXx := hidI hXx
        refine wpAnyH_ready (rs := [10]) (by kernel_rfl) (by simp) ?_
        refine AllReadyH.cons rfl (fun K hK => ?_) AllReadyH.nil
        rw [if_pos (by rfl)]
        go_simp
        rw [← hw8]
        replace hw8 := hidI hw8
        refine hK.out _ _ ?_ (fun hHeld => ?_)
        · try dsimp only
          ((repeat' apply And.intro) <;> assumption)
        clear hK
        try simp only [Act.put, List.setIfInBounds_toArray, List.set_cons_zero, List.set_cons_succ]
        refine take_at 11 10 (v := ?_) rfl (by kernel_rfl) (by kernel_rfl) (by kernel_rfl) (by kernel_rfl) hpan (Or.inl ⟨by rfl, ?_⟩) (by assumption) ?_
        rotate_left
        · intro w hSw; (try dsimp only at hSw); go_simp; with_reducible rfl
        simp only [Act.put, List.setIfInBounds_toArray, List.set_cons_zero, List.set_cons_succ]
        refine wpAnyH_done (by kernel_rfl) ?_ _
        refine hnorm _ _ ?_
        clear hnorm hpan
        repeat clear hHeld
        try simp only [Exit.then]
        clear l0 l1 l2 fl
        have z0 := cell_of_heap hB8 0
        have z1 := cell_of_heap hB8 1
        have z2 := cell_of_heap hB8 2
        have fz := fun j => frozen_of_row w8 X j _ _ hX8
        simp at z0 z1 z2
        have hst7 : Hid (∃ v', MSt (((w8.setCell ⟨X, 0, none⟩ (.int .i64 FR)).setCell ⟨X, 1, none⟩ (.int .i64 PS)).setCell ⟨X, 2, none⟩ (.slice a6 M c6)) X w1.heap.size FR (floL FR (zss.take (k + 1))).1 v' (floL FR (zss.take (k + 1))).2) := hidI ⟨_, by rw [hnx1.out, hnx2.out]; exact hS8⟩
        have hb7 : Hid (Below X w4 (((w8.setCell ⟨X, 0, none⟩ (.int .i64 FR)).setCell ⟨X, 1, none⟩ (.int .i64 PS)).setCell ⟨X, 2, none⟩ (.slice a6 M c6))) := hidI (below_set3 hb8 (Nat.le_refl _))
        replace hX8 := hidI hX8
        replace hB8 := hidI hB8
        clear hS8 hb8 ho8
        go_wp2
        go_roundg (n - (k + 1))
        case rel => exact ⟨k + 1, by have := hk9.out; omega, by go_num, hst7, hb7⟩
        case measure => have := hk9.out; omega
      · obtain rfl : k = n := by omega
        have hki : ¬ (k : Int) < (k : Int) := by omega
        have hEP : FE = E := by rw [e3.out, hE]
        have hZP : FZ = sz := by rw [e2.out, hsz]
        subst hEP
        subst hZP
        have hR0 : wr.heap[w.heap.size]? = some (.cells #[.int .i64 0, .int .i64 0, .slice none 0 0] 30 (0, 0)) := by rw [hkb.out.block _ (by have := hs1.out; omega)]; exact hR4.out
        have hfin := mst_fin (w := w) (w9 := wr) (X := X) (R := w.heap.size) (base := w1.heap.size) (cap := cv) (r := FR) (s' := FZ) (E := FE) (b := true) (a := av) (Nat.le_refl _) (by have := hs1.out; omega) hbr hP
        have y0 := cell_of_heap hR0 0
        have y1 := cell_of_heap hR0 1
        have y2 := cell_of_heap hR0 2
        have f2 := fun j => frozen_of_row wr w.heap.size j _ _ hR0
        simp at y0 y1 y2
        replace hfin := hidI hfin
        replace hR0 := hidI hR0
        replace hX9 := hidI hX9
        replace hP := hidI hP
        replace hk9 := hidI hk9
        replace hbr := hidI hbr
        replace hE := hidI hE
        replace hsz := hidI hsz
        clear hst
        go_wp2
        (try simp only [Exit.inBlock, Exit.then])
        refine ret_cell2 (x := .bool true) rfl rfl rfl (Go.Proofs.Ytmafaglgegimfaa.set3 hR0.out _ _ _) Try.underlying30 sizeGraph ?_
        exact hfin.out
end Go.Proofs.Ytmafaglgegimfaa
