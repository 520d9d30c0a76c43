import Derived.Test.YtjnhhhnehkmfmaaGreatRH
import Derived.Test.YtjnhhhnehkmfmaaGreatUK
import Derived.Deep.Cut
namespace Go.Proofs.YtjnhhhnehkmfmaaGreat
open Go.RowKit
set_option linter.unusedVariables false
set_option linter.unusedSimpArgs false
def suR (r : Int) (zss : List (List Int)) : Int := if arew r zss = true then floR r zss else 0
def suS (r : Int) (zss : List (List Int)) : Int := if arew r zss = true then crS (floR r zss) (floZ r zss) (floE r zss) else 0
def suE (r : Int) (zss : List (List Int)) : List Ed := if arew r zss = true then crE (floR r zss) (floZ r zss) (floE r zss) else []
theorem su_no {r : Int} {zss : List (List Int)} (h : arew r zss = false) : suR r zss = 0 ∧ suS r zss = 0 ∧ suE r zss = [] := by
 have h' : ¬ arew r zss = true := by rw [h]; decide
 unfold suR suS suE
 rw [if_neg h', if_neg h', if_neg h']
 exact ⟨rfl, rfl, rfl⟩
theorem su_yes {r : Int} {zss : List (List Int)} (h : arew r zss = true) : suR r zss = floR r zss ∧ suS r zss = crS (floR r zss) (floZ r zss) (floE r zss) ∧ suE r zss = crE (floR r zss) (floZ r zss) (floE r zss) := by
 unfold suR suS suE
 rw [if_pos h, if_pos h, if_pos h]
 exact ⟨rfl, rfl, rfl⟩
theorem suE_length (r : Int) (zss : List (List Int)) : (suE r zss).length ≤ (floE r zss).length := by
 unfold suE
 split
 · exact crE_length _ _ _
 · simp
theorem floZ_lim (r : Int) (zss : List (List Int)) : -9223372036854775808 ≤ floZ r zss ∧ floZ r zss ≤ 9223372036854775807 := by
 unfold floZ
 split
 · have := (floL_lim r zss zss.length (Nat.le_refl _)).1
   rw [List.take_length] at this
   omega
 · omega
set_option maxRecDepth 100000 in
set_option maxHeartbeats 3200000 in
theorem specSubOf (w : World) (r : Int) (v : Value) (zss : List (List Int)) (h : ReadSS w.heap.size w v zss) (hs : totL zss ≤ 1048576) :
 Calls Tryz.prog 6 #[.int .i64 r, v] w (LwGraphBool w (suR r zss) (suS r zss) (suE r zss) (arew r zss)) := by
 have h' := h
 obtain ⟨hl, a, cap, rfl, _, _⟩ := h'
 obtain ⟨w1, hw1⟩ := exq (w.alloc (.cells #[.int .i64 0, .int .i64 0, .slice none 0 0] 26))
 have hb1 : Below w.heap.size w w1 := by rw [hw1]; exact (Below.refl _ _).alloc (Nat.le_refl _) _
 have hs1 : w1.heap.size = w.heap.size + 1 := by rw [hw1]; simp
 have hk := heap_alloc_new w (.cells #[.int .i64 0, .int .i64 0, .slice none 0 0] 26)
 rw [← hw1] at hk
 have hcall := specFlower w1 r (.slice a zss.length cap) zss ((h.below hb1).mono hb1.size) hs
 have hel := floE_length r zss
 have hzl := floZ_lim r zss
 obtain ⟨n, hn⟩ := exq zss.length
 obtain ⟨B, hB⟩ := exq (arew r zss)
 obtain ⟨FR, hFR⟩ := exq (floR r zss)
 obtain ⟨FZ, hFZ⟩ := exq (floZ r zss)
 obtain ⟨FE, hFE⟩ := exq (floE r zss)
 obtain ⟨SR, hSR⟩ := exq (suR r zss)
 obtain ⟨SS, hSS⟩ := exq (suS r zss)
 obtain ⟨SE, hSE⟩ := exq (suE r zss)
 have hno : B = false → SR = 0 ∧ SS = 0 ∧ SE = [] := fun q => by
  rw [hSR, hSS, hSE]; exact su_no (by rw [← hB]; exact q)
 have hyes : B = true → SR = FR ∧ SS = crS FR FZ FE ∧ SE = crE FR FZ FE := fun q => by
  rw [hSR, hSS, hSE, hFR, hFZ, hFE]; exact su_yes (by rw [← hB]; exact q)
 rw [← hn, ← hFR, ← hFZ, ← hFE, ← hB] at hcall
 rw [← hFE] at hel
 rw [← hFZ] at hzl
 rw [← hn, ← hB, ← hSR, ← hSS, ← hSE]
 have hfe : FE.length ≤ 1048576 := Nat.le_trans hel hs
 have hRk := fun (W : World) (hW : Below w1.heap.size w1 W) => (by rw [hW.block _ (by omega)]; exact hk : W.heap[w.heap.size]? = some (.cells #[.int .i64 0, .int .i64 0, .slice none 0 0] 26 (0, 0)))
 replace hRk := hidI hRk
 replace hn := hidI hn
 replace hB := hidI hB
 replace hFR := hidI hFR
 replace hFZ := hidI hFZ
 replace hFE := hidI hFE
 replace hSR := hidI hSR
 replace hSS := hidI hSS
 replace hSE := hidI hSE
 replace hno := hidI hno
 replace hyes := hidI hyes
 replace h := hidI h
 replace hk := hidI hk
 replace hs1 := hidI hs1
 replace hel := hidI hel
 go_enter Tryz.func6, Tryz.ntmps6
 go_upto_region 1 with fail
 rw [← hw1]
 replace hw1 := hidI hw1
 go_wp2_with fail
 refine hcall.mono ?_
 rintro e w2 ⟨b, cap2, rfl, hrow2, hb2⟩
 clear hcall
 have hs2 := hb2.size
 obtain ⟨N, hN⟩ := exq FE.length
 rw [← hN] at hrow2 hfe ⊢
 obtain ⟨w3, hw3⟩ := exq (w2.alloc (.cells #[.int .i64 FR, .int .i64 FZ, .slice b N cap2] 26))
 have hb3 : Below w2.heap.size w2 w3 := by rw [hw3]; exact (Below.refl _ _).alloc (Nat.le_refl _) _
 obtain ⟨x0, x1, x2⟩ := box3 hw3
 have hs3 : w2.heap.size < w3.heap.size := by rw [hw3]; simp
 have hb13 := hidI (hb2.trans (hb3.mono hs2))
 have hbw3 := hidI (hb1.trans (hb13.out.mono hb1.size))
 have hrow3 : RowS 68 3 w3 w1.heap.size w2.heap.size (.slice b N cap2) N (flatE FE) := hrow2.below hb3 (Nat.le_refl _)
 have hcore := specCoreG w3 FR FZ (.slice b N cap2) FE (by have := hrow3.read.mono (Nat.le_of_lt hs3); rw [hN] at this ⊢; exact this) hzl (by omega)
 have hw1s := hb1.size
 replace hrow2 := hidI hrow2
 replace hrow3 := hidI hrow3
 replace hN := hidI hN
 clear hb2 hb3
 go_upto_region 2 with fail
 rw [← hw3]
 replace hw3 := hidI hw3
 cases B with
 | false =>
  obtain ⟨e1, e2, e3⟩ := hno.out rfl
  subst e1
  subst e2
  subst e3
  have hR := hRk.out w3 hb13.out
  obtain ⟨y0, y1, y2⟩ := cell3 hR
  have f2 := fun j => frozen_of_row w3 w.heap.size j _ _ hR
  simp at y0 y1 y2
  have hfin : LwGraphBool w 0 0 [] false (.returned (.tuple #[.agg #[.int .i64 0, .int .i64 0, .slice none 0 0], .bool false])) (((w3.setCell ⟨w.heap.size, 0, none⟩ (.int .i64 0)).setCell ⟨w.heap.size, 1, none⟩ (.int .i64 0)).setCell ⟨w.heap.size, 2, none⟩ (.slice none 0 0)) :=
   ⟨none, 0, rfl, ⟨rfl, by simp, .inl ⟨rfl, rfl⟩⟩, below_set3 hbw3.out (Nat.le_refl _)⟩
  replace hfin := hidI hfin
  replace hR := hidI hR
  clear hcore x0 x1 x2
  go_wp2
  (try simp only [Exit.inBlock, Exit.then])
  refine ret_cell2 (x := .bool false) rfl rfl rfl (Go.Proofs.YtjnhhhnehkmfmaaGreat.set3 hR.out _ _ _) Tryz.underlying26 sizeGraph ?_
  exact hfin.out
 | true =>
  obtain ⟨e1, e2, e3⟩ := hyes.out rfl
  rw [← e2, ← e3] at hcore
  replace e1 := hidI e1
  replace e2 := hidI e2
  replace e3 := hidI e3
  go_wp2_with fail
  refine hcore.mono ?_
  rintro e w4 ⟨c, cap4, rfl, hrow4, hb4⟩
  clear hcore
  have hs4 := hb4.size
  obtain ⟨M, hM⟩ := exq SE.length
  rw [← hM] at hrow4 ⊢
  have hbw4 := hbw3.out.trans (hb4.mono hbw3.out.size)
  have hR := hRk.out w4 (hb13.out.trans (hb4.mono (by omega)))
  obtain ⟨y0, y1, y2⟩ := cell3 hR
  have f2 := fun j => frozen_of_row w4 w.heap.size j _ _ hR
  simp at y0 y1 y2
  have hfin : LwGraphBool w FR SS SE true (.returned (.tuple #[.agg #[.int .i64 FR, .int .i64 SS, .slice c M cap4], .bool true])) (((w4.setCell ⟨w.heap.size, 0, none⟩ (.int .i64 FR)).setCell ⟨w.heap.size, 1, none⟩ (.int .i64 SS)).setCell ⟨w.heap.size, 2, none⟩ (.slice c M cap4)) := by
   have hs := hs1.out
   refine ⟨c, cap4, by rw [hM], ?_, below_set3 hbw4 (Nat.le_refl _)⟩
   rw [← hM]
   exact RowS.wide (hrow4.set3_ (.inl (by omega))) (by omega) (by rw [size_set3]; omega)
  replace hfin := hidI hfin
  replace hR := hidI hR
  replace hrow4 := hidI hrow4
  replace hM := hidI hM
  clear x0 x1 x2
  go_wp2
  (try simp only [Exit.inBlock, Exit.then])
  refine ret_cell2 (x := .bool true) rfl rfl rfl (Go.Proofs.YtjnhhhnehkmfmaaGreat.set3 hR.out _ _ _) Tryz.underlying26 sizeGraph ?_
  rw [e1.out]
  exact hfin.out
set_option maxRecDepth 100000 in
set_option maxHeartbeats 3200000 in
theorem progSubOf (w : World) (r : Int) (v : Value) (zss : List (List Int)) (h : ReadSS w.heap.size w v zss) (hs : totL zss ≤ 1048576) :
 Calls Tryz.prog 8 #[.int .i64 r, v] w (LwGraphBool w (suR r zss) (suS r zss) (suE r zss) (arew r zss)) := by
 have h' := h
 obtain ⟨hl, a, cap, rfl, _, _⟩ := h'
 obtain ⟨w1, hw1⟩ := exq (w.alloc (.cells #[.int .i64 0, .int .i64 0, .slice none 0 0] 26))
 have hb1 : Below w.heap.size w w1 := by rw [hw1]; exact (Below.refl _ _).alloc (Nat.le_refl _) _
 have hs1 : w1.heap.size = w.heap.size + 1 := by rw [hw1]; simp
 have hk := heap_alloc_new w (.cells #[.int .i64 0, .int .i64 0, .slice none 0 0] 26)
 rw [← hw1] at hk
 have hcall := progFlower w1 r (.slice a zss.length cap) zss ((h.below hb1).mono hb1.size) hs
 have hel := floE_length r zss
 have hzl := floZ_lim r zss
 obtain ⟨n, hn⟩ := exq zss.length
 obtain ⟨B, hB⟩ := exq (arew r zss)
 obtain ⟨FR, hFR⟩ := exq (floR r zss)
 obtain ⟨FZ, hFZ⟩ := exq (floZ r zss)
 obtain ⟨FE, hFE⟩ := exq (floE r zss)
 obtain ⟨SR, hSR⟩ := exq (suR r zss)
 obtain ⟨SS, hSS⟩ := exq (suS r zss)
 obtain ⟨SE, hSE⟩ := exq (suE r zss)
 have hno : B = false → SR = 0 ∧ SS = 0 ∧ SE = [] := fun q => by
  rw [hSR, hSS, hSE]; exact su_no (by rw [← hB]; exact q)
 have hyes : B = true → SR = FR ∧ SS = crS FR FZ FE ∧ SE = crE FR FZ FE := fun q => by
  rw [hSR, hSS, hSE, hFR, hFZ, hFE]; exact su_yes (by rw [← hB]; exact q)
 rw [← hn, ← hFR, ← hFZ, ← hFE, ← hB] at hcall
 rw [← hFE] at hel
 rw [← hFZ] at hzl
 rw [← hn, ← hB, ← hSR, ← hSS, ← hSE]
 have hfe : FE.length ≤ 1048576 := Nat.le_trans hel hs
 have hRk := fun (W : World) (hW : Below w1.heap.size w1 W) => (by rw [hW.block _ (by omega)]; exact hk : W.heap[w.heap.size]? = some (.cells #[.int .i64 0, .int .i64 0, .slice none 0 0] 26 (0, 0)))
 replace hRk := hidI hRk
 replace hn := hidI hn
 replace hB := hidI hB
 replace hFR := hidI hFR
 replace hFZ := hidI hFZ
 replace hFE := hidI hFE
 replace hSR := hidI hSR
 replace hSS := hidI hSS
 replace hSE := hidI hSE
 replace hno := hidI hno
 replace hyes := hidI hyes
 replace h := hidI h
 replace hk := hidI hk
 replace hs1 := hidI hs1
 replace hel := hidI hel
 go_enter Tryz.func8, Tryz.ntmps8
 go_upto_region 1 with fail
 rw [← hw1]
 replace hw1 := hidI hw1
 go_wp2_with fail
 refine hcall.mono ?_
 rintro e w2 ⟨b, cap2, rfl, hrow2, hb2⟩
 clear hcall
 have hs2 := hb2.size
 obtain ⟨N, hN⟩ := exq FE.length
 rw [← hN] at hrow2 hfe ⊢
 obtain ⟨w3, hw3⟩ := exq (w2.alloc (.cells #[.int .i64 FR, .int .i64 FZ, .slice b N cap2] 26))
 have hb3 : Below w2.heap.size w2 w3 := by rw [hw3]; exact (Below.refl _ _).alloc (Nat.le_refl _) _
 obtain ⟨x0, x1, x2⟩ := box3 hw3
 have hs3 : w2.heap.size < w3.heap.size := by rw [hw3]; simp
 have hb13 := hidI (hb2.trans (hb3.mono hs2))
 have hbw3 := hidI (hb1.trans (hb13.out.mono hb1.size))
 have hrow3 : RowS 68 3 w3 w1.heap.size w2.heap.size (.slice b N cap2) N (flatE FE) := hrow2.below hb3 (Nat.le_refl _)
 have hcore := progCoreG w3 FR FZ (.slice b N cap2) FE (by have := hrow3.read.mono (Nat.le_of_lt hs3); rw [hN] at this ⊢; exact this) hzl (by omega)
 have hw1s := hb1.size
 replace hrow2 := hidI hrow2
 replace hrow3 := hidI hrow3
 replace hN := hidI hN
 clear hb2 hb3
 go_upto_region 2 with fail
 rw [← hw3]
 replace hw3 := hidI hw3
 cases B with
 | false =>
  obtain ⟨e1, e2, e3⟩ := hno.out rfl
  subst e1
  subst e2
  subst e3
  have hR := hRk.out w3 hb13.out
  obtain ⟨y0, y1, y2⟩ := cell3 hR
  have f2 := fun j => frozen_of_row w3 w.heap.size j _ _ hR
  simp at y0 y1 y2
  have hfin : LwGraphBool w 0 0 [] false (.returned (.tuple #[.agg #[.int .i64 0, .int .i64 0, .slice none 0 0], .bool false])) (((w3.setCell ⟨w.heap.size, 0, none⟩ (.int .i64 0)).setCell ⟨w.heap.size, 1, none⟩ (.int .i64 0)).setCell ⟨w.heap.size, 2, none⟩ (.slice none 0 0)) :=
   ⟨none, 0, rfl, ⟨rfl, by simp, .inl ⟨rfl, rfl⟩⟩, below_set3 hbw3.out (Nat.le_refl _)⟩
  replace hfin := hidI hfin
  replace hR := hidI hR
  clear hcore x0 x1 x2
  go_wp2
  (try simp only [Exit.inBlock, Exit.then])
  refine ret_cell2 (x := .bool false) rfl rfl rfl (Go.Proofs.YtjnhhhnehkmfmaaGreat.set3 hR.out _ _ _) Tryz.underlying26 sizeGraph ?_
  exact hfin.out
 | true =>
  obtain ⟨e1, e2, e3⟩ := hyes.out rfl
  rw [← e2, ← e3] at hcore
  replace e1 := hidI e1
  replace e2 := hidI e2
  replace e3 := hidI e3
  go_wp2_with fail
  refine hcore.mono ?_
  rintro e w4 ⟨c, cap4, rfl, hrow4, hb4⟩
  clear hcore
  have hs4 := hb4.size
  obtain ⟨M, hM⟩ := exq SE.length
  rw [← hM] at hrow4 ⊢
  have hbw4 := hbw3.out.trans (hb4.mono hbw3.out.size)
  have hR := hRk.out w4 (hb13.out.trans (hb4.mono (by omega)))
  obtain ⟨y0, y1, y2⟩ := cell3 hR
  have f2 := fun j => frozen_of_row w4 w.heap.size j _ _ hR
  simp at y0 y1 y2
  have hfin : LwGraphBool w FR SS SE true (.returned (.tuple #[.agg #[.int .i64 FR, .int .i64 SS, .slice c M cap4], .bool true])) (((w4.setCell ⟨w.heap.size, 0, none⟩ (.int .i64 FR)).setCell ⟨w.heap.size, 1, none⟩ (.int .i64 SS)).setCell ⟨w.heap.size, 2, none⟩ (.slice c M cap4)) := by
   have hs := hs1.out
   refine ⟨c, cap4, by rw [hM], ?_, below_set3 hbw4 (Nat.le_refl _)⟩
   rw [← hM]
   exact RowS.wide (hrow4.set3_ (.inl (by omega))) (by omega) (by rw [size_set3]; omega)
  replace hfin := hidI hfin
  replace hR := hidI hR
  replace hrow4 := hidI hrow4
  replace hM := hidI hM
  clear x0 x1 x2
  go_wp2
  (try simp only [Exit.inBlock, Exit.then])
  refine ret_cell2 (x := .bool true) rfl rfl rfl (Go.Proofs.YtjnhhhnehkmfmaaGreat.set3 hR.out _ _ _) Tryz.underlying26 sizeGraph ?_
  rw [e1.out]
  exact hfin.out
end Go.Proofs.YtjnhhhnehkmfmaaGreat
