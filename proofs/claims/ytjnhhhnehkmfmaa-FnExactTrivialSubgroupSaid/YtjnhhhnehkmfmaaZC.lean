/- Subgroups, the model: TrivialSubgroup, WholeGroup (tools/ya.py). -/
import Derived.Test.YtjnhhhnehkmfmaaZN
import Derived.Test.YtjnhhhnehkmfmaaGS12
import Derived.Test.YtjnhhhnehkmfmaaMS
import Derived.Deep.LoopGhost
import Derived.Deep.Cut
namespace Go.Proofs.Ytjnhhhnehkmfmaa
open Go.RowKit
set_option linter.unusedVariables false
set_option linter.unusedSimpArgs false

set_option maxRecDepth 100000 in
set_option maxHeartbeats 3200000 in
theorem specTrivG (w : World) (r : Int) : Calls Try.prog 23 #[.int .i64 r] w (LwGraphBool w (newR r) (newS r) [] (newB r)) := by
  obtain ⟨w1, hw1⟩ : ∃ z, z = w.alloc (.cells #[.int .i64 0, .int .i64 0, .slice none 0 0] 29) := ⟨_, rfl⟩
  have hb1 : Below w.heap.size w w1 := by rw [hw1]; exact (Below.refl _ _).alloc (Nat.le_refl _) _
  have hs1 : w1.heap.size = w.heap.size + 1 := by rw [hw1]; simp
  have hk := heap_alloc_new w (.cells #[.int .i64 0, .int .i64 0, .slice none 0 0] 29)
  rw [← hw1] at hk
  have hcall : Calls Try.prog 49 #[.int .i64 r] w1 (LwGraphBool w1 (newR r) (newS r) [] (newB r)) := specNewG w1 r
  obtain ⟨PR, hPR⟩ : ∃ B, B = newR r := ⟨_, rfl⟩
  obtain ⟨PS, hPS⟩ : ∃ B, B = newS r := ⟨_, rfl⟩
  obtain ⟨B, hB⟩ : ∃ B, B = newB r := ⟨_, rfl⟩
  obtain ⟨PE, hPE⟩ : ∃ B : List Ed, B = [] := ⟨_, rfl⟩
  rw [← hPR, ← hPS, ← hB, ← hPE] at hcall ⊢
  replace hPR := hidI hPR
  replace hPS := hidI hPS
  replace hPE := hidI hPE
  replace hB := hidI hB
  replace hk := hidI hk
  replace hs1 := hidI hs1
  go_enter Try.func23, Try.ntmps23
  go_upto_region 1 with fail
  rw [← hw1]
  replace hw1 := hidI hw1
  go_wp2_with fail
  refine hcall.mono ?_
  rintro e w2 ⟨b, cap2, rfl, hrow2, hb2⟩
  clear hcall
  have hs2 := hb2.size
  obtain ⟨N, hN⟩ : ∃ N, N = PE.length := ⟨_, rfl⟩
  rw [← hN] at hrow2 ⊢
  have hbw2 : Below w.heap.size w w2 := hb1.trans (hb2.mono hb1.size)
  have hR2 : w2.heap[w.heap.size]? = some (.cells #[.int .i64 0, .int .i64 0, .slice none 0 0] 29 (0, 0)) := by rw [hb2.block _ (by have := hs1.out; omega)]; exact hk.out
  obtain ⟨w3, hw3⟩ : ∃ z, z = w2.alloc (.cells #[.int .i64 PR, .int .i64 PS, .slice b N cap2] 29) := ⟨_, rfl⟩
  have hb3 : Below w2.heap.size w2 w3 := by rw [hw3]; exact (Below.refl _ _).alloc (Nat.le_refl _) _
  obtain ⟨x0, x1, x2⟩ := box3 hw3
  have hs3 := hb3.size
  have hR3 : w3.heap[w.heap.size]? = some (.cells #[.int .i64 0, .int .i64 0, .slice none 0 0] 29 (0, 0)) := by rw [hb3.block _ (by have := hs1.out; omega)]; exact hR2
  have hrow3 : RowS 64 3 w3 w1.heap.size w2.heap.size (.slice b N cap2) N (flatE PE) := hrow2.below hb3 (Nat.le_refl _)
  have hbw3 : Below w.heap.size w w3 := hbw2.trans (hb3.mono (by have := hbw2.size; omega))
  have hfin : LwGraphBool w PR PS PE B (.returned (.tuple #[.agg #[.int .i64 PR, .int .i64 PS, .slice b N cap2], .bool B])) (((w3.setCell ⟨w.heap.size, 0, none⟩ (.int .i64 PR)).setCell ⟨w.heap.size, 1, none⟩ (.int .i64 PS)).setCell ⟨w.heap.size, 2, none⟩ (.slice b N cap2)) := by
    have hs := hs1.out
    refine ⟨b, cap2, by rw [hN], ?_, below_set3 hbw3 (by omega)⟩
    rw [← hN]
    exact RowS.wide (hrow3.set3_ (.inl (by omega))) (by omega) (by rw [size_set3]; omega)
  have y0 := cell_of_heap hR3 0
  have y1 := cell_of_heap hR3 1
  have y2 := cell_of_heap hR3 2
  have f2 := fun j => frozen_of_row w3 w.heap.size j _ _ hR3
  simp at y0 y1 y2
  replace hfin := hidI hfin
  replace hR2 := hidI hR2
  replace hR3 := hidI hR3
  replace hrow2 := hidI hrow2
  replace hrow3 := hidI hrow3
  replace hN := hidI hN
  go_upto_region 2 with fail
  rw [← hw3]
  replace hw3 := hidI hw3
  go_wp2
  (try simp only [Exit.inBlock, Exit.then])
  refine ret_cell2 (x := .bool B) rfl rfl rfl (Go.Proofs.Ytjnhhhnehkmfmaa.set3 hR3.out _ _ _) Try.underlying29 sizeGraph ?_
  exact hfin.out
theorem add_wh10 : addE 1 1 [] (0, 1, 0) = [(0, 1, 0)] := by kernel_rfl
theorem add_wh20 : addE 2 1 [] (0, 1, 0) = [(0, 1, 0)] := by kernel_rfl
theorem add_wh21 : addE 2 1 [(0, 1, 0)] (0, 2, 0) = [(0, 1, 0), (0, 2, 0)] := by kernel_rfl
theorem add_wh30 : addE 3 1 [] (0, 1, 0) = [(0, 1, 0)] := by kernel_rfl
theorem add_wh31 : addE 3 1 [(0, 1, 0)] (0, 2, 0) = [(0, 1, 0), (0, 2, 0)] := by kernel_rfl
theorem add_wh32 : addE 3 1 [(0, 1, 0), (0, 2, 0)] (0, 3, 0) = [(0, 1, 0), (0, 2, 0), (0, 3, 0)] := by kernel_rfl
theorem add_wh {n k : Nat} (hn : n ≤ 3) (hk : k < n) : addE (n : Int) 1 (whN k) (0, (k : Int) + 1, 0) = whN (k + 1) := by
  have h : (n = 1 ∧ k = 0) ∨ (n = 2 ∧ k = 0) ∨ (n = 2 ∧ k = 1) ∨ (n = 3 ∧ k = 0) ∨ (n = 3 ∧ k = 1) ∨ (n = 3 ∧ k = 2) := by omega
  rcases h with ⟨rfl, rfl⟩ | ⟨rfl, rfl⟩ | ⟨rfl, rfl⟩ | ⟨rfl, rfl⟩ | ⟨rfl, rfl⟩ | ⟨rfl, rfl⟩
  · exact add_wh10
  · exact add_wh20
  · exact add_wh21
  · exact add_wh30
  · exact add_wh31
  · exact add_wh32
set_option maxRecDepth 100000 in
set_option maxHeartbeats 6400000 in
theorem specWholeG (w : World) (r : Int) : Calls Try.prog 27 #[.int .i64 r] w (LwGraphBool w (newR r) (newS r) (whL r) (newB r)) := by
  obtain ⟨w1, hw1⟩ : ∃ z, z = w.alloc (.cells #[.int .i64 0, .int .i64 0, .slice none 0 0] 29) := ⟨_, rfl⟩
  have hb1 : Below w.heap.size w w1 := by rw [hw1]; exact (Below.refl _ _).alloc (Nat.le_refl _) _
  have hs1 : w1.heap.size = w.heap.size + 1 := by rw [hw1]; simp
  have hk := heap_alloc_new w (.cells #[.int .i64 0, .int .i64 0, .slice none 0 0] 29)
  rw [← hw1] at hk
  have hcall : Calls Try.prog 49 #[.int .i64 r] w1 (LwGraphBool w1 (newR r) (newS r) [] (newB r)) := specNewG w1 r
  have hcase : (newB r = true ∧ ∃ n : Nat, r = (n : Int) ∧ 1 ≤ n ∧ n ≤ 3 ∧ newR r = n ∧ newS r = 1 ∧ whL r = whN n) ∨ (newB r = false ∧ whL r = []) := by
    by_cases h : 1 ≤ r ∧ r ≤ 3
    · refine .inl ⟨by unfold newB; exact decide_eq_true h, r.toNat, by omega, by omega, by omega, ?_, ?_, ?_⟩
      · unfold newR; rw [if_pos h]; omega
      · unfold newS; rw [if_pos h]
      · unfold whL; rw [if_pos h]
    · exact .inr ⟨by unfold newB; exact decide_eq_false h, by unfold whL; rw [if_neg h]; rfl⟩
  obtain ⟨PR, hPR⟩ : ∃ B, B = newR r := ⟨_, rfl⟩
  obtain ⟨PS, hPS⟩ : ∃ B, B = newS r := ⟨_, rfl⟩
  obtain ⟨B, hB⟩ : ∃ B, B = newB r := ⟨_, rfl⟩
  obtain ⟨WL, hWL⟩ : ∃ B, B = whL r := ⟨_, rfl⟩
  rw [← hPR, ← hPS, ← hB] at hcall
  rw [← hPR, ← hPS, ← hB, ← hWL]
  rw [← hPR, ← hPS, ← hB, ← hWL] at hcase
  replace hPR := hidI hPR
  replace hPS := hidI hPS
  replace hB := hidI hB
  replace hWL := hidI hWL
  replace hk := hidI hk
  replace hs1 := hidI hs1
  replace hcase := hidI hcase
  go_enter Try.func27, Try.ntmps27
  go_upto_region 1 with fail
  rw [← hw1]
  replace hw1 := hidI hw1
  go_wp2_with fail
  refine hcall.mono ?_
  rintro e w2 ⟨b, cap2, rfl, hrow2, hb2⟩
  clear hcall
  have hs2 := hb2.size
  have hbw2 : Below w.heap.size w w2 := hb1.trans (hb2.mono hb1.size)
  obtain ⟨w3, hw3⟩ : ∃ z, z = w2.alloc (.cells #[.int .i64 PR, .int .i64 PS, .slice b 0 cap2] 29) := ⟨_, rfl⟩
  have hb3 : Below w2.heap.size w2 w3 := by rw [hw3]; exact (Below.refl _ _).alloc (Nat.le_refl _) _
  have hX3 : w3.heap[w2.heap.size]? = some (.cells #[.int .i64 PR, .int .i64 PS, .slice b 0 cap2] 29 (0, 0)) := by rw [hw3]; exact heap_alloc_new _ _
  have hs3 : w3.heap.size = w2.heap.size + 1 := by rw [hw3]; simp
  obtain ⟨X, hX⟩ : ∃ X, X = w2.heap.size := ⟨_, rfl⟩
  rw [← hX] at hX3
  have hst3 : MSt w3 X w1.heap.size PR PS (.slice b 0 cap2) [] := ⟨hX3, w1.heap.size, w2.heap.size, hrow2.below hb3 (Nat.le_refl _), Nat.le_refl _, by omega, .inl (by omega)⟩
  have hk0 : Hid (Below w1.heap.size w1 w3) := hidI (hb2.trans (hb3.mono hs2))
  have hXs : w1.heap.size ≤ X ∧ X < w3.heap.size := by omega
  have hRk := fun (W : World) (hW : Below w1.heap.size w1 W) => (by rw [hW.block _ (by have := hs1.out; omega)]; exact hk.out : W.heap[w.heap.size]? = some (.cells #[.int .i64 0, .int .i64 0, .slice none 0 0] 29 (0, 0)))
  replace hRk := hidI hRk
  replace hX3 := hidI hX3
  replace hrow2 := hidI hrow2
  replace hs3 := hidI hs3
  clear hb3
  go_upto_region 2 with fail
  try simp only [List.length_nil]
  rw [← hw3, ← hX]
  replace hw3 := hidI hw3
  replace hX := hidI hX
  rcases hcase.out with ⟨hBt, n, hrn, hn1, hn3, hPRn, hPS1, hWn⟩ | ⟨hBf, hWn⟩
  case inr =>
    subst hBf
    have hwr : Below w.heap.size w w3 := hb1.trans (hk0.out.mono (by have := hs1.out; omega))
    subst hWn
    have hfin := mst_fin (w := w) (R := w.heap.size) (b := false) (E := []) (Nat.le_refl _) (show w.heap.size < w1.heap.size by have := hs1.out; omega) hwr hst3
    have hRr := hRk.out w3 hk0.out
    have t0 := cell_of_heap hRr 0
    have t1 := cell_of_heap hRr 1
    have t2 := cell_of_heap hRr 2
    have ft := fun j => frozen_of_row w3 w.heap.size j _ _ hRr
    have y0 := cell_of_heap hX3.out 0
    have y1 := cell_of_heap hX3.out 1
    have y2 := cell_of_heap hX3.out 2
    simp at t0 t1 t2 y0 y1 y2
    replace hfin := hidI hfin
    replace hRr := hidI hRr
    replace hst3 := hidI hst3
    clear hcase
    have hr3 : r ≤ r ∨ r < r := by omega
    go_wp2
    go_loopg [6] 1 (fun g x1 wr => x1 = .int .i64 1 ∧ Hid (wr = w3))
    case atStart => exact ⟨rfl, hidI rfl⟩
    case round =>
      obtain ⟨rfl, hwq⟩ := hrel
      have hwq2 := hwq.out
      subst hwq2
      by_cases h1 : (1 : Int) ≤ r
      all_goals
        go_wp2
        (try simp only [Exit.inBlock, Exit.then])
        refine ret_cell2 (x := .bool false) rfl rfl rfl (Go.Proofs.Ytjnhhhnehkmfmaa.set3 hRr.out _ _ _) Try.underlying29 sizeGraph ?_
        exact hfin.out
  subst hBt
  subst hrn
  subst hPRn
  subst hPS1
  have hst0 : Hid (∃ v, MSt w3 X w1.heap.size (n : Int) 1 v (whN 0)) := hidI ⟨_, hst3⟩
  have hadd : ∀ k, k < n → addE (n : Int) 1 (whN k) (0, (k : Int) + 1, 0) = whN (k + 1) := fun k hk => add_wh hn3 hk
  replace hadd := hidI hadd
  replace hst3 := hidI hst3
  replace hWn := hidI hWn
  replace hn1 := hidI hn1
  clear hcase
  go_wp2
  go_loopg [6, 7, 8] n (fun g x1 x2 x3 wr => ∃ k : Nat, k + g = n ∧ x1 = .int .i64 ((k : Int) + 1) ∧ Hid (∃ v, MSt wr X w1.heap.size (n : Int) 1 v (whN k)) ∧ Hid (Below w1.heap.size w1 wr) ∧ X < wr.heap.size)
  case atStart => exact ⟨0, by omega, by go_num, hst0, hk0, hXs.2⟩
  case round =>
    clear hst0 hk0
    obtain ⟨k, hk9, rfl, hst, hkb, hXr⟩ := hrel
    obtain ⟨v6, hP⟩ := hst.out
    obtain ⟨av, cv, hv6⟩ := hP.form
    rw [whN_length] at hv6
    subst hv6
    have y0 := cell_of_heap hP.1 0
    have y1 := cell_of_heap hP.1 1
    have y2 := cell_of_heap hP.1 2
    simp at y0 y1 y2
    have hkbs := hkb.out.size
    by_cases hlt : k < n
    · have hki : (k : Int) + 1 ≤ (n : Int) := by omega
      have hcall := specAddE wr (n : Int) 1 (.slice av k cv) (whN k) 0 ((k : Int) + 1) 0 hP.read (by omega) (by rw [whN_length]; omega)
      rw [hadd.out k hlt] at hcall
      obtain ⟨eb, heb⟩ : ∃ eb, eb = addEb (n : Int) 1 (whN k) (0, (k : Int) + 1, 0) := ⟨_, rfl⟩
      rw [← heb] at hcall
      have hPh := hidI hP
      replace heb := hidI heb
      replace hk9 := hidI hk9
      clear hst
      go_wp2_with fail
      refine hcall.mono ?_
      rintro e w6 ⟨a6, c6, rfl, hrow6, hb6⟩
      clear hcall
      rw [whN_length] at hrow6 ⊢
      have hs6 := hb6.size
      have hX6 : w6.heap[X]? = some (.cells #[.int .i64 (n : Int), .int .i64 1, .slice av k cv] 29 (0, 0)) := by rw [hb6.block X hXr]; exact hPh.out.1
      obtain ⟨w7, hw7⟩ : ∃ z, z = w6.alloc (.cells #[.int .i64 (n : Int), .int .i64 1, .slice a6 (k + 1) c6] 29) := ⟨_, rfl⟩
      have hb7 : Below w6.heap.size w6 w7 := by rw [hw7]; exact (Below.refl _ _).alloc (Nat.le_refl _) _
      have hs7 : w7.heap.size = w6.heap.size + 1 := by rw [hw7]; simp
      obtain ⟨q0, q1, q2⟩ := box3 hw7
      have hX7 : w7.heap[X]? = some (.cells #[.int .i64 (n : Int), .int .i64 1, .slice av k cv] 29 (0, 0)) := by rw [hb7.block X (by omega)]; exact hX6
      have y0' := cell_of_heap hX7 0
      have y1' := cell_of_heap hX7 1
      have y2' := cell_of_heap hX7 2
      have fx := fun j => frozen_of_row w7 X j _ _ hX7
      simp at y0' y1' y2'
      obtain ⟨w8, hw8⟩ : ∃ z, z = ((w7.setCell ⟨X, 0, none⟩ (.int .i64 (n : Int))).setCell ⟨X, 1, none⟩ (.int .i64 1)).setCell ⟨X, 2, none⟩ (.slice a6 (k + 1) c6) := ⟨_, rfl⟩
      have hrow7 := hrow6.below hb7 (Nat.le_refl _)
      have hst8 : Hid (∃ v, MSt w8 X w1.heap.size (n : Int) 1 v (whN (k + 1))) := hidI ⟨.slice a6 (k + 1) c6, by rw [hw8]; exact Go.Proofs.Ytjnhhhnehkmfmaa.set3 hX7 _ _ _, wr.heap.size, w6.heap.size, by
        rw [whN_length, hw8]
        exact hrow7.keep (fun q q1 q2 => by
          have hq : q ≠ X := by omega
          rw [Below.heap_setCell _ _ _ _ hq, Below.heap_setCell _ _ _ _ hq, Below.heap_setCell _ _ _ _ hq]), by omega, by rw [hw8, size_set3K]; omega, .inr hXr⟩
      have hb8 : Hid (Below w1.heap.size w1 w8) := hidI (by rw [hw8]; exact below_set3 (hkb.out.trans ((hb6.trans (hb7.mono hs6)).mono hkbs)) (by omega))
      have hs8 : X < w8.heap.size := by rw [hw8, size_set3K]; omega
      clear y0 y1 y2
      replace hX6 := hidI hX6
      replace hX7 := hidI hX7
      replace hrow6 := hidI hrow6
      replace hrow7 := hidI hrow7
      replace hs7 := hidI hs7
      clear hb6 hb7
      go_upto_region 6 with fail
      rw [← hw7]
      replace hw7 := hidI hw7
      go_wp2
      rw [← hw8]
      replace hw8 := hidI hw8
      go_roundg (n - (k + 1))
      case rel => exact ⟨k + 1, by have := hk9.out; omega, by go_num, hst8, hb8, hs8⟩
      case measure => have := hk9.out; omega
    · obtain rfl : k = n := by omega
      have hki : ¬ (k : Int) + 1 ≤ (k : Int) := by omega
      have hwr : Below w.heap.size w wr := hb1.trans (hkb.out.mono (by have := hs1.out; omega))
      have hm2 : MSt wr X w1.heap.size (k : Int) 1 (.slice av (whN k).length cv) (whN k) := by rw [whN_length]; exact hP
      have hfin := mst_fin (w := w) (R := w.heap.size) (b := true) (Nat.le_refl _) (show w.heap.size < w1.heap.size by have := hs1.out; omega) hwr hm2
      rw [whN_length, ← hWn.out] at hfin
      clear hm2
      have hRr := hRk.out wr hkb.out
      have t0 := cell_of_heap hRr 0
      have t1 := cell_of_heap hRr 1
      have t2 := cell_of_heap hRr 2
      have ft := fun j => frozen_of_row wr w.heap.size j _ _ hRr
      simp at t0 t1 t2
      replace hfin := hidI hfin
      replace hP := hidI hP
      replace hRr := hidI hRr
      replace hk9 := hidI hk9
      clear hst hwr
      go_wp2
      (try simp only [Exit.inBlock, Exit.then])
      refine ret_cell2 (x := .bool true) rfl rfl rfl (Go.Proofs.Ytjnhhhnehkmfmaa.set3 hRr.out _ _ _) Try.underlying29 sizeGraph ?_
      exact hfin.out
end Go.Proofs.Ytjnhhhnehkmfmaa
