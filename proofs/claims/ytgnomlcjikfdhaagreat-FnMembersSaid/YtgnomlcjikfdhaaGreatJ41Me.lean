import Derived.Deep.LoopGhost
import Derived.Deep.Cut
import Derived.Test.YtgnomlcjikfdhaaGreatJ34Me
import Derived.Test.YtgnomlcjikfdhaaGreatJ8Me
import Derived.Test.YtgnomlcjikfdhaaGreatJ9Me
namespace Go.Proofs.YtgnomlcjikfdhaaGreat
open Go.RowKit
set_option linter.unusedVariables false
set_option linter.unusedSimpArgs false
set_option maxRecDepth 100000 in
set_option maxHeartbeats 3200000 in
theorem G5 (w : World) (r : Int) : Calls Tryz.prog 33 #[.int .i64 r] w (aS w (dY r) (fJ r) [] (gG r)) := by
 obtain ⟨w1, hw1⟩ := ag (w.alloc (.cells #[.int .i64 0, .int .i64 0, .slice none 0 0] 26)); have hb1 : Below w.heap.size w w1 := by rw [hw1]; exact (Below.refl _ _).alloc (nl _) _
 have hs1 : w1.heap.size = w.heap.size + 1 := by rw [hw1]; simp
 have hk := heap_alloc_new w (.cells #[.int .i64 0, .int .i64 0, .slice none 0 0] 26); rw [← hw1] at hk; have hcall : Calls Tryz.prog 72 #[.int .i64 r] w1 (aS w1 (dY r) (fJ r) [] (gG r)) := vX w1 r; obtain ⟨PR, hPR⟩ := ag (dY r); obtain ⟨PS, hPS⟩ := ag (fJ r); obtain ⟨B, hB⟩ := ag (gG r); obtain ⟨PE, hPE⟩ : ∃ B : List Ed, B = [] := ⟨_, rfl⟩; rw [← hPR, ← hPS, ← hB, ← hPE] at hcall ⊢; replace hPR := ae hPR
 replace hPS := ae hPS; replace hPE := ae hPE; replace hB := ae hB; replace hk := ae hk; replace hs1 := ae hs1; go_enter Tryz.func33, Tryz.ntmps33
 go_upto_region 1 with fail
 rw [← hw1]; replace hw1 := ae hw1; go_wp2_with fail; refine hcall.mono ?_; rintro e w2 ⟨b, cap2, rfl, hrow2, hb2⟩; clear hcall; have hs2 := hb2.size; obtain ⟨N, hN⟩ := ag PE.length; rw [← hN] at hrow2 ⊢; have hbw2 : Below w.heap.size w w2 := hb1.trans (hb2.mono hb1.size); have hR2 : w2.heap[w.heap.size]? = some (.cells #[.int .i64 0, .int .i64 0, .slice none 0 0] 26 (0, 0)) := by rw [hb2.block _ (by have := hs1.out; omega)]; exact hk.out
 obtain ⟨w3, hw3⟩ := ag (w2.alloc (.cells #[.int .i64 PR, .int .i64 PS, .slice b N cap2] 26)); have hb3 : Below w2.heap.size w2 w3 := by rw [hw3]; exact (Below.refl _ _).alloc (nl _) _
 obtain ⟨x0, x1, x2⟩ := bT hw3; have hs3 := hb3.size; have hR3 : w3.heap[w.heap.size]? = some (.cells #[.int .i64 0, .int .i64 0, .slice none 0 0] 26 (0, 0)) := by rw [hb3.block _ (by have := hs1.out; omega)]; exact hR2
 have hrow3 : aF 36 3 w3 w1.heap.size w2.heap.size (.slice b N cap2) N (aC PE) := hrow2.below hb3 (nl _); have hbw3 : Below w.heap.size w w3 := hbw2.trans (hb3.mono (by have := hbw2.size; omega))
 have hfin : aS w PR PS PE B (.returned (.tuple #[.agg #[.int .i64 PR, .int .i64 PS, .slice b N cap2], .bool B])) (((w3.setCell ⟨w.heap.size, 0, none⟩ (.int .i64 PR)).setCell ⟨w.heap.size, 1, none⟩ (.int .i64 PS)).setCell ⟨w.heap.size, 2, none⟩ (.slice b N cap2)) := by
  have hs := hs1.out; refine ⟨b, cap2, by rw [hN], ?_, aN hbw3 (by omega)⟩
  rw [← hN]; exact aF.wide (hrow3.set3_ (.inl (by omega))) (by omega) (by rw [aW]; omega)
 obtain ⟨y0, y1, y2⟩ := ah hR3; have f2 := fun j => frozen_of_row w3 w.heap.size j _ _ hR3
 simp at y0 y1 y2
 replace hfin := ae hfin; replace hR2 := ae hR2; replace hR3 := ae hR3; replace hrow2 := ae hrow2; replace hrow3 := ae hrow3; replace hN := ae hN; go_upto_region 2 with fail
 rw [← hw3]; replace hw3 := ae hw3; go_wp2
 (try simp only [Exit.inBlock, Exit.then])
 refine aO (x := .bool B) rfl rfl rfl (Go.Proofs.YtgnomlcjikfdhaaGreat.set3 hR3.out _ _ _) Tryz.underlying26 aB ?_; exact hfin.out
theorem JH : iV 1 1 [] (0, 1, 0) = [(0, 1, 0)] := by kernel_rfl
theorem Jk : iV 2 1 [] (0, 1, 0) = [(0, 1, 0)] := by kernel_rfl
theorem IK : iV 2 1 [(0, 1, 0)] (0, 2, 0) = [(0, 1, 0), (0, 2, 0)] := by kernel_rfl
theorem Jh : iV 3 1 [] (0, 1, 0) = [(0, 1, 0)] := by kernel_rfl
theorem IQ : iV 3 1 [(0, 1, 0)] (0, 2, 0) = [(0, 1, 0), (0, 2, 0)] := by kernel_rfl
theorem Jo : iV 3 1 [(0, 1, 0), (0, 2, 0)] (0, 3, 0) = [(0, 1, 0), (0, 2, 0), (0, 3, 0)] := by kernel_rfl
theorem MH {n k : Nat} (hn : n ≤ 3) (hk : k < n) : iV (n : Int) 1 (jw k) (0, (k : Int) + 1, 0) = jw (k + 1) := by
 have h : (n = 1 ∧ k = 0) ∨ (n = 2 ∧ k = 0) ∨ (n = 2 ∧ k = 1) ∨ (n = 3 ∧ k = 0) ∨ (n = 3 ∧ k = 1) ∨ (n = 3 ∧ k = 2) := by omega
 rcases h with ⟨rfl, rfl⟩ | ⟨rfl, rfl⟩ | ⟨rfl, rfl⟩ | ⟨rfl, rfl⟩ | ⟨rfl, rfl⟩ | ⟨rfl, rfl⟩
 · exact JH
 · exact Jk
 · exact IK
 · exact Jh
 · exact IQ
 · exact Jo
set_option maxRecDepth 100000 in
set_option maxHeartbeats 6400000 in
theorem xE (w : World) (r : Int) : Calls Tryz.prog 35 #[.int .i64 r] w (aS w (dY r) (fJ r) (lQ r) (gG r)) := by
 obtain ⟨w1, hw1⟩ := ag (w.alloc (.cells #[.int .i64 0, .int .i64 0, .slice none 0 0] 26)); have hb1 : Below w.heap.size w w1 := by rw [hw1]; exact (Below.refl _ _).alloc (nl _) _
 have hs1 : w1.heap.size = w.heap.size + 1 := by rw [hw1]; simp
 have hk := heap_alloc_new w (.cells #[.int .i64 0, .int .i64 0, .slice none 0 0] 26); rw [← hw1] at hk; have hcall : Calls Tryz.prog 72 #[.int .i64 r] w1 (aS w1 (dY r) (fJ r) [] (gG r)) := vX w1 r; have hcase : (gG r = true ∧ ∃ n : Nat, r = (n : Int) ∧ 1 ≤ n ∧ n ≤ 3 ∧ dY r = n ∧ fJ r = 1 ∧ lQ r = jw n) ∨ (gG r = false ∧ lQ r = []) := by
  by_cases h : 1 ≤ r ∧ r ≤ 3
  · refine .inl ⟨by unfold gG; exact decide_eq_true h, r.toNat, by omega, by omega, by omega, ?_, ?_, ?_⟩
    · unfold dY; rw [if_pos h]; omega
    · unfold fJ; rw [if_pos h]
    · unfold lQ; rw [if_pos h]
  · exact .inr ⟨by unfold gG; exact decide_eq_false h, by unfold lQ; rw [if_neg h]; rfl⟩
 obtain ⟨PR, hPR⟩ := ag (dY r); obtain ⟨PS, hPS⟩ := ag (fJ r); obtain ⟨B, hB⟩ := ag (gG r); obtain ⟨WL, hWL⟩ := ag (lQ r); rw [← hPR, ← hPS, ← hB] at hcall; rw [← hPR, ← hPS, ← hB, ← hWL]; rw [← hPR, ← hPS, ← hB, ← hWL] at hcase; replace hPR := ae hPR; replace hPS := ae hPS; replace hB := ae hB; replace hWL := ae hWL; replace hk := ae hk; replace hs1 := ae hs1; replace hcase := ae hcase; go_enter Tryz.func35, Tryz.ntmps35
 go_upto_region 1 with fail
 rw [← hw1]; replace hw1 := ae hw1; go_wp2_with fail; refine hcall.mono ?_; rintro e w2 ⟨b, cap2, rfl, hrow2, hb2⟩; clear hcall; have hs2 := hb2.size; have hbw2 : Below w.heap.size w w2 := hb1.trans (hb2.mono hb1.size); obtain ⟨w3, hw3⟩ := ag (w2.alloc (.cells #[.int .i64 PR, .int .i64 PS, .slice b 0 cap2] 26)); have hb3 : Below w2.heap.size w2 w3 := by rw [hw3]; exact (Below.refl _ _).alloc (nl _) _
 have hX3 : w3.heap[w2.heap.size]? = some (.cells #[.int .i64 PR, .int .i64 PS, .slice b 0 cap2] 26 (0, 0)) := by rw [hw3]; exact heap_alloc_new _ _
 have hs3 : w3.heap.size = w2.heap.size + 1 := by rw [hw3]; simp
 obtain ⟨X, hX⟩ := ag w2.heap.size; rw [← hX] at hX3; have hst3 : cO w3 X w1.heap.size PR PS (.slice b 0 cap2) [] := ⟨hX3, w1.heap.size, w2.heap.size, hrow2.below hb3 (nl _), nl _, by omega, .inl (by omega)⟩
 have hk0 : Hid (Below w1.heap.size w1 w3) := ae (hb2.trans (hb3.mono hs2)); have hXs : w1.heap.size ≤ X ∧ X < w3.heap.size := by omega
 have hRk := fun (W : World) (hW : Below w1.heap.size w1 W) => (by rw [hW.block _ (by have := hs1.out; omega)]; exact hk.out : W.heap[w.heap.size]? = some (.cells #[.int .i64 0, .int .i64 0, .slice none 0 0] 26 (0, 0)))
 replace hRk := ae hRk; replace hX3 := ae hX3; replace hrow2 := ae hrow2; replace hs3 := ae hs3; clear hb3; go_upto_region 2 with fail
 try simp only [List.length_nil]
 rw [← hw3, ← hX]; replace hw3 := ae hw3; replace hX := ae hX
 rcases hcase.out with ⟨hBt, n, hrn, hn1, hn3, hPRn, hPS1, hWn⟩ | ⟨hBf, hWn⟩
 case inr =>
  subst hBf; have hwr : Below w.heap.size w w3 := hb1.trans (hk0.out.mono (by have := hs1.out; omega))
  subst hWn; have hfin := iI (w := w) (R := w.heap.size) (b := false) (E := []) (nl _) (show w.heap.size < w1.heap.size by have := hs1.out; omega) hwr hst3
  have hRr := hRk.out w3 hk0.out; obtain ⟨t0, t1, t2⟩ := ah hRr; have ft := fun j => frozen_of_row w3 w.heap.size j _ _ hRr
  obtain ⟨y0, y1, y2⟩ := ah hX3.out; simp at t0 t1 t2 y0 y1 y2
  replace hfin := ae hfin; replace hRr := ae hRr; replace hst3 := ae hst3; clear hcase; have hr3 : r ≤ r ∨ r < r := by omega
  go_wp2
  go_loopg [6] 1 (fun g x1 wr => x1 = .int .i64 1 ∧ Hid (wr = w3))
  case atStart => exact ⟨rfl, ae rfl⟩
  case round =>
   obtain ⟨rfl, hwq⟩ := hrel; have hwq2 := hwq.out; subst hwq2; by_cases h1 : (1 : Int) ≤ r
   all_goals
    go_wp2
    (try simp only [Exit.inBlock, Exit.then])
    refine aO (x := .bool false) rfl rfl rfl (Go.Proofs.YtgnomlcjikfdhaaGreat.set3 hRr.out _ _ _) Tryz.underlying26 aB ?_; exact hfin.out
 subst hBt; subst hrn; subst hPRn; subst hPS1; have hst0 : Hid (∃ v, cO w3 X w1.heap.size (n : Int) 1 v (jw 0)) := ae ⟨_, hst3⟩; have hadd : ∀ k, k < n → iV (n : Int) 1 (jw k) (0, (k : Int) + 1, 0) = jw (k + 1) := fun k hk => MH hn3 hk
 replace hadd := ae hadd; replace hst3 := ae hst3; replace hWn := ae hWn; replace hn1 := ae hn1; clear hcase; go_wp2
 go_loopg [6, 7, 8] n (fun g x1 x2 x3 wr => ∃ k : Nat, k + g = n ∧ x1 = .int .i64 ((k : Int) + 1) ∧ Hid (∃ v, cO wr X w1.heap.size (n : Int) 1 v (jw k)) ∧ Hid (Below w1.heap.size w1 wr) ∧ X < wr.heap.size)
 case atStart => exact ⟨0, by omega, by go_num, hst0, hk0, hXs.2⟩
 case round =>
  clear hst0 hk0; obtain ⟨k, hk9, rfl, hst, hkb, hXr⟩ := hrel; obtain ⟨v6, hP⟩ := hst.out; obtain ⟨av, cv, hv6⟩ := hP.form; rw [eP] at hv6; subst hv6; obtain ⟨y0, y1, y2⟩ := ah hP.1; simp at y0 y1 y2
  have hkbs := hkb.out.size; by_cases hlt : k < n
  · have hki : (k : Int) + 1 ≤ (n : Int) := by omega
    have hcall := oU wr (n : Int) 1 (.slice av k cv) (jw k) 0 ((k : Int) + 1) 0 hP.read (by omega) (by rw [eP]; omega)
    rw [hadd.out k hlt] at hcall; obtain ⟨eb, heb⟩ := ag (mD (n : Int) 1 (jw k) (0, (k : Int) + 1, 0)); rw [← heb] at hcall; have hPh := ae hP; replace heb := ae heb; replace hk9 := ae hk9; clear hst; go_wp2_with fail; refine hcall.mono ?_; rintro e w6 ⟨a6, c6, rfl, hrow6, hb6⟩; clear hcall; rw [eP] at hrow6 ⊢; have hs6 := hb6.size; have hX6 : w6.heap[X]? = some (.cells #[.int .i64 (n : Int), .int .i64 1, .slice av k cv] 26 (0, 0)) := by rw [hb6.block X hXr]; exact hPh.out.1
    obtain ⟨w7, hw7⟩ := ag (w6.alloc (.cells #[.int .i64 (n : Int), .int .i64 1, .slice a6 (k + 1) c6] 26)); have hb7 : Below w6.heap.size w6 w7 := by rw [hw7]; exact (Below.refl _ _).alloc (nl _) _
    have hs7 : w7.heap.size = w6.heap.size + 1 := by rw [hw7]; simp
    obtain ⟨q0, q1, q2⟩ := bT hw7; have hX7 : w7.heap[X]? = some (.cells #[.int .i64 (n : Int), .int .i64 1, .slice av k cv] 26 (0, 0)) := by rw [hb7.block X (by omega)]; exact hX6
    have y0' := cell_of_heap hX7 0; have y1' := cell_of_heap hX7 1; have y2' := cell_of_heap hX7 2; have fx := fun j => frozen_of_row w7 X j _ _ hX7
    simp at y0' y1' y2'
    obtain ⟨w8, hw8⟩ := ag (((w7.setCell ⟨X, 0, none⟩ (.int .i64 (n : Int))).setCell ⟨X, 1, none⟩ (.int .i64 1)).setCell ⟨X, 2, none⟩ (.slice a6 (k + 1) c6)); have hrow7 := hrow6.below hb7 (nl _); have hst8 : Hid (∃ v, cO w8 X w1.heap.size (n : Int) 1 v (jw (k + 1))) := ae ⟨.slice a6 (k + 1) c6, by rw [hw8]; exact Go.Proofs.YtgnomlcjikfdhaaGreat.set3 hX7 _ _ _, wr.heap.size, w6.heap.size, by
     rw [eP, hw8]; exact hrow7.keep (fun q q1 q2 => by
      have hq : q ≠ X := by omega
      rw [Below.heap_setCell _ _ _ _ hq, Below.heap_setCell _ _ _ _ hq, Below.heap_setCell _ _ _ _ hq]), by omega, by rw [hw8, ja]; omega, .inr hXr⟩
    have hb8 : Hid (Below w1.heap.size w1 w8) := ae (by rw [hw8]; exact aN (hkb.out.trans ((hb6.trans (hb7.mono hs6)).mono hkbs)) (by omega))
    have hs8 : X < w8.heap.size := by rw [hw8, ja]; omega
    clear y0 y1 y2; replace hX6 := ae hX6; replace hX7 := ae hX7; replace hrow6 := ae hrow6; replace hrow7 := ae hrow7; replace hs7 := ae hs7; clear hb6 hb7; go_upto_region 6 with fail
    rw [← hw7]; replace hw7 := ae hw7; go_wp2; rw [← hw8]; replace hw8 := ae hw8; go_roundg (n - (k + 1))
    case rel => exact ⟨k + 1, by have := hk9.out; omega, by go_num, hst8, hb8, hs8⟩
    case measure => have := hk9.out; omega
  · obtain rfl : k = n := by omega
    have hki : ¬ (k : Int) + 1 ≤ (k : Int) := by omega
    have hwr : Below w.heap.size w wr := hb1.trans (hkb.out.mono (by have := hs1.out; omega))
    have hm2 : cO wr X w1.heap.size (k : Int) 1 (.slice av (jw k).length cv) (jw k) := by rw [eP]; exact hP
    have hfin := iI (w := w) (R := w.heap.size) (b := true) (nl _) (show w.heap.size < w1.heap.size by have := hs1.out; omega) hwr hm2
    rw [eP, ← hWn.out] at hfin; clear hm2; have hRr := hRk.out wr hkb.out; obtain ⟨t0, t1, t2⟩ := ah hRr; have ft := fun j => frozen_of_row wr w.heap.size j _ _ hRr
    simp at t0 t1 t2
    replace hfin := ae hfin; replace hP := ae hP; replace hRr := ae hRr; replace hk9 := ae hk9; clear hst hwr; go_wp2
    (try simp only [Exit.inBlock, Exit.then])
    refine aO (x := .bool true) rfl rfl rfl (Go.Proofs.YtgnomlcjikfdhaaGreat.set3 hRr.out _ _ _) Tryz.underlying26 aB ?_; exact hfin.out
end Go.Proofs.YtgnomlcjikfdhaaGreat
