import Derived.Test.YtfpklgmahbhecaaGreatQE
import Derived.Deep.RegionHeld3
import Derived.Test.YtfpklgmahbhecaaGreatRI
namespace Go.Proofs.YtfpklgmahbhecaaGreat
open Go.RowKit
set_option linter.unusedVariables false
set_option linter.unusedSimpArgs false
set_option maxHeartbeats 3200000 in
theorem specCon (w : World) (r s : Int) (v : Value) (es : List Ed) (h : ReadE w.heap.size w v es) (hs : -9223372036854775808 ≤ s ∧ s ≤ 9223372036854775807) (hl : es.length ≤ 10000000) :
 Calls Tryz.prog 6 #[.agg #[.int .i64 r, .int .i64 s, v]] w (LwBool w (conG r s es)) := by
 obtain ⟨a, cap, rfl, hnc⟩ := h.form
 obtain ⟨n, hn⟩ := exq es.length
 rw [← hn] at hl hnc ⊢
 rw [← hn] at h
 obtain ⟨w1, hw1⟩ := exq (w.alloc (.cells #[.int .i64 r, .int .i64 s, .slice a n cap] 26))
 have hb1 : Below w.heap.size w w1 := by rw [hw1]; exact (Below.refl _ _).alloc (Nat.le_refl _) _
 have hs1' : w.heap.size < w1.heap.size := by rw [hw1]; simp
 obtain ⟨g0, g1, g2⟩ := box3 hw1
 obtain ⟨wd, hwd⟩ := exq w1.drew
 have hbd1 : Below w1.heap.size w1 wd := by rw [hwd]; exact below_dn (Below.refl w1.heap.size w1) 1
 have d0 := below_cell g0 hbd1 hs1'
 have d1 := below_cell g1 hbd1 hs1'
 have d2 := below_cell g2 hbd1 hs1'
 have hbd := hb1.trans (hbd1.mono hb1.size)
 have hs1 : w.heap.size < wd.heap.size := Nat.lt_of_lt_of_le hs1' hbd1.size
 have hcf := specIsGr wd r s (.slice a n cap) es ((h.below hbd).mono hbd.size) hs (by omega)
 obtain ⟨B, hB⟩ := exq (isGr r s es)
 rw [← hB] at hcf
 obtain ⟨F, hF⟩ := exq (conG r s es)
 rw [← hF]
 obtain ⟨X, hX⟩ := exq (reachG r s es 0)
 have hFe : F = (B && decide ((X.length : Int) = s)) := by rw [hF, hX, hB]; rfl
 obtain ⟨m, hm⟩ : ∃ m, X.length = m := ⟨_, rfl⟩
 rw [hm] at hFe
 replace hF := hidI hF
 replace hX := hidI hX
 replace hB := hidI hB
 replace hn := hidI hn
 replace h := hidI h
 replace hw1 := hidI hw1
 replace hwd := hidI hwd
 clear hbd1 g0 g1 g2
 cases B with
 | false =>
  have hfin : F = false := by rw [hFe]; rfl
  replace hfin := hidI hfin
  clear hFe hm
  go_enter Tryz.func6, Tryz.ntmps6
  go_wp2
  rw [← hw1.out]
  refine hideQ (fun _ _ d _ _ h => by cases d <;> exact h) (fun Q' hnorm hpan => ?_)
  refine wp_region_held_drew (S := (fun z => z.cell? ⟨w.heap.size, 0, none⟩ = some (.int .i64 r) ∧ z.cell? ⟨w.heap.size, 1, none⟩ = some (.int .i64 s) ∧ z.cell? ⟨w.heap.size, 2, none⟩ = some (.slice a n cap))) (by kernel_rfl) ?_ (fun hHeld => ?_)
  · try dsimp only
    rw [← hwd.out]
    ((repeat' apply And.intro) <;> assumption)
  rw [← hwd.out] at hHeld ⊢
  refine tk 0 3 ?_
  refine rd 1 (fun K hK => ?_)
  rw [if_pos (by rfl)]
  go_simp
  go_at_call 18
  (with_reducible refine hcf.mono ?_)
  rintro e w2 ⟨rfl, hb2⟩
  have p0 := below_cell d0 hb2 hs1
  have p1 := below_cell d1 hb2 hs1
  have p2 := below_cell d2 hb2 hs1
  have hb12 := hbd.trans (hb2.mono hbd.size)
  clear hcf
  refine hK.out _ _ ?_ (fun hHeld => ?_)
  · try dsimp only
    ((repeat' apply And.intro) <;> assumption)
  clear hK
  try simp only [Act.put, lyA, lyB, lyC]
  refine tk 2 5 ?_
  refine tn 3 6 ?_
  refine tn 4 7 ?_
  refine tn 5 8 ?_
  refine tn 6 9 ?_
  refine tn 7 10 ?_
  refine tn 8 11 ?_
  refine tk 9 12 ?_
  refine tk 10 2 ?_
  refine wpAnyH_done (by kernel_rfl) ?_ _
  refine hnorm _ _ ?_
  clear hnorm hpan
  repeat clear hHeld
  try simp only [Exit.then]
  have hbz := hidI hb12
  go_wp2
  go_ret
  exact ⟨ret_bool hfin.out.symm, hbz.out⟩
 | true =>
  obtain ⟨q, hq⟩ := exq (((m : Int) == s))
  have hfin : F = q := by
   rw [hFe, Bool.true_and, hq]
   by_cases hms : (m : Int) = s
   · rw [decide_eq_true hms]; exact (beq_iff_eq.2 hms).symm
   · rw [decide_eq_false hms]; exact (beq_eq_false_iff_ne.2 hms).symm
  replace hfin := hidI hfin
  replace hq := hq.symm
  clear hFe
  go_enter Tryz.func6, Tryz.ntmps6
  go_wp2
  rw [← hw1.out]
  refine hideQ (fun _ _ d _ _ h => by cases d <;> exact h) (fun Q' hnorm hpan => ?_)
  refine wp_region_held_drew (S := (fun z => z.cell? ⟨w.heap.size, 0, none⟩ = some (.int .i64 r) ∧ z.cell? ⟨w.heap.size, 1, none⟩ = some (.int .i64 s) ∧ z.cell? ⟨w.heap.size, 2, none⟩ = some (.slice a n cap))) (by kernel_rfl) ?_ (fun hHeld => ?_)
  · try dsimp only
    rw [← hwd.out]
    ((repeat' apply And.intro) <;> assumption)
  rw [← hwd.out] at hHeld ⊢
  refine tk 0 3 ?_
  refine rd 1 (fun K hK => ?_)
  rw [if_pos (by rfl)]
  go_simp
  go_at_call 18
  (with_reducible refine hcf.mono ?_)
  rintro e w2 ⟨rfl, hb2⟩
  have p0 := below_cell d0 hb2 hs1
  have p1 := below_cell d1 hb2 hs1
  have p2 := below_cell d2 hb2 hs1
  have hb12 := hbd.trans (hb2.mono hbd.size)
  clear hcf
  refine hK.out _ _ ?_ (fun hHeld => ?_)
  · try dsimp only
    ((repeat' apply And.intro) <;> assumption)
  clear hK
  try simp only [Act.put, lyA, lyB, lyC]
  refine tk 2 5 ?_
  refine tg 3 6 ?_
  refine tg 6 9 ?_
  refine tg 7 10 ?_
  refine rd 4 (fun K hK => ?_)
  rw [if_pos (by kernel_rfl)]
  go_simp
  have hcr := specReach w2 r s (.slice a n cap) es 0 ((h.out.below hb12).mono hb12.size) hs (by have := hn.out; omega)
  rw [← hX.out] at hcr
  go_at_call 19
  (with_reducible refine hcr.mono ?_)
  rintro e w3 ⟨v3, rfl, hrow3, hb3⟩
  clear hcr
  have hs2 : w.heap.size < w2.heap.size := Nat.lt_of_lt_of_le hs1 hb2.size
  have y0 := below_cell p0 hb3 hs2
  have y1 := below_cell p1 hb3 hs2
  have y2 := below_cell p2 hb3 hs2
  obtain ⟨a3, c3, rfl⟩ : ∃ a3 c3, v3 = Value.slice a3 X.length c3 := by
   obtain ⟨_, ⟨h1, h2⟩ | ⟨g, off, cap, cur, h1, _⟩⟩ := hrow3
   · exact ⟨_, _, by rw [h1, h2]; rfl⟩
   · exact ⟨_, _, h1⟩
  rw [hm]
  replace hb12 := hb12.trans (hb3.mono hb12.size)
  refine hK.out _ _ ?_ (fun hHeld => ?_)
  · try dsimp only
    ((repeat' apply And.intro) <;> assumption)
  clear hK
  try simp only [Act.put, lyA, lyB, lyC]
  refine tg 5 8 ?_
  refine tg 8 11 ?_
  refine tk 9 12 ?_
  refine tk 10 2 ?_
  refine wpAnyH_done (by kernel_rfl) ?_ _
  refine hnorm _ _ ?_
  clear hnorm hpan
  repeat clear hHeld
  try simp only [Exit.then]
  have hbz := hidI hb12
  go_wp2
  go_ret
  exact ⟨ret_bool hfin.out.symm, hbz.out⟩
end Go.Proofs.YtfpklgmahbhecaaGreat
