/- Cores, the model: IsCore (tools/tg.py). -/
import Derived.Test.YtacmpbekgipkfaaRL
import Derived.Test.YtacmpbekgipkfaaQC
namespace Go.Proofs.Ytacmpbekgipkfaa
open Go.RowKit
set_option linter.unusedVariables false
set_option linter.unusedSimpArgs false

def isCo (r s : Int) (es : List Ed) : Bool := isFo r s es && decide (lf r s es < 0) && eqG r (cgS r s es) (cgE r s es) r s es
set_option maxRecDepth 100000 in
set_option maxHeartbeats 3200000 in
theorem specIsCo (w : World) (r s : Int) (v : Value) (es : List Ed) (h : ReadE w.heap.size w v es) (hs : -9223372036854775808 ≤ s ∧ s ≤ 9223372036854775807) (hl : es.length ≤ 10000000) :
    Calls Try.prog 73 #[.agg #[.int .i64 r, .int .i64 s, v]] w (LwBool w (isCo r s es)) := by
  obtain ⟨a, cap, rfl, hnc⟩ := h.form
  obtain ⟨n, hn⟩ : ∃ n, n = es.length := ⟨_, rfl⟩
  rw [← hn] at hl hnc ⊢
  rw [← hn] at h
  obtain ⟨w1, hw1⟩ : ∃ w1, w1 = w.alloc (.cells #[.int .i64 r, .int .i64 s, .slice a n cap] 29) := ⟨_, rfl⟩
  have hb1 : Below w.heap.size w w1 := by rw [hw1]; exact (Below.refl _ _).alloc (Nat.le_refl _) _
  have hs1 : w.heap.size < w1.heap.size := by rw [hw1]; simp
  obtain ⟨g0, g1, g2⟩ := box3 hw1
  obtain ⟨wd, hwd⟩ : ∃ z, z = w1.drew := ⟨_, rfl⟩
  have hbd : Below w1.heap.size w1 wd := by rw [hwd]; exact below_dn (Below.refl _ _) 1
  have hsd := hbd.size
  replace g0 := below_cell g0 hbd hs1
  replace g1 := below_cell g1 hbd hs1
  replace g2 := below_cell g2 hbd hs1
  have hb1d := hb1.trans (hbd.mono hb1.size)
  have hsw : w.heap.size < wd.heap.size := by omega
  have hcf := specFold wd r s (.slice a n cap) es ((h.below hb1d).mono hb1d.size) hs (by omega)
  have hle := fun (W : World) (hr : ReadE W.heap.size W (.slice a n cap) es) => specLeaf W r s (.slice a n cap) es hr hs (by omega)
  have hcg := fun (W : World) (hr : ReadE W.heap.size W (.slice a n cap) es) => specCanG W r s (.slice a n cap) es hr hs (by omega)
  have hcl := cgE_length r s es
  obtain ⟨F, hF⟩ : ∃ F, F = isCo r s es := ⟨_, rfl⟩
  rw [← hF]
  unfold isCo at hF
  obtain ⟨ZS, hZS⟩ : ∃ B, B = cgS r s es := ⟨_, rfl⟩
  obtain ⟨ZE, hZE⟩ : ∃ B, B = cgE r s es := ⟨_, rfl⟩
  obtain ⟨f, hf⟩ : ∃ B, B = lf r s es := ⟨_, rfl⟩
  obtain ⟨B, hB⟩ : ∃ B, B = isFo r s es := ⟨_, rfl⟩
  rw [← hZS, ← hZE] at hcg
  rw [← hZE] at hcl
  rw [← hf] at hle
  rw [← hB] at hcf
  rw [← hB, ← hf, ← hZS, ← hZE] at hF
  replace hZS := hidI hZS
  replace hZE := hidI hZE
  replace hf := hidI hf
  replace hF := hidI hF
  replace hB := hidI hB
  replace hle := hidI hle
  replace hcg := hidI hcg
  replace hw1 := hidI hw1
  replace hwd := hidI hwd
  replace hn := hidI hn
  replace h := hidI h
  replace hb1d := hidI hb1d
  clear hb1 hbd
  cases B with
  | false =>
    have hfin : Hid (F = false) := hidI (by rw [hF.out]; rfl)
    replace hF := hidI hF
    go_enter Try.func73, Try.ntmps73
    go_wp2
    rw [← hw1.out]
    refine hideQ (fun _ _ d _ _ h => by cases d <;> exact h) (fun Q' hnorm hpan => ?_)
    refine wp_region_held_drew (S := (fun W0 => W0.cell? ⟨w.heap.size, 0, none⟩ = some (.int .i64 r) ∧ W0.cell? ⟨w.heap.size, 1, none⟩ = some (.int .i64 s) ∧ W0.cell? ⟨w.heap.size, 2, none⟩ = some (.slice a n cap))) (by kernel_rfl) ?_ (fun hHeld => ?_)
    · try dsimp only
      first | ((repeat' apply And.intro) <;> assumption) | (rw [← hwd.out]; ((repeat' apply And.intro) <;> assumption))
    rw [← hwd.out] at hHeld ⊢
    refine tk 0 3 ?_
    refine rd 1 (fun K hK => ?_)
    rw [if_pos (by rfl)]
    go_simp
    refine hcf.mono ?_
    rintro e w2 ⟨rfl, hb2⟩
    have p0 := below_cell g0 hb2 hsw
    have p1 := below_cell g1 hb2 hsw
    have p2 := below_cell g2 hb2 hsw
    have hs2 : w.heap.size < w2.heap.size := by have := hb2.size; omega
    have hb12 := hidI (hb1d.out.trans (hb2.mono hb1d.out.size))
    refine hK.out _ _ ?_ (fun hHeld => ?_)
    · try dsimp only
      first | ((repeat' apply And.intro) <;> assumption) | (rw [← hwd.out]; ((repeat' apply And.intro) <;> assumption))
    clear hK
    try simp only [Act.put, List.setIfInBounds_toArray, List.set_cons_zero, List.set_cons_succ]
    refine tk 2 5 ?_
    refine tn 3 6 ?_
    refine tn 4 7 ?_
    refine tn 5 8 ?_
    refine tg 6 9 ?_
    refine tg 7 10 ?_
    refine tn 8 11 ?_
    refine tn 10 13 ?_
    refine tn 9 12 ?_
    refine tn 11 14 ?_
    refine tk 12 15 ?_
    refine tk 13 2 ?_
    refine wpAnyH_done (by kernel_rfl) ?_ _
    refine hnorm _ _ ?_
    clear hnorm hpan
    repeat clear hHeld
    try simp only [Exit.then]
    have hbz := hb1d.out.trans (hb2.mono hb1d.out.size)
    go_wp2
    go_ret
    exact ⟨ret_bool hfin.out.symm, hbz⟩
  | true =>
    by_cases hf0 : f < 0
    case neg =>
      have hfin : Hid (F = false) := hidI (by rw [hF.out, decide_eq_false hf0]; rfl)
      replace hF := hidI hF
      have hfd : decide (f < 0) = false := decide_eq_false hf0
      replace hf0 := hidI hf0
      go_enter Try.func73, Try.ntmps73
      go_wp2
      rw [← hw1.out]
      refine hideQ (fun _ _ d _ _ h => by cases d <;> exact h) (fun Q' hnorm hpan => ?_)
      refine wp_region_held_drew (S := (fun W0 => W0.cell? ⟨w.heap.size, 0, none⟩ = some (.int .i64 r) ∧ W0.cell? ⟨w.heap.size, 1, none⟩ = some (.int .i64 s) ∧ W0.cell? ⟨w.heap.size, 2, none⟩ = some (.slice a n cap))) (by kernel_rfl) ?_ (fun hHeld => ?_)
      · try dsimp only
        first | ((repeat' apply And.intro) <;> assumption) | (rw [← hwd.out]; ((repeat' apply And.intro) <;> assumption))
      rw [← hwd.out] at hHeld ⊢
      refine tk 0 3 ?_
      refine rd 1 (fun K hK => ?_)
      rw [if_pos (by rfl)]
      go_simp
      refine hcf.mono ?_
      rintro e w2 ⟨rfl, hb2⟩
      have p0 := below_cell g0 hb2 hsw
      have p1 := below_cell g1 hb2 hsw
      have p2 := below_cell g2 hb2 hsw
      have hs2 : w.heap.size < w2.heap.size := by have := hb2.size; omega
      have hb12 := hidI (hb1d.out.trans (hb2.mono hb1d.out.size))
      refine hK.out _ _ ?_ (fun hHeld => ?_)
      · try dsimp only
        first | ((repeat' apply And.intro) <;> assumption) | (rw [← hwd.out]; ((repeat' apply And.intro) <;> assumption))
      clear hK
      try simp only [Act.put, List.setIfInBounds_toArray, List.set_cons_zero, List.set_cons_succ]
      refine tk 2 5 ?_
      refine tg 3 6 ?_
      refine rd 4 (fun K hK => ?_)
      rw [if_pos (by kernel_rfl)]
      go_simp
      refine (hle.out w2 ((h.out.below hb12.out).mono hb12.out.size)).mono ?_
      rintro e w3 ⟨rfl, hb3⟩
      have q0 := below_cell p0 hb3 hs2
      have q1 := below_cell p1 hb3 hs2
      have q2 := below_cell p2 hb3 hs2
      have hs3 : w.heap.size < w3.heap.size := by have := hb3.size; omega
      have hb13 := hidI (hb12.out.trans (hb3.mono hb12.out.size))
      refine hK.out _ _ ?_ (fun hHeld => ?_)
      · try dsimp only
        first | ((repeat' apply And.intro) <;> assumption) | (rw [← hwd.out]; ((repeat' apply And.intro) <;> assumption))
      clear hK
      try simp only [Act.put, List.setIfInBounds_toArray, List.set_cons_zero, List.set_cons_succ]
      refine tg 5 8 ?_
      try rw [hfd]
      refine tg 6 9 ?_
      refine tg 7 10 ?_
      refine tn 8 11 ?_
      refine tn 10 13 ?_
      refine tn 9 12 ?_
      refine tn 11 14 ?_
      refine tk 12 15 ?_
      refine tk 13 2 ?_
      refine wpAnyH_done (by kernel_rfl) ?_ _
      refine hnorm _ _ ?_
      clear hnorm hpan
      repeat clear hHeld
      try simp only [Exit.then]
      have hbz := hb13.out
      go_wp2
      go_ret
      exact ⟨ret_bool hfin.out.symm, hbz⟩
    case pos =>
      have hfin : Hid (F = eqG r ZS ZE r s es) := hidI (by rw [hF.out, decide_eq_true hf0]; rfl)
      replace hF := hidI hF
      have hfd : decide (f < 0) = true := decide_eq_true hf0
      replace hf0 := hidI hf0
      go_enter Try.func73, Try.ntmps73
      go_wp2
      rw [← hw1.out]
      refine hideQ (fun _ _ d _ _ h => by cases d <;> exact h) (fun Q' hnorm hpan => ?_)
      refine wp_region_held_drew (S := (fun W0 => W0.cell? ⟨w.heap.size, 0, none⟩ = some (.int .i64 r) ∧ W0.cell? ⟨w.heap.size, 1, none⟩ = some (.int .i64 s) ∧ W0.cell? ⟨w.heap.size, 2, none⟩ = some (.slice a n cap))) (by kernel_rfl) ?_ (fun hHeld => ?_)
      · try dsimp only
        first | ((repeat' apply And.intro) <;> assumption) | (rw [← hwd.out]; ((repeat' apply And.intro) <;> assumption))
      rw [← hwd.out] at hHeld ⊢
      refine tk 0 3 ?_
      refine rd 1 (fun K hK => ?_)
      rw [if_pos (by rfl)]
      go_simp
      refine hcf.mono ?_
      rintro e w2 ⟨rfl, hb2⟩
      have p0 := below_cell g0 hb2 hsw
      have p1 := below_cell g1 hb2 hsw
      have p2 := below_cell g2 hb2 hsw
      have hs2 : w.heap.size < w2.heap.size := by have := hb2.size; omega
      have hb12 := hidI (hb1d.out.trans (hb2.mono hb1d.out.size))
      refine hK.out _ _ ?_ (fun hHeld => ?_)
      · try dsimp only
        first | ((repeat' apply And.intro) <;> assumption) | (rw [← hwd.out]; ((repeat' apply And.intro) <;> assumption))
      clear hK
      try simp only [Act.put, List.setIfInBounds_toArray, List.set_cons_zero, List.set_cons_succ]
      refine tk 2 5 ?_
      refine tg 3 6 ?_
      refine rd 4 (fun K hK => ?_)
      rw [if_pos (by kernel_rfl)]
      go_simp
      refine (hle.out w2 ((h.out.below hb12.out).mono hb12.out.size)).mono ?_
      rintro e w3 ⟨rfl, hb3⟩
      have q0 := below_cell p0 hb3 hs2
      have q1 := below_cell p1 hb3 hs2
      have q2 := below_cell p2 hb3 hs2
      have hs3 : w.heap.size < w3.heap.size := by have := hb3.size; omega
      have hb13 := hidI (hb12.out.trans (hb3.mono hb12.out.size))
      refine hK.out _ _ ?_ (fun hHeld => ?_)
      · try dsimp only
        first | ((repeat' apply And.intro) <;> assumption) | (rw [← hwd.out]; ((repeat' apply And.intro) <;> assumption))
      clear hK
      try simp only [Act.put, List.setIfInBounds_toArray, List.set_cons_zero, List.set_cons_succ]
      refine tg 5 8 ?_
      try rw [hfd]
      refine tg 6 9 ?_
      refine tg 7 10 ?_
      refine tg 8 11 ?_
      refine tg 10 13 ?_
      refine rd 9 (fun K hK => ?_)
      rw [if_pos (by kernel_rfl)]
      go_simp
      refine (hcg.out w3 ((h.out.below hb13.out).mono hb13.out.size)).mono ?_
      rintro e w4 ⟨ca, cc, rfl, hrow4, hb4⟩
      have u0 := below_cell q0 hb4 hs3
      have u1 := below_cell q1 hb4 hs3
      have u2 := below_cell q2 hb4 hs3
      have hs4 : w.heap.size < w4.heap.size := by have := hb4.size; omega
      have hb14 := hidI (hb13.out.trans (hb4.mono hb13.out.size))
      have heq := specEqG w4 r ZS r s (.slice ca ZE.length cc) (.slice a n cap) ZE es hrow4.read ((h.out.below hb14.out).mono hb14.out.size) (by have := hn.out; omega) (by have := hn.out; omega)
      rw [← hfin.out] at heq
      replace hrow4 := hidI hrow4
      refine hK.out _ _ ?_ (fun hHeld => ?_)
      · try dsimp only
        first | ((repeat' apply And.intro) <;> assumption) | (rw [← hwd.out]; ((repeat' apply And.intro) <;> assumption))
      clear hK
      try simp only [Act.put, List.setIfInBounds_toArray, List.set_cons_zero, List.set_cons_succ]
      refine rd 11 (fun K hK => ?_)
      rw [if_pos (by kernel_rfl)]
      go_simp
      refine heq.mono ?_
      rintro e w5 ⟨rfl, hb5⟩
      have x0 := below_cell u0 hb5 hs4
      have x1 := below_cell u1 hb5 hs4
      have x2 := below_cell u2 hb5 hs4
      have hb15 := hidI (hb14.out.trans (hb5.mono hb14.out.size))
      refine hK.out _ _ ?_ (fun hHeld => ?_)
      · try dsimp only
        first | ((repeat' apply And.intro) <;> assumption) | (rw [← hwd.out]; ((repeat' apply And.intro) <;> assumption))
      clear hK
      try simp only [Act.put, List.setIfInBounds_toArray, List.set_cons_zero, List.set_cons_succ]
      refine tk 12 15 ?_
      refine tk 13 2 ?_
      refine wpAnyH_done (by kernel_rfl) ?_ _
      refine hnorm _ _ ?_
      clear hnorm hpan
      repeat clear hHeld
      try simp only [Exit.then]
      have hbz := hb15.out
      go_wp2
      go_ret
      exact ⟨rfl, hbz⟩
end Go.Proofs.Ytacmpbekgipkfaa
