/- Cores, the program: IsCore (tools/uj.py). -/
import Derived.Test.YtecceaijdjnflaaUI
import Derived.Test.YtecceaijdjnflaaUH
import Derived.Test.YtecceaijdjnflaaTG
import Derived.Test.YtecceaijdjnflaaGP6
namespace Go.Proofs.Ytecceaijdjnflaa
open Go.RowKit
set_option linter.unusedVariables false
set_option linter.unusedSimpArgs false

set_option maxRecDepth 100000 in
set_option maxHeartbeats 6400000 in
theorem progIsCo (w : World) (r s : Int) (v : Value) (es : List Ed) (h : ReadE w.heap.size w v es) (hl : es.length ≤ 10000000) :
    Calls Try.prog 27 #[.agg #[.int .i64 r, .int .i64 s, v]] w (LwBool w (isCo r s es)) := by
  obtain ⟨a, cap, rfl, hnc⟩ := h.form
  obtain ⟨n, hn⟩ : ∃ n, n = es.length := ⟨_, rfl⟩
  rw [← hn] at hl hnc ⊢
  rw [← hn] at h
  obtain ⟨w1, hw1⟩ : ∃ w1, w1 = w.alloc (.cells #[.int .i64 r, .int .i64 s, .slice a n cap] 28) := ⟨_, rfl⟩
  have hb1 : Below w.heap.size w w1 := by rw [hw1]; exact (Below.refl _ _).alloc (Nat.le_refl _) _
  have hs1 : w.heap.size < w1.heap.size := by rw [hw1]; simp
  obtain ⟨g0, g1, g2⟩ := box3 hw1
  have htr := progTrim w1 r s (.slice a n cap) es (by have := (h.below hb1).mono hb1.size; rw [hn] at this ⊢; exact this) (by omega)
  have hcf := fun (W : World) (hr : ReadE W.heap.size W (.slice a n cap) es) => progFold W r s (.slice a n cap) es hr (by omega)
  have hcg := fun (W : World) (hr : ReadE W.heap.size W (.slice a n cap) es) => progCanG W r s (.slice a n cap) es hr (by omega)
  have hcl := cgE_length r s es
  have htl := tmL_length r s es
  obtain ⟨F, hF⟩ : ∃ F, F = isCo r s es := ⟨_, rfl⟩
  rw [← hF]
  unfold isCo at hF
  have hall : isFo r s es = true → (((tmL r s es).length : Int) = s ↔ lf r s es < 0) := fun hf => tm_all (by unfold isFo at hf; rw [Bool.and_eq_true] at hf; exact hf.1)
  obtain ⟨ZS, hZS⟩ : ∃ B, B = cgS r s es := ⟨_, rfl⟩
  obtain ⟨ZE, hZE⟩ : ∃ B, B = cgE r s es := ⟨_, rfl⟩
  obtain ⟨TS, hTS⟩ : ∃ B, B = tmS r s es := ⟨_, rfl⟩
  obtain ⟨TE, hTE⟩ : ∃ B, B = tmE r s es := ⟨_, rfl⟩
  obtain ⟨ZL, hZL⟩ : ∃ B, B = tmL r s es := ⟨_, rfl⟩
  obtain ⟨f, hf⟩ : ∃ B, B = lf r s es := ⟨_, rfl⟩
  obtain ⟨B, hB⟩ : ∃ B, B = isFo r s es := ⟨_, rfl⟩
  rw [← hTS, ← hTE, ← hZL] at htr
  rw [← hZS, ← hZE] at hcg
  rw [← hZE] at hcl
  rw [← hZL] at htl hall
  rw [← hf, ← hB] at hall
  rw [← hB] at hcf
  rw [← hB, ← hf, ← hZS, ← hZE] at hF
  obtain ⟨L, hL⟩ : ∃ L, L = ZL.length := ⟨_, rfl⟩
  rw [← hL] at hall htl
  have hww := hidI hw1.symm
  replace hZS := hidI hZS
  replace hZE := hidI hZE
  replace hTS := hidI hTS
  replace hTE := hidI hTE
  replace hZL := hidI hZL
  replace hf := hidI hf
  replace hF := hidI hF
  replace hB := hidI hB
  replace hcf := hidI hcf
  replace hcg := hidI hcg
  replace hall := hidI hall
  replace hw1 := hidI hw1
  replace hn := hidI hn
  replace h := hidI h
  replace hL := hidI hL
  go_enter Try.func27, Try.ntmps27
  go_upto_region 1 with fail
  rw [hww.out]
  go_wp2_with fail
  refine htr.mono ?_
  rintro e w2 ⟨ca, cc, lv, glo, ghi, flo, fhi, rfl, hd0, hrow2, hst2, hb2⟩
  clear htr
  obtain ⟨_, la, lc, rfl, _, _⟩ := hst2.read
  rw [← hL.out]
  replace g0 := below_cell g0 hb2 hs1
  replace g1 := below_cell g1 hb2 hs1
  replace g2 := below_cell g2 hb2 hs1
  have hsz2 := hb2.size
  have hb02 := hb1.trans (hb2.mono hb1.size)
  obtain ⟨w3, hw3⟩ : ∃ z, z = w2.alloc (.cells #[.int .i64 0, .int .i64 0, .slice none 0 0] 28) := ⟨_, rfl⟩
  have hb3 : Below w2.heap.size w2 w3 := by rw [hw3]; exact (Below.refl _ _).alloc (Nat.le_refl _) _
  have hX3 : w3.heap[w2.heap.size]? = some (.cells #[.int .i64 0, .int .i64 0, .slice none 0 0] 28 (0, 0)) := by rw [hw3]; exact heap_alloc_new _ _
  obtain ⟨w4, hw4⟩ : ∃ z, z = ((w3.setCell ⟨w2.heap.size, 0, none⟩ (.int .i64 r)).setCell ⟨w2.heap.size, 1, none⟩ (.int .i64 TS)).setCell ⟨w2.heap.size, 2, none⟩ (.slice ca TE.length cc) := ⟨_, rfl⟩
  have hb4 : Below w2.heap.size w2 w4 := by rw [hw4]; exact below_set3 hb3 (Nat.le_refl _)
  replace g0 := below_cell g0 hb4 (by omega)
  replace g1 := below_cell g1 hb4 (by omega)
  replace g2 := below_cell g2 hb4 (by omega)
  obtain ⟨wd, hwd⟩ : ∃ z, z = w4.drew := ⟨_, rfl⟩
  have hbd : Below w4.heap.size w4 wd := by rw [hwd]; exact below_dn (Below.refl _ _) 1
  have hsz4 := hb4.size
  replace g0 := below_cell g0 hbd (by omega)
  replace g1 := below_cell g1 hbd (by omega)
  replace g2 := below_cell g2 hbd (by omega)
  have hsw : w.heap.size < wd.heap.size := by have := hbd.size; omega
  have hb1d := hidI (hb02.trans ((hb4.trans (hbd.mono hsz4)).mono hb02.size))
  have hw3w := hidI hw3.symm
  have hw4w := hidI hw4.symm
  have hwdw := hidI hwd.symm
  replace hw3 := hidI hw3
  replace hw4 := hidI hw4
  replace hwd := hidI hwd
  have t0 := cell_of_heap hX3 0
  have t1 := cell_of_heap hX3 1
  have t2 := cell_of_heap hX3 2
  have ft := fun j => frozen_of_row w3 w2.heap.size j _ _ hX3
  simp at t0 t1 t2
  replace hX3 := hidI hX3
  replace hrow2 := hidI hrow2
  replace hst2 := hidI hst2
  replace hd0 := hidI hd0
  replace hb2 := hidI hb2
  clear hb3 hb4 hb02 hbd
  have hcf1 := hcf.out wd ((h.out.below hb1d.out).mono hb1d.out.size)
  go_upto_region 2 with (first | rw [hw3w.out] | fail)
  rw [hw4w.out]
  clear t0 t1 t2 ft
  cases B with
  | false =>
    have hfin : Hid (F = false) := hidI (by rw [hF.out]; rfl)
    replace hF := hidI hF
    refine hideQ (fun _ _ d _ _ h => by cases d <;> exact h) (fun Q' hnorm hpan => ?_)
    refine wp_region_held_drew (S := (fun W0 => W0.cell? ⟨w.heap.size, 0, none⟩ = some (.int .i64 r) ∧ W0.cell? ⟨w.heap.size, 1, none⟩ = some (.int .i64 s) ∧ W0.cell? ⟨w.heap.size, 2, none⟩ = some (.slice a n cap))) (by kernel_rfl) ?_ (fun hHeld => ?_)
    · try dsimp only
      first | ((repeat' apply And.intro) <;> assumption) | (rw [hwdw.out]; ((repeat' apply And.intro) <;> assumption))
    rw [hwdw.out] at hHeld ⊢
    refine take_at 0 10 (v := ?_) rfl (by kernel_rfl) (by kernel_rfl) (by kernel_rfl) (by kernel_rfl) hpan (Or.inl ⟨by rfl, ?_⟩) (by assumption) ?_
    rotate_left
    · intro w hSw; (try dsimp only at hSw); go_simp; with_reducible rfl
    simp only [Act.put, List.setIfInBounds_toArray, List.set_cons_zero, List.set_cons_succ]
    refine wpAnyH_ready (rs := [1]) (by kernel_rfl) (by simp) ?_
    refine AllReadyH.cons rfl (fun K hK => ?_) AllReadyH.nil
    rw [if_pos (by rfl)]
    go_simp
    refine hcf1.mono ?_
    rintro e w5 ⟨rfl, hb5⟩
    have p0 := below_cell g0 hb5 hsw
    have p1 := below_cell g1 hb5 hsw
    have p2 := below_cell g2 hb5 hsw
    have hs5 : w.heap.size < w5.heap.size := by have := hb5.size; omega
    have hb15 := hidI (hb1d.out.trans (hb5.mono hb1d.out.size))
    refine hK.out _ _ ?_ (fun hHeld => ?_)
    · try dsimp only
      first | ((repeat' apply And.intro) <;> assumption) | (rw [hwdw.out]; ((repeat' apply And.intro) <;> assumption))
    clear hK
    try simp only [Act.put, List.setIfInBounds_toArray, List.set_cons_zero, List.set_cons_succ]
    refine take_at 2 12 (v := ?_) rfl (by kernel_rfl) (by kernel_rfl) (by kernel_rfl) (by kernel_rfl) hpan (Or.inl ⟨by rfl, ?_⟩) (by assumption) ?_
    rotate_left
    · intro w hSw; (try dsimp only at hSw); go_simp; with_reducible rfl
    simp only [Act.put, List.setIfInBounds_toArray, List.set_cons_zero, List.set_cons_succ]
    refine take_at 3 13 (v := undef) rfl (by kernel_rfl) (by kernel_rfl) (by kernel_rfl) (by kernel_rfl) hpan (Or.inr ⟨by kernel_rfl, rfl⟩) (by assumption) ?_
    simp only [Act.put, List.setIfInBounds_toArray, List.set_cons_zero, List.set_cons_succ]
    refine take_at 4 14 (v := undef) rfl (by kernel_rfl) (by kernel_rfl) (by kernel_rfl) (by kernel_rfl) hpan (Or.inr ⟨by kernel_rfl, rfl⟩) (by assumption) ?_
    simp only [Act.put, List.setIfInBounds_toArray, List.set_cons_zero, List.set_cons_succ]
    refine take_at 5 15 (v := undef) rfl (by kernel_rfl) (by kernel_rfl) (by kernel_rfl) (by kernel_rfl) hpan (Or.inr ⟨by kernel_rfl, rfl⟩) (by assumption) ?_
    simp only [Act.put, List.setIfInBounds_toArray, List.set_cons_zero, List.set_cons_succ]
    refine take_at 6 16 (v := undef) rfl (by kernel_rfl) (by kernel_rfl) (by kernel_rfl) (by kernel_rfl) hpan (Or.inr ⟨by kernel_rfl, rfl⟩) (by assumption) ?_
    simp only [Act.put, List.setIfInBounds_toArray, List.set_cons_zero, List.set_cons_succ]
    refine take_at 7 17 (v := undef) rfl (by kernel_rfl) (by kernel_rfl) (by kernel_rfl) (by kernel_rfl) hpan (Or.inr ⟨by kernel_rfl, rfl⟩) (by assumption) ?_
    simp only [Act.put, List.setIfInBounds_toArray, List.set_cons_zero, List.set_cons_succ]
    refine take_at 8 18 (v := ?_) rfl (by kernel_rfl) (by kernel_rfl) (by kernel_rfl) (by kernel_rfl) hpan (Or.inl ⟨by kernel_rfl, ?_⟩) (by assumption) ?_
    rotate_left
    · intro w hSw; (try dsimp only at hSw); go_simp; with_reducible rfl
    simp only [Act.put, List.setIfInBounds_toArray, List.set_cons_zero, List.set_cons_succ]
    refine take_at 9 19 (v := ?_) rfl (by kernel_rfl) (by kernel_rfl) (by kernel_rfl) (by kernel_rfl) hpan (Or.inl ⟨by kernel_rfl, ?_⟩) (by assumption) ?_
    rotate_left
    · intro w hSw; (try dsimp only at hSw); go_simp; with_reducible rfl
    simp only [Act.put, List.setIfInBounds_toArray, List.set_cons_zero, List.set_cons_succ]
    refine take_at 10 20 (v := undef) rfl (by kernel_rfl) (by kernel_rfl) (by kernel_rfl) (by kernel_rfl) hpan (Or.inr ⟨by kernel_rfl, rfl⟩) (by assumption) ?_
    simp only [Act.put, List.setIfInBounds_toArray, List.set_cons_zero, List.set_cons_succ]
    refine take_at 12 22 (v := undef) rfl (by kernel_rfl) (by kernel_rfl) (by kernel_rfl) (by kernel_rfl) hpan (Or.inr ⟨by kernel_rfl, rfl⟩) (by assumption) ?_
    simp only [Act.put, List.setIfInBounds_toArray, List.set_cons_zero, List.set_cons_succ]
    refine take_at 11 21 (v := undef) rfl (by kernel_rfl) (by kernel_rfl) (by kernel_rfl) (by kernel_rfl) hpan (Or.inr ⟨by kernel_rfl, rfl⟩) (by assumption) ?_
    simp only [Act.put, List.setIfInBounds_toArray, List.set_cons_zero, List.set_cons_succ]
    refine take_at 13 23 (v := undef) rfl (by kernel_rfl) (by kernel_rfl) (by kernel_rfl) (by kernel_rfl) hpan (Or.inr ⟨by kernel_rfl, rfl⟩) (by assumption) ?_
    simp only [Act.put, List.setIfInBounds_toArray, List.set_cons_zero, List.set_cons_succ]
    refine take_at 14 24 (v := ?_) rfl (by kernel_rfl) (by kernel_rfl) (by kernel_rfl) (by kernel_rfl) hpan (Or.inl ⟨by rfl, ?_⟩) (by assumption) ?_
    rotate_left
    · intro w hSw; (try dsimp only at hSw); go_simp; with_reducible rfl
    simp only [Act.put, List.setIfInBounds_toArray, List.set_cons_zero, List.set_cons_succ]
    refine take_at 15 2 (v := ?_) rfl (by kernel_rfl) (by kernel_rfl) (by kernel_rfl) (by kernel_rfl) hpan (Or.inl ⟨by rfl, ?_⟩) (by assumption) ?_
    rotate_left
    · intro w hSw; (try dsimp only at hSw); go_simp; with_reducible rfl
    simp only [Act.put, List.setIfInBounds_toArray, List.set_cons_zero, List.set_cons_succ]
    refine wpAnyH_done (by kernel_rfl) ?_ _
    refine hnorm _ _ ?_
    clear hnorm hpan
    repeat clear hHeld
    try simp only [Exit.then]
    have hbz := hb1d.out.trans (hb5.mono hb1d.out.size)
    go_wp2
    go_ret
    exact ⟨ret_bool hfin.out.symm, hbz⟩
  | true =>
    by_cases hf0 : (L : Int) = s
    case neg =>
      have hfin : Hid (F = false) := hidI (by rw [hF.out, decide_eq_false (fun c => hf0 ((hall.out rfl).2 c))]; rfl)
      replace hF := hidI hF
      have hfd : decide ((L : Int) = s) = false := decide_eq_false hf0
      have hfe : ((L : Int) == s) = false := by rw [beq_eq_false_iff_ne]; exact hf0
      replace hf0 := hidI hf0
      refine hideQ (fun _ _ d _ _ h => by cases d <;> exact h) (fun Q' hnorm hpan => ?_)
      refine wp_region_held_drew (S := (fun W0 => W0.cell? ⟨w.heap.size, 0, none⟩ = some (.int .i64 r) ∧ W0.cell? ⟨w.heap.size, 1, none⟩ = some (.int .i64 s) ∧ W0.cell? ⟨w.heap.size, 2, none⟩ = some (.slice a n cap))) (by kernel_rfl) ?_ (fun hHeld => ?_)
      · try dsimp only
        first | ((repeat' apply And.intro) <;> assumption) | (rw [hwdw.out]; ((repeat' apply And.intro) <;> assumption))
      rw [hwdw.out] at hHeld ⊢
      refine take_at 0 10 (v := ?_) rfl (by kernel_rfl) (by kernel_rfl) (by kernel_rfl) (by kernel_rfl) hpan (Or.inl ⟨by rfl, ?_⟩) (by assumption) ?_
      rotate_left
      · intro w hSw; (try dsimp only at hSw); go_simp; with_reducible rfl
      simp only [Act.put, List.setIfInBounds_toArray, List.set_cons_zero, List.set_cons_succ]
      refine wpAnyH_ready (rs := [1]) (by kernel_rfl) (by simp) ?_
      refine AllReadyH.cons rfl (fun K hK => ?_) AllReadyH.nil
      rw [if_pos (by rfl)]
      go_simp
      refine hcf1.mono ?_
      rintro e w5 ⟨rfl, hb5⟩
      have p0 := below_cell g0 hb5 hsw
      have p1 := below_cell g1 hb5 hsw
      have p2 := below_cell g2 hb5 hsw
      have hs5 : w.heap.size < w5.heap.size := by have := hb5.size; omega
      have hb15 := hidI (hb1d.out.trans (hb5.mono hb1d.out.size))
      refine hK.out _ _ ?_ (fun hHeld => ?_)
      · try dsimp only
        first | ((repeat' apply And.intro) <;> assumption) | (rw [hwdw.out]; ((repeat' apply And.intro) <;> assumption))
      clear hK
      try simp only [Act.put, List.setIfInBounds_toArray, List.set_cons_zero, List.set_cons_succ]
      refine take_at 2 12 (v := ?_) rfl (by kernel_rfl) (by kernel_rfl) (by kernel_rfl) (by kernel_rfl) hpan (Or.inl ⟨by rfl, ?_⟩) (by assumption) ?_
      rotate_left
      · intro w hSw; (try dsimp only at hSw); go_simp; with_reducible rfl
      simp only [Act.put, List.setIfInBounds_toArray, List.set_cons_zero, List.set_cons_succ]
      refine take_at 3 13 (v := ?_) rfl (by kernel_rfl) (by kernel_rfl) (by kernel_rfl) (by kernel_rfl) hpan (Or.inl ⟨by kernel_rfl, ?_⟩) (by assumption) ?_
      rotate_left
      · intro w hSw; (try dsimp only at hSw); go_simp; with_reducible rfl
      simp only [Act.put, List.setIfInBounds_toArray, List.set_cons_zero, List.set_cons_succ]
      refine take_at 4 14 (v := ?_) rfl (by kernel_rfl) (by kernel_rfl) (by kernel_rfl) (by kernel_rfl) hpan (Or.inl ⟨by kernel_rfl, ?_⟩) (by assumption) ?_
      rotate_left
      · intro w hSw; (try dsimp only at hSw); go_simp; with_reducible rfl
      simp only [Act.put, List.setIfInBounds_toArray, List.set_cons_zero, List.set_cons_succ]
      refine take_at 5 15 (v := ?_) rfl (by kernel_rfl) (by kernel_rfl) (by kernel_rfl) (by kernel_rfl) hpan (Or.inl ⟨by kernel_rfl, ?_⟩) (by assumption) ?_
      rotate_left
      · intro w hSw; (try dsimp only at hSw); go_simp; with_reducible rfl
      simp only [Act.put, List.setIfInBounds_toArray, List.set_cons_zero, List.set_cons_succ]
      refine take_at 6 16 (v := ?_) rfl (by kernel_rfl) (by kernel_rfl) (by kernel_rfl) (by kernel_rfl) hpan (Or.inl ⟨by kernel_rfl, ?_⟩) (by assumption) ?_
      rotate_left
      · intro w hSw; (try dsimp only at hSw); go_simp; with_reducible rfl
      simp only [Act.put, List.setIfInBounds_toArray, List.set_cons_zero, List.set_cons_succ]
      refine take_at 7 17 (v := ?_) rfl (by kernel_rfl) (by kernel_rfl) (by kernel_rfl) (by kernel_rfl) hpan (Or.inl ⟨by kernel_rfl, ?_⟩) (by assumption) ?_
      rotate_left
      · intro w hSw; (try dsimp only at hSw); go_simp; with_reducible rfl
      simp only [Act.put, List.setIfInBounds_toArray, List.set_cons_zero, List.set_cons_succ]
      try rw [hfd]
      try rw [hfe]
      refine take_at 8 18 (v := ?_) rfl (by kernel_rfl) (by kernel_rfl) (by kernel_rfl) (by kernel_rfl) hpan (Or.inl ⟨by kernel_rfl, ?_⟩) (by assumption) ?_
      rotate_left
      · intro w hSw; (try dsimp only at hSw); go_simp; with_reducible rfl
      simp only [Act.put, List.setIfInBounds_toArray, List.set_cons_zero, List.set_cons_succ]
      refine take_at 9 19 (v := ?_) rfl (by kernel_rfl) (by kernel_rfl) (by kernel_rfl) (by kernel_rfl) hpan (Or.inl ⟨by kernel_rfl, ?_⟩) (by assumption) ?_
      rotate_left
      · intro w hSw; (try dsimp only at hSw); go_simp; with_reducible rfl
      simp only [Act.put, List.setIfInBounds_toArray, List.set_cons_zero, List.set_cons_succ]
      refine take_at 10 20 (v := undef) rfl (by kernel_rfl) (by kernel_rfl) (by kernel_rfl) (by kernel_rfl) hpan (Or.inr ⟨by kernel_rfl, rfl⟩) (by assumption) ?_
      simp only [Act.put, List.setIfInBounds_toArray, List.set_cons_zero, List.set_cons_succ]
      refine take_at 12 22 (v := undef) rfl (by kernel_rfl) (by kernel_rfl) (by kernel_rfl) (by kernel_rfl) hpan (Or.inr ⟨by kernel_rfl, rfl⟩) (by assumption) ?_
      simp only [Act.put, List.setIfInBounds_toArray, List.set_cons_zero, List.set_cons_succ]
      refine take_at 11 21 (v := undef) rfl (by kernel_rfl) (by kernel_rfl) (by kernel_rfl) (by kernel_rfl) hpan (Or.inr ⟨by kernel_rfl, rfl⟩) (by assumption) ?_
      simp only [Act.put, List.setIfInBounds_toArray, List.set_cons_zero, List.set_cons_succ]
      refine take_at 13 23 (v := undef) rfl (by kernel_rfl) (by kernel_rfl) (by kernel_rfl) (by kernel_rfl) hpan (Or.inr ⟨by kernel_rfl, rfl⟩) (by assumption) ?_
      simp only [Act.put, List.setIfInBounds_toArray, List.set_cons_zero, List.set_cons_succ]
      refine take_at 14 24 (v := ?_) rfl (by kernel_rfl) (by kernel_rfl) (by kernel_rfl) (by kernel_rfl) hpan (Or.inl ⟨by rfl, ?_⟩) (by assumption) ?_
      rotate_left
      · intro w hSw; (try dsimp only at hSw); go_simp; with_reducible rfl
      simp only [Act.put, List.setIfInBounds_toArray, List.set_cons_zero, List.set_cons_succ]
      refine take_at 15 2 (v := ?_) rfl (by kernel_rfl) (by kernel_rfl) (by kernel_rfl) (by kernel_rfl) hpan (Or.inl ⟨by rfl, ?_⟩) (by assumption) ?_
      rotate_left
      · intro w hSw; (try dsimp only at hSw); go_simp; with_reducible rfl
      simp only [Act.put, List.setIfInBounds_toArray, List.set_cons_zero, List.set_cons_succ]
      refine wpAnyH_done (by kernel_rfl) ?_ _
      refine hnorm _ _ ?_
      clear hnorm hpan
      repeat clear hHeld
      try simp only [Exit.then]
      have hbz := hb1d.out.trans (hb5.mono hb1d.out.size)
      go_wp2
      go_ret
      exact ⟨ret_bool hfin.out.symm, hbz⟩
    case pos =>
      have hfin : Hid (F = eqG r ZS ZE r s es) := hidI (by rw [hF.out, decide_eq_true ((hall.out rfl).1 hf0)]; rfl)
      replace hF := hidI hF
      have hfd : decide ((L : Int) = s) = true := decide_eq_true hf0
      have hfe : ((L : Int) == s) = true := by rw [beq_iff_eq]; exact hf0
      replace hf0 := hidI hf0
      refine hideQ (fun _ _ d _ _ h => by cases d <;> exact h) (fun Q' hnorm hpan => ?_)
      refine wp_region_held_drew (S := (fun W0 => W0.cell? ⟨w.heap.size, 0, none⟩ = some (.int .i64 r) ∧ W0.cell? ⟨w.heap.size, 1, none⟩ = some (.int .i64 s) ∧ W0.cell? ⟨w.heap.size, 2, none⟩ = some (.slice a n cap))) (by kernel_rfl) ?_ (fun hHeld => ?_)
      · try dsimp only
        first | ((repeat' apply And.intro) <;> assumption) | (rw [hwdw.out]; ((repeat' apply And.intro) <;> assumption))
      rw [hwdw.out] at hHeld ⊢
      refine take_at 0 10 (v := ?_) rfl (by kernel_rfl) (by kernel_rfl) (by kernel_rfl) (by kernel_rfl) hpan (Or.inl ⟨by rfl, ?_⟩) (by assumption) ?_
      rotate_left
      · intro w hSw; (try dsimp only at hSw); go_simp; with_reducible rfl
      simp only [Act.put, List.setIfInBounds_toArray, List.set_cons_zero, List.set_cons_succ]
      refine wpAnyH_ready (rs := [1]) (by kernel_rfl) (by simp) ?_
      refine AllReadyH.cons rfl (fun K hK => ?_) AllReadyH.nil
      rw [if_pos (by rfl)]
      go_simp
      refine hcf1.mono ?_
      rintro e w5 ⟨rfl, hb5⟩
      have p0 := below_cell g0 hb5 hsw
      have p1 := below_cell g1 hb5 hsw
      have p2 := below_cell g2 hb5 hsw
      have hs5 : w.heap.size < w5.heap.size := by have := hb5.size; omega
      have hb15 := hidI (hb1d.out.trans (hb5.mono hb1d.out.size))
      refine hK.out _ _ ?_ (fun hHeld => ?_)
      · try dsimp only
        first | ((repeat' apply And.intro) <;> assumption) | (rw [hwdw.out]; ((repeat' apply And.intro) <;> assumption))
      clear hK
      try simp only [Act.put, List.setIfInBounds_toArray, List.set_cons_zero, List.set_cons_succ]
      refine take_at 2 12 (v := ?_) rfl (by kernel_rfl) (by kernel_rfl) (by kernel_rfl) (by kernel_rfl) hpan (Or.inl ⟨by rfl, ?_⟩) (by assumption) ?_
      rotate_left
      · intro w hSw; (try dsimp only at hSw); go_simp; with_reducible rfl
      simp only [Act.put, List.setIfInBounds_toArray, List.set_cons_zero, List.set_cons_succ]
      refine take_at 3 13 (v := ?_) rfl (by kernel_rfl) (by kernel_rfl) (by kernel_rfl) (by kernel_rfl) hpan (Or.inl ⟨by kernel_rfl, ?_⟩) (by assumption) ?_
      rotate_left
      · intro w hSw; (try dsimp only at hSw); go_simp; with_reducible rfl
      simp only [Act.put, List.setIfInBounds_toArray, List.set_cons_zero, List.set_cons_succ]
      refine take_at 4 14 (v := ?_) rfl (by kernel_rfl) (by kernel_rfl) (by kernel_rfl) (by kernel_rfl) hpan (Or.inl ⟨by kernel_rfl, ?_⟩) (by assumption) ?_
      rotate_left
      · intro w hSw; (try dsimp only at hSw); go_simp; with_reducible rfl
      simp only [Act.put, List.setIfInBounds_toArray, List.set_cons_zero, List.set_cons_succ]
      refine take_at 5 15 (v := ?_) rfl (by kernel_rfl) (by kernel_rfl) (by kernel_rfl) (by kernel_rfl) hpan (Or.inl ⟨by kernel_rfl, ?_⟩) (by assumption) ?_
      rotate_left
      · intro w hSw; (try dsimp only at hSw); go_simp; with_reducible rfl
      simp only [Act.put, List.setIfInBounds_toArray, List.set_cons_zero, List.set_cons_succ]
      refine take_at 6 16 (v := ?_) rfl (by kernel_rfl) (by kernel_rfl) (by kernel_rfl) (by kernel_rfl) hpan (Or.inl ⟨by kernel_rfl, ?_⟩) (by assumption) ?_
      rotate_left
      · intro w hSw; (try dsimp only at hSw); go_simp; with_reducible rfl
      simp only [Act.put, List.setIfInBounds_toArray, List.set_cons_zero, List.set_cons_succ]
      refine take_at 7 17 (v := ?_) rfl (by kernel_rfl) (by kernel_rfl) (by kernel_rfl) (by kernel_rfl) hpan (Or.inl ⟨by kernel_rfl, ?_⟩) (by assumption) ?_
      rotate_left
      · intro w hSw; (try dsimp only at hSw); go_simp; with_reducible rfl
      simp only [Act.put, List.setIfInBounds_toArray, List.set_cons_zero, List.set_cons_succ]
      try rw [hfd]
      try rw [hfe]
      refine take_at 8 18 (v := ?_) rfl (by kernel_rfl) (by kernel_rfl) (by kernel_rfl) (by kernel_rfl) hpan (Or.inl ⟨by kernel_rfl, ?_⟩) (by assumption) ?_
      rotate_left
      · intro w hSw; (try dsimp only at hSw); go_simp; with_reducible rfl
      simp only [Act.put, List.setIfInBounds_toArray, List.set_cons_zero, List.set_cons_succ]
      refine take_at 9 19 (v := ?_) rfl (by kernel_rfl) (by kernel_rfl) (by kernel_rfl) (by kernel_rfl) hpan (Or.inl ⟨by kernel_rfl, ?_⟩) (by assumption) ?_
      rotate_left
      · intro w hSw; (try dsimp only at hSw); go_simp; with_reducible rfl
      simp only [Act.put, List.setIfInBounds_toArray, List.set_cons_zero, List.set_cons_succ]
      refine take_at 10 20 (v := ?_) rfl (by kernel_rfl) (by kernel_rfl) (by kernel_rfl) (by kernel_rfl) hpan (Or.inl ⟨by kernel_rfl, ?_⟩) (by assumption) ?_
      rotate_left
      · intro w hSw; (try dsimp only at hSw); go_simp; with_reducible rfl
      simp only [Act.put, List.setIfInBounds_toArray, List.set_cons_zero, List.set_cons_succ]
      refine take_at 12 22 (v := ?_) rfl (by kernel_rfl) (by kernel_rfl) (by kernel_rfl) (by kernel_rfl) hpan (Or.inl ⟨by kernel_rfl, ?_⟩) (by assumption) ?_
      rotate_left
      · intro w hSw; (try dsimp only at hSw); go_simp; with_reducible rfl
      simp only [Act.put, List.setIfInBounds_toArray, List.set_cons_zero, List.set_cons_succ]
      refine wpAnyH_ready (rs := [11]) (by kernel_rfl) (by simp) ?_
      refine AllReadyH.cons rfl (fun K hK => ?_) AllReadyH.nil
      rw [if_pos (by kernel_rfl)]
      go_simp
      refine (hcg.out w5 ((h.out.below hb15.out).mono hb15.out.size)).mono ?_
      rintro e w6 ⟨ea, ec, rfl, hrow6, hb6⟩
      have u0 := below_cell p0 hb6 hs5
      have u1 := below_cell p1 hb6 hs5
      have u2 := below_cell p2 hb6 hs5
      have hs6 : w.heap.size < w6.heap.size := by have := hb6.size; omega
      have hb16 := hidI (hb15.out.trans (hb6.mono hb15.out.size))
      have heq := progEqG w6 r ZS r s (.slice ea ZE.length ec) (.slice a n cap) ZE es hrow6.read ((h.out.below hb16.out).mono hb16.out.size) (by have := hn.out; omega) (by have := hn.out; omega)
      rw [← hfin.out] at heq
      replace hrow6 := hidI hrow6
      refine hK.out _ _ ?_ (fun hHeld => ?_)
      · try dsimp only
        first | ((repeat' apply And.intro) <;> assumption) | (rw [hwdw.out]; ((repeat' apply And.intro) <;> assumption))
      clear hK
      try simp only [Act.put, List.setIfInBounds_toArray, List.set_cons_zero, List.set_cons_succ]
      refine wpAnyH_ready (rs := [13]) (by kernel_rfl) (by simp) ?_
      refine AllReadyH.cons rfl (fun K hK => ?_) AllReadyH.nil
      rw [if_pos (by kernel_rfl)]
      go_simp
      refine heq.mono ?_
      rintro e w7 ⟨rfl, hb7⟩
      have x0 := below_cell u0 hb7 hs6
      have x1 := below_cell u1 hb7 hs6
      have x2 := below_cell u2 hb7 hs6
      have hb17 := hidI (hb16.out.trans (hb7.mono hb16.out.size))
      refine hK.out _ _ ?_ (fun hHeld => ?_)
      · try dsimp only
        first | ((repeat' apply And.intro) <;> assumption) | (rw [hwdw.out]; ((repeat' apply And.intro) <;> assumption))
      clear hK
      try simp only [Act.put, List.setIfInBounds_toArray, List.set_cons_zero, List.set_cons_succ]
      refine take_at 14 24 (v := ?_) rfl (by kernel_rfl) (by kernel_rfl) (by kernel_rfl) (by kernel_rfl) hpan (Or.inl ⟨by rfl, ?_⟩) (by assumption) ?_
      rotate_left
      · intro w hSw; (try dsimp only at hSw); go_simp; with_reducible rfl
      simp only [Act.put, List.setIfInBounds_toArray, List.set_cons_zero, List.set_cons_succ]
      refine take_at 15 2 (v := ?_) rfl (by kernel_rfl) (by kernel_rfl) (by kernel_rfl) (by kernel_rfl) hpan (Or.inl ⟨by rfl, ?_⟩) (by assumption) ?_
      rotate_left
      · intro w hSw; (try dsimp only at hSw); go_simp; with_reducible rfl
      simp only [Act.put, List.setIfInBounds_toArray, List.set_cons_zero, List.set_cons_succ]
      refine wpAnyH_done (by kernel_rfl) ?_ _
      refine hnorm _ _ ?_
      clear hnorm hpan
      repeat clear hHeld
      try simp only [Exit.then]
      have hbz := hb17.out
      go_wp2
      go_ret
      exact ⟨rfl, hbz⟩
end Go.Proofs.Ytecceaijdjnflaa
