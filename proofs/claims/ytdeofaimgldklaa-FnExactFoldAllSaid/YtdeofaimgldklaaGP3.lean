/- Graphs, the program: IsGraph. -/
import Derived.Test.YtdeofaimgldklaaGP2
namespace Go.Proofs.Ytdeofaimgldklaa
open Go.RowKit
set_option linter.unusedVariables false
set_option linter.unusedSimpArgs false

set_option maxHeartbeats 6400000 in
theorem progIsGr (w : World) (r s : Int) (v : Value) (es : List Ed) (h : ReadE w.heap.size w v es) (hl : es.length ≤ 1000000000) :
    Calls Try.prog 45 #[.agg #[.int .i64 r, .int .i64 s, v]] w (LwBool w (isGr r s es)) := by
  obtain ⟨a, cap, rfl, hnc⟩ := h.form
  obtain ⟨n, hn⟩ : ∃ n, n = es.length := ⟨_, rfl⟩
  rw [← hn] at hl hnc ⊢
  rw [← hn] at h
  obtain ⟨w1, hw1⟩ : ∃ w1, w1 = w.alloc (.cells #[.int .i64 r, .int .i64 s, .slice a n cap] 32) := ⟨_, rfl⟩
  have hb1 : Below w.heap.size w w1 := by rw [hw1]; exact (Below.refl _ _).alloc (Nat.le_refl _) _
  have hs1 : w.heap.size < w1.heap.size := by rw [hw1]; simp
  obtain ⟨g0, g1, g2⟩ := box3 hw1
  have hrd := hidI ((h.below hb1).mono hb1.size)
  obtain ⟨F, hF⟩ : ∃ F, F = isGr r s es := ⟨_, rfl⟩
  rw [← hF]
  have hif : F = true ↔ (∀ i, i < es.length → placeOk r s es i = true) ∧ 1 ≤ r ∧ r ≤ 3 ∧ 1 ≤ s ∧ s ≤ 40 ∧ es.length ≤ 120 := by rw [hF]; exact isGr_iff
  rw [← hn] at hif
  have hno : ¬ ((∀ i, i < n → placeOk r s es i = true) ∧ 1 ≤ r ∧ r ≤ 3 ∧ 1 ≤ s ∧ s ≤ 40 ∧ n ≤ 120) → F = false := by
    intro hq
    cases hF2 : F with
    | false => rfl
    | true => exact absurd (hif.1 hF2) hq
  have i1 := gpRank w1 r
  obtain ⟨b1, hb1e⟩ : ∃ b, b = decide (1 ≤ r ∧ r ≤ 3) := ⟨_, rfl⟩
  rw [← hb1e] at i1
  replace hn := hidI hn
  replace hw1 := hidI hw1
  replace h := hidI h
  replace hF := hidI hF
  replace hif := hidI hif
  replace hno := hidI hno
  go_enter Try.func45, Try.ntmps45
  go_wp2_with fail
  rw [← hw1.out]
  refine i1.mono ?_
  rintro e w2 ⟨rfl, rfl⟩
  cases b1 with
  | false =>
    have hfin : F = false := hno.out (by have := of_decide_eq_false hb1e.symm; omega)
    replace hfin := hidI hfin
    replace hb1e := hidI hb1e
    go_wp2
    go_ret
    exact ⟨ret_bool hfin.out.symm, hb1⟩
  | true =>
  have hr := of_decide_eq_true hb1e.symm
  replace hb1e := hidI hb1e
  by_cases h2 : s < 1
  · have hfin : F = false := hno.out (by omega)
    have d2 : decide (s < 1) = true := by simp [h2]
    replace hfin := hidI hfin
    go_wp2
    go_ret
    exact ⟨ret_bool hfin.out.symm, hb1⟩
  have d2 : decide (s < 1) = false := by simp; omega
  by_cases h3 : 40 < s
  · have hfin : F = false := hno.out (by omega)
    have d3 : decide (40 < s) = true := by simp [h3]
    replace hfin := hidI hfin
    go_wp2
    go_ret
    exact ⟨ret_bool hfin.out.symm, hb1⟩
  have d3 : decide (40 < s) = false := by simp; omega
  by_cases h4 : 120 < n
  · have hfin : F = false := hno.out (by omega)
    have d4 : decide ((120 : Int) < (n : Int)) = true := by simp; omega
    replace hfin := hidI hfin
    go_wp2
    go_ret
    exact ⟨ret_bool hfin.out.symm, hb1⟩
  have d4 : decide ((120 : Int) < (n : Int)) = false := by simp; omega
  have hs : 1 ≤ s ∧ s ≤ 40 := by omega
  have hn120 : n ≤ 120 := by omega
  go_wp2
  clear d2 d3 d4 h2 h3 h4
  go_loopg [28] n (fun g i wr => ∃ k : Nat, k + g = n ∧ i = .int .i64 k ∧ Hid (∀ j, j < k → placeOk r s es j = true) ∧ Hid (Below w1.heap.size w1 wr))
  case atStart => exact ⟨0, by omega, rfl, hidI (fun j h => by omega), hidI (Below.refl _ _)⟩
  case round =>
    obtain ⟨k, hk, rfl, hp, hb⟩ := hrel
    have hsz := hb.out.size
    by_cases hlt : k < n
    · obtain ⟨b, off, hab, hB, c0, c1, c2⟩ := ReadE.at3 (hrd.out.below hb.out) k (by have := hn.out; omega)
      obtain ⟨ef, hef⟩ : ∃ z, z = (es.getD k e0).1 := ⟨_, rfl⟩
      obtain ⟨el, hel⟩ : ∃ z, z = (es.getD k e0).2.1 := ⟨_, rfl⟩
      obtain ⟨et, het⟩ : ∃ z, z = (es.getD k e0).2.2 := ⟨_, rfl⟩
      rw [← hef] at c0
      rw [← hel] at c1
      rw [← het] at c2
      have hke : es.getD k e0 = (ef, el, et) := by rw [hef, hel, het]
      have hki : (k : Int) < (n : Int) := by omega
      subst hab
      obtain ⟨wn, hwn⟩ : ∃ wn, wn = wr.alloc (.cells #[.int .i64 ef, .int .i64 el, .int .i64 et] 68) := ⟨_, rfl⟩
      obtain ⟨q3, q4, q5⟩ := box3 hwn
      have hbn : Below wr.heap.size wr wn := by rw [hwn]; exact (Below.refl _ _).alloc (Nat.le_refl _) _
      have hbx : wr.heap.size < wn.heap.size := by rw [hwn]; simp
      have hbw : w.heap.size < wn.heap.size := by omega
      have hbl : b < wn.heap.size := by omega
      have u0 := below_cell g0 hb.out hs1
      have u1 := below_cell g1 hb.out hs1
      have u2 := below_cell g2 hb.out hs1
      have q0 := below_cell u0 hbn (by omega)
      have q1 := below_cell u1 hbn (by omega)
      have q2 := below_cell u2 hbn (by omega)
      have hce := gpFits wn.drew r s (some ⟨b, off, none⟩) n cap ef el et hr hs
      obtain ⟨bo, hbo⟩ : ∃ bo, bo = edgeOk r s (ef, el, et) := ⟨_, rfl⟩
      rw [← hbo] at hce
      have hbad : bo = false → F = false := by
        intro h
        rw [hF.out]
        exact isGr_not (k := k) (by have := hn.out; omega) (by unfold placeOk; rw [hke, ← hbo, h]; rfl)
      have hdr := below_dn (Below.refl wn.heap.size wn) 1
      replace hbad := hidI hbad
      replace hef := hidI hef
      replace hel := hidI hel
      replace het := hidI het
      replace hwn := hidI hwn
      replace hk := hidI hk
      rcases Nat.eq_zero_or_pos k with hk0 | hk0
      · subst hk0
        rw [Nat.zero_mul, Nat.add_zero] at c0 c1 c2
        have hnx : bo = true → ∀ j, j < 0 + 1 → placeOk r s es j = true := by
          intro h j hj
          obtain rfl : j = 0 := by omega
          unfold placeOk
          rw [hke, ← hbo, h]
          rfl
        have dk : decide ((0 : Int) < (0 : Int)) = false := by simp
        replace hbo := hidI hbo
        replace hke := hidI hke
        go_wp2
        rw [← hwn.out]
        clear c0 c1 c2 u0 u1 u2
        cases bo with
        | false =>
          have hfin := hidI (hbad.out rfl)
          replace hnx := hidI hnx
          refine hideQ (fun _ _ d _ _ h => by cases d <;> exact h) (fun Q' hnorm hpan => ?_)
          refine wp_region_held_drew (S := (fun z => z.cell? ⟨w.heap.size, 0, none⟩ = some (.int .i64 r) ∧ z.cell? ⟨w.heap.size, 1, none⟩ = some (.int .i64 s) ∧ z.cell? ⟨w.heap.size, 2, none⟩ = some (.slice (some ⟨b, off, none⟩) n cap) ∧ z.cell? ⟨wr.heap.size, 0, none⟩ = some (.int .i64 ef) ∧ z.cell? ⟨wr.heap.size, 1, none⟩ = some (.int .i64 el) ∧ z.cell? ⟨wr.heap.size, 2, none⟩ = some (.int .i64 et))) (by kernel_rfl) ?_ (fun hHeld => ?_)
          · try dsimp only
            ((repeat' apply And.intro) <;> assumption)
          refine take_at 0 33 (v := ?_) rfl (by kernel_rfl) (by kernel_rfl) (by kernel_rfl) (by kernel_rfl) hpan (Or.inl ⟨by rfl, ?_⟩) (by assumption) ?_
          rotate_left
          · intro w hSw; (try dsimp only at hSw); go_simp; with_reducible rfl
          simp only [Act.put, List.setIfInBounds_toArray, List.set_cons_zero, List.set_cons_succ]
          refine take_at 1 34 (v := ?_) rfl (by kernel_rfl) (by kernel_rfl) (by kernel_rfl) (by kernel_rfl) hpan (Or.inl ⟨by rfl, ?_⟩) (by assumption) ?_
          rotate_left
          · intro w hSw; (try dsimp only at hSw); go_simp; with_reducible rfl
          simp only [Act.put, List.setIfInBounds_toArray, List.set_cons_zero, List.set_cons_succ]
          refine wpAnyH_ready (rs := [2]) (by kernel_rfl) (by simp) ?_
          refine AllReadyH.cons rfl (fun K hK => ?_) AllReadyH.nil
          rw [if_pos (by rfl)]
          go_simp
          go_at_call 62
          (with_reducible refine hce.mono ?_)
          rintro e w2 ⟨rfl, hb2'⟩
          have hbq := hdr.trans hb2'
          have p0 := below_cell q0 hbq hbw
          have p1 := below_cell q1 hbq hbw
          have p2 := below_cell q2 hbq hbw
          have p3 := below_cell q3 hbq hbx
          have p4 := below_cell q4 hbq hbx
          have p5 := below_cell q5 hbq hbx
          clear hce
          refine hK.out _ _ ?_ (fun hHeld => ?_)
          · try dsimp only
            ((repeat' apply And.intro) <;> assumption)
          clear hK
          try simp only [Act.put, List.setIfInBounds_toArray, List.set_cons_zero, List.set_cons_succ]
          refine take_at 3 36 (v := ?_) rfl (by kernel_rfl) (by kernel_rfl) (by kernel_rfl) (by kernel_rfl) hpan (Or.inl ⟨by rfl, ?_⟩) (by assumption) ?_
          rotate_left
          · intro w hSw; (try dsimp only at hSw); go_simp; with_reducible rfl
          simp only [Act.put, List.setIfInBounds_toArray, List.set_cons_zero, List.set_cons_succ]
          refine take_at 4 37 (v := ?_) rfl (by kernel_rfl) (by kernel_rfl) (by kernel_rfl) (by kernel_rfl) hpan (Or.inl ⟨by rfl, ?_⟩) (by assumption) ?_
          rotate_left
          · intro w hSw; (try dsimp only at hSw); go_simp; with_reducible rfl
          simp only [Act.put, List.setIfInBounds_toArray, List.set_cons_zero, List.set_cons_succ]
          refine take_at 5 38 (v := undef) rfl (by kernel_rfl) (by kernel_rfl) (by kernel_rfl) (by kernel_rfl) hpan (Or.inr ⟨by kernel_rfl, rfl⟩) (by assumption) ?_
          simp only [Act.put, List.setIfInBounds_toArray, List.set_cons_zero, List.set_cons_succ]
          refine take_at 6 39 (v := undef) rfl (by kernel_rfl) (by kernel_rfl) (by kernel_rfl) (by kernel_rfl) hpan (Or.inr ⟨by kernel_rfl, rfl⟩) (by assumption) ?_
          simp only [Act.put, List.setIfInBounds_toArray, List.set_cons_zero, List.set_cons_succ]
          refine take_at 7 40 (v := undef) rfl (by kernel_rfl) (by kernel_rfl) (by kernel_rfl) (by kernel_rfl) hpan (Or.inr ⟨by kernel_rfl, rfl⟩) (by assumption) ?_
          simp only [Act.put, List.setIfInBounds_toArray, List.set_cons_zero, List.set_cons_succ]
          refine take_at 8 41 (v := undef) rfl (by kernel_rfl) (by kernel_rfl) (by kernel_rfl) (by kernel_rfl) hpan (Or.inr ⟨by kernel_rfl, rfl⟩) (by assumption) ?_
          simp only [Act.put, List.setIfInBounds_toArray, List.set_cons_zero, List.set_cons_succ]
          refine take_at 9 42 (v := undef) rfl (by kernel_rfl) (by kernel_rfl) (by kernel_rfl) (by kernel_rfl) hpan (Or.inr ⟨by kernel_rfl, rfl⟩) (by assumption) ?_
          simp only [Act.put, List.setIfInBounds_toArray, List.set_cons_zero, List.set_cons_succ]
          refine take_at 10 43 (v := undef) rfl (by kernel_rfl) (by kernel_rfl) (by kernel_rfl) (by kernel_rfl) hpan (Or.inr ⟨by kernel_rfl, rfl⟩) (by assumption) ?_
          simp only [Act.put, List.setIfInBounds_toArray, List.set_cons_zero, List.set_cons_succ]
          refine take_at 11 44 (v := undef) rfl (by kernel_rfl) (by kernel_rfl) (by kernel_rfl) (by kernel_rfl) hpan (Or.inr ⟨by kernel_rfl, rfl⟩) (by assumption) ?_
          simp only [Act.put, List.setIfInBounds_toArray, List.set_cons_zero, List.set_cons_succ]
          refine take_at 12 45 (v := undef) rfl (by kernel_rfl) (by kernel_rfl) (by kernel_rfl) (by kernel_rfl) hpan (Or.inr ⟨by kernel_rfl, rfl⟩) (by assumption) ?_
          simp only [Act.put, List.setIfInBounds_toArray, List.set_cons_zero, List.set_cons_succ]
          refine take_at 13 46 (v := undef) rfl (by kernel_rfl) (by kernel_rfl) (by kernel_rfl) (by kernel_rfl) hpan (Or.inr ⟨by kernel_rfl, rfl⟩) (by assumption) ?_
          simp only [Act.put, List.setIfInBounds_toArray, List.set_cons_zero, List.set_cons_succ]
          refine take_at 14 47 (v := undef) rfl (by kernel_rfl) (by kernel_rfl) (by kernel_rfl) (by kernel_rfl) hpan (Or.inr ⟨by kernel_rfl, rfl⟩) (by assumption) ?_
          simp only [Act.put, List.setIfInBounds_toArray, List.set_cons_zero, List.set_cons_succ]
          refine take_at 15 48 (v := undef) rfl (by kernel_rfl) (by kernel_rfl) (by kernel_rfl) (by kernel_rfl) hpan (Or.inr ⟨by kernel_rfl, rfl⟩) (by assumption) ?_
          simp only [Act.put, List.setIfInBounds_toArray, List.set_cons_zero, List.set_cons_succ]
          refine take_at 16 49 (v := undef) rfl (by kernel_rfl) (by kernel_rfl) (by kernel_rfl) (by kernel_rfl) hpan (Or.inr ⟨by kernel_rfl, rfl⟩) (by assumption) ?_
          simp only [Act.put, List.setIfInBounds_toArray, List.set_cons_zero, List.set_cons_succ]
          refine take_at 17 50 (v := undef) rfl (by kernel_rfl) (by kernel_rfl) (by kernel_rfl) (by kernel_rfl) hpan (Or.inr ⟨by kernel_rfl, rfl⟩) (by assumption) ?_
          simp only [Act.put, List.setIfInBounds_toArray, List.set_cons_zero, List.set_cons_succ]
          refine take_at 18 51 (v := ?_) rfl (by kernel_rfl) (by kernel_rfl) (by kernel_rfl) (by kernel_rfl) hpan (Or.inl ⟨by rfl, ?_⟩) (by assumption) ?_
          rotate_left
          · intro w hSw; (try dsimp only at hSw); go_simp; with_reducible rfl
          simp only [Act.put, List.setIfInBounds_toArray, List.set_cons_zero, List.set_cons_succ]
          refine wpAnyH_done (by kernel_rfl) ?_ _
          refine hnorm _ _ ?_
          clear hnorm hpan
          repeat clear hHeld
          try simp only [Exit.then]
          have hbz := hb1.trans ((hb.out.trans ((hbn.trans (hbq.mono hbn.size)).mono hsz)).mono hb1.size)
          clear hbq hb2'
          go_wp2
          go_ret
          exact ⟨ret_bool hfin.out.symm, hbz⟩
        | true =>
          replace hnx := hidI (hnx rfl)
          refine hideQ (fun _ _ d _ _ h => by cases d <;> exact h) (fun Q' hnorm hpan => ?_)
          refine wp_region_held_drew (S := (fun z => z.cell? ⟨w.heap.size, 0, none⟩ = some (.int .i64 r) ∧ z.cell? ⟨w.heap.size, 1, none⟩ = some (.int .i64 s) ∧ z.cell? ⟨w.heap.size, 2, none⟩ = some (.slice (some ⟨b, off, none⟩) n cap) ∧ z.cell? ⟨wr.heap.size, 0, none⟩ = some (.int .i64 ef) ∧ z.cell? ⟨wr.heap.size, 1, none⟩ = some (.int .i64 el) ∧ z.cell? ⟨wr.heap.size, 2, none⟩ = some (.int .i64 et))) (by kernel_rfl) ?_ (fun hHeld => ?_)
          · try dsimp only
            ((repeat' apply And.intro) <;> assumption)
          refine take_at 0 33 (v := ?_) rfl (by kernel_rfl) (by kernel_rfl) (by kernel_rfl) (by kernel_rfl) hpan (Or.inl ⟨by rfl, ?_⟩) (by assumption) ?_
          rotate_left
          · intro w hSw; (try dsimp only at hSw); go_simp; with_reducible rfl
          simp only [Act.put, List.setIfInBounds_toArray, List.set_cons_zero, List.set_cons_succ]
          refine take_at 1 34 (v := ?_) rfl (by kernel_rfl) (by kernel_rfl) (by kernel_rfl) (by kernel_rfl) hpan (Or.inl ⟨by rfl, ?_⟩) (by assumption) ?_
          rotate_left
          · intro w hSw; (try dsimp only at hSw); go_simp; with_reducible rfl
          simp only [Act.put, List.setIfInBounds_toArray, List.set_cons_zero, List.set_cons_succ]
          refine wpAnyH_ready (rs := [2]) (by kernel_rfl) (by simp) ?_
          refine AllReadyH.cons rfl (fun K hK => ?_) AllReadyH.nil
          rw [if_pos (by rfl)]
          go_simp
          go_at_call 62
          (with_reducible refine hce.mono ?_)
          rintro e w2 ⟨rfl, hb2'⟩
          have hbq := hdr.trans hb2'
          have p0 := below_cell q0 hbq hbw
          have p1 := below_cell q1 hbq hbw
          have p2 := below_cell q2 hbq hbw
          have p3 := below_cell q3 hbq hbx
          have p4 := below_cell q4 hbq hbx
          have p5 := below_cell q5 hbq hbx
          clear hce
          refine hK.out _ _ ?_ (fun hHeld => ?_)
          · try dsimp only
            ((repeat' apply And.intro) <;> assumption)
          clear hK
          try simp only [Act.put, List.setIfInBounds_toArray, List.set_cons_zero, List.set_cons_succ]
          refine take_at 3 36 (v := ?_) rfl (by kernel_rfl) (by kernel_rfl) (by kernel_rfl) (by kernel_rfl) hpan (Or.inl ⟨by rfl, ?_⟩) (by assumption) ?_
          rotate_left
          · intro w hSw; (try dsimp only at hSw); go_simp; with_reducible rfl
          simp only [Act.put, List.setIfInBounds_toArray, List.set_cons_zero, List.set_cons_succ]
          refine take_at 4 37 (v := ?_) rfl (by kernel_rfl) (by kernel_rfl) (by kernel_rfl) (by kernel_rfl) hpan (Or.inl ⟨by rfl, ?_⟩) (by assumption) ?_
          rotate_left
          · intro w hSw; (try dsimp only at hSw); go_simp; with_reducible rfl
          simp only [Act.put, List.setIfInBounds_toArray, List.set_cons_zero, List.set_cons_succ]
          refine take_at 5 38 (v := ?_) rfl (by kernel_rfl) (by kernel_rfl) (by kernel_rfl) (by kernel_rfl) hpan (Or.inl ⟨by kernel_rfl, ?_⟩) (by assumption) ?_
          rotate_left
          · intro w hSw; (try dsimp only at hSw); go_simp; with_reducible rfl
          simp only [Act.put, List.setIfInBounds_toArray, List.set_cons_zero, List.set_cons_succ]
          refine take_at 6 39 (v := ?_) rfl (by kernel_rfl) (by kernel_rfl) (by kernel_rfl) (by kernel_rfl) hpan (Or.inl ⟨by kernel_rfl, ?_⟩) (by assumption) ?_
          rotate_left
          · intro w hSw; (try dsimp only at hSw); go_simp; with_reducible rfl
          simp only [Act.put, List.setIfInBounds_toArray, List.set_cons_zero, List.set_cons_succ]
          refine take_at 7 40 (v := ?_) rfl (by kernel_rfl) (by kernel_rfl) (by kernel_rfl) (by kernel_rfl) hpan (Or.inl ⟨by kernel_rfl, ?_⟩) (by assumption) ?_
          rotate_left
          · intro w hSw; (try dsimp only at hSw); go_simp; with_reducible rfl
          simp only [Act.put, List.setIfInBounds_toArray, List.set_cons_zero, List.set_cons_succ]
          refine take_at 8 41 (v := undef) rfl (by kernel_rfl) (by kernel_rfl) (by kernel_rfl) (by kernel_rfl) hpan (Or.inr ⟨by kernel_rfl, rfl⟩) (by assumption) ?_
          simp only [Act.put, List.setIfInBounds_toArray, List.set_cons_zero, List.set_cons_succ]
          refine take_at 9 42 (v := undef) rfl (by kernel_rfl) (by kernel_rfl) (by kernel_rfl) (by kernel_rfl) hpan (Or.inr ⟨by kernel_rfl, rfl⟩) (by assumption) ?_
          simp only [Act.put, List.setIfInBounds_toArray, List.set_cons_zero, List.set_cons_succ]
          refine take_at 10 43 (v := undef) rfl (by kernel_rfl) (by kernel_rfl) (by kernel_rfl) (by kernel_rfl) hpan (Or.inr ⟨by kernel_rfl, rfl⟩) (by assumption) ?_
          simp only [Act.put, List.setIfInBounds_toArray, List.set_cons_zero, List.set_cons_succ]
          refine take_at 11 44 (v := undef) rfl (by kernel_rfl) (by kernel_rfl) (by kernel_rfl) (by kernel_rfl) hpan (Or.inr ⟨by kernel_rfl, rfl⟩) (by assumption) ?_
          simp only [Act.put, List.setIfInBounds_toArray, List.set_cons_zero, List.set_cons_succ]
          refine take_at 12 45 (v := undef) rfl (by kernel_rfl) (by kernel_rfl) (by kernel_rfl) (by kernel_rfl) hpan (Or.inr ⟨by kernel_rfl, rfl⟩) (by assumption) ?_
          simp only [Act.put, List.setIfInBounds_toArray, List.set_cons_zero, List.set_cons_succ]
          refine take_at 13 46 (v := undef) rfl (by kernel_rfl) (by kernel_rfl) (by kernel_rfl) (by kernel_rfl) hpan (Or.inr ⟨by kernel_rfl, rfl⟩) (by assumption) ?_
          simp only [Act.put, List.setIfInBounds_toArray, List.set_cons_zero, List.set_cons_succ]
          refine take_at 14 47 (v := undef) rfl (by kernel_rfl) (by kernel_rfl) (by kernel_rfl) (by kernel_rfl) hpan (Or.inr ⟨by kernel_rfl, rfl⟩) (by assumption) ?_
          simp only [Act.put, List.setIfInBounds_toArray, List.set_cons_zero, List.set_cons_succ]
          refine take_at 15 48 (v := undef) rfl (by kernel_rfl) (by kernel_rfl) (by kernel_rfl) (by kernel_rfl) hpan (Or.inr ⟨by kernel_rfl, rfl⟩) (by assumption) ?_
          simp only [Act.put, List.setIfInBounds_toArray, List.set_cons_zero, List.set_cons_succ]
          refine take_at 16 49 (v := undef) rfl (by kernel_rfl) (by kernel_rfl) (by kernel_rfl) (by kernel_rfl) hpan (Or.inr ⟨by kernel_rfl, rfl⟩) (by assumption) ?_
          simp only [Act.put, List.setIfInBounds_toArray, List.set_cons_zero, List.set_cons_succ]
          refine take_at 17 50 (v := ?_) rfl (by kernel_rfl) (by kernel_rfl) (by kernel_rfl) (by kernel_rfl) hpan (Or.inl ⟨by kernel_rfl, ?_⟩) (by assumption) ?_
          rotate_left
          · intro w hSw; (try dsimp only at hSw); go_simp; with_reducible rfl
          simp only [Act.put, List.setIfInBounds_toArray, List.set_cons_zero, List.set_cons_succ]
          refine take_at 18 51 (v := ?_) rfl (by kernel_rfl) (by kernel_rfl) (by kernel_rfl) (by kernel_rfl) hpan (Or.inl ⟨by rfl, ?_⟩) (by assumption) ?_
          rotate_left
          · intro w hSw; (try dsimp only at hSw); go_simp; with_reducible rfl
          simp only [Act.put, List.setIfInBounds_toArray, List.set_cons_zero, List.set_cons_succ]
          refine wpAnyH_done (by kernel_rfl) ?_ _
          refine hnorm _ _ ?_
          clear hnorm hpan
          repeat clear hHeld
          try simp only [Exit.then]
          have hbz := hidI (hb.out.trans ((hbn.trans (hbq.mono hbn.size)).mono hsz))
          clear hbq hb2'
          go_wp2
          go_roundg (n - (0 + 1))
          case rel => exact ⟨0 + 1, by have := hk.out; omega, by go_num, hnx, hbz⟩
          case measure => have := hk.out; omega
      · obtain ⟨kp, hkp⟩ : ∃ i, k = i + 1 := ⟨k - 1, by omega⟩
        obtain ⟨b', off', hab', _, d0', d1', d2'⟩ := ReadE.at3 (hrd.out.below hb.out) kp (by have := hn.out; omega)
        cases hab'
        have d0 := below_cell d0' hbn (by omega)
        have d1 := below_cell d1' hbn (by omega)
        have d2 := below_cell d2' hbn (by omega)
        obtain ⟨df, hdf⟩ : ∃ z, z = (es.getD kp e0).1 := ⟨_, rfl⟩
        obtain ⟨dl, hdl⟩ : ∃ z, z = (es.getD kp e0).2.1 := ⟨_, rfl⟩
        obtain ⟨dt, hdt⟩ : ∃ z, z = (es.getD kp e0).2.2 := ⟨_, rfl⟩
        rw [← hdf] at d0
        rw [← hdl] at d1
        rw [← hdt] at d2
        have hkd : es.getD kp e0 = (df, dl, dt) := by rw [hdf, hdl, hdt]
        obtain ⟨cv, hcv⟩ : ∃ cv, cv = cmpE (df, dl, dt) (ef, el, et) := ⟨_, rfl⟩
        have hpl : bo = true → placeOk r s es k = decide (cv < 0) := by
          intro h
          unfold placeOk
          rw [show k - 1 = kp by omega, hke, hkd, ← hbo, ← hcv, h]
          simp
          omega
        have hk1 : (0 : Int) < (k : Int) := by omega
        have hk2 : (k : Int) > 0 := by omega
        have dk : decide ((0 : Int) < (k : Int)) = true := by simp; omega
        have hk3 : (k : Int) - 1 = (kp : Int) := by omega
        have hk4 : (kp : Int) < (n : Int) := by omega
        have hwk2 : IntKind.i64.wrap (kp : Int) = (kp : Int) := IntWalk.i64_in _ (by omega)
        replace hkp := hidI hkp
        replace hbo := hidI hbo
        replace hke := hidI hke
        replace hkd := hidI hkd
        replace hdf := hidI hdf
        replace hdl := hidI hdl
        replace hdt := hidI hdt
        replace hcv := hidI hcv
        go_wp2
        rw [← hwn.out]
        clear c0 c1 c2 u0 u1 u2 d0' d1' d2'
        cases bo with
        | false =>
          have hfin := hidI (hbad.out rfl)
          replace hpl := hidI hpl
          refine hideQ (fun _ _ d _ _ h => by cases d <;> exact h) (fun Q' hnorm hpan => ?_)
          refine wp_region_held_drew (S := (fun z => z.cell? ⟨w.heap.size, 0, none⟩ = some (.int .i64 r) ∧ z.cell? ⟨w.heap.size, 1, none⟩ = some (.int .i64 s) ∧ z.cell? ⟨w.heap.size, 2, none⟩ = some (.slice (some ⟨b, off, none⟩) n cap) ∧ z.cell? ⟨wr.heap.size, 0, none⟩ = some (.int .i64 ef) ∧ z.cell? ⟨wr.heap.size, 1, none⟩ = some (.int .i64 el) ∧ z.cell? ⟨wr.heap.size, 2, none⟩ = some (.int .i64 et) ∧ z.cell? ⟨b, off + kp * 3, none⟩ = some (.int .i64 df) ∧ z.cell? ⟨b, off + kp * 3 + 1, none⟩ = some (.int .i64 dl) ∧ z.cell? ⟨b, off + kp * 3 + 2, none⟩ = some (.int .i64 dt))) (by kernel_rfl) ?_ (fun hHeld => ?_)
          · try dsimp only
            ((repeat' apply And.intro) <;> assumption)
          refine take_at 0 33 (v := ?_) rfl (by kernel_rfl) (by kernel_rfl) (by kernel_rfl) (by kernel_rfl) hpan (Or.inl ⟨by rfl, ?_⟩) (by assumption) ?_
          rotate_left
          · intro w hSw; (try dsimp only at hSw); go_simp; with_reducible rfl
          simp only [Act.put, List.setIfInBounds_toArray, List.set_cons_zero, List.set_cons_succ]
          refine take_at 1 34 (v := ?_) rfl (by kernel_rfl) (by kernel_rfl) (by kernel_rfl) (by kernel_rfl) hpan (Or.inl ⟨by rfl, ?_⟩) (by assumption) ?_
          rotate_left
          · intro w hSw; (try dsimp only at hSw); go_simp; with_reducible rfl
          simp only [Act.put, List.setIfInBounds_toArray, List.set_cons_zero, List.set_cons_succ]
          refine wpAnyH_ready (rs := [2]) (by kernel_rfl) (by simp) ?_
          refine AllReadyH.cons rfl (fun K hK => ?_) AllReadyH.nil
          rw [if_pos (by rfl)]
          go_simp
          go_at_call 62
          (with_reducible refine hce.mono ?_)
          rintro e w2 ⟨rfl, hb2'⟩
          have hbq := hdr.trans hb2'
          have p0 := below_cell q0 hbq hbw
          have p1 := below_cell q1 hbq hbw
          have p2 := below_cell q2 hbq hbw
          have p3 := below_cell q3 hbq hbx
          have p4 := below_cell q4 hbq hbx
          have p5 := below_cell q5 hbq hbx
          have p6 := below_cell d0 hbq hbl
          have p7 := below_cell d1 hbq hbl
          have p8 := below_cell d2 hbq hbl
          clear hce
          refine hK.out _ _ ?_ (fun hHeld => ?_)
          · try dsimp only
            ((repeat' apply And.intro) <;> assumption)
          clear hK
          try simp only [Act.put, List.setIfInBounds_toArray, List.set_cons_zero, List.set_cons_succ]
          refine take_at 3 36 (v := ?_) rfl (by kernel_rfl) (by kernel_rfl) (by kernel_rfl) (by kernel_rfl) hpan (Or.inl ⟨by rfl, ?_⟩) (by assumption) ?_
          rotate_left
          · intro w hSw; (try dsimp only at hSw); go_simp; with_reducible rfl
          simp only [Act.put, List.setIfInBounds_toArray, List.set_cons_zero, List.set_cons_succ]
          refine take_at 4 37 (v := ?_) rfl (by kernel_rfl) (by kernel_rfl) (by kernel_rfl) (by kernel_rfl) hpan (Or.inl ⟨by rfl, ?_⟩) (by assumption) ?_
          rotate_left
          · intro w hSw; (try dsimp only at hSw); go_simp; with_reducible rfl
          simp only [Act.put, List.setIfInBounds_toArray, List.set_cons_zero, List.set_cons_succ]
          refine take_at 5 38 (v := undef) rfl (by kernel_rfl) (by kernel_rfl) (by kernel_rfl) (by kernel_rfl) hpan (Or.inr ⟨by kernel_rfl, rfl⟩) (by assumption) ?_
          simp only [Act.put, List.setIfInBounds_toArray, List.set_cons_zero, List.set_cons_succ]
          refine take_at 6 39 (v := undef) rfl (by kernel_rfl) (by kernel_rfl) (by kernel_rfl) (by kernel_rfl) hpan (Or.inr ⟨by kernel_rfl, rfl⟩) (by assumption) ?_
          simp only [Act.put, List.setIfInBounds_toArray, List.set_cons_zero, List.set_cons_succ]
          refine take_at 7 40 (v := undef) rfl (by kernel_rfl) (by kernel_rfl) (by kernel_rfl) (by kernel_rfl) hpan (Or.inr ⟨by kernel_rfl, rfl⟩) (by assumption) ?_
          simp only [Act.put, List.setIfInBounds_toArray, List.set_cons_zero, List.set_cons_succ]
          refine take_at 8 41 (v := undef) rfl (by kernel_rfl) (by kernel_rfl) (by kernel_rfl) (by kernel_rfl) hpan (Or.inr ⟨by kernel_rfl, rfl⟩) (by assumption) ?_
          simp only [Act.put, List.setIfInBounds_toArray, List.set_cons_zero, List.set_cons_succ]
          refine take_at 9 42 (v := undef) rfl (by kernel_rfl) (by kernel_rfl) (by kernel_rfl) (by kernel_rfl) hpan (Or.inr ⟨by kernel_rfl, rfl⟩) (by assumption) ?_
          simp only [Act.put, List.setIfInBounds_toArray, List.set_cons_zero, List.set_cons_succ]
          refine take_at 10 43 (v := undef) rfl (by kernel_rfl) (by kernel_rfl) (by kernel_rfl) (by kernel_rfl) hpan (Or.inr ⟨by kernel_rfl, rfl⟩) (by assumption) ?_
          simp only [Act.put, List.setIfInBounds_toArray, List.set_cons_zero, List.set_cons_succ]
          refine take_at 11 44 (v := undef) rfl (by kernel_rfl) (by kernel_rfl) (by kernel_rfl) (by kernel_rfl) hpan (Or.inr ⟨by kernel_rfl, rfl⟩) (by assumption) ?_
          simp only [Act.put, List.setIfInBounds_toArray, List.set_cons_zero, List.set_cons_succ]
          refine take_at 12 45 (v := undef) rfl (by kernel_rfl) (by kernel_rfl) (by kernel_rfl) (by kernel_rfl) hpan (Or.inr ⟨by kernel_rfl, rfl⟩) (by assumption) ?_
          simp only [Act.put, List.setIfInBounds_toArray, List.set_cons_zero, List.set_cons_succ]
          refine take_at 13 46 (v := undef) rfl (by kernel_rfl) (by kernel_rfl) (by kernel_rfl) (by kernel_rfl) hpan (Or.inr ⟨by kernel_rfl, rfl⟩) (by assumption) ?_
          simp only [Act.put, List.setIfInBounds_toArray, List.set_cons_zero, List.set_cons_succ]
          refine take_at 14 47 (v := undef) rfl (by kernel_rfl) (by kernel_rfl) (by kernel_rfl) (by kernel_rfl) hpan (Or.inr ⟨by kernel_rfl, rfl⟩) (by assumption) ?_
          simp only [Act.put, List.setIfInBounds_toArray, List.set_cons_zero, List.set_cons_succ]
          refine take_at 15 48 (v := undef) rfl (by kernel_rfl) (by kernel_rfl) (by kernel_rfl) (by kernel_rfl) hpan (Or.inr ⟨by kernel_rfl, rfl⟩) (by assumption) ?_
          simp only [Act.put, List.setIfInBounds_toArray, List.set_cons_zero, List.set_cons_succ]
          refine take_at 16 49 (v := undef) rfl (by kernel_rfl) (by kernel_rfl) (by kernel_rfl) (by kernel_rfl) hpan (Or.inr ⟨by kernel_rfl, rfl⟩) (by assumption) ?_
          simp only [Act.put, List.setIfInBounds_toArray, List.set_cons_zero, List.set_cons_succ]
          refine take_at 17 50 (v := undef) rfl (by kernel_rfl) (by kernel_rfl) (by kernel_rfl) (by kernel_rfl) hpan (Or.inr ⟨by kernel_rfl, rfl⟩) (by assumption) ?_
          simp only [Act.put, List.setIfInBounds_toArray, List.set_cons_zero, List.set_cons_succ]
          refine take_at 18 51 (v := ?_) rfl (by kernel_rfl) (by kernel_rfl) (by kernel_rfl) (by kernel_rfl) hpan (Or.inl ⟨by rfl, ?_⟩) (by assumption) ?_
          rotate_left
          · intro w hSw; (try dsimp only at hSw); go_simp; with_reducible rfl
          simp only [Act.put, List.setIfInBounds_toArray, List.set_cons_zero, List.set_cons_succ]
          refine wpAnyH_done (by kernel_rfl) ?_ _
          refine hnorm _ _ ?_
          clear hnorm hpan
          repeat clear hHeld
          try simp only [Exit.then]
          have hbz := hb1.trans ((hb.out.trans ((hbn.trans (hbq.mono hbn.size)).mono hsz)).mono hb1.size)
          clear hbq hb2'
          go_wp2
          go_ret
          exact ⟨ret_bool hfin.out.symm, hbz⟩
        | true =>
          have hpl2 := hpl rfl
          clear hpl
          by_cases hneg : cv < 0
          · have hnx : ∀ j, j < k + 1 → placeOk r s es j = true := by
              intro j hj
              by_cases hj2 : j = k
              · subst hj2; rw [hpl2]; simpa using hneg
              · exact hp.out j (by omega)
            have hneg2 : ¬ cv ≥ 0 := by omega
            have hneg3 : decide (0 ≤ cv) = false := by simp; omega
            replace hnx := hidI hnx
            replace hpl2 := hidI hpl2
            refine hideQ (fun _ _ d _ _ h => by cases d <;> exact h) (fun Q' hnorm hpan => ?_)
            refine wp_region_held_drew (S := (fun z => z.cell? ⟨w.heap.size, 0, none⟩ = some (.int .i64 r) ∧ z.cell? ⟨w.heap.size, 1, none⟩ = some (.int .i64 s) ∧ z.cell? ⟨w.heap.size, 2, none⟩ = some (.slice (some ⟨b, off, none⟩) n cap) ∧ z.cell? ⟨wr.heap.size, 0, none⟩ = some (.int .i64 ef) ∧ z.cell? ⟨wr.heap.size, 1, none⟩ = some (.int .i64 el) ∧ z.cell? ⟨wr.heap.size, 2, none⟩ = some (.int .i64 et) ∧ z.cell? ⟨b, off + kp * 3, none⟩ = some (.int .i64 df) ∧ z.cell? ⟨b, off + kp * 3 + 1, none⟩ = some (.int .i64 dl) ∧ z.cell? ⟨b, off + kp * 3 + 2, none⟩ = some (.int .i64 dt))) (by kernel_rfl) ?_ (fun hHeld => ?_)
            · try dsimp only
              ((repeat' apply And.intro) <;> assumption)
            refine take_at 0 33 (v := ?_) rfl (by kernel_rfl) (by kernel_rfl) (by kernel_rfl) (by kernel_rfl) hpan (Or.inl ⟨by rfl, ?_⟩) (by assumption) ?_
            rotate_left
            · intro w hSw; (try dsimp only at hSw); go_simp; with_reducible rfl
            simp only [Act.put, List.setIfInBounds_toArray, List.set_cons_zero, List.set_cons_succ]
            refine take_at 1 34 (v := ?_) rfl (by kernel_rfl) (by kernel_rfl) (by kernel_rfl) (by kernel_rfl) hpan (Or.inl ⟨by rfl, ?_⟩) (by assumption) ?_
            rotate_left
            · intro w hSw; (try dsimp only at hSw); go_simp; with_reducible rfl
            simp only [Act.put, List.setIfInBounds_toArray, List.set_cons_zero, List.set_cons_succ]
            refine wpAnyH_ready (rs := [2]) (by kernel_rfl) (by simp) ?_
            refine AllReadyH.cons rfl (fun K hK => ?_) AllReadyH.nil
            rw [if_pos (by rfl)]
            go_simp
            go_at_call 62
            (with_reducible refine hce.mono ?_)
            rintro e w2 ⟨rfl, hb2'⟩
            have hbq := hdr.trans hb2'
            have p0 := below_cell q0 hbq hbw
            have p1 := below_cell q1 hbq hbw
            have p2 := below_cell q2 hbq hbw
            have p3 := below_cell q3 hbq hbx
            have p4 := below_cell q4 hbq hbx
            have p5 := below_cell q5 hbq hbx
            have p6 := below_cell d0 hbq hbl
            have p7 := below_cell d1 hbq hbl
            have p8 := below_cell d2 hbq hbl
            clear hce
            refine hK.out _ _ ?_ (fun hHeld => ?_)
            · try dsimp only
              ((repeat' apply And.intro) <;> assumption)
            clear hK
            try simp only [Act.put, List.setIfInBounds_toArray, List.set_cons_zero, List.set_cons_succ]
            refine take_at 3 36 (v := ?_) rfl (by kernel_rfl) (by kernel_rfl) (by kernel_rfl) (by kernel_rfl) hpan (Or.inl ⟨by rfl, ?_⟩) (by assumption) ?_
            rotate_left
            · intro w hSw; (try dsimp only at hSw); go_simp; with_reducible rfl
            simp only [Act.put, List.setIfInBounds_toArray, List.set_cons_zero, List.set_cons_succ]
            refine take_at 4 37 (v := ?_) rfl (by kernel_rfl) (by kernel_rfl) (by kernel_rfl) (by kernel_rfl) hpan (Or.inl ⟨by rfl, ?_⟩) (by assumption) ?_
            rotate_left
            · intro w hSw; (try dsimp only at hSw); go_simp; with_reducible rfl
            simp only [Act.put, List.setIfInBounds_toArray, List.set_cons_zero, List.set_cons_succ]
            refine take_at 5 38 (v := ?_) rfl (by kernel_rfl) (by kernel_rfl) (by kernel_rfl) (by kernel_rfl) hpan (Or.inl ⟨by kernel_rfl, ?_⟩) (by assumption) ?_
            rotate_left
            · intro w hSw; (try dsimp only at hSw); go_simp; with_reducible rfl
            simp only [Act.put, List.setIfInBounds_toArray, List.set_cons_zero, List.set_cons_succ]
            refine take_at 6 39 (v := ?_) rfl (by kernel_rfl) (by kernel_rfl) (by kernel_rfl) (by kernel_rfl) hpan (Or.inl ⟨by kernel_rfl, ?_⟩) (by assumption) ?_
            rotate_left
            · intro w hSw; (try dsimp only at hSw); go_simp; with_reducible rfl
            simp only [Act.put, List.setIfInBounds_toArray, List.set_cons_zero, List.set_cons_succ]
            refine take_at 7 40 (v := ?_) rfl (by kernel_rfl) (by kernel_rfl) (by kernel_rfl) (by kernel_rfl) hpan (Or.inl ⟨by kernel_rfl, ?_⟩) (by assumption) ?_
            rotate_left
            · intro w hSw; (try dsimp only at hSw); go_simp; with_reducible rfl
            simp only [Act.put, List.setIfInBounds_toArray, List.set_cons_zero, List.set_cons_succ]
            refine take_at 8 41 (v := ?_) rfl (by kernel_rfl) (by kernel_rfl) (by kernel_rfl) (by kernel_rfl) hpan (Or.inl ⟨by kernel_rfl, ?_⟩) (by assumption) ?_
            rotate_left
            · intro w hSw; (try dsimp only at hSw); go_simp; with_reducible rfl
            simp only [Act.put, List.setIfInBounds_toArray, List.set_cons_zero, List.set_cons_succ]
            refine take_at 9 42 (v := ?_) rfl (by kernel_rfl) (by kernel_rfl) (by kernel_rfl) (by kernel_rfl) hpan (Or.inl ⟨by kernel_rfl, ?_⟩) (by assumption) ?_
            rotate_left
            · intro w hSw; (try dsimp only at hSw); go_simp; with_reducible rfl
            simp only [Act.put, List.setIfInBounds_toArray, List.set_cons_zero, List.set_cons_succ]
            refine take_at 10 43 (v := ?_) rfl (by kernel_rfl) (by kernel_rfl) (by kernel_rfl) (by kernel_rfl) hpan (Or.inl ⟨by kernel_rfl, ?_⟩) (by assumption) ?_
            rotate_left
            · intro w hSw; (try dsimp only at hSw); go_simp; with_reducible rfl
            simp only [Act.put, List.setIfInBounds_toArray, List.set_cons_zero, List.set_cons_succ]
            refine take_at 11 44 (v := ?_) rfl (by kernel_rfl) (by kernel_rfl) (by kernel_rfl) (by kernel_rfl) hpan (Or.inl ⟨by kernel_rfl, ?_⟩) (by assumption) ?_
            rotate_left
            · intro w hSw; (try dsimp only at hSw); go_simp; with_reducible rfl
            simp only [Act.put, List.setIfInBounds_toArray, List.set_cons_zero, List.set_cons_succ]
            refine take_at 12 45 (v := ?_) rfl (by kernel_rfl) (by kernel_rfl) (by kernel_rfl) (by kernel_rfl) hpan (Or.inl ⟨by kernel_rfl, ?_⟩) (by assumption) ?_
            rotate_left
            · intro w hSw; (try dsimp only at hSw); go_simp; with_reducible rfl
            simp only [Act.put, List.setIfInBounds_toArray, List.set_cons_zero, List.set_cons_succ]
            refine take_at 13 46 (v := ?_) rfl (by kernel_rfl) (by kernel_rfl) (by kernel_rfl) (by kernel_rfl) hpan (Or.inl ⟨by kernel_rfl, ?_⟩) (by assumption) ?_
            rotate_left
            · intro w hSw; (try dsimp only at hSw); go_simp; with_reducible rfl
            simp only [Act.put, List.setIfInBounds_toArray, List.set_cons_zero, List.set_cons_succ]
            refine take_at 14 47 (v := ?_) rfl (by kernel_rfl) (by kernel_rfl) (by kernel_rfl) (by kernel_rfl) hpan (Or.inl ⟨by kernel_rfl, ?_⟩) (by assumption) ?_
            rotate_left
            · intro w hSw; (try dsimp only at hSw); go_simp; with_reducible rfl
            simp only [Act.put, List.setIfInBounds_toArray, List.set_cons_zero, List.set_cons_succ]
            refine wpAnyH_ready (rs := [15]) (by kernel_rfl) (by simp) ?_
            refine AllReadyH.cons rfl (fun K hK => ?_) AllReadyH.nil
            rw [if_pos (by kernel_rfl)]
            go_simp
            have hcc := progCmpE w2 df dl dt ef el et
            rw [← hcv.out] at hcc
            go_at_call 63
            (with_reducible refine hcc.mono ?_)
            rintro e w3 ⟨rfl, hb3'⟩
            replace hbq := hbq.trans (hb3'.mono hbq.size)
            clear p0 p1 p2 p3 p4 p5 p6 p7 p8
            have p0 := below_cell q0 hbq hbw
            have p1 := below_cell q1 hbq hbw
            have p2 := below_cell q2 hbq hbw
            have p3 := below_cell q3 hbq hbx
            have p4 := below_cell q4 hbq hbx
            have p5 := below_cell q5 hbq hbx
            have p6 := below_cell d0 hbq hbl
            have p7 := below_cell d1 hbq hbl
            have p8 := below_cell d2 hbq hbl
            clear hcc
            refine hK.out _ _ ?_ (fun hHeld => ?_)
            · try dsimp only
              ((repeat' apply And.intro) <;> assumption)
            clear hK
            try simp only [Act.put, List.setIfInBounds_toArray, List.set_cons_zero, List.set_cons_succ]
            refine take_at 16 49 (v := ?_) rfl (by kernel_rfl) (by kernel_rfl) (by kernel_rfl) (by kernel_rfl) hpan (Or.inl ⟨by kernel_rfl, ?_⟩) (by assumption) ?_
            rotate_left
            · intro w hSw; (try dsimp only at hSw); go_simp; with_reducible rfl
            simp only [Act.put, List.setIfInBounds_toArray, List.set_cons_zero, List.set_cons_succ]
            refine take_at 17 50 (v := ?_) rfl (by kernel_rfl) (by kernel_rfl) (by kernel_rfl) (by kernel_rfl) hpan (Or.inl ⟨by kernel_rfl, ?_⟩) (by assumption) ?_
            rotate_left
            · intro w hSw; (try dsimp only at hSw); go_simp; with_reducible rfl
            simp only [Act.put, List.setIfInBounds_toArray, List.set_cons_zero, List.set_cons_succ]
            refine take_at 18 51 (v := ?_) rfl (by kernel_rfl) (by kernel_rfl) (by kernel_rfl) (by kernel_rfl) hpan (Or.inl ⟨by rfl, ?_⟩) (by assumption) ?_
            rotate_left
            · intro w hSw; (try dsimp only at hSw); go_simp; with_reducible rfl
            simp only [Act.put, List.setIfInBounds_toArray, List.set_cons_zero, List.set_cons_succ]
            refine wpAnyH_done (by kernel_rfl) ?_ _
            refine hnorm _ _ ?_
            clear hnorm hpan
            repeat clear hHeld
            try simp only [Exit.then]
            have hbz := hidI (hb.out.trans ((hbn.trans (hbq.mono hbn.size)).mono hsz))
            clear hbq hb2'
            go_wp2
            go_roundg (n - (k + 1))
            case rel => exact ⟨k + 1, by have := hk.out; omega, by go_num, hnx, hbz⟩
            case measure => have := hk.out; omega
          · have hfin : F = false := by rw [hF.out]; exact isGr_not (k := k) (by have := hn.out; omega) (by rw [hpl2]; simpa using hneg)
            have hneg2 : cv ≥ 0 := by omega
            have hneg3 : decide (0 ≤ cv) = true := by simp; omega
            replace hfin := hidI hfin
            replace hpl2 := hidI hpl2
            refine hideQ (fun _ _ d _ _ h => by cases d <;> exact h) (fun Q' hnorm hpan => ?_)
            refine wp_region_held_drew (S := (fun z => z.cell? ⟨w.heap.size, 0, none⟩ = some (.int .i64 r) ∧ z.cell? ⟨w.heap.size, 1, none⟩ = some (.int .i64 s) ∧ z.cell? ⟨w.heap.size, 2, none⟩ = some (.slice (some ⟨b, off, none⟩) n cap) ∧ z.cell? ⟨wr.heap.size, 0, none⟩ = some (.int .i64 ef) ∧ z.cell? ⟨wr.heap.size, 1, none⟩ = some (.int .i64 el) ∧ z.cell? ⟨wr.heap.size, 2, none⟩ = some (.int .i64 et) ∧ z.cell? ⟨b, off + kp * 3, none⟩ = some (.int .i64 df) ∧ z.cell? ⟨b, off + kp * 3 + 1, none⟩ = some (.int .i64 dl) ∧ z.cell? ⟨b, off + kp * 3 + 2, none⟩ = some (.int .i64 dt))) (by kernel_rfl) ?_ (fun hHeld => ?_)
            · try dsimp only
              ((repeat' apply And.intro) <;> assumption)
            refine take_at 0 33 (v := ?_) rfl (by kernel_rfl) (by kernel_rfl) (by kernel_rfl) (by kernel_rfl) hpan (Or.inl ⟨by rfl, ?_⟩) (by assumption) ?_
            rotate_left
            · intro w hSw; (try dsimp only at hSw); go_simp; with_reducible rfl
            simp only [Act.put, List.setIfInBounds_toArray, List.set_cons_zero, List.set_cons_succ]
            refine take_at 1 34 (v := ?_) rfl (by kernel_rfl) (by kernel_rfl) (by kernel_rfl) (by kernel_rfl) hpan (Or.inl ⟨by rfl, ?_⟩) (by assumption) ?_
            rotate_left
            · intro w hSw; (try dsimp only at hSw); go_simp; with_reducible rfl
            simp only [Act.put, List.setIfInBounds_toArray, List.set_cons_zero, List.set_cons_succ]
            refine wpAnyH_ready (rs := [2]) (by kernel_rfl) (by simp) ?_
            refine AllReadyH.cons rfl (fun K hK => ?_) AllReadyH.nil
            rw [if_pos (by rfl)]
            go_simp
            go_at_call 62
            (with_reducible refine hce.mono ?_)
            rintro e w2 ⟨rfl, hb2'⟩
            have hbq := hdr.trans hb2'
            have p0 := below_cell q0 hbq hbw
            have p1 := below_cell q1 hbq hbw
            have p2 := below_cell q2 hbq hbw
            have p3 := below_cell q3 hbq hbx
            have p4 := below_cell q4 hbq hbx
            have p5 := below_cell q5 hbq hbx
            have p6 := below_cell d0 hbq hbl
            have p7 := below_cell d1 hbq hbl
            have p8 := below_cell d2 hbq hbl
            clear hce
            refine hK.out _ _ ?_ (fun hHeld => ?_)
            · try dsimp only
              ((repeat' apply And.intro) <;> assumption)
            clear hK
            try simp only [Act.put, List.setIfInBounds_toArray, List.set_cons_zero, List.set_cons_succ]
            refine take_at 3 36 (v := ?_) rfl (by kernel_rfl) (by kernel_rfl) (by kernel_rfl) (by kernel_rfl) hpan (Or.inl ⟨by rfl, ?_⟩) (by assumption) ?_
            rotate_left
            · intro w hSw; (try dsimp only at hSw); go_simp; with_reducible rfl
            simp only [Act.put, List.setIfInBounds_toArray, List.set_cons_zero, List.set_cons_succ]
            refine take_at 4 37 (v := ?_) rfl (by kernel_rfl) (by kernel_rfl) (by kernel_rfl) (by kernel_rfl) hpan (Or.inl ⟨by rfl, ?_⟩) (by assumption) ?_
            rotate_left
            · intro w hSw; (try dsimp only at hSw); go_simp; with_reducible rfl
            simp only [Act.put, List.setIfInBounds_toArray, List.set_cons_zero, List.set_cons_succ]
            refine take_at 5 38 (v := ?_) rfl (by kernel_rfl) (by kernel_rfl) (by kernel_rfl) (by kernel_rfl) hpan (Or.inl ⟨by kernel_rfl, ?_⟩) (by assumption) ?_
            rotate_left
            · intro w hSw; (try dsimp only at hSw); go_simp; with_reducible rfl
            simp only [Act.put, List.setIfInBounds_toArray, List.set_cons_zero, List.set_cons_succ]
            refine take_at 6 39 (v := ?_) rfl (by kernel_rfl) (by kernel_rfl) (by kernel_rfl) (by kernel_rfl) hpan (Or.inl ⟨by kernel_rfl, ?_⟩) (by assumption) ?_
            rotate_left
            · intro w hSw; (try dsimp only at hSw); go_simp; with_reducible rfl
            simp only [Act.put, List.setIfInBounds_toArray, List.set_cons_zero, List.set_cons_succ]
            refine take_at 7 40 (v := ?_) rfl (by kernel_rfl) (by kernel_rfl) (by kernel_rfl) (by kernel_rfl) hpan (Or.inl ⟨by kernel_rfl, ?_⟩) (by assumption) ?_
            rotate_left
            · intro w hSw; (try dsimp only at hSw); go_simp; with_reducible rfl
            simp only [Act.put, List.setIfInBounds_toArray, List.set_cons_zero, List.set_cons_succ]
            refine take_at 8 41 (v := ?_) rfl (by kernel_rfl) (by kernel_rfl) (by kernel_rfl) (by kernel_rfl) hpan (Or.inl ⟨by kernel_rfl, ?_⟩) (by assumption) ?_
            rotate_left
            · intro w hSw; (try dsimp only at hSw); go_simp; with_reducible rfl
            simp only [Act.put, List.setIfInBounds_toArray, List.set_cons_zero, List.set_cons_succ]
            refine take_at 9 42 (v := ?_) rfl (by kernel_rfl) (by kernel_rfl) (by kernel_rfl) (by kernel_rfl) hpan (Or.inl ⟨by kernel_rfl, ?_⟩) (by assumption) ?_
            rotate_left
            · intro w hSw; (try dsimp only at hSw); go_simp; with_reducible rfl
            simp only [Act.put, List.setIfInBounds_toArray, List.set_cons_zero, List.set_cons_succ]
            refine take_at 10 43 (v := ?_) rfl (by kernel_rfl) (by kernel_rfl) (by kernel_rfl) (by kernel_rfl) hpan (Or.inl ⟨by kernel_rfl, ?_⟩) (by assumption) ?_
            rotate_left
            · intro w hSw; (try dsimp only at hSw); go_simp; with_reducible rfl
            simp only [Act.put, List.setIfInBounds_toArray, List.set_cons_zero, List.set_cons_succ]
            refine take_at 11 44 (v := ?_) rfl (by kernel_rfl) (by kernel_rfl) (by kernel_rfl) (by kernel_rfl) hpan (Or.inl ⟨by kernel_rfl, ?_⟩) (by assumption) ?_
            rotate_left
            · intro w hSw; (try dsimp only at hSw); go_simp; with_reducible rfl
            simp only [Act.put, List.setIfInBounds_toArray, List.set_cons_zero, List.set_cons_succ]
            refine take_at 12 45 (v := ?_) rfl (by kernel_rfl) (by kernel_rfl) (by kernel_rfl) (by kernel_rfl) hpan (Or.inl ⟨by kernel_rfl, ?_⟩) (by assumption) ?_
            rotate_left
            · intro w hSw; (try dsimp only at hSw); go_simp; with_reducible rfl
            simp only [Act.put, List.setIfInBounds_toArray, List.set_cons_zero, List.set_cons_succ]
            refine take_at 13 46 (v := ?_) rfl (by kernel_rfl) (by kernel_rfl) (by kernel_rfl) (by kernel_rfl) hpan (Or.inl ⟨by kernel_rfl, ?_⟩) (by assumption) ?_
            rotate_left
            · intro w hSw; (try dsimp only at hSw); go_simp; with_reducible rfl
            simp only [Act.put, List.setIfInBounds_toArray, List.set_cons_zero, List.set_cons_succ]
            refine take_at 14 47 (v := ?_) rfl (by kernel_rfl) (by kernel_rfl) (by kernel_rfl) (by kernel_rfl) hpan (Or.inl ⟨by kernel_rfl, ?_⟩) (by assumption) ?_
            rotate_left
            · intro w hSw; (try dsimp only at hSw); go_simp; with_reducible rfl
            simp only [Act.put, List.setIfInBounds_toArray, List.set_cons_zero, List.set_cons_succ]
            refine wpAnyH_ready (rs := [15]) (by kernel_rfl) (by simp) ?_
            refine AllReadyH.cons rfl (fun K hK => ?_) AllReadyH.nil
            rw [if_pos (by kernel_rfl)]
            go_simp
            have hcc := progCmpE w2 df dl dt ef el et
            rw [← hcv.out] at hcc
            go_at_call 63
            (with_reducible refine hcc.mono ?_)
            rintro e w3 ⟨rfl, hb3'⟩
            replace hbq := hbq.trans (hb3'.mono hbq.size)
            clear p0 p1 p2 p3 p4 p5 p6 p7 p8
            have p0 := below_cell q0 hbq hbw
            have p1 := below_cell q1 hbq hbw
            have p2 := below_cell q2 hbq hbw
            have p3 := below_cell q3 hbq hbx
            have p4 := below_cell q4 hbq hbx
            have p5 := below_cell q5 hbq hbx
            have p6 := below_cell d0 hbq hbl
            have p7 := below_cell d1 hbq hbl
            have p8 := below_cell d2 hbq hbl
            clear hcc
            refine hK.out _ _ ?_ (fun hHeld => ?_)
            · try dsimp only
              ((repeat' apply And.intro) <;> assumption)
            clear hK
            try simp only [Act.put, List.setIfInBounds_toArray, List.set_cons_zero, List.set_cons_succ]
            refine take_at 16 49 (v := ?_) rfl (by kernel_rfl) (by kernel_rfl) (by kernel_rfl) (by kernel_rfl) hpan (Or.inl ⟨by kernel_rfl, ?_⟩) (by assumption) ?_
            rotate_left
            · intro w hSw; (try dsimp only at hSw); go_simp; with_reducible rfl
            simp only [Act.put, List.setIfInBounds_toArray, List.set_cons_zero, List.set_cons_succ]
            refine take_at 17 50 (v := ?_) rfl (by kernel_rfl) (by kernel_rfl) (by kernel_rfl) (by kernel_rfl) hpan (Or.inl ⟨by kernel_rfl, ?_⟩) (by assumption) ?_
            rotate_left
            · intro w hSw; (try dsimp only at hSw); go_simp; with_reducible rfl
            simp only [Act.put, List.setIfInBounds_toArray, List.set_cons_zero, List.set_cons_succ]
            refine take_at 18 51 (v := ?_) rfl (by kernel_rfl) (by kernel_rfl) (by kernel_rfl) (by kernel_rfl) hpan (Or.inl ⟨by rfl, ?_⟩) (by assumption) ?_
            rotate_left
            · intro w hSw; (try dsimp only at hSw); go_simp; with_reducible rfl
            simp only [Act.put, List.setIfInBounds_toArray, List.set_cons_zero, List.set_cons_succ]
            refine wpAnyH_done (by kernel_rfl) ?_ _
            refine hnorm _ _ ?_
            clear hnorm hpan
            repeat clear hHeld
            try simp only [Exit.then]
            have hbz := hb1.trans ((hb.out.trans ((hbn.trans (hbq.mono hbn.size)).mono hsz)).mono hb1.size)
            clear hbq hb2'
            go_wp2
            go_ret
            exact ⟨ret_bool hfin.out.symm, hbz⟩
    · obtain rfl : k = n := by omega
      have hfin : F = true := hif.out.2 ⟨hp.out, hr.1, hr.2, hs.1, hs.2, hn120⟩
      have hki : ¬ (k : Int) < (k : Int) := by omega
      have hbz := hb1.trans (hb.out.mono hb1.size)
      replace hfin := hidI hfin
      replace hk := hidI hk
      go_wp2
      go_ret
      exact ⟨ret_bool hfin.out.symm, hbz⟩
end Go.Proofs.Ytdeofaimgldklaa
