/- Graphs, the program: slices.Equal at edges, EqualGraphs. -/
import Derived.Test.YtecceaijdjnflaaQF
import Derived.Test.YtecceaijdjnflaaQC
namespace Go.Proofs.Ytecceaijdjnflaa
open Go.RowKit
set_option linter.unusedVariables false
set_option linter.unusedSimpArgs false

set_option maxHeartbeats 1600000 in
theorem gpEqual (w : World) (B : Nat) (v v' : Value) (es es' : List Ed) (h : ReadE B w v es) (h' : ReadE B w v' es') (hl : es.length ≤ 1000000000) (hl' : es'.length ≤ 1000000000) :
    Calls Try.prog 77 #[v, v'] w fun e w' => e = .returned (.bool (decide (es = es'))) ∧ ∃ m, w' = w.drewN m := by
  obtain ⟨a, cap, rfl, hnc⟩ := h.form
  obtain ⟨a', cap', rfl, hnc'⟩ := h'.form
  obtain ⟨n, hn⟩ : ∃ n, n = es.length := ⟨_, rfl⟩
  obtain ⟨n', hn'⟩ : ∃ n', n' = es'.length := ⟨_, rfl⟩
  rw [← hn] at hl hnc ⊢
  rw [← hn] at h
  rw [← hn'] at hl' hnc' ⊢
  rw [← hn'] at h'
  obtain ⟨F, hF⟩ : ∃ F, F = decide (es = es') := ⟨_, rfl⟩
  rw [← hF]
  replace hF := hidI hF
  replace hn := hidI hn
  replace hn' := hidI hn'
  replace h := hidI h
  replace h' := hidI h'
  go_enter Try.func77, Try.ntmps77
  by_cases q3 : n = n'
  case neg =>
    have t3 : ((n : Int) != (n' : Int)) = true := by rw [bne_iff_ne]; omega
    have hF2 : F = false := by rw [hF.out]; rw [decide_eq_false_iff_not]; intro hh; exact q3 (by rw [hn.out, hn'.out, hh])
    replace q3 := hidI q3
    go_wp2
    go_ret
    exact ⟨by first | rfl | (rw [hF2]; rfl), 0, rfl⟩
  subst q3
  have t3 : ((n : Int) != (n : Int)) = false := by rw [bne_eq_false_iff_eq]
  go_wp2
  go_loopg [13] n (fun g i wr => ∃ k m : Nat, k + g = n ∧ i = .int .i64 k ∧ Hid (∀ j, j < k → es.getD j e0 = es'.getD j e0) ∧ wr = w.drewN m)
  case atStart => exact ⟨0, 0, by omega, rfl, hidI (fun j h => by omega), rfl⟩
  case round =>
    obtain ⟨k, m, hk, rfl, hp, rfl⟩ := hrel
    by_cases hlt : k < n
    · obtain ⟨b, off, rfl, hB, c0, c1, c2⟩ := ReadE.at3 h.out k (by have := hn.out; omega)
      obtain ⟨b', off', rfl, hB', d0, d1, d2⟩ := ReadE.at3 h'.out k (by have := hn'.out; omega)
      obtain ⟨f, hf⟩ : ∃ z, z = (es.getD k e0).1 := ⟨_, rfl⟩
      obtain ⟨l, hll⟩ : ∃ z, z = (es.getD k e0).2.1 := ⟨_, rfl⟩
      obtain ⟨t, ht⟩ : ∃ z, z = (es.getD k e0).2.2 := ⟨_, rfl⟩
      obtain ⟨f', hf'⟩ : ∃ z, z = (es'.getD k e0).1 := ⟨_, rfl⟩
      obtain ⟨l', hl2⟩ : ∃ z, z = (es'.getD k e0).2.1 := ⟨_, rfl⟩
      obtain ⟨t', ht'⟩ : ∃ z, z = (es'.getD k e0).2.2 := ⟨_, rfl⟩
      rw [← hf] at c0
      rw [← hll] at c1
      rw [← ht] at c2
      rw [← hf'] at d0
      rw [← hl2] at d1
      rw [← ht'] at d2
      have he1 : es.getD k e0 = (f, l, t) := by rw [hf, hll, ht]
      have he2 : es'.getD k e0 = (f', l', t') := by rw [hf', hl2, ht']
      have hki : (k : Int) < (n : Int) := by omega
      have hstep : f = f' → l = l' → t = t' → ∀ j, j < k + 1 → es.getD j e0 = es'.getD j e0 := by
        intro e1 e2 e3 j hj
        by_cases hj2 : j = k
        · subst hj2; rw [he1, he2, e1, e2, e3]
        · exact hp.out j (by omega)
      have hne : (f, l, t) ≠ (f', l', t') → F = false := by
        intro hq
        rw [hF.out, decide_eq_false_iff_not]
        intro hh
        rw [← he1, ← he2, hh] at hq
        exact hq rfl
      replace hstep := hidI hstep
      replace hne := hidI hne
      replace he1 := hidI he1
      replace he2 := hidI he2
      replace hf := hidI hf
      replace hll := hidI hll
      replace ht := hidI ht
      replace hf' := hidI hf'
      replace hl2 := hidI hl2
      replace ht' := hidI ht'
      replace hk := hidI hk
      by_cases q1 : f = f'
      · by_cases q2 : l = l'
        · by_cases q4 : t = t'
          · have hnx := hidI (hstep.out q1 q2 q4)
            subst q1 q2 q4
            go_wp2
            go_quiet (fail)
            go_wp2
            go_roundg (n - (k + 1))
            case rel => exact ⟨k + 1, _, by have := hk.out; omega, by go_num, hnx, rfl⟩
            case measure => have := hk.out; omega
          · have hfin := hidI (hne.out (by intro hq; simp at hq; exact q4 hq.2.2))
            have u4 : (t == t') = false := by rw [beq_eq_false_iff_ne]; exact q4
            subst q1 q2
            go_wp2
            go_quiet (fail)
            go_wp2
            go_ret
            exact ⟨ret_bool hfin.out.symm, _, World.drewN_drewN w m nq⟩
        · have hfin := hidI (hne.out (by intro hq; simp at hq; exact q2 hq.2.1))
          have u2 : (l == l') = false := by rw [beq_eq_false_iff_ne]; exact q2
          subst q1
          go_wp2
          go_quiet (fail)
          go_wp2
          go_ret
          exact ⟨ret_bool hfin.out.symm, _, World.drewN_drewN w m nq⟩
      · have hfin := hidI (hne.out (by intro hq; simp at hq; exact q1 hq.1))
        have u1 : (f == f') = false := by rw [beq_eq_false_iff_ne]; exact q1
        go_wp2
        go_quiet (fail)
        go_wp2
        go_ret
        exact ⟨ret_bool hfin.out.symm, _, World.drewN_drewN w m nq⟩
    · obtain rfl : k = n := by omega
      have hfin : F = true := by rw [hF.out, decide_eq_true_eq]; exact list_ext_getD (by rw [← hn.out, ← hn'.out]) (fun j hj => hp.out j (by have := hn.out; omega))
      have hki : ¬ (k : Int) < (k : Int) := by omega
      replace hfin := hidI hfin
      replace hk := hidI hk
      go_wp2
      go_ret
      exact ⟨ret_bool hfin.out.symm, _, rfl⟩
set_option maxHeartbeats 1600000 in
theorem progEqG (w : World) (r s r' s' : Int) (v v' : Value) (es es' : List Ed) (h : ReadE w.heap.size w v es) (h' : ReadE w.heap.size w v' es') (hl : es.length ≤ 1000000000) (hl' : es'.length ≤ 1000000000) :
    Calls Try.prog 56 #[.agg #[.int .i64 r, .int .i64 s, v], .agg #[.int .i64 r', .int .i64 s', v']] w (LwBool w (eqG r s es r' s' es')) := by
  obtain ⟨a, cap, rfl, hnc⟩ := h.form
  obtain ⟨a', cap', rfl, hnc'⟩ := h'.form
  obtain ⟨n, hn⟩ : ∃ n, n = es.length := ⟨_, rfl⟩
  obtain ⟨n', hn'⟩ : ∃ n', n' = es'.length := ⟨_, rfl⟩
  obtain ⟨w1, hw1⟩ : ∃ w1, w1 = (w.alloc (.cells #[.int .i64 r, .int .i64 s, .slice a n cap] 28)).alloc (.cells #[.int .i64 r', .int .i64 s', .slice a' n' cap'] 28) := ⟨_, rfl⟩
  have hb1 : Below w.heap.size w w1 := by rw [hw1]; exact ((Below.refl _ _).alloc (Nat.le_refl _) _).alloc (by simp) _
  have hg := heap_box w (.cells #[.int .i64 r, .int .i64 s, .slice a n cap] 28) (.cells #[.int .i64 r', .int .i64 s', .slice a' n' cap'] 28)
  have hk := heap_alloc_new (w.alloc (.cells #[.int .i64 r, .int .i64 s, .slice a n cap] 28)) (.cells #[.int .i64 r', .int .i64 s', .slice a' n' cap'] 28)
  rw [← hw1] at hg hk
  rw [show (w.alloc (.cells #[.int .i64 r, .int .i64 s, .slice a n cap] 28)).heap.size = w.heap.size + 1 by simp] at hk
  have g0 := cell_of_heap hg 0
  have g1 := cell_of_heap hg 1
  have g2 := cell_of_heap hg 2
  have k0 := cell_of_heap hk 0
  have k1 := cell_of_heap hk 1
  have k2 := cell_of_heap hk 2
  simp at g0 g1 g2 k0 k1 k2
  have hcall := gpEqual w1 w.heap.size (.slice a es.length cap) (.slice a' es'.length cap') es es' (h.below hb1) (h'.below hb1) hl hl'
  rw [← hn, ← hn'] at hcall ⊢
  obtain ⟨F, hF⟩ : ∃ F, F = eqG r s es r' s' es' := ⟨_, rfl⟩
  obtain ⟨E, hE⟩ : ∃ E, E = decide (es = es') := ⟨_, rfl⟩
  rw [← hF]
  rw [← hE] at hcall
  have hFE : r = r' → s = s' → F = E := by
    intro h1 h2
    rw [hF, hE]
    unfold eqG
    simp [h1, h2]
  have hF1 : r ≠ r' → F = false := by intro h1; rw [hF]; unfold eqG; simp [h1]
  have hF2 : s ≠ s' → F = false := by intro h1; rw [hF]; unfold eqG; simp [h1]
  replace hF := hidI hF
  replace hE := hidI hE
  replace hFE := hidI hFE
  replace hF1 := hidI hF1
  replace hF2 := hidI hF2
  replace hn := hidI hn
  replace hn' := hidI hn'
  replace h := hidI h
  replace h' := hidI h'
  replace hw1 := hidI hw1
  clear hg hk
  go_enter Try.func56, Try.ntmps56
  by_cases q1 : r = r'
  case neg =>
    have t1 : (r == r') = false := by rw [beq_eq_false_iff_ne]; exact q1
    have hfin := hidI (hF1.out q1)
    replace q1 := hidI q1
    go_wp2
    rw [← hw1.out]
    go_wp2
    go_ret
    exact ⟨ret_bool hfin.out.symm, hb1⟩
  have t1 : (r == r') = true := by rw [beq_iff_eq]; exact q1
  by_cases q2 : s = s'
  case neg =>
    have t2 : (s == s') = false := by rw [beq_eq_false_iff_ne]; exact q2
    have hfin := hidI (hF2.out q2)
    replace q1 := hidI q1
    replace q2 := hidI q2
    go_wp2
    rw [← hw1.out]
    go_wp2
    go_ret
    exact ⟨ret_bool hfin.out.symm, hb1⟩
  have t2 : (s == s') = true := by rw [beq_iff_eq]; exact q2
  have hfin := hidI (hFE.out q1 q2)
  replace q1 := hidI q1
  replace q2 := hidI q2
  go_wp2_with fail
  rw [← hw1.out]
  refine hcall.mono ?_
  rintro e w2 ⟨rfl, m, rfl⟩
  go_wp2
  go_ret
  exact ⟨ret_bool hfin.out.symm, below_dn hb1 m⟩
end Go.Proofs.Ytecceaijdjnflaa
