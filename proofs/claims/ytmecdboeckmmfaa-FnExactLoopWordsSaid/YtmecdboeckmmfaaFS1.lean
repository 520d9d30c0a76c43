/- Folded graphs, the model: IsFolded. -/
import Derived.Test.YtmecdboeckmmfaaFA
import Derived.Test.YtmecdboeckmmfaaGS2
namespace Go.Proofs.Ytmecdboeckmmfaa
open Go.RowKit
set_option linter.unusedVariables false
set_option linter.unusedSimpArgs false

theorem isFo_true {r s : Int} {es : List Ed} (hg : isGr r s es = true) (h : ∀ i, i < es.length → ∀ k, k < i → ¬ Meets (es.getD i e0) (es.getD k e0)) : isFo r s es = true := by
  unfold isFo; rw [hg, foldB_iff.2 h]; rfl
theorem isFo_not {r s : Int} {es : List Ed} {i k : Nat} (hi : i < es.length) (hk : k < i) (h : Meets (es.getD i e0) (es.getD k e0)) : isFo r s es = false := by
  unfold isFo; rw [foldB_not hi hk h, Bool.and_false]
theorem isFo_gr {r s : Int} {es : List Ed} (hg : isGr r s es = false) : isFo r s es = false := by
  unfold isFo; rw [hg]; rfl
set_option maxHeartbeats 3200000 in
theorem specFold (w : World) (r s : Int) (v : Value) (es : List Ed) (h : ReadE w.heap.size w v es) (hs : -9223372036854775808 ≤ s ∧ s ≤ 9223372036854775807) (hl : es.length ≤ 1000000000) :
    Calls Try.prog 41 #[.agg #[.int .i64 r, .int .i64 s, v]] w (LwBool w (isFo r s es)) := by
  obtain ⟨a, cap, rfl, hnc⟩ := h.form
  obtain ⟨n, hn⟩ : ∃ n, n = es.length := ⟨_, rfl⟩
  rw [← hn] at hl hnc ⊢
  rw [← hn] at h
  obtain ⟨w1, hw1⟩ : ∃ w1, w1 = w.alloc (.cells #[.int .i64 r, .int .i64 s, .slice a n cap] 30) := ⟨_, rfl⟩
  have hb1 : Below w.heap.size w w1 := by rw [hw1]; exact (Below.refl _ _).alloc (Nat.le_refl _) _
  have hs1 : w.heap.size < w1.heap.size := by rw [hw1]; simp
  obtain ⟨g0, g1, g2⟩ := box3 hw1
  have hrd := hidI ((h.below hb1).mono hb1.size)
  obtain ⟨B, hB⟩ : ∃ B, B = isGr r s es := ⟨_, rfl⟩
  have hcg : Hid (∀ W : World, Below w1.heap.size w1 W → Calls Try.prog 60 #[.agg #[.int .i64 r, .int .i64 s, .slice a n cap]] W (LwBool W B)) := hidI fun W hW => by
    rw [hB]; exact specIsGr W r s _ es ((hrd.out.below hW).mono hW.size) hs (by omega)
  obtain ⟨F, hF⟩ : ∃ F, F = isFo r s es := ⟨_, rfl⟩
  have hFg : B = false → F = false := fun h => by rw [hF]; exact isFo_gr (by rw [← hB]; exact h)
  have hFt : B = true → (∀ i, i < n → ∀ k, k < i → ¬ Meets (es.getD i e0) (es.getD k e0)) → F = true := fun h h2 => by rw [hF]; exact isFo_true (by rw [← hB]; exact h) (by rw [← hn]; exact h2)
  have hFn : ∀ i k, i < n → k < i → Meets (es.getD i e0) (es.getD k e0) → F = false := fun i k hi hk h => by rw [hF]; exact isFo_not (by omega) hk h
  rw [← hF]
  replace hF := hidI hF
  replace hB := hidI hB
  replace hFg := hidI hFg
  replace hFt := hidI hFt
  replace hFn := hidI hFn
  replace hn := hidI hn
  replace hw1 := hidI hw1
  replace h := hidI h
  go_enter Try.func41, Try.ntmps41
  go_wp2
  rw [← hw1.out]
  go_loopg [3, 4] n (fun g i u wr => ∃ k : Nat, k + g = n ∧ i = .int .i64 k ∧ Hid (∀ i, i < k → ∀ j, j < i → ¬ Meets (es.getD i e0) (es.getD j e0)) ∧ Hid (Below w1.heap.size w1 wr))
  case atStart => exact ⟨0, by omega, rfl, hidI (fun i h => by omega), hidI (Below.refl _ _)⟩
  case round =>
    obtain ⟨k, hk, rfl, hp, hb⟩ := hrel
    have hsz := hb.out.size
    have q0 := below_cell g0 hb.out hs1
    have q1 := below_cell g1 hb.out hs1
    have q2 := below_cell g2 hb.out hs1
    by_cases hlt : k < n
    · have hki : (k : Int) < (n : Int) := by omega
      replace hk := hidI hk
      go_wp2_with fail
      refine (hcg.out wr hb.out).mono ?_
      rintro e w2 ⟨rfl, hb2⟩
      have hb12 := hb.out.trans (hb2.mono hsz)
      have hs2 := hb2.size
      clear hb2
      cases B with
      | false =>
        have hfin := hidI (hFg.out rfl)
        have p0 := below_cell g0 hb12 hs1
        have p1 := below_cell g1 hb12 hs1
        have p2 := below_cell g2 hb12 hs1
        go_wp2_with fail
        refine (hcg.out w2 hb12).mono ?_
        rintro e w3 ⟨rfl, hb3⟩
        have hbz := hb1.trans ((hb12.trans (hb3.mono hb12.size)).mono hb1.size)
        clear hb3
        go_wp2
        go_ret
        exact ⟨ret_bool hfin.out.symm, hbz⟩
      | true =>
        replace hb12 := hidI hb12
        clear q0 q1 q2
        go_wp2
        go_loopg [4] k (fun g u wr => ∃ j : Nat, j + g = k ∧ u = .int .i64 j ∧ Hid (∀ j', j' < j → ¬ Meets (es.getD k e0) (es.getD j' e0)) ∧ Hid (Below w1.heap.size w1 wr))
        case atStart => exact ⟨0, by omega, rfl, hidI (fun i h => by omega), hb12⟩
        case round =>
          clear hb12
          obtain ⟨j, hj, rfl, hp2, hbi⟩ := hrel
          by_cases hlt2 : j < k
          · have hji : (j : Int) < (k : Int) := by omega
            obtain ⟨b, off, hab, hBl, c0, c1, c2⟩ := ReadE.at3 (hrd.out.below hbi.out) k (by have := hn.out; omega)
            obtain ⟨b', off', hab', hBl', d0, d1, d2⟩ := ReadE.at3 (hrd.out.below hbi.out) j (by have := hn.out; omega)
            subst hab
            simp only [Option.some.injEq, Addr.mk.injEq, and_true] at hab'
            obtain ⟨rfl, rfl⟩ := hab'
            obtain ⟨f, hf⟩ : ∃ z, z = (es.getD k e0).1 := ⟨_, rfl⟩
            obtain ⟨l, hll⟩ : ∃ z, z = (es.getD k e0).2.1 := ⟨_, rfl⟩
            obtain ⟨t, ht⟩ : ∃ z, z = (es.getD k e0).2.2 := ⟨_, rfl⟩
            obtain ⟨f', hf'⟩ : ∃ z, z = (es.getD j e0).1 := ⟨_, rfl⟩
            obtain ⟨l', hl2⟩ : ∃ z, z = (es.getD j e0).2.1 := ⟨_, rfl⟩
            obtain ⟨t', ht'⟩ : ∃ z, z = (es.getD j e0).2.2 := ⟨_, rfl⟩
            have hM : Meets (es.getD k e0) (es.getD j e0) ↔ l = l' ∧ (f = f' ∨ t = t') := by unfold Meets; rw [← hf, ← hll, ← ht, ← hf', ← hl2, ← ht']
            rw [← hf] at c0
            rw [← hll] at c1
            rw [← ht] at c2
            rw [← hf'] at d0
            rw [← hl2] at d1
            rw [← ht'] at d2
            have q0 := below_cell g0 hbi.out hs1
            have q1 := below_cell g1 hbi.out hs1
            have q2 := below_cell g2 hbi.out hs1
            have hbw : w1.heap.size ≤ wr.heap.size := hbi.out.size
            obtain ⟨w3, hw3⟩ : ∃ z, z = wr.alloc (.cells #[.int .i64 f, .int .i64 l, .int .i64 t] 77) := ⟨_, rfl⟩
            have hb3 : Below wr.heap.size wr w3 := by rw [hw3]; exact (Below.refl _ _).alloc (Nat.le_refl _) _
            have hs3 : wr.heap.size < w3.heap.size := by rw [hw3]; simp
            obtain ⟨x0, x1, x2⟩ := box3 hw3
            have q2' := below_cell q2 hb3 (by omega)
            replace d0 := below_cell d0 hb3 (by omega)
            replace d1 := below_cell d1 hb3 (by omega)
            replace d2 := below_cell d2 hb3 (by omega)
            have hs3e : w3.heap.size = wr.heap.size + 1 := by rw [hw3]; simp
            obtain ⟨w4, hw4⟩ : ∃ z, z = w3.alloc (.cells #[.int .i64 f', .int .i64 l', .int .i64 t'] 77) := ⟨_, rfl⟩
            have hb4 : Below w3.heap.size w3 w4 := by rw [hw4]; exact (Below.refl _ _).alloc (Nat.le_refl _) _
            obtain ⟨y0, y1, y2⟩ := box3 hw4
            rw [hs3e] at y0 y1 y2
            replace x0 := below_cell x0 hb4 hs3
            replace x1 := below_cell x1 hb4 hs3
            replace x2 := below_cell x2 hb4 hs3
            rw [hw3] at q2' d0 d1 d2
            have hbz := hbi.out.trans ((hb3.trans (hb4.mono hb3.size)).mono hbw)
            have hww : (wr.alloc (.cells #[.int .i64 f, .int .i64 l, .int .i64 t] 77)).alloc (.cells #[.int .i64 f', .int .i64 l', .int .i64 t'] 77) = w4 := by rw [hw4, hw3]
            clear hb3 hb4
            replace hww := hidI hww
            replace hw3 := hidI hw3
            replace hw4 := hidI hw4
            replace hs3e := hidI hs3e
            replace hf := hidI hf
            replace hll := hidI hll
            replace ht := hidI ht
            replace hf' := hidI hf'
            replace hl2 := hidI hl2
            replace ht' := hidI ht'
            replace hj := hidI hj
            have hgo : ¬ (l = l' ∧ (f = f' ∨ t = t')) → Hid (∀ j', j' < j + 1 → ¬ Meets (es.getD k e0) (es.getD j' e0)) := fun hno => hidI fun j' hj' => by
              by_cases h2 : j' < j
              · exact hp2.out j' h2
              · obtain rfl : j' = j := by omega
                exact fun hm => hno (hM.1 hm)
            have hend : (l = l' ∧ (f = f' ∨ t = t')) → F = false := fun hy => hFn.out k j (by omega) hlt2 (hM.2 hy)
            replace hM := hidI hM
            replace hgo := hidI hgo
            replace hend := hidI hend
            have hbq := hidI (hb1.trans (hbz.mono hb1.size))
            replace hbz := hidI hbz
            by_cases e1 : l = l'
            · have u1 : (l == l') = true := by rw [beq_iff_eq]; exact e1
              by_cases e2 : f = f'
              · have u2 : (f == f') = true := by rw [beq_iff_eq]; exact e2
                have hfin := hidI (hend.out ⟨e1, .inl e2⟩)
                replace e1 := hidI e1
                replace e2 := hidI e2
                go_wp2
                rw [hww.out]
                go_wp2
                go_ret
                exact ⟨ret_bool hfin.out.symm, hbq.out⟩
              · have u2 : (f == f') = false := by rw [beq_eq_false_iff_ne]; exact e2
                by_cases e3 : t = t'
                · have u3 : (t == t') = true := by rw [beq_iff_eq]; exact e3
                  have hfin := hidI (hend.out ⟨e1, .inr e3⟩)
                  replace e1 := hidI e1
                  replace e2 := hidI e2
                  replace e3 := hidI e3
                  go_wp2
                  rw [hww.out]
                  go_wp2
                  go_ret
                  exact ⟨ret_bool hfin.out.symm, hbq.out⟩
                · have u3 : (t == t') = false := by rw [beq_eq_false_iff_ne]; exact e3
                  have hnx := hgo.out (by rintro ⟨_, h | h⟩ <;> contradiction)
                  replace e1 := hidI e1
                  replace e2 := hidI e2
                  replace e3 := hidI e3
                  go_wp2
                  rw [hww.out]
                  go_wp2
                  go_roundg (k - (j + 1))
                  case rel => exact ⟨j + 1, by have := hj.out; omega, by go_num, hnx, hbz⟩
                  case measure => have := hj.out; omega
            · have u1 : (l == l') = false := by rw [beq_eq_false_iff_ne]; exact e1
              have hnx := hgo.out (by rintro ⟨h, _⟩; contradiction)
              replace e1 := hidI e1
              go_wp2
              rw [hww.out]
              go_wp2
              go_roundg (k - (j + 1))
              case rel => exact ⟨j + 1, by have := hj.out; omega, by go_num, hnx, hbz⟩
              case measure => have := hj.out; omega
          · obtain rfl : j = k := by omega
            have hji : ¬ (j : Int) < (j : Int) := by omega
            have hk2 : j + 1 ≤ n := by omega
            replace hj := hidI hj
            go_wp2
            go_roundg (n - (j + 1))
            case rel => exact ⟨j + 1, by have := hk.out; omega, by go_num, hidI (fun i hi k' hk' => by
              by_cases h2 : i < j
              · exact hp.out i h2 k' hk'
              · obtain rfl : i = j := by omega
                exact hp2.out k' hk'), hbi⟩
            case measure => have := hk.out; omega
    · obtain rfl : k = n := by omega
      have hki : ¬ (k : Int) < (k : Int) := by omega
      replace hk := hidI hk
      cases B with
      | false =>
        have hfin := hidI (hFg.out rfl)
        go_wp2_with fail
        refine (hcg.out wr hb.out).mono ?_
        rintro e w3 ⟨rfl, hb3⟩
        have hbz := hb1.trans ((hb.out.trans (hb3.mono hsz)).mono hb1.size)
        clear hb3
        go_wp2
        go_ret
        exact ⟨ret_bool hfin.out.symm, hbz⟩
      | true =>
        have hfin := hidI (hFt.out rfl hp.out)
        go_wp2_with fail
        refine (hcg.out wr hb.out).mono ?_
        rintro e w3 ⟨rfl, hb3⟩
        have hbz := hb1.trans ((hb.out.trans (hb3.mono hsz)).mono hb1.size)
        clear hb3
        go_wp2
        go_ret
        exact ⟨ret_bool hfin.out.symm, hbz⟩
end Go.Proofs.Ytmecdboeckmmfaa
