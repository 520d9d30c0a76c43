/- Graphs, the model: EqualGraphs. -/
import Derived.Test.YtkmhncbakfnfeaaGS3
namespace Go.Proofs.Ytkmhncbakfnfeaa
open Go.RowKit
set_option linter.unusedVariables false
set_option linter.unusedSimpArgs false

def eqG (r s : Int) (es : List Ed) (r' s' : Int) (es' : List Ed) : Bool := decide (r = r' ∧ s = s' ∧ es = es')
theorem list_ext_getD {es es' : List Ed} (hl : es.length = es'.length) (h : ∀ j, j < es.length → es.getD j e0 = es'.getD j e0) : es = es' := by
  apply List.ext_getElem hl
  intro i h1 h2
  have := h i h1
  rw [List.getD_eq_getElem?_getD, List.getD_eq_getElem?_getD, List.getElem?_eq_getElem h1, List.getElem?_eq_getElem h2] at this
  exact this
theorem specEqG (w : World) (r s r' s' : Int) (v v' : Value) (es es' : List Ed) (h : ReadE w.heap.size w v es) (h' : ReadE w.heap.size w v' es') (hl : es.length ≤ 1000000000) (hl' : es'.length ≤ 1000000000) :
    Calls Try.prog 28 #[.agg #[.int .i64 r, .int .i64 s, v], .agg #[.int .i64 r', .int .i64 s', v']] w (LwBool w (eqG r s es r' s' es')) := by
  obtain ⟨a, cap, rfl, hnc⟩ := h.form
  obtain ⟨a', cap', rfl, hnc'⟩ := h'.form
  obtain ⟨n, hn⟩ : ∃ n, n = es.length := ⟨_, rfl⟩
  obtain ⟨n', hn'⟩ : ∃ n', n' = es'.length := ⟨_, rfl⟩
  rw [← hn] at hl hnc ⊢
  rw [← hn] at h
  rw [← hn'] at hl' hnc' ⊢
  rw [← hn'] at h'
  obtain ⟨w0, hw0⟩ : ∃ w0, w0 = w.alloc (.cells #[.int .i64 r, .int .i64 s, .slice a n cap] 30) := ⟨_, rfl⟩
  obtain ⟨w1, hw1⟩ : ∃ w1, w1 = w0.alloc (.cells #[.int .i64 r', .int .i64 s', .slice a' n' cap'] 30) := ⟨_, rfl⟩
  have hs0 : w0.heap.size = w.heap.size + 1 := by rw [hw0]; simp
  have hb0 : Below w.heap.size w w0 := by rw [hw0]; exact (Below.refl _ _).alloc (Nat.le_refl _) _
  have hb01 : Below w0.heap.size w0 w1 := by rw [hw1]; exact (Below.refl _ _).alloc (Nat.le_refl _) _
  have hb1 : Below w.heap.size w w1 := hb0.trans (hb01.mono hb0.size)
  obtain ⟨g0, g1, g2⟩ := box3 hw0
  obtain ⟨k0, k1, k2⟩ := box3 hw1
  rw [hs0] at k0 k1 k2
  replace g0 := below_cell g0 hb01 (by omega)
  replace g1 := below_cell g1 hb01 (by omega)
  replace g2 := below_cell g2 hb01 (by omega)
  have hrd := hidI (h.below hb1)
  have hrd' := hidI (h'.below hb1)
  have hw : (w.alloc (.cells #[.int .i64 r, .int .i64 s, .slice a n cap] 30)).alloc (.cells #[.int .i64 r', .int .i64 s', .slice a' n' cap'] 30) = w1 := by rw [hw1, hw0]
  obtain ⟨F, hF⟩ : ∃ F, F = eqG r s es r' s' es' := ⟨_, rfl⟩
  rw [← hF]
  replace hF := hidI hF
  replace hn := hidI hn
  replace hn' := hidI hn'
  replace hw0 := hidI hw0
  replace hw1 := hidI hw1
  replace hw := hidI hw
  replace hs0 := hidI hs0
  replace h := hidI h
  replace h' := hidI h'
  clear hb0 hb01
  go_enter Try.func28, Try.ntmps28
  by_cases q1 : r = r'
  case neg =>
    have t1 : (r != r') = true := by rw [bne_iff_ne]; exact q1
    have hF2 : F = false := by rw [hF.out]; unfold eqG; rw [decide_eq_false_iff_not]; intro hh; exact q1 hh.1
    replace q1 := hidI q1
    go_wp2
    rw [hw.out]
    go_wp2
    go_ret
    exact ⟨by first | rfl | (rw [hF2]; rfl), hb1⟩
  have t1 : (r != r') = false := by rw [bne_eq_false_iff_eq]; exact q1
  replace q1 := hidI q1
  by_cases q2 : s = s'
  case neg =>
    have t2 : (s != s') = true := by rw [bne_iff_ne]; exact q2
    have hF2 : F = false := by rw [hF.out]; unfold eqG; rw [decide_eq_false_iff_not]; intro hh; exact q2 hh.2.1
    replace q2 := hidI q2
    go_wp2
    rw [hw.out]
    go_wp2
    go_ret
    exact ⟨by first | rfl | (rw [hF2]; rfl), hb1⟩
  have t2 : (s != s') = false := by rw [bne_eq_false_iff_eq]; exact q2
  replace q2 := hidI q2
  by_cases q3 : n = n'
  case neg =>
    have t3 : ((n : Int) != (n' : Int)) = true := by rw [bne_iff_ne]; omega
    have hF2 : F = false := by rw [hF.out]; unfold eqG; rw [decide_eq_false_iff_not]; intro hh; exact q3 (by rw [hn.out, hn'.out, hh.2.2])
    replace q3 := hidI q3
    go_wp2
    rw [hw.out]
    go_wp2
    go_ret
    exact ⟨by first | rfl | (rw [hF2]; rfl), hb1⟩
  subst q3
  have t3 : ((n : Int) != (n : Int)) = false := by rw [bne_eq_false_iff_eq]
  go_wp2
  rw [hw.out]
  go_loopg [5] n (fun g i wr => ∃ k : Nat, k + g = n ∧ i = .int .i64 k ∧ Hid (∀ j, j < k → es.getD j e0 = es'.getD j e0) ∧ Hid (Below w1.heap.size w1 wr))
  case atStart => exact ⟨0, by omega, rfl, hidI (fun j h => by omega), hidI (Below.refl _ _)⟩
  case round =>
    obtain ⟨k, hk, rfl, hp, hb⟩ := hrel
    have hbz := hb1.trans (hb.out.mono hb1.size)
    have hs1 : w.heap.size + 2 = w1.heap.size := by rw [hw1.out]; have := hs0.out; simp; omega
    have p0 := below_cell g2 hb.out (by omega)
    have p1 := below_cell k2 hb.out (by omega)
    by_cases hlt : k < n
    · obtain ⟨b, off, rfl, hB, c0, c1, c2⟩ := ReadE.at3 (hrd.out.below (hb.out.mono hb1.size)) k (by have := hn.out; omega)
      obtain ⟨b', off', rfl, hB', d0, d1, d2⟩ := ReadE.at3 (hrd'.out.below (hb.out.mono hb1.size)) k (by have := hn'.out; omega)
      obtain ⟨f, hf⟩ : ∃ z, z = (es.getD k e0).1 := ⟨_, rfl⟩
      obtain ⟨l, hll⟩ : ∃ z, z = (es.getD k e0).2.1 := ⟨_, rfl⟩
      obtain ⟨t, ht⟩ : ∃ z, z = (es.getD k e0).2.2 := ⟨_, rfl⟩
      obtain ⟨f', hf'⟩ : ∃ z, z = (es'.getD k e0).1 := ⟨_, rfl⟩
      obtain ⟨l', hl2⟩ : ∃ z, z = (es'.getD k e0).2.1 := ⟨_, rfl⟩
      obtain ⟨t', ht'⟩ : ∃ z, z = (es'.getD k e0).2.2 := ⟨_, rfl⟩
      rw [← hf] at c0
      rw [← hll] at c1
      rw [← ht] at c2
      rw [← hf'] at d0
      rw [← hl2] at d1
      rw [← ht'] at d2
      have he1 : es.getD k e0 = (f, l, t) := by rw [hf, hll, ht]
      have he2 : es'.getD k e0 = (f', l', t') := by rw [hf', hl2, ht']
      have hki : (k : Int) < (n : Int) := by omega
      replace hf := hidI hf
      replace hll := hidI hll
      replace ht := hidI ht
      replace hf' := hidI hf'
      replace hl2 := hidI hl2
      replace ht' := hidI ht'
      replace he1 := hidI he1
      replace he2 := hidI he2
      replace hk := hidI hk
      by_cases e1 : (f, l, t) = (f', l', t')
      · have hx := e1
        rw [Prod.mk.injEq, Prod.mk.injEq] at hx
        obtain ⟨rfl, rfl, rfl⟩ := hx
        replace e1 := hidI e1
        go_wp2
        go_region
        all_goals
          go_wp2
          go_roundg (n - (k + 1))
          case rel => exact ⟨k + 1, by have := hk.out; omega, by go_num, hidI (fun j hj => by
            by_cases h2 : j < k
            · exact hp.out j h2
            · obtain rfl : j = k := by omega
              rw [he1.out, he2.out]), hidI (below_dn hb.out 1)⟩
          case measure => have := hk.out; omega
      · have hF2 : F = false := by
          rw [hF.out]; unfold eqG; rw [decide_eq_false_iff_not]; intro hh
          exact e1 (by rw [← he1.out, ← he2.out, hh.2.2])
        have hbd := below_dn hbz 1
        by_cases a1 : f = f'
        · subst a1
          by_cases a2 : l = l'
          · subst a2
            have u3 : (t == t') = false := by rw [beq_eq_false_iff_ne]; intro hh; exact e1 (by rw [hh])
            replace e1 := hidI e1
            go_wp2
            go_region
            all_goals
              go_wp2
              go_ret
              exact ⟨by first | rfl | (rw [hF2]; rfl), hbd⟩
          · have u2 : (l == l') = false := by rw [beq_eq_false_iff_ne]; exact a2
            replace a2 := hidI a2
            replace e1 := hidI e1
            go_wp2
            go_region
            all_goals
              go_wp2
              go_ret
              exact ⟨by first | rfl | (rw [hF2]; rfl), hbd⟩
        · have u1 : (f == f') = false := by rw [beq_eq_false_iff_ne]; exact a1
          replace a1 := hidI a1
          replace e1 := hidI e1
          go_wp2
          go_region
          all_goals
            go_wp2
            go_ret
            exact ⟨by first | rfl | (rw [hF2]; rfl), hbd⟩
    · obtain rfl : k = n := by omega
      have hF2 : F = true := by
        rw [hF.out]; unfold eqG; rw [decide_eq_true_eq]
        exact ⟨q1.out, q2.out, list_ext_getD (by rw [← hn.out, ← hn'.out]) (fun j hj => hp.out j (by have := hn.out; omega))⟩
      have hki : ¬ (k : Int) < (k : Int) := by omega
      go_wp2
      go_ret
      exact ⟨by first | rfl | (rw [hF2]; rfl), hbz⟩
end Go.Proofs.Ytkmhncbakfnfeaa
