/- Cyclic words, the model: RootOf, IsProperPower. -/
import Derived.Test.YtcjkgknmpgehbaaWY4
import Derived.Deep.RegionWith
namespace Go.Proofs.Ytcjkgknmpgehbaa
open Go.RowKit
set_option linter.unusedVariables false

theorem rootD_at {c : List Int} {d : Nat} (hd : 1 ≤ d) (hdn : d ≤ c.length) (h : c.length % d = 0 ∧ rotN c d = c) : rootD c (c.length - d) d = d := by
  rcases Nat.eq_zero_or_pos (c.length - d) with h0 | h0
  · rw [h0]; rfl
  · obtain ⟨f, hf⟩ : ∃ f, c.length - d = f + 1 := ⟨c.length - d - 1, by omega⟩
    rw [hf, rootD_yes h]
theorem rootD_next {c : List Int} {d : Nat} (hdn : d ≤ c.length) (h : ¬ (c.length % d = 0 ∧ rotN c d = c)) : rootD c (c.length - d) d = rootD c (c.length - (d + 1)) (d + 1) := by
  have hne : d ≠ c.length := by
    intro e
    subst e
    exact h ⟨Nat.mod_self _, rotN_len c⟩
  obtain ⟨f, hf⟩ : ∃ f, c.length - d = f + 1 := ⟨c.length - d - 1, by omega⟩
  rw [hf, rootD_no h]
  congr 1
  omega
set_option maxHeartbeats 3200000 in
theorem specRoot (w : World) (v : Value) (zs : List Int) (h : ReadI w.heap.size w v zs) (hl : zs.length ≤ 10000000) :
    Calls Try.prog 37 #[v] w (IntsIntRet w (rootL zs).1 (rootL zs).2) := by
  have hc0 := specCore w v zs h (by omega)
  obtain ⟨F, hF⟩ : ∃ F, F = rootL zs := ⟨_, rfl⟩
  rw [← hF]
  unfold rootL rootOf at hF
  have hx := coreL_length zs
  obtain ⟨c, hce⟩ : ∃ c, c = (coreL zs).1 := ⟨_, rfl⟩
  obtain ⟨p, hpe⟩ : ∃ p, p = (coreL zs).2 := ⟨_, rfl⟩
  rw [← hce, ← hpe] at hF hx hc0
  replace h := hidI h
  replace hF := hidI hF
  replace hce := hidI hce
  replace hpe := hidI hpe
  go_enter Try.func37, Try.ntmps37
  go_wp2_with fail
  refine hc0.mono ?_
  intro e w1 hr
  obtain ⟨ca, n, cc, pa, pm, pc, rfl, hc1, hp1, hnc, hpm, hncap, hb1⟩ := hr.both
  have hs1 := hb1.size
  have hcr := hidI hc1.read
  have hpr := hidI hp1.read
  have hnl : n ≤ 10000000 := by omega
  replace hnc := hidI hnc
  replace hpm := hidI hpm
  clear hc0 hr hc1 hp1
  go_wp2
  go_loopw [6] (fun i wr => ∃ d : Nat, 1 ≤ d ∧ (d ≤ n ∨ n = 0) ∧ i = .int .i64 d ∧ Hid (n = 0 ∨ rootD c (n - d) d = rootD c (n - 1) 1) ∧ Hid (Below w1.heap.size w1 wr)) (fun i _ => n + 1 - (intOf i).toNat)
  case atStart => exact ⟨1, Nat.le_refl _, by omega, rfl, hidI (.inr rfl), hidI (Below.refl _ _)⟩
  case round =>
    obtain ⟨d, hd1, hdn, rfl, hrd, hb⟩ := hrel
    have hs := hb.out.size
    by_cases hlt : d ≤ n
    · have hd0 : ¬ (d : Int) = 0 := by omega
      have hd0f : ((d : Int) == 0) = false := by rw [beq_eq_false_iff_ne]; omega
      have hlt2 : (d : Int) ≤ (n : Int) := by omega
      have htm : (n : Int).tmod (d : Int) = ((n % d : Nat) : Int) := by rw [Int.tmod_eq_emod_of_nonneg (by omega)]; exact (Int.natCast_emod n d).symm
      have htm2 : (n : Int) % (d : Int) = ((n % d : Nat) : Int) := (Int.natCast_emod n d).symm
      have hrd' : rootD c (n - d) d = rootD c (n - 1) 1 := by
        rcases hrd.out with h0 | h0
        · omega
        · exact h0
      -- the end: d is the place
      have last : ∀ (wz : World), Below w1.heap.size w1 wz → c.length % d = 0 ∧ rotN c d = c → F = (mulL (mulL p (c.take d)) (invL p), ((n / d : Nat) : Int)) := by
        intro wz _ hyes
        have h1 := rootD_at hd1 (by have := hnc.out; omega) hyes
        rw [← hnc.out, hrd'] at h1
        rw [hF.out, if_neg (by intro e; have := hnc.out; rw [e] at this; simp at this; omega), ← hnc.out, h1]
      replace last := hidI last
      obtain ⟨r, hr0⟩ : ∃ r, r = n % d := ⟨_, rfl⟩
      rw [← hr0] at htm htm2
      by_cases hz : r = 0
      · subst hz
        have hcw := hidI ((hcr.out.below hb.out).mono hs)
        have hrot := specRot wr _ c (d : Int) hcw.out (by have := hnc.out; omega) (by omega) (by omega)
        rw [rotL_nat] at hrot
        have hdec : decide (0 < (d : Int)) = true := by simp; omega
        replace hr0 := hidI hr0
        go_wp2_with fail
        refine hrot.mono ?_
        rintro e w3 ⟨v3, rfl, hr3, hb3'⟩
        have hs3 := hb3'.size
        have hb3 := hidI (hb.out.trans (hb3'.mono hs))
        have hc3 := hidI ((hcr.out.below hb3.out).mono (show w1.heap.size ≤ w3.heap.size by omega))
        have heq := specEqu w3 w3.heap.size v3 _ _ _ hr3.read hc3.out
        obtain ⟨b, hbv⟩ : ∃ b, b = decide (rotN c d = c) := ⟨_, rfl⟩
        rw [← hbv] at heq
        replace hr3 := hidI hr3
        clear hrot hb3'
        go_wp2_with fail
        refine heq.mono ?_
        rintro e w4 ⟨rfl, nq, hwq⟩
        have hb4 := hidI (show Below w1.heap.size w1 w4 by rw [hwq]; exact below_dN hb3.out nq)
        have hs4 := hb4.out.size
        clear heq hwq
        cases b with
        | true =>
          have hyes : c.length % d = 0 ∧ rotN c d = c := ⟨by rw [← hnc.out]; exact hr0.out.symm, of_decide_eq_true hbv.symm⟩
          have hFk := last.out w4 hb4.out hyes
          have hb5 := hidI hb4.out.drew
          have hpd := hidI ((hpr.out.below hb5.out).mono hs4)
          have hcd := hidI (((hcr.out.below hb5.out).mono hs4).first d (by have := hnc.out; omega))
          have hm1 := hidI (specMul w4.drew _ _ p (c.take d) hpd.out hcd.out (by omega) (by rw [List.length_take]; omega))
          have hml1 : (mulL p (c.take d)).length ≤ 20000000 := by have := mulL_length p (c.take d); rw [List.length_take] at this; omega
          have hpl : p.length ≤ 10000000 := by omega
          have hkc : (d : Int) ≤ (cc : Int) := by omega
          have hdiv : (n : Int).tdiv (d : Int) = ((n / d : Nat) : Int) := by rw [Int.tdiv_eq_ediv_of_nonneg (by omega)]; exact (Int.natCast_ediv n d).symm
          have hdiv2 : (n : Int) / (d : Int) = ((n / d : Nat) : Int) := (Int.natCast_ediv n d).symm
          obtain ⟨qd, hqd⟩ : ∃ qd, qd = n / d := ⟨_, rfl⟩
          have hqn : qd ≤ n := by rw [hqd]; exact Nat.div_le_self _ _
          rw [← hqd] at hdiv hdiv2 hFk
          replace hyes := hidI hyes
          replace hFk := hidI hFk
          replace hbv := hidI hbv
          replace hqd := hidI hqd
          clear hr3 hc3 hcw last hrd' htm htm2
          go_wp2
          go_region_with (first | (go_at_call 20; ((with_reducible refine hinv.mono ?_); rintro e w7 ⟨v7, rfl, hr7, hb7'⟩; have hs7 := hb7'.size; have hmul2 := specMul w7 _ v7 _ _ ((hr6.out.below hb7' (Nat.le_refl _)).read.mono hs7) hr7.read (by omega) (by rw [invL_length]; omega); replace hr7 := hidI hr7; clear hinv)) | (go_at_call 19; first | ((with_reducible refine hm1.out.mono ?_); rintro e w6 ⟨v6, rfl, hr6, hb6'⟩; have hs6 := hb6'.size; have hinv := specInv w6 _ p ((hpd.out.below hb6').mono hs6) (by omega); replace hr6 := hidI hr6) | ((with_reducible refine hmul2.mono ?_); rintro e w8 ⟨v8, rfl, hr8, hb8'⟩; have hs8 := hb8'.size; replace hr8 := hidI hr8; clear hmul2)))
          all_goals
            have hbz : Below w1.heap.size w1 w8 := ((hb5.out.trans (hb6'.mono hs4)).trans (hb7'.mono (Nat.le_trans hs4 hs6))).trans (hb8'.mono (Nat.le_trans (Nat.le_trans hs4 hs6) hs7))
            have hr : IntsIntRet w F.1 F.2 (.returned (.tuple #[v8, .int .i64 (qd : Int)])) w8 := by
              rw [hFk.out]
              exact ⟨v8, rfl, hr8.out.wide (Nat.le_trans hs1 (Nat.le_trans (Nat.le_trans hs4 hs6) hs7)) (Nat.le_refl _), hb1.trans (hbz.mono hs1)⟩
            replace hr := hidI hr
            clear hb6' hb7' hb8' hbz
            go_wp2
            go_ret2
            exact hr.out
        | false =>
          have hno : ¬ (c.length % d = 0 ∧ rotN c d = c) := fun h => of_decide_eq_false hbv.symm h.2
          have hnx := rootD_next (by have := hnc.out; omega) hno
          rw [← hnc.out, hrd'] at hnx
          have hdn2 : d + 1 ≤ n ∨ n = 0 := by
            by_cases e : d = n
            · exfalso
              apply hno
              have := hnc.out
              rw [e, this]
              exact ⟨Nat.mod_self _, rotN_len c⟩
            · omega
          replace hnx := hidI (show n = 0 ∨ rootD c (n - (d + 1)) (d + 1) = rootD c (n - 1) 1 from .inr hnx.symm)
          replace hno := hidI hno
          replace hbv := hidI hbv
          clear hr3 hc3 hcw last hrd' htm htm2
          go_wp2
          go_roundw
          case rel => exact ⟨d + 1, by omega, hdn2, by go_num, hnx, hb4⟩
          case measure => simp [intOf]; omega
      · have hno : ¬ (c.length % d = 0 ∧ rotN c d = c) := fun h => hz (by rw [hr0, hnc.out]; exact h.1)
        have hnx := rootD_next (by have := hnc.out; omega) hno
        rw [← hnc.out, hrd'] at hnx
        have hdn2 : d + 1 ≤ n ∨ n = 0 := by
          by_cases e : d = n
          · exfalso
            apply hno
            have := hnc.out
            rw [e, this]
            exact ⟨Nat.mod_self _, rotN_len c⟩
          · omega
        have hzf : ((r : Int) == 0) = false := by rw [beq_eq_false_iff_ne]; omega
        replace hnx := hidI (show n = 0 ∨ rootD c (n - (d + 1)) (d + 1) = rootD c (n - 1) 1 from .inr hnx.symm)
        replace hno := hidI hno
        replace hr0 := hidI hr0
        clear last hrd'
        go_wp2
        go_roundw
        case rel => exact ⟨d + 1, by omega, hdn2, by go_num, hnx, hb⟩
        case measure => simp [intOf]; omega
    · have hn0 : n = 0 := by omega
      have hFn : F = ([], 0) := by
        rw [hF.out, if_pos]
        exact List.length_eq_zero_iff.1 (by have := hnc.out; omega)
      have hr : IntsIntRet w F.1 F.2 (.returned (.tuple #[.slice (some ⟨wr.heap.size, 0, none⟩) 0 0, .int .i64 0])) (wr.alloc (.cells #[] 3)) := by
        rw [hFn]
        have hbw := hb1.trans (hb.out.mono hs1)
        refine ⟨_, rfl, ?_, hbw.alloc hbw.size _⟩
        exact ((OwnsI.lit wr).row (by simp)).wide hbw.size (Nat.le_refl _)
      have hlt2 : ¬ (d : Int) ≤ (n : Int) := by omega
      replace hr := hidI hr
      replace hFn := hidI hFn
      go_wp2
      go_ret2
      exact hr.out
set_option maxHeartbeats 800000 in
theorem specProper (w : World) (v : Value) (zs : List Int) (h : ReadI w.heap.size w v zs) (hl : zs.length ≤ 10000000) :
    Calls Try.prog 47 #[v] w (BoolBRet w (decide (1 < (rootL zs).2))) := by
  have hc := specRoot w v zs h hl
  obtain ⟨k, hk⟩ : ∃ k, k = (rootL zs).2 := ⟨_, rfl⟩
  rw [← hk] at hc ⊢
  replace h := hidI h
  replace hk := hidI hk
  go_enter Try.func47, Try.ntmps47
  go_wp2_with fail
  refine hc.mono ?_
  rintro e w1 ⟨v1, rfl, h1, hb1⟩
  clear hc h1
  go_wp2
  go_ret
  exact ⟨rfl, hb1⟩
end Go.Proofs.Ytcjkgknmpgehbaa
