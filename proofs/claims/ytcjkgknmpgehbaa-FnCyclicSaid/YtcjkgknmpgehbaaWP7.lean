/- Cyclic words, the program: rotationBetween, AreConjugate, RootOf, IsProperPower, DoCommute. -/
import Derived.Test.YtcjkgknmpgehbaaWP6
import Derived.Test.YtcjkgknmpgehbaaWH
import Derived.Deep.RegionWith
namespace Go.Proofs.Ytcjkgknmpgehbaa
open Go.RowKit
set_option linter.unusedVariables false

theorem LwInts2.both {w w' : World} {z1 z2 : List Int} {e : Ending} (h : LwInts2 w z1 z2 e w') : ∃ a1 m1 c1 a2 m2 c2, e = .returned (.tuple #[.slice a1 m1 c1, .slice a2 m2 c2]) ∧ ReadI w'.heap.size w' (.slice a1 m1 c1) z1 ∧ ReadI w'.heap.size w' (.slice a2 m2 c2) z2 ∧ m1 = z1.length ∧ m2 = z2.length ∧ m1 ≤ c1 ∧ Below w.heap.size w w' := by
  obtain ⟨v1, v2, l1, h1, l2, h2, rfl, r1, r2, k1, k2, k3, k4, k5, hb⟩ := h
  obtain ⟨a1, m1, c1, rfl⟩ := r1.read.form
  obtain ⟨a2, m2, c2, rfl⟩ := r2.read.form
  exact ⟨a1, m1, c1, a2, m2, c2, rfl, r1.read.mono k2, r2.read.mono k4, r1.read.len, r2.read.len, r1.cap, hb⟩
theorem per_remZ {x y : List Int} : remZ (((lrL x).2 : Int) - ((lrL y).2 : Int)) (per x : Int) = (btw x y : Int) := by
  unfold remZ btw
  split
  · rename_i h
    have hx : x = [] := by
      apply Classical.byContradiction
      intro hne
      have := (rd_spec hne).1
      rw [per_of hne] at h
      omega
    rw [h, hx]
    have e : (lrL []).2 = 0 := rfl
    rw [e]
    simp
  · rename_i h
    exact (Int.toNat_of_nonneg (Int.emod_nonneg _ h)).symm
set_option maxHeartbeats 800000 in
theorem between_any (w : World) (v1 v2 : Value) (x y : List Int) (h1 : ReadI w.heap.size w v1 x) (h2 : ReadI w.heap.size w v2 y) (hx : InR x) (hy : InR y) (hl1 : x.length ≤ 100000000) (hl2 : y.length ≤ 100000000) :
    Calls Try.prog 56 #[v1, v2] w fun e w' => e = .returned (.tuple #[.int .i64 (if (lrL x).1 = (lrL y).1 then (btw x y : Int) else 0), .bool (decide ((lrL x).1 = (lrL y).1))]) ∧ Below w.heap.size w w' := by
  have hc1 := least_any w v1 x h1 hx hl1
  have hb0 := per_remZ (x := x) (y := y)
  have hi1 : (lrL x).2 ≤ 100000000 := by have := (lrG_rot x (x.length - 1)).2; unfold lrL; omega
  have hi2 : (lrL y).2 ≤ 100000000 := by have := (lrG_rot y (y.length - 1)).2; unfold lrL; omega
  have hpl := per_le x
  obtain ⟨B, hB⟩ : ∃ B, B = btw x y := ⟨_, rfl⟩
  obtain ⟨p, hp⟩ : ∃ p, p = per x := ⟨_, rfl⟩
  obtain ⟨L1, hL1⟩ : ∃ L, L = lrL x := ⟨_, rfl⟩
  obtain ⟨L2, hL2⟩ : ∃ L, L = lrL y := ⟨_, rfl⟩
  obtain ⟨k1, hk1⟩ : ∃ k, k = L1.2 := ⟨_, rfl⟩
  obtain ⟨k2, hk2⟩ : ∃ k, k = L2.2 := ⟨_, rfl⟩
  rw [← hL1] at hc1 hi1 hb0
  rw [← hL2] at hi2 hb0
  rw [← hk1] at hc1 hi1 hb0
  rw [← hk2] at hi2 hb0
  rw [← hB] at hb0
  rw [← hp] at hb0 hpl
  rw [← hL1, ← hL2, ← hB]
  obtain ⟨b, hbe⟩ : ∃ b, decide (L1.1 = L2.1) = b := ⟨_, rfl⟩
  obtain ⟨R, hR⟩ : ∃ R, (if L1.1 = L2.1 then (B : Int) else 0) = R := ⟨_, rfl⟩
  rw [hbe, hR]
  have hRt : b = true → remZ ((k1 : Int) - (k2 : Int)) (p : Int) = R := by
    intro h
    rw [← hR, if_pos (of_decide_eq_true (hbe.trans h)), hb0]
  have hRf : b = false → R = 0 := by
    intro h
    rw [← hR, if_neg (of_decide_eq_false (hbe.trans h))]
  obtain ⟨a1, n1, c1, hv⟩ := h1.form
  subst hv
  obtain ⟨a2, n2, c2, hv⟩ := h2.form
  subst hv
  replace h1 := hidI h1
  replace h2 := hidI h2
  replace hL1 := hidI hL1
  replace hL2 := hidI hL2
  replace hk1 := hidI hk1
  replace hk2 := hidI hk2
  replace hp := hidI hp
  replace hB := hidI hB
  replace hb0 := hidI hb0
  replace hbe := hidI hbe
  replace hR := hidI hR
  replace hRt := hidI hRt
  replace hRf := hidI hRf
  go_enter Try.func56, Try.ntmps56
  go_wp2_with fail
  refine hc1.mono ?_
  rintro e w1 ⟨u1, rfl, hr1, hb1⟩
  have hs1 := hb1.size
  have hc2 := least_any w1 _ y ((h2.out.below hb1).mono hs1) hy hl2
  rw [← hL2.out, ← hk2.out] at hc2
  replace hr1 := hidI hr1
  clear hc1
  go_wp2_with fail
  refine hc2.mono ?_
  rintro e w2 ⟨u2, rfl, hr2, hb2⟩
  have hs2 := hb2.size
  have hb12 := hb1.trans (hb2.mono hs1)
  have hc3 := equal_any w2 w2.heap.size u1 u2 L1.1 L2.1 ((hr1.out.read.below hb2).mono hs2) hr2.read
  rw [hbe.out] at hc3
  clear hc2 hr1 hr2 hb2 hb1
  go_wp2_with fail
  refine hc3.mono ?_
  rintro e w3 ⟨rfl, nq, hwq⟩
  have hb3 : Below w.heap.size w w3 := by rw [hwq]; exact below_dN hb12 nq
  have hs3 : w3.heap.size = w2.heap.size := by rw [hwq]; rfl
  clear hc3 hwq
  cases b with
  | false =>
    have hR0 := hRf.out rfl
    subst hR0
    go_wp2
    go_ret2
    exact ⟨rfl, hb3⟩
  | true =>
    have hRp := hRt.out rfl
    have hper := period_any w3 w3.heap.size _ x ((h1.out.below hb3).mono (by omega)) hl1
    rw [← hp.out] at hper
    go_wp2_with fail
    refine hper.mono ?_
    rintro e w4 ⟨rfl, nq, hwq⟩
    have hb4 : Below w.heap.size w w4 := by rw [hwq]; exact below_dN hb3 nq
    have hrem := remainder_any w4 ((k1 : Int) - (k2 : Int)) p (by omega) (by omega) (by omega)
    rw [hRp] at hrem
    clear hper hwq
    replace hRp := hidI hRp
    go_wp2_with fail
    refine hrem.mono ?_
    rintro e w5 ⟨rfl, rfl⟩
    clear hrem
    go_wp2
    go_ret2
    exact ⟨rfl, hb4⟩
/-- The product of three that lie in a block of the call's own. -/
theorem mul_three (w : World) (s1 s2 s3 : Value) (z1 z2 z3 F : List Int) (h1 : ReadI w.heap.size w s1 z1) (h2 : ReadI w.heap.size w s2 z2) (h3 : ReadI w.heap.size w s3 z3) (i1 : InR z1) (i2 : InR z2) (i3 : InR z3) (hl : z1.length + (z2.length + z3.length) ≤ 1000000000) (hF : F = redL (z1 ++ (z2 ++ z3))) :
    Calls Try.prog 57 #[.slice (some ⟨w.heap.size, 0, none⟩) 3 3] (w.alloc (.cells #[s1, s2, s3] 24)) (IntsRet w F) := by
  have hb := (Below.refl w.heap.size w).alloc (Nat.le_refl _) (.cells #[s1, s2, s3] 24)
  have e : [z1, z2, z3].flatten = z1 ++ (z2 ++ z3) := by simp
  have hll : ReadLL (w.heap.size + 1) (w.alloc (.cells #[s1, s2, s3] 24)) (.slice (some ⟨w.heap.size, 0, none⟩) 3 3) [z1, z2, z3] := readLL_lit (w := w) (vs := [s1, s2, s3]) (zss := [z1, z2, z3]) _ rfl rfl (by simp) (by
    intro i hi
    match i, hi with
    | 0, _ => exact h1
    | 1, _ => exact h2
    | 2, _ => exact h3)
  have hcall := multiplyAll_any (w.alloc (.cells #[s1, s2, s3] 24)) _ [z1, z2, z3] (by simpa using hll) (by rw [e]; exact i1.append (i2.append i3)) (by rw [e]; simp only [List.length_append]; exact hl)
  rw [e, ← hF] at hcall
  exact hcall.mono fun e w' hr => hr.over hb
set_option maxHeartbeats 3200000 in
theorem conj_any (w : World) (v1 v2 : Value) (x y : List Int) (h1 : ReadI w.heap.size w v1 x) (h2 : ReadI w.heap.size w v2 y) (hx : InR x) (hy : InR y) (hl1 : x.length ≤ 100000000) (hl2 : y.length ≤ 100000000) :
    Calls Try.prog 24 #[v1, v2] w (LwIntsBool w (conjW x y).1 (conjW x y).2) := by
  have hc1 := core_any w v1 x h1 hx hl1
  obtain ⟨W, hW⟩ : ∃ W, W = conjW x y := ⟨_, rfl⟩
  rw [← hW]
  rw [conjW_prog hx hy] at hW
  have lx := coreL_length x
  have ly := coreL_length y
  obtain ⟨ix, ip⟩ := coreL_in hx
  obtain ⟨iy, iq⟩ := coreL_in hy
  obtain ⟨cx, hcx⟩ : ∃ c, c = (coreL x).1 := ⟨_, rfl⟩
  obtain ⟨px, hpx⟩ : ∃ c, c = (coreL x).2 := ⟨_, rfl⟩
  obtain ⟨cy, hcy⟩ : ∃ c, c = (coreL y).1 := ⟨_, rfl⟩
  obtain ⟨py, hpy⟩ : ∃ c, c = (coreL y).2 := ⟨_, rfl⟩
  rw [← hcx, ← hpx, ← hcy, ← hpy] at hW
  rw [← hcx, ← hpx] at hc1 lx
  rw [← hcx] at ix
  rw [← hpx] at ip
  rw [← hcy, ← hpy] at ly
  rw [← hcy] at iy
  rw [← hpy] at iq
  have hble : btw cx cy ≤ cx.length := by
    by_cases h : cx = []
    · have e : (lrL []).2 = 0 := rfl
      rw [h]
      unfold btw
      rw [e, per_nil]
      simp
    · have h3 := btw_lt (y := cy) h
      have h4 := (rd_spec h).2.1
      omega
  obtain ⟨a1, n1, c1, hv⟩ := h1.form
  subst hv
  obtain ⟨a2, n2, c2, hv⟩ := h2.form
  subst hv
  replace h1 := hidI h1
  replace h2 := hidI h2
  replace hW := hidI hW
  replace hcx := hidI hcx
  replace hpx := hidI hpx
  replace hcy := hidI hcy
  replace hpy := hidI hpy
  go_enter Try.func24, Try.ntmps24
  go_wp2_with fail
  refine hc1.mono ?_
  intro e w1 hr
  obtain ⟨d1, m1, e1, d2, m2, e2, rfl, r1, r2, hm1, hm2, hme, hb1⟩ := hr.both
  have hs1 := hb1.size
  have hc2 := core_any w1 _ y ((h2.out.below hb1).mono hs1) hy hl2
  rw [← hcy.out, ← hpy.out] at hc2
  replace r1 := hidI r1
  replace r2 := hidI r2
  replace hm1 := hidI hm1
  replace hm2 := hidI hm2
  clear hc1 hr
  go_wp2_with fail
  refine hc2.mono ?_
  intro e w2 hr
  obtain ⟨d3, m3, e3, d4, m4, e4, rfl, r3, r4, hm3, hm4, hme3, hb2⟩ := hr.both
  have hs2 := hb2.size
  have hb12 := hb1.trans (hb2.mono hs1)
  replace r1 := hidI ((r1.out.below hb2).mono hs2)
  replace r2 := hidI ((r2.out.below hb2).mono hs2)
  have hc3 := between_any w2 _ _ cx cy r1.out r3 ix iy (by omega) (by omega)
  obtain ⟨b, hbe⟩ : ∃ b, decide ((lrL cx).1 = (lrL cy).1) = b := ⟨_, rfl⟩
  obtain ⟨R, hR⟩ : ∃ R, (if (lrL cx).1 = (lrL cy).1 then (btw cx cy : Int) else 0) = R := ⟨_, rfl⟩
  rw [hbe, hR] at hc3
  replace hm3 := hidI hm3
  replace hm4 := hidI hm4
  replace r4 := hidI r4
  clear hc2 hr r3 hb2 hb1
  go_wp2_with fail
  refine hc3.mono ?_
  rintro e w3 ⟨rfl, hb3'⟩
  have hs3 := hb3'.size
  have hb3 := hb12.trans (hb3'.mono (by omega))
  replace r1 := hidI ((r1.out.below hb3').mono hs3)
  replace r2 := hidI ((r2.out.below hb3').mono hs3)
  replace r4 := hidI ((r4.out.below hb3').mono hs3)
  clear hc3 hb12 hb3'
  cases b with
  | false =>
    have hW0 : W = ([], false) := by rw [hW.out, if_neg (of_decide_eq_false hbe)]
    have hr : LwIntsBool w W.1 W.2 (.returned (.tuple #[.slice none 0 0, .bool false])) w3 := by
      rw [hW0]
      exact ⟨_, rfl, ⟨by simp, .inl ⟨rfl, rfl⟩⟩, hb3⟩
    replace hr := hidI hr
    replace hbe := hidI hbe
    replace hR := hidI hR
    replace hW0 := hidI hW0
    go_wp2
    go_ret2
    exact hr.out
  | true =>
    have heq := of_decide_eq_true hbe
    rw [if_pos heq] at hR
    obtain ⟨k, hk⟩ : ∃ k, k = btw cx cy := ⟨_, rfl⟩
    rw [← hk] at hR hble
    subst hR
    have hW1 : W = (redL (px ++ (cx.take k ++ invL py)), true) := by rw [hW.out, if_pos heq, hk]
    have hbd := hb3.drew
    have r2d := hidI (r2.out.below (below_dN (Below.refl _ w3) 1))
    have hm1' := hm1.out
    have r1d := hidI ((r1.out.first k (by omega)).below (below_dN (Below.refl _ w3) 1))
    have r4d := hidI (r4.out.below (below_dN (Below.refl _ w3) 1))
    have hinv := invert_any w3.drew _ py r4d.out (by omega)
    obtain ⟨F, hF⟩ : ∃ F, F = redL (px ++ (cx.take k ++ invL py)) := ⟨_, rfl⟩
    rw [← hF] at hW1
    have hlen : px.length + ((cx.take k).length + (invL py).length) ≤ 1000000000 := by rw [List.length_take, invL_length]; omega
    have hkc : (k : Int) ≤ (e1 : Int) := by omega
    have itk := ix.take k
    replace hW1 := hidI hW1
    replace hF := hidI hF
    replace hk := hidI hk
    replace hbe := hidI hbe
    replace heq := hidI heq
    replace hlen := hidI hlen
    clear hm1'
    go_wp2_with fail
    go_region_with (first | (go_at_call 58; (with_reducible refine hinv.mono ?_); intro e w7 h7; obtain ⟨a7, m7, c7, rfl, r7, h9, hb7⟩ := h7.form; clear h9; have hs7 := hb7.size; have hmul := mul_three w7 _ _ _ px (cx.take k) (invL py) F ((r2d.out.below hb7).mono hs7) ((r1d.out.below hb7).mono hs7) r7.read ip itk InR.invL hlen.out hF.out; clear hinv) | (go_at_call 57; (with_reducible refine hmul.mono ?_); rintro e w8 ⟨v8, rfl, r8, hb8⟩; replace r8 := hidI r8; clear hmul))
    all_goals
      have hs8 := hb8.size
      have hsd : w3.drew.heap.size = w3.heap.size := rfl
      have hbz : Below w.heap.size w w8 := (hbd.trans (hb7.mono (by omega))).trans (hb8.mono (by omega))
      have hr : LwIntsBool w W.1 W.2 (.returned (.tuple #[v8, .bool true])) w8 := by
        rw [hW1.out]
        exact ⟨_, rfl, r8.out.wide (by omega) (Nat.le_refl _), hbz⟩
      replace hr := hidI hr
      clear hb7 hb8 hbz hsd
      go_wp2
      go_ret2
      exact hr.out
set_option maxHeartbeats 3200000 in
theorem root_any (w : World) (v : Value) (zs : List Int) (h : ReadI w.heap.size w v zs) (hin : InR zs) (hl : zs.length ≤ 100000000) :
    Calls Try.prog 36 #[v] w (LwIntsInt w (rootL zs).1 (rootL zs).2) := by
  have hc1 := core_any w v zs h hin hl
  obtain ⟨W, hW⟩ : ∃ W, W = rootL zs := ⟨_, rfl⟩
  rw [← hW]
  have lx := coreL_length zs
  obtain ⟨ix, ip⟩ := coreL_in hin
  have hrp := rootL_prog hin
  have hrn : (coreL zs).1 = [] → rootL zs = ([], 0) := by intro h; unfold rootL; rw [if_pos h]
  rw [← hW] at hrp hrn
  obtain ⟨cx, hcx⟩ : ∃ c, c = (coreL zs).1 := ⟨_, rfl⟩
  obtain ⟨px, hpx⟩ : ∃ c, c = (coreL zs).2 := ⟨_, rfl⟩
  rw [← hcx, ← hpx] at hrp
  rw [← hcx] at hrn
  rw [← hcx, ← hpx] at hc1 lx
  rw [← hcx] at ix
  rw [← hpx] at ip
  obtain ⟨a1, n1, c1, hv⟩ := h.form
  subst hv
  replace h := hidI h
  replace hW := hidI hW
  replace hcx := hidI hcx
  replace hpx := hidI hpx
  replace hrp := hidI hrp
  replace hrn := hidI hrn
  go_enter Try.func36, Try.ntmps36
  go_wp2_with fail
  refine hc1.mono ?_
  intro e w1 hr
  obtain ⟨d1, m1, e1, d2, m2, e2, rfl, r1, r2, hm1, hm2, hme, hb1⟩ := hr.both
  have hs1 := hb1.size
  clear hc1 hr
  by_cases h0 : m1 = 0
  · have hW0 : W = ([], 0) := hrn.out (List.length_eq_zero_iff.1 (by omega))
    have hr : LwIntsInt w W.1 W.2 (.returned (.tuple #[.slice none 0 0, .int .i64 0])) w1 := by
      rw [hW0]
      exact ⟨_, rfl, ⟨by simp, .inl ⟨rfl, rfl⟩⟩, hb1⟩
    replace hr := hidI hr
    replace hW0 := hidI hW0
    replace hm1 := hidI hm1
    replace hm2 := hidI hm2
    replace r1 := hidI r1
    replace r2 := hidI r2
    subst h0
    go_wp2
    go_ret2
    exact hr.out
  · have hne : cx ≠ [] := by intro h; rw [h] at hm1; simp at hm1; omega
    have hW1 := hrp.out hne
    have hper := period_any w1 w1.heap.size _ cx r1 (by omega)
    have hrd := rd_spec hne
    rw [per_of hne] at hper
    obtain ⟨k, hk⟩ : ∃ k, k = rd cx := ⟨_, rfl⟩
    rw [← hk] at hper hW1 hrd
    obtain ⟨hk0, hkl, _, _, _⟩ := hrd
    have hm10 : ((m1 : Int) == 0) = false := by rw [beq_eq_false_iff_ne]; omega
    have hm100 : ¬ (m1 : Int) = 0 := by omega
    have hml : m1 ≤ 100000000 := by omega
    have hkm : k ≤ m1 := by omega
    replace hm1 := hidI hm1
    replace hm2 := hidI hm2
    replace hk := hidI hk
    replace hne := hidI hne
    replace r1 := hidI r1
    replace r2 := hidI r2
    go_wp2_with fail
    refine hper.mono ?_
    rintro e w3 ⟨rfl, nq, hwq⟩
    have hb3' : Below w1.heap.size w1 w3 := by rw [hwq]; exact below_dN (Below.refl _ _) nq
    have hs3 : w3.heap.size = w1.heap.size := by rw [hwq]; rfl
    have hb3 := hb1.trans (hb3'.mono hs1)
    replace r1 := hidI ((r1.out.below hb3').mono (by omega : w1.heap.size ≤ w3.heap.size))
    replace r2 := hidI ((r2.out.below hb3').mono (by omega : w1.heap.size ≤ w3.heap.size))
    clear hper hwq hb3' hb1
    have hbd := hb3.drew
    have r2d := hidI (r2.out.below (below_dN (Below.refl _ w3) 1))
    have r1d := hidI ((r1.out.first k (by have := hm1.out; omega)).below (below_dN (Below.refl _ w3) 1))
    have hinv := invert_any w3.drew _ px r2d.out (by omega)
    obtain ⟨F, hF⟩ : ∃ F, F = redL (px ++ (cx.take k ++ invL px)) := ⟨_, rfl⟩
    rw [← hF] at hW1
    have hlen : px.length + ((cx.take k).length + (invL px).length) ≤ 1000000000 := by rw [List.length_take, invL_length]; omega
    have hkc : (k : Int) ≤ (e1 : Int) := by omega
    have itk := ix.take k
    have hcl := hm1.out
    obtain ⟨qd, hqd⟩ : ∃ qd, qd = m1 / k := ⟨_, rfl⟩
    have hqn : qd ≤ m1 := by rw [hqd]; exact Nat.div_le_self _ _
    have hk00 : ¬ (k : Int) = 0 := by omega
    have hk00f : ((k : Int) == 0) = false := by rw [beq_eq_false_iff_ne]; omega
    have hdiv : (m1 : Int).tdiv (k : Int) = (qd : Int) := by rw [Int.tdiv_eq_ediv_of_nonneg (by omega), hqd]; exact (Int.natCast_ediv m1 k).symm
    have hdiv2 : (m1 : Int) / (k : Int) = (qd : Int) := by rw [hqd]; exact (Int.natCast_ediv m1 k).symm
    rw [← hcl, ← hqd] at hW1
    replace hW1 := hidI hW1
    replace hF := hidI hF
    replace hlen := hidI hlen
    replace hqd := hidI hqd
    clear hcl
    go_wp2_with fail
    go_region_with (first | (go_at_call 58; (with_reducible refine hinv.mono ?_); intro e w7 h7; obtain ⟨a7, m7, c7, rfl, r7, h9, hb7⟩ := h7.form; clear h9; have hs7 := hb7.size; have hmul := mul_three w7 _ _ _ px (cx.take k) (invL px) F ((r2d.out.below hb7).mono hs7) ((r1d.out.below hb7).mono hs7) r7.read ip itk InR.invL hlen.out hF.out; clear hinv) | (go_at_call 57; (with_reducible refine hmul.mono ?_); rintro e w8 ⟨v8, rfl, r8, hb8⟩; replace r8 := hidI r8; clear hmul))
    all_goals
      have hs8 := hb8.size
      have hsd : w3.drew.heap.size = w3.heap.size := rfl
      have hbz : Below w.heap.size w w8 := (hbd.trans (hb7.mono (by omega))).trans (hb8.mono (by omega))
      have hr : LwIntsInt w W.1 W.2 (.returned (.tuple #[v8, .int .i64 (qd : Int)])) w8 := by
        rw [hW1.out]
        exact ⟨_, rfl, r8.out.wide (by omega) (Nat.le_refl _), hbz⟩
      replace hr := hidI hr
      clear hb7 hb8 hbz hsd
      go_wp2
      go_ret2
      exact hr.out
theorem proper_any (w : World) (v : Value) (zs : List Int) (h : ReadI w.heap.size w v zs) (hin : InR zs) (hl : zs.length ≤ 100000000) :
    Calls Try.prog 38 #[v] w (LwBool w (decide (1 < (rootL zs).2))) := by
  have hc := root_any w v zs h hin hl
  obtain ⟨k, hk⟩ : ∃ k, k = (rootL zs).2 := ⟨_, rfl⟩
  obtain ⟨b, hb⟩ : ∃ b, decide (1 < k) = b := ⟨_, rfl⟩
  have hb2 : decide (k > 1) = b := hb
  rw [← hk] at hc ⊢
  rw [hb]
  obtain ⟨a1, n1, c1, hv⟩ := h.form
  subst hv
  replace h := hidI h
  replace hk := hidI hk
  go_enter Try.func38, Try.ntmps38
  go_wp2_with fail
  refine hc.mono ?_
  rintro e w1 ⟨v1, rfl, h1, hb1⟩
  clear hc h1
  go_wp2
  go_ret
  exact ⟨rfl, hb1⟩
theorem commute_any (w : World) (v0 v1 : Value) (z0 z1 : List Int) (h0 : ReadI w.heap.size w v0 z0) (h1 : ReadI w.heap.size w v1 z1) (i0 : InR z0) (i1 : InR z1) (hl0 : z0.length ≤ 100000000) (hl1 : z1.length ≤ 100000000) :
    Calls Try.prog 41 #[v0, v1] w (LwBool w (decide (mulL z0 z1 = mulL z1 z0))) := by
  have hc1 := multiply_any w v0 v1 z0 z1 h0 h1 i0 i1 (by omega)
  obtain ⟨b, hb⟩ : ∃ b, b = decide (mulL z0 z1 = mulL z1 z0) := ⟨_, rfl⟩
  rw [← hb]
  obtain ⟨a1, n1, c1, hv⟩ := h0.form
  subst hv
  obtain ⟨a2, n2, c2, hv⟩ := h1.form
  subst hv
  replace h0 := hidI h0
  replace h1 := hidI h1
  replace hb := hidI hb
  go_enter Try.func41, Try.ntmps41
  go_wp2_with fail
  refine hc1.mono ?_
  rintro e w1 ⟨u1, rfl, r1, hb1⟩
  have hs1 := hb1.size
  have hc2 := multiply_any w1 _ _ z1 z0 ((h1.out.below hb1).mono hs1) ((h0.out.below hb1).mono hs1) i1 i0 (by omega)
  replace r1 := hidI r1
  clear hc1
  go_wp2_with fail
  refine hc2.mono ?_
  rintro e w2 ⟨u2, rfl, r2, hb2⟩
  have hs2 := hb2.size
  have hb12 := hb1.trans (hb2.mono hs1)
  have hc3 := equal_any w2 w2.heap.size u1 u2 _ _ ((r1.out.read.below hb2).mono hs2) r2.read
  rw [← hb.out] at hc3
  clear hc2 r1 r2
  go_wp2_with fail
  refine hc3.mono ?_
  rintro e w3 ⟨rfl, nq, hwq⟩
  have hb3 : Below w.heap.size w w3 := by rw [hwq]; exact below_dN hb12 nq
  clear hc3 hwq
  go_wp2
  go_ret
  exact ⟨rfl, hb3⟩
end Go.Proofs.Ytcjkgknmpgehbaa
