import Derived.Deep.RegionWith
import Derived.Deep.LoopGhost
import Derived.Deep.Cut
import Derived.Maps.AppendAt
import Derived.Test.YtpjlamnjiilgbaaGreatJ6Ba
import Derived.Test.YtpjlamnjiilgbaaGreatJ3Ba
import Derived.Test.YtpjlamnjiilgbaaGreatJ24Ba
import Derived.Test.YtpjlamnjiilgbaaGreatJ25Ba
import Derived.Test.YtpjlamnjiilgbaaGreatJ12Ba
import Derived.Test.YtpjlamnjiilgbaaGreatJ17Ba
import Derived.Test.YtpjlamnjiilgbaaGreatJ0Ba
import Derived.Test.YtpjlamnjiilgbaaGreatJ4Ba
import Derived.Test.YtpjlamnjiilgbaaGreatJ5Ba
import Derived.Test.YtpjlamnjiilgbaaGreatJ7Ba
namespace Go.Proofs.YtpjlamnjiilgbaaGreat
open Go.RowKit
set_option linter.unusedVariables false
set_option linter.unusedSimpArgs false
set_option maxHeartbeats 1600000 in
theorem gpEqual (w : World) (B : Nat) (v v' : Value) (es es' : List Ed) (h : ReadE B w v es) (h' : ReadE B w v' es') (hl : es.length ≤ 1000000000) (hl' : es'.length ≤ 1000000000) :
 Calls Tryz.prog 104 #[v, v'] w fun e w' => e = .returned (.bool (decide (es = es'))) ∧ ∃ m, w' = w.drewN m := by
 obtain ⟨a, cap, rfl, hnc⟩ := h.form
 obtain ⟨a', cap', rfl, hnc'⟩ := h'.form
 obtain ⟨n, hn⟩ := exq es.length
 obtain ⟨n', hn'⟩ : ∃ n', n' = es'.length := ⟨_, rfl⟩
 rw [← hn] at hl hnc ⊢
 rw [← hn] at h
 rw [← hn'] at hl' hnc' ⊢
 rw [← hn'] at h'
 obtain ⟨F, hF⟩ := exq (decide (es = es'))
 rw [← hF]
 replace hF := hidI hF
 replace hn := hidI hn
 replace hn' := hidI hn'
 replace h := hidI h
 replace h' := hidI h'
 go_enter Tryz.func104, Tryz.ntmps104
 by_cases q3 : n = n'
 case neg =>
  have t3 : ((n : Int) != (n' : Int)) = true := by rw [bne_iff_ne]; omega
  have hF2 : F = false := by rw [hF.out]; rw [decide_eq_false_iff_not]; intro hh; exact q3 (by rw [hn.out, hn'.out, hh])
  replace q3 := hidI q3
  go_wp2
  go_ret
  exact ⟨by first | rfl | (rw [hF2]; rfl), 0, rfl⟩
 subst q3
 have t3 : ((n : Int) != (n : Int)) = false := by rw [bne_eq_false_iff_eq]
 go_wp2
 go_loopg [13] n (fun g i wr => ∃ k m : Nat, k + g = n ∧ i = .int .i64 k ∧ Hid (∀ j, j < k → es.getD j e0 = es'.getD j e0) ∧ wr = w.drewN m)
 case atStart => exact ⟨0, 0, by omega, rfl, hidI (fun j h => by omega), rfl⟩
 case round =>
  obtain ⟨k, m, hk, rfl, hp, rfl⟩ := hrel
  by_cases hlt : k < n
  · obtain ⟨b, off, rfl, hB, c0, c1, c2⟩ := ReadE.at3 h.out k (by have := hn.out; omega)
    obtain ⟨b', off', rfl, hB', d0, d1, d2⟩ := ReadE.at3 h'.out k (by have := hn'.out; omega)
    obtain ⟨f, hf⟩ := exq ((es.getD k e0).1)
    obtain ⟨l, hll⟩ := exq ((es.getD k e0).2.1)
    obtain ⟨t, ht⟩ := exq ((es.getD k e0).2.2)
    obtain ⟨f', hf'⟩ : ∃ z, z = (es'.getD k e0).1 := ⟨_, rfl⟩
    obtain ⟨l', hl2⟩ : ∃ z, z = (es'.getD k e0).2.1 := ⟨_, rfl⟩
    obtain ⟨t', ht'⟩ : ∃ z, z = (es'.getD k e0).2.2 := ⟨_, rfl⟩
    rw [← hf] at c0
    rw [← hll] at c1
    rw [← ht] at c2
    rw [← hf'] at d0
    rw [← hl2] at d1
    rw [← ht'] at d2
    have he1 : es.getD k e0 = (f, l, t) := by rw [hf, hll, ht]
    have he2 : es'.getD k e0 = (f', l', t') := by rw [hf', hl2, ht']
    have hki : (k : Int) < (n : Int) := by omega
    have hstep : f = f' → l = l' → t = t' → ∀ j, j < k + 1 → es.getD j e0 = es'.getD j e0 := by
     intro e1 e2 e3 j hj
     by_cases hj2 : j = k
     · subst hj2; rw [he1, he2, e1, e2, e3]
     · exact hp.out j (by omega)
    have hne : (f, l, t) ≠ (f', l', t') → F = false := by
     intro hq
     rw [hF.out, decide_eq_false_iff_not]
     intro hh
     rw [← he1, ← he2, hh] at hq
     exact hq rfl
    replace hstep := hidI hstep
    replace hne := hidI hne
    replace he1 := hidI he1
    replace he2 := hidI he2
    replace hf := hidI hf
    replace hll := hidI hll
    replace ht := hidI ht
    replace hf' := hidI hf'
    replace hl2 := hidI hl2
    replace ht' := hidI ht'
    replace hk := hidI hk
    by_cases q1 : f = f'
    · by_cases q2 : l = l'
      · by_cases q4 : t = t'
        · have hnx := hidI (hstep.out q1 q2 q4)
          subst q1 q2 q4
          go_wp2
          go_quiet (fail)
          go_wp2
          go_roundg (n - (k + 1))
          case rel => exact ⟨k + 1, _, by have := hk.out; omega, by go_num, hnx, rfl⟩
          case measure => have := hk.out; omega
        · have hfin := hidI (hne.out (by intro hq; simp at hq; exact q4 hq.2.2))
          have u4 : (t == t') = false := by rw [beq_eq_false_iff_ne]; exact q4
          subst q1 q2
          go_wp2
          go_quiet (fail)
          go_wp2
          go_ret
          exact ⟨ret_bool hfin.out.symm, _, World.drewN_drewN w m nq⟩
      · have hfin := hidI (hne.out (by intro hq; simp at hq; exact q2 hq.2.1))
        have u2 : (l == l') = false := by rw [beq_eq_false_iff_ne]; exact q2
        subst q1
        go_wp2
        go_quiet (fail)
        go_wp2
        go_ret
        exact ⟨ret_bool hfin.out.symm, _, World.drewN_drewN w m nq⟩
    · have hfin := hidI (hne.out (by intro hq; simp at hq; exact q1 hq.1))
      have u1 : (f == f') = false := by rw [beq_eq_false_iff_ne]; exact q1
      go_wp2
      go_quiet (fail)
      go_wp2
      go_ret
      exact ⟨ret_bool hfin.out.symm, _, World.drewN_drewN w m nq⟩
  · obtain rfl : k = n := by omega
    have hfin : F = true := by rw [hF.out, decide_eq_true_eq]; exact list_ext_getD (by rw [← hn.out, ← hn'.out]) (fun j hj => hp.out j (by have := hn.out; omega))
    have hki : ¬ (k : Int) < (k : Int) := by omega
    replace hfin := hidI hfin
    replace hk := hidI hk
    go_wp2
    go_ret
    exact ⟨ret_bool hfin.out.symm, _, rfl⟩
set_option maxHeartbeats 1600000 in
theorem progEqG (w : World) (r s r' s' : Int) (v v' : Value) (es es' : List Ed) (h : ReadE w.heap.size w v es) (h' : ReadE w.heap.size w v' es') (hl : es.length ≤ 1000000000) (hl' : es'.length ≤ 1000000000) :
 Calls Tryz.prog 64 #[.agg #[.int .i64 r, .int .i64 s, v], .agg #[.int .i64 r', .int .i64 s', v']] w (LwBool w (eqG r s es r' s' es')) := by
 obtain ⟨a, cap, rfl, hnc⟩ := h.form
 obtain ⟨a', cap', rfl, hnc'⟩ := h'.form
 obtain ⟨n, hn⟩ := exq es.length
 obtain ⟨n', hn'⟩ : ∃ n', n' = es'.length := ⟨_, rfl⟩
 obtain ⟨w1, hw1⟩ := exq ((w.alloc (.cells #[.int .i64 r, .int .i64 s, .slice a n cap] 26)).alloc (.cells #[.int .i64 r', .int .i64 s', .slice a' n' cap'] 26))
 have hb1 : Below w.heap.size w w1 := by rw [hw1]; exact ((Below.refl _ _).alloc (Nat.le_refl _) _).alloc (by simp) _
 have hg := heap_box w (.cells #[.int .i64 r, .int .i64 s, .slice a n cap] 26) (.cells #[.int .i64 r', .int .i64 s', .slice a' n' cap'] 26)
 have hk := heap_alloc_new (w.alloc (.cells #[.int .i64 r, .int .i64 s, .slice a n cap] 26)) (.cells #[.int .i64 r', .int .i64 s', .slice a' n' cap'] 26)
 rw [← hw1] at hg hk
 rw [show (w.alloc (.cells #[.int .i64 r, .int .i64 s, .slice a n cap] 26)).heap.size = w.heap.size + 1 by simp] at hk
 obtain ⟨g0, g1, g2⟩ := cell3 hg
 obtain ⟨k0, k1, k2⟩ := cell3 hk
 simp at g0 g1 g2 k0 k1 k2
 have hcall := gpEqual w1 w.heap.size (.slice a es.length cap) (.slice a' es'.length cap') es es' (h.below hb1) (h'.below hb1) hl hl'
 rw [← hn, ← hn'] at hcall ⊢
 obtain ⟨F, hF⟩ := exq (eqG r s es r' s' es')
 obtain ⟨E, hE⟩ := exq (decide (es = es'))
 rw [← hF]
 rw [← hE] at hcall
 have hFE : r = r' → s = s' → F = E := by
  intro h1 h2
  rw [hF, hE]
  unfold eqG
  simp [h1, h2]
 have hF1 : r ≠ r' → F = false := by intro h1; rw [hF]; unfold eqG; simp [h1]
 have hF2 : s ≠ s' → F = false := by intro h1; rw [hF]; unfold eqG; simp [h1]
 replace hF := hidI hF
 replace hE := hidI hE
 replace hFE := hidI hFE
 replace hF1 := hidI hF1
 replace hF2 := hidI hF2
 replace hn := hidI hn
 replace hn' := hidI hn'
 replace h := hidI h
 replace h' := hidI h'
 replace hw1 := hidI hw1
 clear hg hk
 go_enter Tryz.func64, Tryz.ntmps64
 by_cases q1 : r = r'
 case neg =>
  have t1 : (r == r') = false := by rw [beq_eq_false_iff_ne]; exact q1
  have hfin := hidI (hF1.out q1)
  replace q1 := hidI q1
  go_wp2
  rw [← hw1.out]
  go_wp2
  go_ret
  exact ⟨ret_bool hfin.out.symm, hb1⟩
 have t1 : (r == r') = true := by rw [beq_iff_eq]; exact q1
 by_cases q2 : s = s'
 case neg =>
  have t2 : (s == s') = false := by rw [beq_eq_false_iff_ne]; exact q2
  have hfin := hidI (hF2.out q2)
  replace q1 := hidI q1
  replace q2 := hidI q2
  go_wp2
  rw [← hw1.out]
  go_wp2
  go_ret
  exact ⟨ret_bool hfin.out.symm, hb1⟩
 have t2 : (s == s') = true := by rw [beq_iff_eq]; exact q2
 have hfin := hidI (hFE.out q1 q2)
 replace q1 := hidI q1
 replace q2 := hidI q2
 go_wp2_with fail
 rw [← hw1.out]
 refine hcall.mono ?_
 rintro e w2 ⟨rfl, m, rfl⟩
 go_wp2
 go_ret
 exact ⟨ret_bool hfin.out.symm, below_dn hb1 m⟩
set_option maxRecDepth 100000 in
set_option maxHeartbeats 6400000 in
theorem progIsCo (w : World) (r s : Int) (v : Value) (es : List Ed) (h : ReadE w.heap.size w v es) (hl : es.length ≤ 10000000) :
 Calls Tryz.prog 87 #[.agg #[.int .i64 r, .int .i64 s, v]] w (LwBool w (isCo r s es)) := by
 obtain ⟨a, cap, rfl, hnc⟩ := h.form
 obtain ⟨n, hn⟩ := exq es.length
 rw [← hn] at hl hnc ⊢
 rw [← hn] at h
 obtain ⟨w1, hw1⟩ := exq (w.alloc (.cells #[.int .i64 r, .int .i64 s, .slice a n cap] 26))
 have hb1 : Below w.heap.size w w1 := by rw [hw1]; exact (Below.refl _ _).alloc (Nat.le_refl _) _
 have hs1 : w.heap.size < w1.heap.size := by rw [hw1]; simp
 obtain ⟨g0, g1, g2⟩ := box3 hw1
 have htr := progTrim w1 r s (.slice a n cap) es (by have := (h.below hb1).mono hb1.size; rw [hn] at this ⊢; exact this) (by omega)
 have hcf := fun (W : World) (hr : ReadE W.heap.size W (.slice a n cap) es) => progFold W r s (.slice a n cap) es hr (by omega)
 have hcg := fun (W : World) (hr : ReadE W.heap.size W (.slice a n cap) es) => progCanG W r s (.slice a n cap) es hr (by omega)
 have hcl := cgE_length r s es
 have htl := tmL_length r s es
 obtain ⟨F, hF⟩ := exq (isCo r s es)
 rw [← hF]
 unfold isCo at hF
 have hall : isFo r s es = true → (((tmL r s es).length : Int) = s ↔ lf r s es < 0) := fun hf => tm_all (by unfold isFo at hf; rw [Bool.and_eq_true] at hf; exact hf.1)
 obtain ⟨ZS, hZS⟩ := exq (cgS r s es)
 obtain ⟨ZE, hZE⟩ := exq (cgE r s es)
 obtain ⟨TS, hTS⟩ := exq (tmS r s es)
 obtain ⟨TE, hTE⟩ := exq (tmE r s es)
 obtain ⟨ZL, hZL⟩ := exq (tmL r s es)
 obtain ⟨f, hf⟩ := exq (lf r s es)
 obtain ⟨B, hB⟩ := exq (isFo r s es)
 rw [← hTS, ← hTE, ← hZL] at htr
 rw [← hZS, ← hZE] at hcg
 rw [← hZE] at hcl
 rw [← hZL] at htl hall
 rw [← hf, ← hB] at hall
 rw [← hB] at hcf
 rw [← hB, ← hf, ← hZS, ← hZE] at hF
 obtain ⟨L, hL⟩ := exq ZL.length
 rw [← hL] at hall htl
 have hww := hidI hw1.symm
 replace hZS := hidI hZS
 replace hZE := hidI hZE
 replace hTS := hidI hTS
 replace hTE := hidI hTE
 replace hZL := hidI hZL
 replace hf := hidI hf
 replace hF := hidI hF
 replace hB := hidI hB
 replace hcf := hidI hcf
 replace hcg := hidI hcg
 replace hall := hidI hall
 replace hw1 := hidI hw1
 replace hn := hidI hn
 replace h := hidI h
 replace hL := hidI hL
 go_enter Tryz.func87, Tryz.ntmps87
 go_upto_region 1 with fail
 rw [hww.out]
 go_wp2_with fail
 refine htr.mono ?_
 rintro e w2 ⟨ca, cc, lv, glo, ghi, flo, fhi, rfl, hd0, hrow2, hst2, hb2⟩
 clear htr
 obtain ⟨_, la, lc, rfl, _, _⟩ := hst2.read
 rw [← hL.out]
 replace g0 := below_cell g0 hb2 hs1
 replace g1 := below_cell g1 hb2 hs1
 replace g2 := below_cell g2 hb2 hs1
 have hsz2 := hb2.size
 have hb02 := hb1.trans (hb2.mono hb1.size)
 obtain ⟨w3, hw3⟩ := exq (w2.alloc (.cells #[.int .i64 0, .int .i64 0, .slice none 0 0] 26))
 have hb3 : Below w2.heap.size w2 w3 := by rw [hw3]; exact (Below.refl _ _).alloc (Nat.le_refl _) _
 have hX3 : w3.heap[w2.heap.size]? = some (.cells #[.int .i64 0, .int .i64 0, .slice none 0 0] 26 (0, 0)) := by rw [hw3]; exact heap_alloc_new _ _
 obtain ⟨w4, hw4⟩ := exq (((w3.setCell ⟨w2.heap.size, 0, none⟩ (.int .i64 r)).setCell ⟨w2.heap.size, 1, none⟩ (.int .i64 TS)).setCell ⟨w2.heap.size, 2, none⟩ (.slice ca TE.length cc))
 have hb4 : Below w2.heap.size w2 w4 := by rw [hw4]; exact below_set3 hb3 (Nat.le_refl _)
 replace g0 := below_cell g0 hb4 (by omega)
 replace g1 := below_cell g1 hb4 (by omega)
 replace g2 := below_cell g2 hb4 (by omega)
 obtain ⟨wd, hwd⟩ := exq w4.drew
 have hbd : Below w4.heap.size w4 wd := by rw [hwd]; exact below_dn (Below.refl _ _) 1
 have hsz4 := hb4.size
 replace g0 := below_cell g0 hbd (by omega)
 replace g1 := below_cell g1 hbd (by omega)
 replace g2 := below_cell g2 hbd (by omega)
 have hsw : w.heap.size < wd.heap.size := by have := hbd.size; omega
 have hb1d := hidI (hb02.trans ((hb4.trans (hbd.mono hsz4)).mono hb02.size))
 have hw3w := hidI hw3.symm
 have hw4w := hidI hw4.symm
 have hwdw := hidI hwd.symm
 replace hw3 := hidI hw3
 replace hw4 := hidI hw4
 replace hwd := hidI hwd
 obtain ⟨t0, t1, t2⟩ := cell3 hX3
 have ft := fun j => frozen_of_row w3 w2.heap.size j _ _ hX3
 simp at t0 t1 t2
 replace hX3 := hidI hX3
 replace hrow2 := hidI hrow2
 replace hst2 := hidI hst2
 replace hd0 := hidI hd0
 replace hb2 := hidI hb2
 clear hb3 hb4 hb02 hbd
 have hcf1 := hcf.out wd ((h.out.below hb1d.out).mono hb1d.out.size)
 go_upto_region 2 with (first | rw [hw3w.out] | fail)
 rw [hw4w.out]
 clear t0 t1 t2 ft
 cases B with
 | false =>
  have hfin : Hid (F = false) := hidI (by rw [hF.out]; rfl)
  replace hF := hidI hF
  refine hideQ (fun _ _ d _ _ h => by cases d <;> exact h) (fun Q' hnorm hpan => ?_)
  refine wp_region_held_drew (S := (fun W0 => W0.cell? ⟨w.heap.size, 0, none⟩ = some (.int .i64 r) ∧ W0.cell? ⟨w.heap.size, 1, none⟩ = some (.int .i64 s) ∧ W0.cell? ⟨w.heap.size, 2, none⟩ = some (.slice a n cap))) (by kernel_rfl) ?_ (fun hHeld => ?_)
  · try dsimp only
    first | ((repeat' apply And.intro) <;> assumption) | (rw [hwdw.out]; ((repeat' apply And.intro) <;> assumption))
  rw [hwdw.out] at hHeld ⊢
  refine tk 0 10 ?_
  refine rd 1 (fun K hK => ?_)
  rw [if_pos (by rfl)]
  go_simp
  refine hcf1.mono ?_
  rintro e w5 ⟨rfl, hb5⟩
  have p0 := below_cell g0 hb5 hsw
  have p1 := below_cell g1 hb5 hsw
  have p2 := below_cell g2 hb5 hsw
  have hs5 : w.heap.size < w5.heap.size := by have := hb5.size; omega
  have hb15 := hidI (hb1d.out.trans (hb5.mono hb1d.out.size))
  refine hK.out _ _ ?_ (fun hHeld => ?_)
  · try dsimp only
    first | ((repeat' apply And.intro) <;> assumption) | (rw [hwdw.out]; ((repeat' apply And.intro) <;> assumption))
  clear hK
  try simp only [Act.put, lyA, lyB, lyC]
  refine tk 2 12 ?_
  refine tn 3 13 ?_
  refine tn 4 14 ?_
  refine tn 5 15 ?_
  refine tn 6 16 ?_
  refine tn 7 17 ?_
  refine tg 8 18 ?_
  refine tg 9 19 ?_
  refine tn 10 20 ?_
  refine tn 12 22 ?_
  refine tn 11 21 ?_
  refine tn 13 23 ?_
  refine tk 14 24 ?_
  refine tk 15 2 ?_
  refine wpAnyH_done (by kernel_rfl) ?_ _
  refine hnorm _ _ ?_
  clear hnorm hpan
  repeat clear hHeld
  try simp only [Exit.then]
  have hbz := hb1d.out.trans (hb5.mono hb1d.out.size)
  go_wp2
  go_ret
  exact ⟨ret_bool hfin.out.symm, hbz⟩
 | true =>
  by_cases hf0 : (L : Int) = s
  case neg =>
   have hfin : Hid (F = false) := hidI (by rw [hF.out, decide_eq_false (fun c => hf0 ((hall.out rfl).2 c))]; rfl)
   replace hF := hidI hF
   have hfd : decide ((L : Int) = s) = false := decide_eq_false hf0
   have hfe : ((L : Int) == s) = false := by rw [beq_eq_false_iff_ne]; exact hf0
   replace hf0 := hidI hf0
   refine hideQ (fun _ _ d _ _ h => by cases d <;> exact h) (fun Q' hnorm hpan => ?_)
   refine wp_region_held_drew (S := (fun W0 => W0.cell? ⟨w.heap.size, 0, none⟩ = some (.int .i64 r) ∧ W0.cell? ⟨w.heap.size, 1, none⟩ = some (.int .i64 s) ∧ W0.cell? ⟨w.heap.size, 2, none⟩ = some (.slice a n cap))) (by kernel_rfl) ?_ (fun hHeld => ?_)
   · try dsimp only
     first | ((repeat' apply And.intro) <;> assumption) | (rw [hwdw.out]; ((repeat' apply And.intro) <;> assumption))
   rw [hwdw.out] at hHeld ⊢
   refine tk 0 10 ?_
   refine rd 1 (fun K hK => ?_)
   rw [if_pos (by rfl)]
   go_simp
   refine hcf1.mono ?_
   rintro e w5 ⟨rfl, hb5⟩
   have p0 := below_cell g0 hb5 hsw
   have p1 := below_cell g1 hb5 hsw
   have p2 := below_cell g2 hb5 hsw
   have hs5 : w.heap.size < w5.heap.size := by have := hb5.size; omega
   have hb15 := hidI (hb1d.out.trans (hb5.mono hb1d.out.size))
   refine hK.out _ _ ?_ (fun hHeld => ?_)
   · try dsimp only
     first | ((repeat' apply And.intro) <;> assumption) | (rw [hwdw.out]; ((repeat' apply And.intro) <;> assumption))
   clear hK
   try simp only [Act.put, lyA, lyB, lyC]
   refine tk 2 12 ?_
   refine tg 3 13 ?_
   refine tg 4 14 ?_
   refine tg 5 15 ?_
   refine tg 6 16 ?_
   refine tg 7 17 ?_
   try rw [hfd]
   try rw [hfe]
   refine tg 8 18 ?_
   refine tg 9 19 ?_
   refine tn 10 20 ?_
   refine tn 12 22 ?_
   refine tn 11 21 ?_
   refine tn 13 23 ?_
   refine tk 14 24 ?_
   refine tk 15 2 ?_
   refine wpAnyH_done (by kernel_rfl) ?_ _
   refine hnorm _ _ ?_
   clear hnorm hpan
   repeat clear hHeld
   try simp only [Exit.then]
   have hbz := hb1d.out.trans (hb5.mono hb1d.out.size)
   go_wp2
   go_ret
   exact ⟨ret_bool hfin.out.symm, hbz⟩
  case pos =>
   have hfin : Hid (F = eqG r ZS ZE r s es) := hidI (by rw [hF.out, decide_eq_true ((hall.out rfl).1 hf0)]; rfl)
   replace hF := hidI hF
   have hfd : decide ((L : Int) = s) = true := decide_eq_true hf0
   have hfe : ((L : Int) == s) = true := by rw [beq_iff_eq]; exact hf0
   replace hf0 := hidI hf0
   refine hideQ (fun _ _ d _ _ h => by cases d <;> exact h) (fun Q' hnorm hpan => ?_)
   refine wp_region_held_drew (S := (fun W0 => W0.cell? ⟨w.heap.size, 0, none⟩ = some (.int .i64 r) ∧ W0.cell? ⟨w.heap.size, 1, none⟩ = some (.int .i64 s) ∧ W0.cell? ⟨w.heap.size, 2, none⟩ = some (.slice a n cap))) (by kernel_rfl) ?_ (fun hHeld => ?_)
   · try dsimp only
     first | ((repeat' apply And.intro) <;> assumption) | (rw [hwdw.out]; ((repeat' apply And.intro) <;> assumption))
   rw [hwdw.out] at hHeld ⊢
   refine tk 0 10 ?_
   refine rd 1 (fun K hK => ?_)
   rw [if_pos (by rfl)]
   go_simp
   refine hcf1.mono ?_
   rintro e w5 ⟨rfl, hb5⟩
   have p0 := below_cell g0 hb5 hsw
   have p1 := below_cell g1 hb5 hsw
   have p2 := below_cell g2 hb5 hsw
   have hs5 : w.heap.size < w5.heap.size := by have := hb5.size; omega
   have hb15 := hidI (hb1d.out.trans (hb5.mono hb1d.out.size))
   refine hK.out _ _ ?_ (fun hHeld => ?_)
   · try dsimp only
     first | ((repeat' apply And.intro) <;> assumption) | (rw [hwdw.out]; ((repeat' apply And.intro) <;> assumption))
   clear hK
   try simp only [Act.put, lyA, lyB, lyC]
   refine tk 2 12 ?_
   refine tg 3 13 ?_
   refine tg 4 14 ?_
   refine tg 5 15 ?_
   refine tg 6 16 ?_
   refine tg 7 17 ?_
   try rw [hfd]
   try rw [hfe]
   refine tg 8 18 ?_
   refine tg 9 19 ?_
   refine tg 10 20 ?_
   refine tg 12 22 ?_
   refine rd 11 (fun K hK => ?_)
   rw [if_pos (by kernel_rfl)]
   go_simp
   refine (hcg.out w5 ((h.out.below hb15.out).mono hb15.out.size)).mono ?_
   rintro e w6 ⟨ea, ec, rfl, hrow6, hb6⟩
   have u0 := below_cell p0 hb6 hs5
   have u1 := below_cell p1 hb6 hs5
   have u2 := below_cell p2 hb6 hs5
   have hs6 : w.heap.size < w6.heap.size := by have := hb6.size; omega
   have hb16 := hidI (hb15.out.trans (hb6.mono hb15.out.size))
   have heq := progEqG w6 r ZS r s (.slice ea ZE.length ec) (.slice a n cap) ZE es hrow6.read ((h.out.below hb16.out).mono hb16.out.size) (by have := hn.out; omega) (by have := hn.out; omega)
   rw [← hfin.out] at heq
   replace hrow6 := hidI hrow6
   refine hK.out _ _ ?_ (fun hHeld => ?_)
   · try dsimp only
     first | ((repeat' apply And.intro) <;> assumption) | (rw [hwdw.out]; ((repeat' apply And.intro) <;> assumption))
   clear hK
   try simp only [Act.put, lyA, lyB, lyC]
   refine rd 13 (fun K hK => ?_)
   rw [if_pos (by kernel_rfl)]
   go_simp
   refine heq.mono ?_
   rintro e w7 ⟨rfl, hb7⟩
   have x0 := below_cell u0 hb7 hs6
   have x1 := below_cell u1 hb7 hs6
   have x2 := below_cell u2 hb7 hs6
   have hb17 := hidI (hb16.out.trans (hb7.mono hb16.out.size))
   refine hK.out _ _ ?_ (fun hHeld => ?_)
   · try dsimp only
     first | ((repeat' apply And.intro) <;> assumption) | (rw [hwdw.out]; ((repeat' apply And.intro) <;> assumption))
   clear hK
   try simp only [Act.put, lyA, lyB, lyC]
   refine tk 14 24 ?_
   refine tk 15 2 ?_
   refine wpAnyH_done (by kernel_rfl) ?_ _
   refine hnorm _ _ ?_
   clear hnorm hpan
   repeat clear hHeld
   try simp only [Exit.then]
   have hbz := hb17.out
   go_wp2
   go_ret
   exact ⟨rfl, hbz⟩
end Go.Proofs.YtpjlamnjiilgbaaGreat
namespace Go.Proofs.YtpjlamnjiilgbaaGreat
open Go.RowKit
set_option linter.unusedVariables false
def Dr (B g : Nat) (a : Option Addr) (len cap : Nat) (w : World) : Prop := CurAt B w g a len cap ∧ CodeIn B w a len
theorem Dr.lt {B g : Nat} {a : Option Addr} {len cap : Nat} {w : World} (h : Dr B g a len cap w) : g < w.heap.size := h.1.lt
theorem Dr.next {B g : Nat} {a : Option Addr} {len cap : Nat} {w w' : World} (h : Dr B g a len cap w) (hg : w.grownBy w' (some g)) (hc : CurAt B w' g a len cap) : Dr B g a len cap w' := ⟨hc, h.2.below (h.1.below hg)⟩
theorem Dr.alloc {B g : Nat} {a : Option Addr} {len cap : Nat} {w : World} (h : Dr B g a len cap w) (o : Obj) : Dr B g a len cap (w.alloc o) :=
 h.next (World.grownBy_alloc w o (some g)) (h.1.alloc o)
theorem Dr.over {B g base : Nat} {a : Option Addr} {len cap : Nat} {w w' : World} (h : Dr B g a len cap w) (hb : Below base w w') (hg : g < base) : Dr B g a len cap w' :=
 ⟨h.1.over hg hb, h.2.below (hb.mono (by have := h.1.1; omega))⟩
theorem Dr.below {B g : Nat} {a : Option Addr} {len cap : Nat} {w w' : World} (h : Dr B g a len cap w) (hg : w.grownBy w' (some g)) : Below B w w' := h.1.below hg
theorem OwnsI.kept {w w' : World} {base : Nat} {v : Value} {bs : List Int} (h : OwnsI w base v bs) {g : Nat} (hg : w.grownBy w' (some g)) (hlt : g < base) : OwnsI w' base v bs :=
 World.ownsRow.kept h hg (by
  rcases hv : v.ownBlock with _ | k
  · exact .inl rfl
  · refine .inr (fun e => ?_)
    have := (World.ownsRow.lt h k hv).1
    cases e
    omega)
def Lets (r : Int) (zs : List Int) : Prop := ∀ x ∈ zs, x ≠ 0 ∧ -r ≤ x ∧ x ≤ r
theorem Lets.nil (r : Int) : Lets r [] := by intro x h; cases h
set_option linter.unusedSimpArgs false
end Go.Proofs.YtpjlamnjiilgbaaGreat
namespace Go.Proofs.YtpjlamnjiilgbaaGreat
open Go.RowKit
set_option linter.unusedVariables false
set_option linter.unusedSimpArgs false
theorem LwEdges.form {w w' : World} {es : List Ed} {e : Ending} (h : LwEdges w es e w') : ∃ a n cap, n = es.length ∧ e = .returned (.slice a n cap) ∧ RowS 72 3 w' w.heap.size w'.heap.size (.slice a n cap) es.length (flatE es) ∧ Below w.heap.size w w' := by
 obtain ⟨a, cap, he, hr, hb⟩ := h
 exact ⟨a, _, cap, rfl, he, hr, hb⟩
end Go.Proofs.YtpjlamnjiilgbaaGreat
namespace Go.Proofs.YtpjlamnjiilgbaaGreat
open Go.RowKit
set_option linter.unusedVariables false
set_option linter.unusedSimpArgs false
set_option maxHeartbeats 3200000 in
theorem progIsSub (w : World) (r s : Int) (v : Value) (es : List Ed) (h : ReadE w.heap.size w v es) (hl : es.length ≤ 10000000) :
 Calls Tryz.prog 53 #[.agg #[.int .i64 r, .int .i64 s, v]] w (LwBool w (isCo r s es)) := by
 obtain ⟨a, cap, rfl, hnc⟩ := h.form
 obtain ⟨n, hn⟩ := exq es.length
 rw [← hn] at hl hnc ⊢
 rw [← hn] at h
 obtain ⟨w1, hw1⟩ := exq (w.alloc (.cells #[.int .i64 r, .int .i64 s, .slice a n cap] 26))
 have hb1 : Below w.heap.size w w1 := by rw [hw1]; exact (Below.refl _ _).alloc (Nat.le_refl _) _
 have hs1 : w.heap.size < w1.heap.size := by rw [hw1]; simp
 obtain ⟨g0, g1, g2⟩ := box3 hw1
 have hco := progIsCo w1 r s (.slice a n cap) es (by have := (h.below hb1).mono hb1.size; exact this) (by omega)
 obtain ⟨B, hB⟩ := exq (isCo r s es)
 rw [← hB] at hco ⊢
 replace hB := hidI hB
 replace hn := hidI hn
 replace h := hidI h
 replace hw1 := hidI hw1
 go_enter Tryz.func53, Tryz.ntmps53
 go_wp2_with fail
 rw [← hw1.out]
 refine hco.mono ?_
 rintro e w2 ⟨rfl, hb2⟩
 clear hco g0 g1 g2
 have hbq := hb1.trans (hb2.mono hb1.size)
 go_wp2
 go_ret
 exact ⟨ret_bool rfl, hbq⟩
def GrSt (w : World) (X base : Nat) (r sz : Int) (v : Value) (E : List Ed) : Prop :=
 w.heap[X]? = some (.cells #[.int .i64 r, .int .i64 sz, v] 26 (0, 0)) ∧ OwnsE w base v E ∧ v.ownBlock ≠ some X
theorem GrSt.form {w : World} {X base : Nat} {r sz : Int} {v : Value} {E : List Ed} (h : GrSt w X base r sz v E) : ∃ a c, v = .slice a E.length c := by
 obtain ⟨_, ⟨_, ⟨h1, h2⟩ | ⟨g, cap, cur, h1, _⟩⟩, _⟩ := h
 · exact ⟨none, 0, by rw [h1, h2]⟩
 · exact ⟨_, _, h1⟩
end Go.Proofs.YtpjlamnjiilgbaaGreat
