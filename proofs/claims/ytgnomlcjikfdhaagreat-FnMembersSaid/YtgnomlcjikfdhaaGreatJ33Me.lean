import Derived.Test.YtgnomlcjikfdhaaGreatJ5Me
import Derived.Test.YtgnomlcjikfdhaaGreatJ2Me
import Derived.Test.YtgnomlcjikfdhaaGreatJ22Me
import Derived.Test.YtgnomlcjikfdhaaGreatJ29Me
import Derived.Test.YtgnomlcjikfdhaaGreatJ32Me
namespace Go.Proofs.YtgnomlcjikfdhaaGreat
open Go.RowKit
set_option linter.unusedVariables false
set_option linter.unusedSimpArgs false
set_option maxHeartbeats 1600000 in
theorem Lc (w : World) (B : Nat) (v v' : Value) (es es' : List Ed) (h : ay B w v es) (h' : ay B w v' es') (hl : es.length ≤ 1000000000) (hl' : es'.length ≤ 1000000000) :
 Calls Tryz.prog 115 #[v, v'] w fun e w' => e = .returned (.bool (decide (es = es'))) ∧ ∃ m, w' = w.drewN m := by
 obtain ⟨a, cap, rfl, hnc⟩ := h.form; obtain ⟨a', cap', rfl, hnc'⟩ := h'.form; obtain ⟨n, hn⟩ := ag es.length; obtain ⟨n', hn'⟩ : ∃ n', n' = es'.length := ⟨_, rfl⟩; rw [← hn] at hl hnc ⊢; rw [← hn] at h; rw [← hn'] at hl' hnc' ⊢; rw [← hn'] at h'; obtain ⟨F, hF⟩ := ag (decide (es = es')); rw [← hF]; replace hF := ae hF; replace hn := ae hn; replace hn' := ae hn'; replace h := ae h; replace h' := ae h'
 go_enter Tryz.func115, Tryz.ntmps115
 by_cases q3 : n = n'
 case neg =>
  have t3 : ((n : Int) != (n' : Int)) = true := by rw [bne_iff_ne]; omega
  have hF2 : F = false := by rw [hF.out]; rw [decide_eq_false_iff_not]; intro hh; exact q3 (by rw [hn.out, hn'.out, hh])
  replace q3 := ae q3; go_wp2; go_ret; exact ⟨by first | rfl | (rw [hF2]; rfl), 0, rfl⟩
 subst q3; have t3 : ((n : Int) != (n : Int)) = false := by rw [bne_eq_false_iff_eq]
 go_wp2
 go_loopg [13] n (fun g i wr => ∃ k m : Nat, k + g = n ∧ i = .int .i64 k ∧ Hid (∀ j, j < k → es.getD j e0 = es'.getD j e0) ∧ wr = w.drewN m)
 case atStart => exact ⟨0, 0, by omega, rfl, ae (fun j h => by omega), rfl⟩
 case round =>
  obtain ⟨k, m, hk, rfl, hp, rfl⟩ := hrel; by_cases hlt : k < n
  · obtain ⟨b, off, rfl, hB, c0, c1, c2⟩ := ay.at3 h.out k (by have := hn.out; omega)
    obtain ⟨b', off', rfl, hB', d0, d1, d2⟩ := ay.at3 h'.out k (by have := hn'.out; omega)
    obtain ⟨f, hf⟩ := ag ((es.getD k e0).1); obtain ⟨l, hll⟩ := ag ((es.getD k e0).2.1); obtain ⟨t, ht⟩ := ag ((es.getD k e0).2.2); obtain ⟨f', hf'⟩ : ∃ z, z = (es'.getD k e0).1 := ⟨_, rfl⟩; obtain ⟨l', hl2⟩ : ∃ z, z = (es'.getD k e0).2.1 := ⟨_, rfl⟩; obtain ⟨t', ht'⟩ : ∃ z, z = (es'.getD k e0).2.2 := ⟨_, rfl⟩; rw [← hf] at c0; rw [← hll] at c1; rw [← ht] at c2; rw [← hf'] at d0; rw [← hl2] at d1; rw [← ht'] at d2
    have he1 : es.getD k e0 = (f, l, t) := by rw [hf, hll, ht]
    have he2 : es'.getD k e0 = (f', l', t') := by rw [hf', hl2, ht']
    have hki : (k : Int) < (n : Int) := by omega
    have hstep : f = f' → l = l' → t = t' → ∀ j, j < k + 1 → es.getD j e0 = es'.getD j e0 := by
     intro e1 e2 e3 j hj; by_cases hj2 : j = k
     · subst hj2; rw [he1, he2, e1, e2, e3]
     · exact hp.out j (by omega)
    have hne : (f, l, t) ≠ (f', l', t') → F = false := by
     intro hq; rw [hF.out, decide_eq_false_iff_not]; intro hh; rw [← he1, ← he2, hh] at hq; exact hq rfl
    replace hstep := ae hstep; replace hne := ae hne; replace he1 := ae he1; replace he2 := ae he2; replace hf := ae hf; replace hll := ae hll; replace ht := ae ht; replace hf' := ae hf'; replace hl2 := ae hl2; replace ht' := ae ht'; replace hk := ae hk; by_cases q1 : f = f'
    · by_cases q2 : l = l'
      · by_cases q4 : t = t'
        · have hnx := ae (hstep.out q1 q2 q4)
          subst q1 q2 q4; go_wp2; go_quiet (fail)
          go_wp2; go_roundg (n - (k + 1))
          case rel => exact ⟨k + 1, _, by have := hk.out; omega, by go_num, hnx, rfl⟩
          case measure => have := hk.out; omega
        · have hfin := ae (hne.out (by intro hq; simp at hq; exact q4 hq.2.2))
          have u4 : (t == t') = false := by rw [beq_eq_false_iff_ne]; exact q4
          subst q1 q2; go_wp2; go_quiet (fail)
          go_wp2; go_ret; exact ⟨au hfin.out.symm, _, World.drewN_drewN w m nq⟩
      · have hfin := ae (hne.out (by intro hq; simp at hq; exact q2 hq.2.1))
        have u2 : (l == l') = false := by rw [beq_eq_false_iff_ne]; exact q2
        subst q1; go_wp2; go_quiet (fail)
        go_wp2; go_ret; exact ⟨au hfin.out.symm, _, World.drewN_drewN w m nq⟩
    · have hfin := ae (hne.out (by intro hq; simp at hq; exact q1 hq.1))
      have u1 : (f == f') = false := by rw [beq_eq_false_iff_ne]; exact q1
      go_wp2; go_quiet (fail)
      go_wp2; go_ret; exact ⟨au hfin.out.symm, _, World.drewN_drewN w m nq⟩
  · obtain rfl : k = n := by omega
    have hfin : F = true := by rw [hF.out, decide_eq_true_eq]; exact sV (by rw [← hn.out, ← hn'.out]) (fun j hj => hp.out j (by have := hn.out; omega))
    have hki : ¬ (k : Int) < (k : Int) := by omega
    replace hfin := ae hfin; replace hk := ae hk; go_wp2; go_ret; exact ⟨au hfin.out.symm, _, rfl⟩
set_option maxHeartbeats 1600000 in
theorem yC (w : World) (r s r' s' : Int) (v v' : Value) (es es' : List Ed) (h : ay w.heap.size w v es) (h' : ay w.heap.size w v' es') (hl : es.length ≤ 1000000000) (hl' : es'.length ≤ 1000000000) :
 Calls Tryz.prog 78 #[.agg #[.int .i64 r, .int .i64 s, v], .agg #[.int .i64 r', .int .i64 s', v']] w (dU w (kP r s es r' s' es')) := by
 obtain ⟨a, cap, rfl, hnc⟩ := h.form; obtain ⟨a', cap', rfl, hnc'⟩ := h'.form; obtain ⟨n, hn⟩ := ag es.length; obtain ⟨n', hn'⟩ : ∃ n', n' = es'.length := ⟨_, rfl⟩; obtain ⟨w1, hw1⟩ := ag ((w.alloc (.cells #[.int .i64 r, .int .i64 s, .slice a n cap] 26)).alloc (.cells #[.int .i64 r', .int .i64 s', .slice a' n' cap'] 26)); have hb1 : Below w.heap.size w w1 := by rw [hw1]; exact ((Below.refl _ _).alloc (nl _) _).alloc (by simp) _
 have hg := dH w (.cells #[.int .i64 r, .int .i64 s, .slice a n cap] 26) (.cells #[.int .i64 r', .int .i64 s', .slice a' n' cap'] 26); have hk := heap_alloc_new (w.alloc (.cells #[.int .i64 r, .int .i64 s, .slice a n cap] 26)) (.cells #[.int .i64 r', .int .i64 s', .slice a' n' cap'] 26); rw [← hw1] at hg hk; rw [show (w.alloc (.cells #[.int .i64 r, .int .i64 s, .slice a n cap] 26)).heap.size = w.heap.size + 1 by simp] at hk
 obtain ⟨g0, g1, g2⟩ := ah hg; obtain ⟨k0, k1, k2⟩ := ah hk; simp at g0 g1 g2 k0 k1 k2
 have hcall := Lc w1 w.heap.size (.slice a es.length cap) (.slice a' es'.length cap') es es' (h.below hb1) (h'.below hb1) hl hl'; rw [← hn, ← hn'] at hcall ⊢; obtain ⟨F, hF⟩ := ag (kP r s es r' s' es'); obtain ⟨E, hE⟩ := ag (decide (es = es')); rw [← hF]; rw [← hE] at hcall; have hFE : r = r' → s = s' → F = E := by
  intro h1 h2; rw [hF, hE]; unfold kP; simp [h1, h2]
 have hF1 : r ≠ r' → F = false := by intro h1; rw [hF]; unfold kP; simp [h1]
 have hF2 : s ≠ s' → F = false := by intro h1; rw [hF]; unfold kP; simp [h1]
 replace hF := ae hF; replace hE := ae hE; replace hFE := ae hFE; replace hF1 := ae hF1; replace hF2 := ae hF2; replace hn := ae hn; replace hn' := ae hn'; replace h := ae h; replace h' := ae h'; replace hw1 := ae hw1; clear hg hk; go_enter Tryz.func78, Tryz.ntmps78
 by_cases q1 : r = r'
 case neg =>
  have t1 : (r == r') = false := by rw [beq_eq_false_iff_ne]; exact q1
  have hfin := ae (hF1.out q1); replace q1 := ae q1; go_wp2; rw [← hw1.out]; go_wp2; go_ret; exact ⟨au hfin.out.symm, hb1⟩
 have t1 : (r == r') = true := by rw [beq_iff_eq]; exact q1
 by_cases q2 : s = s'
 case neg =>
  have t2 : (s == s') = false := by rw [beq_eq_false_iff_ne]; exact q2
  have hfin := ae (hF2.out q2); replace q1 := ae q1; replace q2 := ae q2; go_wp2; rw [← hw1.out]; go_wp2; go_ret; exact ⟨au hfin.out.symm, hb1⟩
 have t2 : (s == s') = true := by rw [beq_iff_eq]; exact q2
 have hfin := ae (hFE.out q1 q2); replace q1 := ae q1; replace q2 := ae q2; go_wp2_with fail; rw [← hw1.out]; refine hcall.mono ?_; rintro e w2 ⟨rfl, m, rfl⟩; go_wp2; go_ret; exact ⟨au hfin.out.symm, bf hb1 m⟩
def dL (r s : Int) (es : List Ed) : Bool := bJ r s es && decide (lf r s es < 0) && kP r (jr r s es) (jk r s es) r s es
set_option maxRecDepth 100000 in
set_option maxHeartbeats 3200000 in
theorem IW (w : World) (r s : Int) (v : Value) (es : List Ed) (h : ay w.heap.size w v es) (hs : -9223372036854775808 ≤ s ∧ s ≤ 9223372036854775807) (hl : es.length ≤ 10000000) :
 Calls Tryz.prog 69 #[.agg #[.int .i64 r, .int .i64 s, v]] w (dU w (dL r s es)) := by
 obtain ⟨a, cap, rfl, hnc⟩ := h.form; obtain ⟨n, hn⟩ := ag es.length; rw [← hn] at hl hnc ⊢; rw [← hn] at h; obtain ⟨w1, hw1⟩ := ag (w.alloc (.cells #[.int .i64 r, .int .i64 s, .slice a n cap] 26)); have hb1 : Below w.heap.size w w1 := by rw [hw1]; exact (Below.refl _ _).alloc (nl _) _
 have hs1 : w.heap.size < w1.heap.size := by rw [hw1]; simp
 obtain ⟨g0, g1, g2⟩ := bT hw1; obtain ⟨wd, hwd⟩ := ag w1.drew; have hbd : Below w1.heap.size w1 wd := by rw [hwd]; exact bf (Below.refl _ _) 1
 have hsd := hbd.size; replace g0 := af g0 hbd hs1; replace g1 := af g1 hbd hs1; replace g2 := af g2 hbd hs1; have hb1d := hb1.trans (hbd.mono hb1.size); have hsw : w.heap.size < wd.heap.size := by omega
 have hcf := sD wd r s (.slice a n cap) es ((h.below hb1d).mono hb1d.size) hs (by omega)
 have hle := fun (W : World) (hr : ay W.heap.size W (.slice a n cap) es) => Ac W r s (.slice a n cap) es hr hs (by omega)
 have hcg := fun (W : World) (hr : ay W.heap.size W (.slice a n cap) es) => Ai W r s (.slice a n cap) es hr hs (by omega)
 have hcl := rM r s es; obtain ⟨F, hF⟩ := ag (dL r s es); rw [← hF]; unfold dL at hF; obtain ⟨ZS, hZS⟩ := ag (jr r s es); obtain ⟨ZE, hZE⟩ := ag (jk r s es); obtain ⟨f, hf⟩ := ag (lf r s es); obtain ⟨B, hB⟩ := ag (bJ r s es); rw [← hZS, ← hZE] at hcg; rw [← hZE] at hcl; rw [← hf] at hle; rw [← hB] at hcf; rw [← hB, ← hf, ← hZS, ← hZE] at hF; replace hZS := ae hZS; replace hZE := ae hZE; replace hf := ae hf
 replace hF := ae hF; replace hB := ae hB; replace hle := ae hle; replace hcg := ae hcg; replace hw1 := ae hw1; replace hwd := ae hwd; replace hn := ae hn; replace h := ae h; replace hb1d := ae hb1d; clear hb1 hbd
 cases B with
 | false =>
  have hfin : Hid (F = false) := ae (by rw [hF.out]; rfl)
  replace hF := ae hF; go_enter Tryz.func69, Tryz.ntmps69
  go_wp2; rw [← hw1.out]; refine bV (fun _ _ d _ _ h => by cases d <;> exact h) (fun Q' hnorm hpan => ?_)
  refine wp_region_held_drew (S := (fun W0 => W0.cell? ⟨w.heap.size, 0, none⟩ = some (.int .i64 r) ∧ W0.cell? ⟨w.heap.size, 1, none⟩ = some (.int .i64 s) ∧ W0.cell? ⟨w.heap.size, 2, none⟩ = some (.slice a n cap))) (by kernel_rfl) ?_ (fun hHeld => ?_)
  · try dsimp only
    first | ((repeat' apply And.intro) <;> assumption) | (rw [← hwd.out]; ((repeat' apply And.intro) <;> assumption))
  rw [← hwd.out] at hHeld ⊢; refine tk 0 3 ?_; refine rd 1 (fun K hK => ?_)
  rw [if_pos (by rfl)]
  go_simp; refine hcf.mono ?_; rintro e w2 ⟨rfl, hb2⟩; have p0 := af g0 hb2 hsw; have p1 := af g1 hb2 hsw; have p2 := af g2 hb2 hsw; have hs2 : w.heap.size < w2.heap.size := by have := hb2.size; omega
  have hb12 := ae (hb1d.out.trans (hb2.mono hb1d.out.size)); refine hK.out _ _ ?_ (fun hHeld => ?_)
  · try dsimp only
    first | ((repeat' apply And.intro) <;> assumption) | (rw [← hwd.out]; ((repeat' apply And.intro) <;> assumption))
  clear hK; try simp only [Act.put, aJ, aH, aI]
  refine tk 2 5 ?_; refine tn 3 6 ?_; refine tn 4 7 ?_; refine tn 5 8 ?_; refine tg 6 9 ?_; refine tg 7 10 ?_; refine tn 8 11 ?_; refine tn 10 13 ?_; refine tn 9 12 ?_; refine tn 11 14 ?_; refine tk 12 15 ?_; refine tk 13 2 ?_; refine wpAnyH_done (by kernel_rfl) ?_ _
  refine hnorm _ _ ?_; clear hnorm hpan; repeat clear hHeld
  try simp only [Exit.then]
  have hbz := hb1d.out.trans (hb2.mono hb1d.out.size); go_wp2; go_ret; exact ⟨au hfin.out.symm, hbz⟩
 | true =>
  by_cases hf0 : f < 0
  case neg =>
   have hfin : Hid (F = false) := ae (by rw [hF.out, decide_eq_false hf0]; rfl)
   replace hF := ae hF; have hfd : decide (f < 0) = false := decide_eq_false hf0; replace hf0 := ae hf0; go_enter Tryz.func69, Tryz.ntmps69
   go_wp2; rw [← hw1.out]; refine bV (fun _ _ d _ _ h => by cases d <;> exact h) (fun Q' hnorm hpan => ?_)
   refine wp_region_held_drew (S := (fun W0 => W0.cell? ⟨w.heap.size, 0, none⟩ = some (.int .i64 r) ∧ W0.cell? ⟨w.heap.size, 1, none⟩ = some (.int .i64 s) ∧ W0.cell? ⟨w.heap.size, 2, none⟩ = some (.slice a n cap))) (by kernel_rfl) ?_ (fun hHeld => ?_)
   · try dsimp only
     first | ((repeat' apply And.intro) <;> assumption) | (rw [← hwd.out]; ((repeat' apply And.intro) <;> assumption))
   rw [← hwd.out] at hHeld ⊢; refine tk 0 3 ?_; refine rd 1 (fun K hK => ?_)
   rw [if_pos (by rfl)]
   go_simp; refine hcf.mono ?_; rintro e w2 ⟨rfl, hb2⟩; have p0 := af g0 hb2 hsw; have p1 := af g1 hb2 hsw; have p2 := af g2 hb2 hsw; have hs2 : w.heap.size < w2.heap.size := by have := hb2.size; omega
   have hb12 := ae (hb1d.out.trans (hb2.mono hb1d.out.size)); refine hK.out _ _ ?_ (fun hHeld => ?_)
   · try dsimp only
     first | ((repeat' apply And.intro) <;> assumption) | (rw [← hwd.out]; ((repeat' apply And.intro) <;> assumption))
   clear hK; try simp only [Act.put, aJ, aH, aI]
   refine tk 2 5 ?_; refine tg 3 6 ?_; refine rd 4 (fun K hK => ?_)
   rw [if_pos (by kernel_rfl)]
   go_simp; refine (hle.out w2 ((h.out.below hb12.out).mono hb12.out.size)).mono ?_; rintro e w3 ⟨rfl, hb3⟩; have q0 := af p0 hb3 hs2; have q1 := af p1 hb3 hs2; have q2 := af p2 hb3 hs2; have hs3 : w.heap.size < w3.heap.size := by have := hb3.size; omega
   have hb13 := ae (hb12.out.trans (hb3.mono hb12.out.size)); refine hK.out _ _ ?_ (fun hHeld => ?_)
   · try dsimp only
     first | ((repeat' apply And.intro) <;> assumption) | (rw [← hwd.out]; ((repeat' apply And.intro) <;> assumption))
   clear hK; try simp only [Act.put, aJ, aH, aI]
   refine tg 5 8 ?_; try rw [hfd]
   refine tg 6 9 ?_; refine tg 7 10 ?_; refine tn 8 11 ?_; refine tn 10 13 ?_; refine tn 9 12 ?_; refine tn 11 14 ?_; refine tk 12 15 ?_; refine tk 13 2 ?_; refine wpAnyH_done (by kernel_rfl) ?_ _
   refine hnorm _ _ ?_; clear hnorm hpan; repeat clear hHeld
   try simp only [Exit.then]
   have hbz := hb13.out; go_wp2; go_ret; exact ⟨au hfin.out.symm, hbz⟩
  case pos =>
   have hfin : Hid (F = kP r ZS ZE r s es) := ae (by rw [hF.out, decide_eq_true hf0]; rfl)
   replace hF := ae hF; have hfd : decide (f < 0) = true := decide_eq_true hf0; replace hf0 := ae hf0; go_enter Tryz.func69, Tryz.ntmps69
   go_wp2; rw [← hw1.out]; refine bV (fun _ _ d _ _ h => by cases d <;> exact h) (fun Q' hnorm hpan => ?_)
   refine wp_region_held_drew (S := (fun W0 => W0.cell? ⟨w.heap.size, 0, none⟩ = some (.int .i64 r) ∧ W0.cell? ⟨w.heap.size, 1, none⟩ = some (.int .i64 s) ∧ W0.cell? ⟨w.heap.size, 2, none⟩ = some (.slice a n cap))) (by kernel_rfl) ?_ (fun hHeld => ?_)
   · try dsimp only
     first | ((repeat' apply And.intro) <;> assumption) | (rw [← hwd.out]; ((repeat' apply And.intro) <;> assumption))
   rw [← hwd.out] at hHeld ⊢; refine tk 0 3 ?_; refine rd 1 (fun K hK => ?_)
   rw [if_pos (by rfl)]
   go_simp; refine hcf.mono ?_; rintro e w2 ⟨rfl, hb2⟩; have p0 := af g0 hb2 hsw; have p1 := af g1 hb2 hsw; have p2 := af g2 hb2 hsw; have hs2 : w.heap.size < w2.heap.size := by have := hb2.size; omega
   have hb12 := ae (hb1d.out.trans (hb2.mono hb1d.out.size)); refine hK.out _ _ ?_ (fun hHeld => ?_)
   · try dsimp only
     first | ((repeat' apply And.intro) <;> assumption) | (rw [← hwd.out]; ((repeat' apply And.intro) <;> assumption))
   clear hK; try simp only [Act.put, aJ, aH, aI]
   refine tk 2 5 ?_; refine tg 3 6 ?_; refine rd 4 (fun K hK => ?_)
   rw [if_pos (by kernel_rfl)]
   go_simp; refine (hle.out w2 ((h.out.below hb12.out).mono hb12.out.size)).mono ?_; rintro e w3 ⟨rfl, hb3⟩; have q0 := af p0 hb3 hs2; have q1 := af p1 hb3 hs2; have q2 := af p2 hb3 hs2; have hs3 : w.heap.size < w3.heap.size := by have := hb3.size; omega
   have hb13 := ae (hb12.out.trans (hb3.mono hb12.out.size)); refine hK.out _ _ ?_ (fun hHeld => ?_)
   · try dsimp only
     first | ((repeat' apply And.intro) <;> assumption) | (rw [← hwd.out]; ((repeat' apply And.intro) <;> assumption))
   clear hK; try simp only [Act.put, aJ, aH, aI]
   refine tg 5 8 ?_; try rw [hfd]
   refine tg 6 9 ?_; refine tg 7 10 ?_; refine tg 8 11 ?_; refine tg 10 13 ?_; refine rd 9 (fun K hK => ?_)
   rw [if_pos (by kernel_rfl)]
   go_simp; refine (hcg.out w3 ((h.out.below hb13.out).mono hb13.out.size)).mono ?_; rintro e w4 ⟨ca, cc, rfl, hrow4, hb4⟩; have u0 := af q0 hb4 hs3; have u1 := af q1 hb4 hs3; have u2 := af q2 hb4 hs3; have hs4 : w.heap.size < w4.heap.size := by have := hb4.size; omega
   have hb14 := ae (hb13.out.trans (hb4.mono hb13.out.size)); have heq := qU w4 r ZS r s (.slice ca ZE.length cc) (.slice a n cap) ZE es hrow4.read ((h.out.below hb14.out).mono hb14.out.size) (by have := hn.out; omega) (by have := hn.out; omega)
   rw [← hfin.out] at heq; replace hrow4 := ae hrow4; refine hK.out _ _ ?_ (fun hHeld => ?_)
   · try dsimp only
     first | ((repeat' apply And.intro) <;> assumption) | (rw [← hwd.out]; ((repeat' apply And.intro) <;> assumption))
   clear hK; try simp only [Act.put, aJ, aH, aI]
   refine rd 11 (fun K hK => ?_)
   rw [if_pos (by kernel_rfl)]
   go_simp; refine heq.mono ?_; rintro e w5 ⟨rfl, hb5⟩; have x0 := af u0 hb5 hs4; have x1 := af u1 hb5 hs4; have x2 := af u2 hb5 hs4; have hb15 := ae (hb14.out.trans (hb5.mono hb14.out.size)); refine hK.out _ _ ?_ (fun hHeld => ?_)
   · try dsimp only
     first | ((repeat' apply And.intro) <;> assumption) | (rw [← hwd.out]; ((repeat' apply And.intro) <;> assumption))
   clear hK; try simp only [Act.put, aJ, aH, aI]
   refine tk 12 15 ?_; refine tk 13 2 ?_; refine wpAnyH_done (by kernel_rfl) ?_ _
   refine hnorm _ _ ?_; clear hnorm hpan; repeat clear hHeld
   try simp only [Exit.then]
   have hbz := hb15.out; go_wp2; go_ret; exact ⟨rfl, hbz⟩
set_option maxRecDepth 100000 in
set_option maxHeartbeats 6400000 in
theorem JA (w : World) (r s : Int) (v : Value) (es : List Ed) (h : ay w.heap.size w v es) (hl : es.length ≤ 10000000) :
 Calls Tryz.prog 68 #[.agg #[.int .i64 r, .int .i64 s, v]] w (dU w (dL r s es)) := by
 obtain ⟨a, cap, rfl, hnc⟩ := h.form; obtain ⟨n, hn⟩ := ag es.length; rw [← hn] at hl hnc ⊢; rw [← hn] at h; obtain ⟨w1, hw1⟩ := ag (w.alloc (.cells #[.int .i64 r, .int .i64 s, .slice a n cap] 26)); have hb1 : Below w.heap.size w w1 := by rw [hw1]; exact (Below.refl _ _).alloc (nl _) _
 have hs1 : w.heap.size < w1.heap.size := by rw [hw1]; simp
 obtain ⟨g0, g1, g2⟩ := bT hw1; have htr := Ip w1 r s (.slice a n cap) es (by have := (h.below hb1).mono hb1.size; rw [hn] at this ⊢; exact this) (by omega)
 have hcf := fun (W : World) (hr : ay W.heap.size W (.slice a n cap) es) => Ju W r s (.slice a n cap) es hr (by omega)
 have hcg := fun (W : World) (hr : ay W.heap.size W (.slice a n cap) es) => Il W r s (.slice a n cap) es hr (by omega)
 have hcl := rM r s es; have htl := En r s es; obtain ⟨F, hF⟩ := ag (dL r s es); rw [← hF]; unfold dL at hF; have hall : bJ r s es = true → (((mM r s es).length : Int) = s ↔ lf r s es < 0) := fun hf => MR (by unfold bJ at hf; rw [Bool.and_eq_true] at hf; exact hf.1)
 obtain ⟨ZS, hZS⟩ := ag (jr r s es); obtain ⟨ZE, hZE⟩ := ag (jk r s es); obtain ⟨TS, hTS⟩ := ag (jE r s es); obtain ⟨TE, hTE⟩ := ag (jg r s es); obtain ⟨ZL, hZL⟩ := ag (mM r s es); obtain ⟨f, hf⟩ := ag (lf r s es); obtain ⟨B, hB⟩ := ag (bJ r s es); rw [← hTS, ← hTE, ← hZL] at htr; rw [← hZS, ← hZE] at hcg; rw [← hZE] at hcl; rw [← hZL] at htl hall; rw [← hf, ← hB] at hall; rw [← hB] at hcf; rw [← hB, ← hf, ← hZS, ← hZE] at hF
 obtain ⟨L, hL⟩ := ag ZL.length; rw [← hL] at hall htl; have hww := ae hw1.symm; replace hZS := ae hZS; replace hZE := ae hZE; replace hTS := ae hTS; replace hTE := ae hTE; replace hZL := ae hZL; replace hf := ae hf; replace hF := ae hF; replace hB := ae hB; replace hcf := ae hcf; replace hcg := ae hcg; replace hall := ae hall; replace hw1 := ae hw1; replace hn := ae hn; replace h := ae h; replace hL := ae hL
 go_enter Tryz.func68, Tryz.ntmps68
 go_upto_region 1 with fail
 rw [hww.out]; go_wp2_with fail; refine htr.mono ?_; rintro e w2 ⟨ca, cc, lv, glo, ghi, flo, fhi, rfl, hd0, hrow2, hst2, hb2⟩; clear htr; obtain ⟨_, la, lc, rfl, _, _⟩ := hst2.read; rw [← hL.out]; replace g0 := af g0 hb2 hs1; replace g1 := af g1 hb2 hs1; replace g2 := af g2 hb2 hs1; have hsz2 := hb2.size; have hb02 := hb1.trans (hb2.mono hb1.size); obtain ⟨w3, hw3⟩ := ag (w2.alloc (.cells #[.int .i64 0, .int .i64 0, .slice none 0 0] 26))
 have hb3 : Below w2.heap.size w2 w3 := by rw [hw3]; exact (Below.refl _ _).alloc (nl _) _
 have hX3 : w3.heap[w2.heap.size]? = some (.cells #[.int .i64 0, .int .i64 0, .slice none 0 0] 26 (0, 0)) := by rw [hw3]; exact heap_alloc_new _ _
 obtain ⟨w4, hw4⟩ := ag (((w3.setCell ⟨w2.heap.size, 0, none⟩ (.int .i64 r)).setCell ⟨w2.heap.size, 1, none⟩ (.int .i64 TS)).setCell ⟨w2.heap.size, 2, none⟩ (.slice ca TE.length cc)); have hb4 : Below w2.heap.size w2 w4 := by rw [hw4]; exact aN hb3 (nl _)
 replace g0 := af g0 hb4 (by omega)
 replace g1 := af g1 hb4 (by omega)
 replace g2 := af g2 hb4 (by omega)
 obtain ⟨wd, hwd⟩ := ag w4.drew; have hbd : Below w4.heap.size w4 wd := by rw [hwd]; exact bf (Below.refl _ _) 1
 have hsz4 := hb4.size; replace g0 := af g0 hbd (by omega)
 replace g1 := af g1 hbd (by omega)
 replace g2 := af g2 hbd (by omega)
 have hsw : w.heap.size < wd.heap.size := by have := hbd.size; omega
 have hb1d := ae (hb02.trans ((hb4.trans (hbd.mono hsz4)).mono hb02.size)); have hw3w := ae hw3.symm; have hw4w := ae hw4.symm; have hwdw := ae hwd.symm; replace hw3 := ae hw3; replace hw4 := ae hw4; replace hwd := ae hwd; obtain ⟨t0, t1, t2⟩ := ah hX3; have ft := fun j => frozen_of_row w3 w2.heap.size j _ _ hX3
 simp at t0 t1 t2
 replace hX3 := ae hX3; replace hrow2 := ae hrow2; replace hst2 := ae hst2; replace hd0 := ae hd0; replace hb2 := ae hb2; clear hb3 hb4 hb02 hbd; have hcf1 := hcf.out wd ((h.out.below hb1d.out).mono hb1d.out.size); go_upto_region 2 with (first | rw [hw3w.out] | fail)
 rw [hw4w.out]; clear t0 t1 t2 ft
 cases B with
 | false =>
  have hfin : Hid (F = false) := ae (by rw [hF.out]; rfl)
  replace hF := ae hF; refine bV (fun _ _ d _ _ h => by cases d <;> exact h) (fun Q' hnorm hpan => ?_)
  refine wp_region_held_drew (S := (fun W0 => W0.cell? ⟨w.heap.size, 0, none⟩ = some (.int .i64 r) ∧ W0.cell? ⟨w.heap.size, 1, none⟩ = some (.int .i64 s) ∧ W0.cell? ⟨w.heap.size, 2, none⟩ = some (.slice a n cap))) (by kernel_rfl) ?_ (fun hHeld => ?_)
  · try dsimp only
    first | ((repeat' apply And.intro) <;> assumption) | (rw [hwdw.out]; ((repeat' apply And.intro) <;> assumption))
  rw [hwdw.out] at hHeld ⊢; refine tk 0 10 ?_; refine rd 1 (fun K hK => ?_)
  rw [if_pos (by rfl)]
  go_simp; refine hcf1.mono ?_; rintro e w5 ⟨rfl, hb5⟩; have p0 := af g0 hb5 hsw; have p1 := af g1 hb5 hsw; have p2 := af g2 hb5 hsw; have hs5 : w.heap.size < w5.heap.size := by have := hb5.size; omega
  have hb15 := ae (hb1d.out.trans (hb5.mono hb1d.out.size)); refine hK.out _ _ ?_ (fun hHeld => ?_)
  · try dsimp only
    first | ((repeat' apply And.intro) <;> assumption) | (rw [hwdw.out]; ((repeat' apply And.intro) <;> assumption))
  clear hK; try simp only [Act.put, aJ, aH, aI]
  refine tk 2 12 ?_; refine tn 3 13 ?_; refine tn 4 14 ?_; refine tn 5 15 ?_; refine tn 6 16 ?_; refine tn 7 17 ?_; refine tg 8 18 ?_; refine tg 9 19 ?_; refine tn 10 20 ?_; refine tn 12 22 ?_; refine tn 11 21 ?_; refine tn 13 23 ?_; refine tk 14 24 ?_; refine tk 15 2 ?_; refine wpAnyH_done (by kernel_rfl) ?_ _
  refine hnorm _ _ ?_; clear hnorm hpan; repeat clear hHeld
  try simp only [Exit.then]
  have hbz := hb1d.out.trans (hb5.mono hb1d.out.size); go_wp2; go_ret; exact ⟨au hfin.out.symm, hbz⟩
 | true =>
  by_cases hf0 : (L : Int) = s
  case neg =>
   have hfin : Hid (F = false) := ae (by rw [hF.out, decide_eq_false (fun c => hf0 ((hall.out rfl).2 c))]; rfl)
   replace hF := ae hF; have hfd : decide ((L : Int) = s) = false := decide_eq_false hf0; have hfe : ((L : Int) == s) = false := by rw [beq_eq_false_iff_ne]; exact hf0
   replace hf0 := ae hf0; refine bV (fun _ _ d _ _ h => by cases d <;> exact h) (fun Q' hnorm hpan => ?_)
   refine wp_region_held_drew (S := (fun W0 => W0.cell? ⟨w.heap.size, 0, none⟩ = some (.int .i64 r) ∧ W0.cell? ⟨w.heap.size, 1, none⟩ = some (.int .i64 s) ∧ W0.cell? ⟨w.heap.size, 2, none⟩ = some (.slice a n cap))) (by kernel_rfl) ?_ (fun hHeld => ?_)
   · try dsimp only
     first | ((repeat' apply And.intro) <;> assumption) | (rw [hwdw.out]; ((repeat' apply And.intro) <;> assumption))
   rw [hwdw.out] at hHeld ⊢; refine tk 0 10 ?_; refine rd 1 (fun K hK => ?_)
   rw [if_pos (by rfl)]
   go_simp; refine hcf1.mono ?_; rintro e w5 ⟨rfl, hb5⟩; have p0 := af g0 hb5 hsw; have p1 := af g1 hb5 hsw; have p2 := af g2 hb5 hsw; have hs5 : w.heap.size < w5.heap.size := by have := hb5.size; omega
   have hb15 := ae (hb1d.out.trans (hb5.mono hb1d.out.size)); refine hK.out _ _ ?_ (fun hHeld => ?_)
   · try dsimp only
     first | ((repeat' apply And.intro) <;> assumption) | (rw [hwdw.out]; ((repeat' apply And.intro) <;> assumption))
   clear hK; try simp only [Act.put, aJ, aH, aI]
   refine tk 2 12 ?_; refine tg 3 13 ?_; refine tg 4 14 ?_; refine tg 5 15 ?_; refine tg 6 16 ?_; refine tg 7 17 ?_; try rw [hfd]
   try rw [hfe]
   refine tg 8 18 ?_; refine tg 9 19 ?_; refine tn 10 20 ?_; refine tn 12 22 ?_; refine tn 11 21 ?_; refine tn 13 23 ?_; refine tk 14 24 ?_; refine tk 15 2 ?_; refine wpAnyH_done (by kernel_rfl) ?_ _
   refine hnorm _ _ ?_; clear hnorm hpan; repeat clear hHeld
   try simp only [Exit.then]
   have hbz := hb1d.out.trans (hb5.mono hb1d.out.size); go_wp2; go_ret; exact ⟨au hfin.out.symm, hbz⟩
  case pos =>
   have hfin : Hid (F = kP r ZS ZE r s es) := ae (by rw [hF.out, decide_eq_true ((hall.out rfl).1 hf0)]; rfl)
   replace hF := ae hF; have hfd : decide ((L : Int) = s) = true := decide_eq_true hf0; have hfe : ((L : Int) == s) = true := by rw [beq_iff_eq]; exact hf0
   replace hf0 := ae hf0; refine bV (fun _ _ d _ _ h => by cases d <;> exact h) (fun Q' hnorm hpan => ?_)
   refine wp_region_held_drew (S := (fun W0 => W0.cell? ⟨w.heap.size, 0, none⟩ = some (.int .i64 r) ∧ W0.cell? ⟨w.heap.size, 1, none⟩ = some (.int .i64 s) ∧ W0.cell? ⟨w.heap.size, 2, none⟩ = some (.slice a n cap))) (by kernel_rfl) ?_ (fun hHeld => ?_)
   · try dsimp only
     first | ((repeat' apply And.intro) <;> assumption) | (rw [hwdw.out]; ((repeat' apply And.intro) <;> assumption))
   rw [hwdw.out] at hHeld ⊢; refine tk 0 10 ?_; refine rd 1 (fun K hK => ?_)
   rw [if_pos (by rfl)]
   go_simp; refine hcf1.mono ?_; rintro e w5 ⟨rfl, hb5⟩; have p0 := af g0 hb5 hsw; have p1 := af g1 hb5 hsw; have p2 := af g2 hb5 hsw; have hs5 : w.heap.size < w5.heap.size := by have := hb5.size; omega
   have hb15 := ae (hb1d.out.trans (hb5.mono hb1d.out.size)); refine hK.out _ _ ?_ (fun hHeld => ?_)
   · try dsimp only
     first | ((repeat' apply And.intro) <;> assumption) | (rw [hwdw.out]; ((repeat' apply And.intro) <;> assumption))
   clear hK; try simp only [Act.put, aJ, aH, aI]
   refine tk 2 12 ?_; refine tg 3 13 ?_; refine tg 4 14 ?_; refine tg 5 15 ?_; refine tg 6 16 ?_; refine tg 7 17 ?_; try rw [hfd]
   try rw [hfe]
   refine tg 8 18 ?_; refine tg 9 19 ?_; refine tg 10 20 ?_; refine tg 12 22 ?_; refine rd 11 (fun K hK => ?_)
   rw [if_pos (by kernel_rfl)]
   go_simp; refine (hcg.out w5 ((h.out.below hb15.out).mono hb15.out.size)).mono ?_; rintro e w6 ⟨ea, ec, rfl, hrow6, hb6⟩; have u0 := af p0 hb6 hs5; have u1 := af p1 hb6 hs5; have u2 := af p2 hb6 hs5; have hs6 : w.heap.size < w6.heap.size := by have := hb6.size; omega
   have hb16 := ae (hb15.out.trans (hb6.mono hb15.out.size)); have heq := yC w6 r ZS r s (.slice ea ZE.length ec) (.slice a n cap) ZE es hrow6.read ((h.out.below hb16.out).mono hb16.out.size) (by have := hn.out; omega) (by have := hn.out; omega)
   rw [← hfin.out] at heq; replace hrow6 := ae hrow6; refine hK.out _ _ ?_ (fun hHeld => ?_)
   · try dsimp only
     first | ((repeat' apply And.intro) <;> assumption) | (rw [hwdw.out]; ((repeat' apply And.intro) <;> assumption))
   clear hK; try simp only [Act.put, aJ, aH, aI]
   refine rd 13 (fun K hK => ?_)
   rw [if_pos (by kernel_rfl)]
   go_simp; refine heq.mono ?_; rintro e w7 ⟨rfl, hb7⟩; have x0 := af u0 hb7 hs6; have x1 := af u1 hb7 hs6; have x2 := af u2 hb7 hs6; have hb17 := ae (hb16.out.trans (hb7.mono hb16.out.size)); refine hK.out _ _ ?_ (fun hHeld => ?_)
   · try dsimp only
     first | ((repeat' apply And.intro) <;> assumption) | (rw [hwdw.out]; ((repeat' apply And.intro) <;> assumption))
   clear hK; try simp only [Act.put, aJ, aH, aI]
   refine tk 14 24 ?_; refine tk 15 2 ?_; refine wpAnyH_done (by kernel_rfl) ?_ _
   refine hnorm _ _ ?_; clear hnorm hpan; repeat clear hHeld
   try simp only [Exit.then]
   have hbz := hb17.out; go_wp2; go_ret; exact ⟨rfl, hbz⟩
end Go.Proofs.YtgnomlcjikfdhaaGreat
