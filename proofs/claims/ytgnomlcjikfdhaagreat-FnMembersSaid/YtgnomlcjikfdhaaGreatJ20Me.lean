import Derived.Test.YtgnomlcjikfdhaaGreatJ3Me
import Derived.Test.YtgnomlcjikfdhaaGreatJ2Me
namespace Go.Proofs.YtgnomlcjikfdhaaGreat
open Go.RowKit
set_option linter.unusedVariables false
set_option linter.unusedSimpArgs false
theorem Hy {r s : Int} {es : List Ed} (hg : aK r s es = true) (h : ∀ i, i < es.length → ∀ k, k < i → ¬ gK (es.getD i e0) (es.getD k e0)) : bJ r s es = true := by
 unfold bJ; rw [hg, lG.2 h]; rfl
theorem Jt {r s : Int} {es : List Ed} {i k : Nat} (hi : i < es.length) (hk : k < i) (h : gK (es.getD i e0) (es.getD k e0)) : bJ r s es = false := by
 unfold bJ; rw [Fz hi hk h, Bool.and_false]
theorem Dy {r s : Int} {es : List Ed} (hg : aK r s es = false) : bJ r s es = false := by
 unfold bJ; rw [hg]; rfl
set_option maxHeartbeats 3200000 in
theorem sD (w : World) (r s : Int) (v : Value) (es : List Ed) (h : ay w.heap.size w v es) (hs : -9223372036854775808 ≤ s ∧ s ≤ 9223372036854775807) (hl : es.length ≤ 1000000000) :
 Calls Tryz.prog 12 #[.agg #[.int .i64 r, .int .i64 s, v]] w (dU w (bJ r s es)) := by
 obtain ⟨a, cap, rfl, hnc⟩ := h.form; obtain ⟨n, hn⟩ := ag es.length; rw [← hn] at hl hnc ⊢; rw [← hn] at h; obtain ⟨w1, hw1⟩ := ag (w.alloc (.cells #[.int .i64 r, .int .i64 s, .slice a n cap] 26)); have hb1 : Below w.heap.size w w1 := by rw [hw1]; exact (Below.refl _ _).alloc (nl _) _
 have hs1 : w.heap.size < w1.heap.size := by rw [hw1]; simp
 obtain ⟨g0, g1, g2⟩ := bT hw1; have hrd := ae ((h.below hb1).mono hb1.size); obtain ⟨B, hB⟩ := ag (aK r s es); have hcg : Hid (∀ W : World, Below w1.heap.size w1 W → Calls Tryz.prog 54 #[.agg #[.int .i64 r, .int .i64 s, .slice a n cap]] W (dU W B)) := ae fun W hW => by
  rw [hB]; exact kC W r s _ es ((hrd.out.below hW).mono hW.size) hs (by omega)
 obtain ⟨F, hF⟩ := ag (bJ r s es); have hFg : B = false → F = false := fun h => by rw [hF]; exact Dy (by rw [← hB]; exact h)
 have hFt : B = true → (∀ i, i < n → ∀ k, k < i → ¬ gK (es.getD i e0) (es.getD k e0)) → F = true := fun h h2 => by rw [hF]; exact Hy (by rw [← hB]; exact h) (by rw [← hn]; exact h2)
 have hFn : ∀ i k, i < n → k < i → gK (es.getD i e0) (es.getD k e0) → F = false := fun i k hi hk h => by rw [hF]; exact Jt (by omega) hk h
 rw [← hF]; replace hF := ae hF; replace hB := ae hB; replace hFg := ae hFg; replace hFt := ae hFt; replace hFn := ae hFn; replace hn := ae hn; replace hw1 := ae hw1; replace h := ae h; go_enter Tryz.func12, Tryz.ntmps12
 go_wp2; rw [← hw1.out]
 go_loopg [3, 4] n (fun g i u wr => ∃ k : Nat, k + g = n ∧ i = .int .i64 k ∧ Hid (∀ i, i < k → ∀ j, j < i → ¬ gK (es.getD i e0) (es.getD j e0)) ∧ Hid (Below w1.heap.size w1 wr))
 case atStart => exact ⟨0, by omega, rfl, ae (fun i h => by omega), ae (Below.refl _ _)⟩
 case round =>
  obtain ⟨k, hk, rfl, hp, hb⟩ := hrel; have hsz := hb.out.size; have q0 := af g0 hb.out hs1; have q1 := af g1 hb.out hs1; have q2 := af g2 hb.out hs1; by_cases hlt : k < n
  · have hki : (k : Int) < (n : Int) := by omega
    replace hk := ae hk; go_wp2_with fail; refine (hcg.out wr hb.out).mono ?_; rintro e w2 ⟨rfl, hb2⟩; have hb12 := hb.out.trans (hb2.mono hsz); have hs2 := hb2.size; clear hb2
    cases B with
    | false =>
     have hfin := ae (hFg.out rfl); have p0 := af g0 hb12 hs1; have p1 := af g1 hb12 hs1; have p2 := af g2 hb12 hs1; go_wp2_with fail; refine (hcg.out w2 hb12).mono ?_; rintro e w3 ⟨rfl, hb3⟩; have hbz := hb1.trans ((hb12.trans (hb3.mono hb12.size)).mono hb1.size); clear hb3; go_wp2; go_ret; exact ⟨au hfin.out.symm, hbz⟩
    | true =>
     replace hb12 := ae hb12; clear q0 q1 q2; go_wp2
     go_loopg [4] k (fun g u wr => ∃ j : Nat, j + g = k ∧ u = .int .i64 j ∧ Hid (∀ j', j' < j → ¬ gK (es.getD k e0) (es.getD j' e0)) ∧ Hid (Below w1.heap.size w1 wr))
     case atStart => exact ⟨0, by omega, rfl, ae (fun i h => by omega), hb12⟩
     case round =>
      clear hb12; obtain ⟨j, hj, rfl, hp2, hbi⟩ := hrel; by_cases hlt2 : j < k
      · have hji : (j : Int) < (k : Int) := by omega
        obtain ⟨b, off, hab, hBl, c0, c1, c2⟩ := ay.at3 (hrd.out.below hbi.out) k (by have := hn.out; omega)
        obtain ⟨b', off', hab', hBl', d0, d1, d2⟩ := ay.at3 (hrd.out.below hbi.out) j (by have := hn.out; omega)
        subst hab; simp only [Option.some.injEq, Addr.mk.injEq, and_true] at hab'; obtain ⟨rfl, rfl⟩ := hab'; obtain ⟨f, hf⟩ := ag ((es.getD k e0).1); obtain ⟨l, hll⟩ := ag ((es.getD k e0).2.1); obtain ⟨t, ht⟩ := ag ((es.getD k e0).2.2); obtain ⟨f', hf'⟩ : ∃ z, z = (es.getD j e0).1 := ⟨_, rfl⟩; obtain ⟨l', hl2⟩ : ∃ z, z = (es.getD j e0).2.1 := ⟨_, rfl⟩; obtain ⟨t', ht'⟩ : ∃ z, z = (es.getD j e0).2.2 := ⟨_, rfl⟩
        have hM : gK (es.getD k e0) (es.getD j e0) ↔ l = l' ∧ (f = f' ∨ t = t') := by unfold gK; rw [← hf, ← hll, ← ht, ← hf', ← hl2, ← ht']
        rw [← hf] at c0; rw [← hll] at c1; rw [← ht] at c2; rw [← hf'] at d0; rw [← hl2] at d1; rw [← ht'] at d2; have q0 := af g0 hbi.out hs1; have q1 := af g1 hbi.out hs1; have q2 := af g2 hbi.out hs1; have hbw : w1.heap.size ≤ wr.heap.size := hbi.out.size; obtain ⟨w3, hw3⟩ := ag (wr.alloc (.cells #[.int .i64 f, .int .i64 l, .int .i64 t] 36)); have hb3 : Below wr.heap.size wr w3 := by rw [hw3]; exact (Below.refl _ _).alloc (nl _) _
        have hs3 : wr.heap.size < w3.heap.size := by rw [hw3]; simp
        obtain ⟨x0, x1, x2⟩ := bT hw3; have q2' := af q2 hb3 (by omega)
        replace d0 := af d0 hb3 (by omega)
        replace d1 := af d1 hb3 (by omega)
        replace d2 := af d2 hb3 (by omega)
        have hs3e : w3.heap.size = wr.heap.size + 1 := by rw [hw3]; simp
        obtain ⟨w4, hw4⟩ := ag (w3.alloc (.cells #[.int .i64 f', .int .i64 l', .int .i64 t'] 36)); have hb4 : Below w3.heap.size w3 w4 := by rw [hw4]; exact (Below.refl _ _).alloc (nl _) _
        obtain ⟨y0, y1, y2⟩ := bT hw4; rw [hs3e] at y0 y1 y2; replace x0 := af x0 hb4 hs3; replace x1 := af x1 hb4 hs3; replace x2 := af x2 hb4 hs3; rw [hw3] at q2' d0 d1 d2; have hbz := hbi.out.trans ((hb3.trans (hb4.mono hb3.size)).mono hbw); have hww : (wr.alloc (.cells #[.int .i64 f, .int .i64 l, .int .i64 t] 36)).alloc (.cells #[.int .i64 f', .int .i64 l', .int .i64 t'] 36) = w4 := by rw [hw4, hw3]
        clear hb3 hb4; replace hww := ae hww; replace hw3 := ae hw3; replace hw4 := ae hw4; replace hs3e := ae hs3e; replace hf := ae hf; replace hll := ae hll; replace ht := ae ht; replace hf' := ae hf'; replace hl2 := ae hl2; replace ht' := ae ht'; replace hj := ae hj; have hgo : ¬ (l = l' ∧ (f = f' ∨ t = t')) → Hid (∀ j', j' < j + 1 → ¬ gK (es.getD k e0) (es.getD j' e0)) := fun hno => ae fun j' hj' => by
         by_cases h2 : j' < j
         · exact hp2.out j' h2
         · obtain rfl : j' = j := by omega
           exact fun hm => hno (hM.1 hm)
        have hend : (l = l' ∧ (f = f' ∨ t = t')) → F = false := fun hy => hFn.out k j (by omega) hlt2 (hM.2 hy)
        replace hM := ae hM; replace hgo := ae hgo; replace hend := ae hend; have hbq := ae (hb1.trans (hbz.mono hb1.size)); replace hbz := ae hbz; by_cases e1 : l = l'
        · have u1 : (l == l') = true := by rw [beq_iff_eq]; exact e1
          by_cases e2 : f = f'
          · have u2 : (f == f') = true := by rw [beq_iff_eq]; exact e2
            have hfin := ae (hend.out ⟨e1, .inl e2⟩); replace e1 := ae e1; replace e2 := ae e2; go_wp2; rw [hww.out]; go_wp2; go_ret; exact ⟨au hfin.out.symm, hbq.out⟩
          · have u2 : (f == f') = false := by rw [beq_eq_false_iff_ne]; exact e2
            by_cases e3 : t = t'
            · have u3 : (t == t') = true := by rw [beq_iff_eq]; exact e3
              have hfin := ae (hend.out ⟨e1, .inr e3⟩); replace e1 := ae e1; replace e2 := ae e2; replace e3 := ae e3; go_wp2; rw [hww.out]; go_wp2; go_ret; exact ⟨au hfin.out.symm, hbq.out⟩
            · have u3 : (t == t') = false := by rw [beq_eq_false_iff_ne]; exact e3
              have hnx := hgo.out (by rintro ⟨_, h | h⟩ <;> contradiction)
              replace e1 := ae e1; replace e2 := ae e2; replace e3 := ae e3; go_wp2; rw [hww.out]; go_wp2; go_roundg (k - (j + 1))
              case rel => exact ⟨j + 1, by have := hj.out; omega, by go_num, hnx, hbz⟩
              case measure => have := hj.out; omega
        · have u1 : (l == l') = false := by rw [beq_eq_false_iff_ne]; exact e1
          have hnx := hgo.out (by rintro ⟨h, _⟩; contradiction)
          replace e1 := ae e1; go_wp2; rw [hww.out]; go_wp2; go_roundg (k - (j + 1))
          case rel => exact ⟨j + 1, by have := hj.out; omega, by go_num, hnx, hbz⟩
          case measure => have := hj.out; omega
      · obtain rfl : j = k := by omega
        have hji : ¬ (j : Int) < (j : Int) := by omega
        have hk2 : j + 1 ≤ n := by omega
        replace hj := ae hj; go_wp2; go_roundg (n - (j + 1))
        case rel => exact ⟨j + 1, by have := hk.out; omega, by go_num, ae (fun i hi k' hk' => by
         by_cases h2 : i < j
         · exact hp.out i h2 k' hk'
         · obtain rfl : i = j := by omega
           exact hp2.out k' hk'), hbi⟩
        case measure => have := hk.out; omega
  · obtain rfl : k = n := by omega
    have hki : ¬ (k : Int) < (k : Int) := by omega
    replace hk := ae hk
    cases B with
    | false =>
     have hfin := ae (hFg.out rfl); go_wp2_with fail; refine (hcg.out wr hb.out).mono ?_; rintro e w3 ⟨rfl, hb3⟩; have hbz := hb1.trans ((hb.out.trans (hb3.mono hsz)).mono hb1.size); clear hb3; go_wp2; go_ret; exact ⟨au hfin.out.symm, hbz⟩
    | true =>
     have hfin := ae (hFt.out rfl hp.out); go_wp2_with fail; refine (hcg.out wr hb.out).mono ?_; rintro e w3 ⟨rfl, hb3⟩; have hbz := hb1.trans ((hb.out.trans (hb3.mono hsz)).mono hb1.size); clear hb3; go_wp2; go_ret; exact ⟨au hfin.out.symm, hbz⟩
def H7 (w : World) (n : Int) (b : Bool) (e : Ending) (w' : World) : Prop := e = .returned (.tuple #[.int .i64 n, .bool b]) ∧ Below w.heap.size w w'
set_option maxHeartbeats 1600000 in
theorem wG (w : World) (r s : Int) (v : Value) (es : List Ed) (x y : Int) (h : ay w.heap.size w v es) (hl : es.length ≤ 10000000) :
 Calls Tryz.prog 64 #[.agg #[.int .i64 r, .int .i64 s, v], .int .i64 x, .int .i64 y] w (kK w (aV es x y)) := by
 obtain ⟨a, cap, rfl, hnc⟩ := h.form; obtain ⟨n, hn⟩ := ag es.length; rw [← hn] at hl hnc ⊢; rw [← hn] at h; obtain ⟨w1, hw1⟩ := ag (w.alloc (.cells #[.int .i64 r, .int .i64 s, .slice a n cap] 26)); have hb1 : Below w.heap.size w w1 := by rw [hw1]; exact (Below.refl _ _).alloc (nl _) _
 obtain ⟨g0, g1, g2⟩ := bT hw1; have hc := Hg w1 r s (.slice a n cap) es x y ((h.below hb1).mono hb1.size) (by omega)
 obtain ⟨L, hL⟩ := ag (fD x y es); have hF : aV es x y = L.headD (-1) := by rw [hL]; rfl
 rw [← hL] at hc; rw [hF]; replace hn := ae hn; replace hw1 := ae hw1; replace h := ae h; replace hL := ae hL; replace hF := ae hF; go_enter Tryz.func64, Tryz.ntmps64
 go_wp2_with fail; rw [← hw1.out]; refine hc.mono ?_; rintro e w2 ⟨v2, rfl, hrow, hb2⟩; have hbz := hb1.trans (hb2.mono hb1.size); clear hc hb2
 cases L with
 | nil =>
  obtain ⟨hl0, ⟨rfl, _⟩ | ⟨g, off, cap2, cur, rfl, h1, h2, h3, h4, h5⟩⟩ := hrow
  all_goals
   go_wp2; go_ret; exact ⟨fZ rfl, hbz⟩
 | cons z zs =>
  obtain ⟨hl0, ⟨rfl, h0⟩ | ⟨g, off, cap2, cur, rfl, h1, h2, h3, h4, h5⟩⟩ := hrow
  · cases h0
  have hz := h5 0 (by simp)
  have hzc : w2.cell? ⟨g, off, none⟩ = some (.int .i64 z) := by
   rw [World.cell?, h4]; simpa using hz
  obtain ⟨m, hm⟩ := ag ((z :: zs).length); have hm1 : 1 ≤ m := by rw [hm]; simp
  have t1 : ((m : Int) == 0) = false := by rw [beq_eq_false_iff_ne]; omega
  have t2 : (0 : Int) < (m : Int) := by omega
  rw [← hm] at h3 hl0 ⊢; clear hz h4 h5; replace hm := ae hm; go_wp2; go_ret; exact ⟨fZ rfl, hbz⟩
theorem rE {r s : Int} {es : List Ed} {v : Int} {w : List Int} (h : kD r s es v = false) : gI r s es v w = false ∧ jS r s es v w = -1 ∧ uJ r s es v w = 0 := by
 have hB : gI r s es v w = false := by unfold gI; rw [h]; rfl
 refine ⟨hB, ?_, ?_⟩
 · unfold jS; rw [hB]; rfl
 · unfold uJ; rw [h]; rfl
theorem yU {r s : Int} {es : List Ed} {v x : Int} {w : List Int} (h : kD r s es v = true) (hw : wk es v w = (x, w.length)) : gI r s es v w = true ∧ jS r s es v w = x ∧ uJ r s es v w = (w.length : Int) := by
 have hB : gI r s es v w = true := by unfold gI; rw [h, hw]; simp
 refine ⟨hB, ?_, ?_⟩
 · unfold jS; rw [hB, hw]; rfl
 · unfold uJ; rw [h, hw]; rfl
theorem Ff {r s : Int} {es : List Ed} {v x : Int} {w : List Int} {k : Nat} (h : kD r s es v = true) (hw : wk es v w = (x, k)) (hk : k < w.length) : gI r s es v w = false ∧ jS r s es v w = -1 ∧ uJ r s es v w = (k : Int) := by
 have hB : gI r s es v w = false := by unfold gI; rw [h, hw]; simp; omega
 refine ⟨hB, ?_, ?_⟩
 · unfold jS; rw [hB]; rfl
 · unfold uJ; rw [h, hw]; rfl
set_option maxHeartbeats 3200000 in
theorem AV (w : World) (r s : Int) (v : Value) (es : List Ed) (x : Int) (vz : Value) (zs : List Int) (h : ay w.heap.size w v es) (hz : bD w.heap.size w vz zs) (hs : -9223372036854775808 ≤ s ∧ s ≤ 9223372036854775807) (hx : -9223372036854775808 ≤ x ∧ x ≤ 9223372036854775807) (hin : bi zs) (hl : es.length ≤ 10000000) (hlz : zs.length ≤ 10000000) :
 Calls Tryz.prog 21 #[.agg #[.int .i64 r, .int .i64 s, v], .int .i64 x, vz] w (H7 w (jS r s es x zs) (gI r s es x zs)) := by
 obtain ⟨a, cap, rfl, hnc⟩ := h.form; obtain ⟨n, hn⟩ := ag es.length; rw [← hn] at hl hnc ⊢; rw [← hn] at h; have hz' := hz; obtain ⟨_, az, capz, rfl, _, _⟩ := hz'; obtain ⟨m, hm⟩ := ag zs.length; rw [← hm] at hlz ⊢; rw [← hm] at hz; obtain ⟨w1, hw1⟩ := ag (w.alloc (.cells #[.int .i64 r, .int .i64 s, .slice a n cap] 26)); have hb1 : Below w.heap.size w w1 := by rw [hw1]; exact (Below.refl _ _).alloc (nl _) _
 have hs1 : w.heap.size < w1.heap.size := by rw [hw1]; simp
 obtain ⟨g0, g1, g2⟩ := bT hw1; have hrd := ae ((h.below hb1).mono hb1.size); have hrz := ae ((hz.below hb1).mono hb1.size); have hcf := sD w1 r s (.slice a n cap) es ((h.below hb1).mono hb1.size) hs (by omega)
 obtain ⟨B, hB⟩ := ag (bJ r s es); rw [← hB] at hcf; obtain ⟨FV, hFV⟩ := ag (jS r s es x zs); obtain ⟨FB, hFB⟩ := ag (gI r s es x zs); rw [← hFV, ← hFB]; replace hFV := ae hFV; replace hFB := ae hFB; replace hn := ae hn; replace hm := ae hm; replace hw1 := ae hw1; replace h := ae h; replace hz := ae hz; replace hin := ae hin; go_enter Tryz.func21, Tryz.ntmps21
 go_wp2_with fail; rw [← hw1.out]; refine hcf.mono ?_; rintro e w2 ⟨rfl, hb2⟩; clear hcf
 cases B with
 | false =>
  have hno : kD r s es x = false := by unfold kD; rw [← hB]; rfl
  have hfin := ae (show FV = -1 ∧ FB = false from ⟨by rw [hFV.out]; exact (rE hno).2.1, by rw [hFB.out]; exact (rE hno).1⟩)
  have hbz := ae (hb1.trans (hb2.mono hb1.size)); replace hno := ae hno; replace hB := ae hB; go_wp2; go_ret2; exact ⟨by rw [hfin.out.1, hfin.out.2]; rfl, hbz.out⟩
 | true =>
 have hlim := aZ (r := r) (s := s) (es := es) (by have := hB; unfold bJ at this; exact (Bool.and_eq_true_iff.1 this.symm).1)
 have hsub : IntKind.i64.wrap (s - 1) = s - 1 := IntWalk.i64_in _ (by omega)
 have hci := fun W => iE W x 0 (s - 1)
 replace g0 := af g0 hb2 hs1; replace g1 := af g1 hb2 hs1; replace g2 := af g2 hb2 hs1; have hb12 := hb1.trans (hb2.mono hb1.size); have hs2 : w.heap.size < w2.heap.size := Nat.lt_of_lt_of_le hs1 hb2.size; replace hrd := ae ((hrd.out.below hb2).mono hb2.size); replace hrz := ae ((hrz.out.below hb2).mono hb2.size); clear hb2; by_cases hv : 0 ≤ x ∧ x ≤ s - 1
 case neg =>
  have hd : decide (0 ≤ x ∧ x ≤ s - 1) = false := decide_eq_false hv; have hno : kD r s es x = false := by unfold kD oI; rw [Bool.and_eq_false_iff]; right; rw [decide_eq_false_iff_not]; omega
  have hfin := ae (show FV = -1 ∧ FB = false from ⟨by rw [hFV.out]; exact (rE hno).2.1, by rw [hFB.out]; exact (rE hno).1⟩)
  have hbz := ae hb12; replace hno := ae hno; replace hB := ae hB; replace hlim := ae hlim; replace hv := ae hv; go_wp2_with (go_at_call 63; refine (hci _).mono ?_; rintro e w3 ⟨rfl, rfl⟩)
  go_ret2; exact ⟨by rw [hfin.out.1, hfin.out.2]; rfl, hbz.out⟩
 have hd : decide (0 ≤ x ∧ x ≤ s - 1) = true := decide_eq_true hv; have hyes : kD r s es x = true := by unfold kD oI; rw [← hB, Bool.true_and, decide_eq_true_eq]; omega
 have hw0 := ae (xK es x zs); have hcn : Hid (∀ W : World, Below w2.heap.size w2 W → ∀ y z, Calls Tryz.prog 64 #[.agg #[.int .i64 r, .int .i64 s, .slice a n cap], .int .i64 y, .int .i64 z] W (kK W (aV es y z))) := ae fun W hW y z =>
  wG W r s _ es y z ((hrd.out.below hW).mono hW.size) (by have := hn.out; omega)
 replace hyes := ae hyes; replace hB := ae hB; replace hlim := ae hlim; replace hv := ae hv; replace hb12 := ae hb12; have hbr := ae (Below.refl w2.heap.size w2); go_wp2_with (go_at_call 63; refine (hci _).mono ?_; rintro e w3 ⟨rfl, rfl⟩)
 clear hci hd
 go_loopg [1, 8] m (fun g u i wr => ∃ (k : Nat) (y : Int), k + g = m ∧ i = .int .i64 k ∧ u = .int .i64 y ∧ Hid (wC es x zs y k) ∧ Hid (Below w2.heap.size w2 wr))
 case atStart => exact ⟨0, x, by omega, rfl, rfl, hw0, hbr⟩
 case round =>
  clear hw0 hbr; obtain ⟨k, y, hk, rfl, rfl, hwk, hb⟩ := hrel; have hsz := hb.out.size; have q0 := af g0 hb.out hs2; have q1 := af g1 hb.out hs2; have q2 := af g2 hb.out hs2; by_cases hlt : k < m
  · have hki : (k : Int) < (m : Int) := by omega
    obtain ⟨bz, oz, rfl, hbzl, hcz⟩ := (hrz.out.below hb.out).at2 k (by have := hm.out; omega)
    obtain ⟨z, hzz⟩ := ag (zs.getD k 0); rw [← hzz] at hcz; have hdr := bf hb.out 1; have hcall := hcn.out wr.drew hdr y z; obtain ⟨y2, hy2⟩ := ag (aV es y z); rw [← hy2] at hcall; have hstop := fun (hneg : y2 < 0) => y9 hwk.out (by have := hm.out; omega) (by rw [← hzz, ← hy2]; exact hneg)
    have hgo := fun (hneg : ¬ y2 < 0) => zi hwk.out (by have := hm.out; omega) (by rw [← hzz, ← hy2]; exact hneg)
    rw [← hzz, ← hy2] at hgo; replace hstop := ae hstop; replace hgo := ae hgo; replace hzz := ae hzz; replace hy2 := ae hy2; replace hk := ae hk; clear hb; replace hdr := ae hdr; by_cases hneg : y2 < 0
    · have hq := Ff hyes.out (hstop.out hneg) (by have := hm.out; omega)
      have hfin := ae (show FV = -1 ∧ FB = false from ⟨by rw [hFV.out]; exact hq.2.1, by rw [hFB.out]; exact hq.1⟩)
      replace hq := ae hq; go_wp2; go_region_with (go_at_call 64; (with_reducible refine hcall.mono ?_); rintro e w3 ⟨rfl, hb3⟩)
      all_goals
       have hbz := ae (hb12.out.trans ((hdr.out.trans (hb3.mono hdr.out.size)).mono hb12.out.size)); clear hb3; go_wp2; go_ret2; exact ⟨by rw [hfin.out.1, hfin.out.2]; rfl, hbz.out⟩
    · have hnx := ae (hgo.out hneg)
      go_wp2; go_region_with (go_at_call 64; (with_reducible refine hcall.mono ?_); rintro e w3 ⟨rfl, hb3⟩)
      all_goals
       have hbz := ae (hdr.out.trans (hb3.mono hdr.out.size)); clear hb3; go_wp2; go_roundg (m - (k + 1))
       case rel => exact ⟨k + 1, y2, by have := hk.out; omega, by go_num, rfl, hnx, hbz⟩
       case measure => have := hk.out; omega
  · obtain rfl : k = m := by omega
    have hki : ¬ (k : Int) < (k : Int) := by omega
    have hq := yU hyes.out (Cb hwk.out (by have := hm.out; omega))
    rw [← hm.out] at hq; have hfin := ae (show FV = y ∧ FB = true from ⟨by rw [hFV.out]; exact hq.2.1, by rw [hFB.out]; exact hq.1⟩)
    replace hq := ae hq; replace hk := ae hk; have hbz := ae (hb12.out.trans (hb.out.mono hb12.out.size)); go_wp2; go_ret2; exact ⟨by rw [hfin.out.1, hfin.out.2]; rfl, hbz.out⟩
theorem KF {s : Nat} {L : List Int} (ha : L.Pairwise (· < ·)) (hin : ∀ y ∈ L, 0 ≤ y ∧ y < (s : Int)) : L.length ≤ s := by
 have e : upTo L s = L := qF (vU s) ha fun y => by
  rw [sG]; exact ⟨fun h => h.1, fun h => ⟨h, (hin y h).1, (hin y h).2⟩⟩
 rw [← e]; exact ny L s
theorem xH {es : List Ed} {acc : List Int} {j : Nat} (h : j < es.length) : dm (es.take (j + 1)) acc = jq (dm (es.take j) acc) (es.getD j e0) := by
 unfold dm; rw [sJ h, List.foldl_append]; rfl
theorem Lr {s : Nat} {es : List Ed} {x : Int} (hE : iC s es) (hx : 0 ≤ x ∧ x < (s : Int)) (k j : Nat) : (dm (es.take j) (di es k [x])).length ≤ s := by
 refine KF (yZ _ (pR es (List.pairwise_singleton _ _) k)) (AP (fun e he => hE e (List.mem_of_mem_take he)) (BK hE (fun y hy => ?_) k))
 rw [List.mem_singleton] at hy; omega
theorem zS (acc : List Int) (e : Ed) : (kF acc e).length ≤ acc.length + 1 := by
 unfold kF; split
 · exact nH _ _
 · omega
theorem oJ (w : World) (B : Nat) (v : Value) (zs : List Int) (x : Int) (h : bD B w v zs) (hl : zs.length ≤ 1000000000) :
 Calls Tryz.prog 89 #[v, .int .i64 x] w fun e w' => e = .returned (.bool (decide (x ∈ zs))) ∧ w' = w := by
 have h' := h; obtain ⟨_, a, cap, rfl, _, _⟩ := h'; obtain ⟨n, hn⟩ := ag zs.length; rw [← hn] at hl ⊢; rw [← hn] at h; obtain ⟨F, hF⟩ := ag (decide (x ∈ zs)); rw [← hF]; replace hF := ae hF; replace hn := ae hn; replace h := ae h; go_enter Tryz.func89, Tryz.ntmps89
 go_wp2
 go_loopg [5] n (fun g i wr => ∃ k : Nat, k + g = n ∧ i = .int .i64 k ∧ Hid (∀ j, j < k → zs.getD j 0 ≠ x) ∧ Hid (wr = w))
 case atStart => exact ⟨0, by omega, rfl, ae (fun j h => by omega), ae rfl⟩
 case round =>
  obtain ⟨k, hk, rfl, hp, hb⟩ := hrel; have hb' := hb.out; subst hb'; by_cases hlt : k < n
  · have hki : (k : Int) < (n : Int) := by omega
    obtain ⟨b, off, rfl, hB, hc⟩ := h.out.at2 k (by have := hn.out; omega)
    obtain ⟨z, hz⟩ := ag (zs.getD k 0); rw [← hz] at hc; by_cases hzx : z = x
    · have t1 : (z == x) = true := by rw [beq_iff_eq]; exact hzx
      have hfin : F = true := by
       rw [hF.out, decide_eq_true_eq, ← hzx, hz]; have hkl : k < zs.length := by have := hn.out; omega
       rw [gD, gE hkl]; exact List.getElem_mem hkl
      replace hfin := ae hfin; replace hzx := ae hzx; replace hz := ae hz; replace hk := ae hk; go_wp2; go_ret; exact ⟨au hfin.out.symm, rfl⟩
    · have t1 : (z == x) = false := by rw [beq_eq_false_iff_ne]; exact hzx
      have hnx : ∀ j, j < k + 1 → zs.getD j 0 ≠ x := by
       intro j hj; by_cases hjk : j = k
       · subst hjk; rw [← hz]; exact hzx
       · exact hp.out j (by omega)
      replace hnx := ae hnx; replace hzx := ae hzx; replace hz := ae hz; replace hk := ae hk; go_wp2; go_roundg (n - (k + 1))
      case rel => exact ⟨k + 1, by have := hk.out; omega, by go_num, hnx, ae rfl⟩
      case measure => have := hk.out; omega
  · obtain rfl : k = n := by omega
    have hki : ¬ (k : Int) < (k : Int) := by omega
    have hfin : F = false := by
     rw [hF.out, decide_eq_false_iff_not]; intro hm; obtain ⟨i, hi, he⟩ := List.getElem_of_mem hm; refine hp.out i (by have := hn.out; omega) ?_
     rw [gD, gE hi]; exact he
    replace hfin := ae hfin; replace hk := ae hk; go_wp2; go_ret; exact ⟨au hfin.out.symm, rfl⟩
set_option maxHeartbeats 3200000 in
theorem GY (w : World) (r s : Int) (v : Value) (es : List Ed) (x : Int) (h : ay w.heap.size w v es) (hs : -9223372036854775808 ≤ s ∧ s ≤ 9223372036854775807) (hl : es.length ≤ 10000000) :
 Calls Tryz.prog 55 #[.agg #[.int .i64 r, .int .i64 s, v], .int .i64 x] w (bW w (gU r s es x)) := by
 obtain ⟨a, cap, rfl, hnc⟩ := h.form; obtain ⟨n, hn⟩ := ag es.length; rw [← hn] at hl hnc ⊢; rw [← hn] at h; obtain ⟨w1, hw1⟩ := ag (w.alloc (.cells #[.int .i64 r, .int .i64 s, .slice a n cap] 26)); have hb1 : Below w.heap.size w w1 := by rw [hw1]; exact (Below.refl _ _).alloc (nl _) _
 have hs1 : w.heap.size < w1.heap.size := by rw [hw1]; simp
 obtain ⟨g0, g1, g2⟩ := bT hw1; have hcf := kC w1 r s (.slice a n cap) es ((h.below hb1).mono hb1.size) hs (by omega)
 obtain ⟨B, hB⟩ := ag (aK r s es); rw [← hB] at hcf; obtain ⟨F, hF⟩ := ag (gU r s es x); rw [← hF]; have hno : (B = false ∨ ¬ (0 ≤ x ∧ x < s)) → F = [] := by
  intro h; rw [hF]; unfold gU oI; rw [← hB]
  rcases h with h | h
  · rw [h]; rfl
  · rw [decide_eq_false h, Bool.and_false]; rfl
 have hyes : B = true → (0 ≤ x ∧ x < s) → F = gp es x := by
  intro h h2; rw [hF]; unfold gU oI; rw [← hB, h, decide_eq_true h2]; rfl
 replace hno := ae hno; replace hyes := ae hyes; replace hF := ae hF; replace hn := ae hn; replace hw1 := ae hw1; replace h := ae h; go_enter Tryz.func55, Tryz.ntmps55
 go_wp2_with fail; rw [← hw1.out]; refine hcf.mono ?_; rintro e w2 ⟨rfl, hb2⟩; clear hcf; replace g0 := af g0 hb2 hs1; replace g1 := af g1 hb2 hs1; replace g2 := af g2 hb2 hs1; have hb12 := ae (hb1.trans (hb2.mono hb1.size)); have hs2 : w.heap.size < w2.heap.size := Nat.lt_of_lt_of_le hs1 hb2.size; clear hb2; have hnil : F = [] → Hid (bW w F (.returned (.slice (some ⟨w2.heap.size, 0, none⟩) 0 0)) (w2.alloc (.cells #[] 3))) := by
  rintro rfl; have hbn := (Below.refl w2.heap.size w2).alloc (nl _) (.cells #[] 3); exact ae ⟨_, rfl, ((ak.lit w2).row (by simp)).wide (by omega) (nl _), hb12.out.trans (hbn.mono hb12.out.size)⟩
 cases B with
 | false =>
  have hfin := hnil (hno.out (.inl rfl)); clear hnil; replace hB := ae hB; go_wp2; go_ret; exact hfin.out
 | true =>
 have hlim := aZ hB.symm; have hE := ae (eY hB.symm); have hsub : IntKind.i64.wrap (s - 1) = s - 1 := IntWalk.i64_in _ (by omega)
 have hci := fun W => iE W x 0 (s - 1)
 by_cases hv : 0 ≤ x ∧ x ≤ s - 1
 case neg =>
  have hd : decide (0 ≤ x ∧ x ≤ s - 1) = false := decide_eq_false hv; have hfin := hnil (hno.out (.inr (by omega)))
  clear hnil; replace hB := ae hB; replace hlim := ae hlim; replace hv := ae hv; go_wp2_with (go_at_call 63; refine (hci _).mono ?_; rintro e w3 ⟨rfl, rfl⟩)
  go_ret; exact hfin.out
 have hd : decide (0 ≤ x ∧ x ≤ s - 1) = true := decide_eq_true hv; have hfin := ae (hyes.out rfl (by omega))
 have hmid := fun k j => Lr hE.out (x := x) (by omega) k j
 have hs40 : s.toNat ≤ 40 := by omega
 clear hnil; replace hB := ae hB; replace hlim := ae hlim; replace hv := ae hv; replace hmid := ae hmid; replace hno := ae hno; obtain ⟨w3, hw3⟩ := ag (w2.alloc (.cells #[.int .i64 x] 3)); have hb3 : Below w2.heap.size w2 w3 := by rw [hw3]; exact (Below.refl _ _).alloc (nl _) _
 have hs3 : w2.heap.size < w3.heap.size := by rw [hw3]; simp
 have hrow3 : bg w3 w2.heap.size w3.heap.size (.slice (some ⟨w2.heap.size, 0, none⟩) 1 1) [x] := by
  refine ⟨by simp, .inr ⟨_, 0, 1, #[.int .i64 x], rfl, nl _, hs3, by simp, by rw [hw3]; exact heap_alloc_new _ _, fun i hi => ?_⟩⟩
  have : i = 0 := by simpa using hi
  subst this; rfl
 have hrow3' := ae (hrow3.wide (Nat.le_of_lt hs2) (nl _)); have hb13 := ae (hb12.out.trans (hb3.mono hb12.out.size)); have p2 := af g2 hb3 hs2; have hrd := ae ((h.out.below hb13.out).mono hb13.out.size); have hsw3 : w.heap.size < w3.heap.size := by omega
 clear hrow3 hb3; replace hw3 := ae hw3; have hn1 : IntKind.i64.wrap ((n : Int) + 1) = (n : Int) + 1 := IntWalk.i64_in _ (by omega)
 have hbr := ae (Below.refl w3.heap.size w3); have hw3' := hw3.out.symm; replace hw3' := ae hw3'; go_wp2_with (go_at_call 63; refine (hci _).mono ?_; rintro e w4 ⟨rfl, rfl⟩)
 clear hci hd g0 g1 g2; rw [hw3'.out]
 go_loopg [5, 6, 7] (n + 1) (fun g o i u wr => ∃ k : Nat, k + g = n + 1 ∧ i = .int .i64 k ∧ Hid (bg wr w.heap.size wr.heap.size o (di es k [x])) ∧ Hid (Below w3.heap.size w3 wr))
 case atStart => exact ⟨0, by omega, rfl, hrow3', hbr⟩
 case round =>
  clear hrow3' hbr; obtain ⟨k, hk, rfl, hrow, hb⟩ := hrel; have hsz := hb.out.size; have q2 := af p2 hb.out hsw3; obtain ⟨X, hX⟩ := ag (di es k [x]); have hnext : di es (k + 1) [x] = dm es X := by rw [hX]; rfl
  have hmidX := fun j => hmid.out k j
  rw [← hX] at hrow hmidX; replace hmidX := ae hmidX; replace hX := ae hX; replace hnext := ae hnext; by_cases hlt : k < n + 1
  · have hki : (k : Int) < (n : Int) + 1 := by omega
    replace hk := ae hk; go_wp2
    go_loopg [5, 7] n (fun g o u wr => ∃ j : Nat, j + g = n ∧ u = .int .i64 j ∧ Hid (bg wr w.heap.size wr.heap.size o (dm (es.take j) X)) ∧ Hid (Below w3.heap.size w3 wr))
    case atStart => exact ⟨0, by omega, rfl, hrow, hb⟩
    case round =>
     clear hrow hb q2; obtain ⟨j, hj, rfl, hrow, hb⟩ := hrel; have hsz2 := hb.out.size; have q2 := af p2 hb.out hsw3; obtain ⟨L, hL⟩ := ag (dm (es.take j) X); have hLl : L.length ≤ 40 := by rw [hL]; exact Nat.le_trans (hmidX.out j) hs40
     rw [← hL] at hrow; by_cases hlt2 : j < n
     · have hnx := xH (es := es) (acc := X) (j := j) (by have := hn.out; omega)
       rw [← hL] at hnx; obtain ⟨b, off, rfl, hBl, c0, c1, c2⟩ := ay.at3 (hrd.out.below hb.out) j (by have := hn.out; omega)
       obtain ⟨f, hf⟩ := ag ((es.getD j e0).1); obtain ⟨l, hll⟩ := ag ((es.getD j e0).2.1); obtain ⟨t, ht⟩ := ag ((es.getD j e0).2.2); have hke : es.getD j e0 = (f, l, t) := by rw [hf, hll, ht]
       rw [← hf] at c0; rw [← hll] at c1; rw [← ht] at c2; rw [hke] at hnx; have hji : (j : Int) < (n : Int) := by omega
       obtain ⟨w5, hw5⟩ := ag (wr.alloc (.cells #[.int .i64 f, .int .i64 l, .int .i64 t] 36)); have hb5 : Below wr.heap.size wr w5 := by rw [hw5]; exact (Below.refl _ _).alloc (nl _) _
       have hs5 : wr.heap.size < w5.heap.size := by rw [hw5]; simp
       obtain ⟨x0, x1, x2⟩ := bT hw5; obtain ⟨ao, mo, co, rfl⟩ : ∃ a m c, u5 = Value.slice a m c := by
        obtain ⟨_, ⟨h1, _⟩ | ⟨g, off, cap, cur, h1, _⟩⟩ := hrow.out <;> exact ⟨_, _, _, h1⟩
       have hrow5 := (hrow.out.below hb5 (nl _)).wide (nl _) hb5.size; have hb15 := hb.out.trans (hb5.mono hsz2); have hsw : w.heap.size ≤ wr.heap.size := by omega
       have hh1 := oJ w5 _ _ L f hrow5.read (by omega)
       have ha1 := uH w5 _ L t hrow5.read (by omega)
       have hh2 := fun (W : World) (v : Value) (M : List Int) (hr : bg W w.heap.size W.heap.size v M) (hM : M.length ≤ 1000) => oJ W _ v M t hr.read (by omega)
       have ha2 := fun (W : World) (v : Value) (M : List Int) (hr : bg W w.heap.size W.heap.size v M) (hM : M.length ≤ 1000) => uH W v M f hr.read (by omega)
       replace hrow5 := ae hrow5; replace hb15 := ae hb15; replace hf := ae hf; replace hll := ae hll; replace ht := ae ht; replace hke := ae hke; replace hj := ae hj; replace hL := ae hL; replace hw5 := ae hw5; clear hrow hb hb5; obtain ⟨T1, hT1⟩ := ag (kF L (f, l, t)); have hT1l : T1.length ≤ 41 := by rw [hT1]; have := zS L (f, l, t); omega
       have hT2 : jq L (f, l, t) = if t ∈ T1 then fE f T1 else T1 := by rw [hT1]; rfl
       rw [hT2] at hnx; replace hT2 := ae hT2; by_cases q1 : f ∈ L
       · have hT1e : T1 = fE t L := by rw [hT1]; unfold kF; rw [if_pos q1]
         have d1 : decide (f ∈ L) = true := decide_eq_true q1; rw [← hT1e] at ha1; have htT : t ∈ T1 := by rw [hT1e, jY]; exact .inl rfl
         have d2 : decide (t ∈ T1) = true := decide_eq_true htT; rw [if_pos htT] at hnx; rw [d1] at hh1; replace hnx := ae hnx; replace hT1 := ae hT1; replace hT1e := ae hT1e; replace q1 := ae q1; replace htT := ae htT; go_wp2_with fail; rw [← hw5.out]; go_wp2_with fail; refine hh1.mono ?_; rintro e w6 ⟨rfl, rfl⟩; go_wp2_with fail; refine ha1.mono ?_; rintro e w7 ⟨v7, rfl, hrow7, hb7⟩; have hrow7' := hrow7.wide (Nat.le_trans hsw (Nat.le_of_lt hs5)) (nl _)
         have hh3 := hh2 w7 v7 T1 hrow7' (by omega)
         have ha3 := ha2 w7 v7 T1 hrow7' (by omega)
         rw [d2] at hh3; replace x0 := af x0 hb7 hs5; replace x2 := af x2 hb7 hs5; have hb17 := hb15.out.trans (hb7.mono hb15.out.size); have hs7 := hb7.size; replace hb17 := ae hb17; clear hh1 ha1 hh2 ha2 hrow7 hb7 hrow7'; go_wp2_with fail; refine hh3.mono ?_; rintro e w8 ⟨rfl, rfl⟩; go_wp2_with fail; refine ha3.mono ?_; rintro e w9 ⟨v9, rfl, hrow9, hb9⟩; have hrow9' := ae (show bg w9 w.heap.size w9.heap.size v9 (dm (es.take (j + 1)) X) by rw [hnx.out]; exact hrow9.wide (by omega) (nl _))
         have hbq := ae (hb17.out.trans (hb9.mono hb17.out.size)); clear hrow9 hb9 hh3 ha3 x0 x1 x2; go_wp2; go_roundg (n - (j + 1))
         case rel => exact ⟨j + 1, by have := hj.out; omega, by go_num, hrow9', hbq⟩
         case measure => have := hj.out; omega
       · have hT1e : T1 = L := by rw [hT1]; unfold kF; rw [if_neg q1]
         have d1 : decide (f ∈ L) = false := decide_eq_false q1; rw [d1] at hh1; replace hT1 := ae hT1; subst hT1e; have hh3 := hh2 w5 _ T1 hrow5.out (by omega)
         have ha3 := ha2 w5 _ T1 hrow5.out (by omega)
         replace q1 := ae q1; by_cases q2' : t ∈ T1
         · have d2 : decide (t ∈ T1) = true := decide_eq_true q2'
           rw [if_pos q2'] at hnx; rw [d2] at hh3; replace hnx := ae hnx; replace q2' := ae q2'; clear hh2 ha2; go_wp2_with fail; rw [← hw5.out]; go_wp2_with fail; refine hh1.mono ?_; rintro e w6 ⟨rfl, rfl⟩; go_wp2_with fail; refine hh3.mono ?_; rintro e w8 ⟨rfl, rfl⟩; go_wp2_with fail; refine ha3.mono ?_; rintro e w9 ⟨v9, rfl, hrow9, hb9⟩; have hrow9' := ae (show bg w9 w.heap.size w9.heap.size v9 (dm (es.take (j + 1)) X) by rw [hnx.out]; exact hrow9.wide (by omega) (nl _))
           have hbq := ae (hb15.out.trans (hb9.mono hb15.out.size)); clear hrow9 hb9 hh3 ha3 x0 x1 x2 hh1 ha1; go_wp2; go_roundg (n - (j + 1))
           case rel => exact ⟨j + 1, by have := hj.out; omega, by go_num, hrow9', hbq⟩
           case measure => have := hj.out; omega
         · have d2 : decide (t ∈ T1) = false := decide_eq_false q2'
           rw [if_neg q2'] at hnx; rw [d2] at hh3; replace hnx := ae hnx; replace q2' := ae q2'; clear hh2 ha2; go_wp2_with fail; rw [← hw5.out]; go_wp2_with fail; refine hh1.mono ?_; rintro e w6 ⟨rfl, rfl⟩; go_wp2_with fail; refine hh3.mono ?_; rintro e w8 ⟨rfl, rfl⟩; have hrow9' := ae (show bg w8 w.heap.size w8.heap.size _ (dm (es.take (j + 1)) X) by rw [hnx.out]; exact hrow5.out)
           clear hh3 ha3 x0 x1 x2 hh1 ha1; go_wp2; go_roundg (n - (j + 1))
           case rel => exact ⟨j + 1, by have := hj.out; omega, by go_num, hrow9', hb15⟩
           case measure => have := hj.out; omega
     · obtain rfl : j = n := by omega
       have hji : ¬ (j : Int) < (j : Int) := by omega
       have hfull : es.take j = es := List.take_of_length_le (by have := hn.out; omega)
       rw [hfull] at hL; have hrow9' := ae (show bg wr w.heap.size wr.heap.size u5 (di es (k + 1) [x]) by rw [hnext.out, ← hL]; exact hrow.out)
       replace hL := ae hL; replace hfull := ae hfull; replace hj := ae hj; go_wp2; go_roundg (j + 1 - (k + 1))
       case rel => exact ⟨k + 1, by have := hk.out; omega, by go_num, hrow9', hb⟩
       case measure => have := hk.out; omega
  · have hkn : k = n + 1 := by omega
    have hki : ¬ (k : Int) < (n : Int) + 1 := by omega
    have hr : bW w F (.returned u5) wr := by
     refine ⟨u5, rfl, ?_, hb13.out.trans (hb.out.mono hb13.out.size)⟩; rw [hfin.out]; unfold gp; rw [← hn.out, ← hkn, ← hX.out]; exact hrow.out
    replace hr := ae hr; replace hkn := ae hkn; replace hk := ae hk; clear hrow hb; go_wp2; go_ret; exact hr.out
end Go.Proofs.YtgnomlcjikfdhaaGreat
