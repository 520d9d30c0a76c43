import Derived.Test.YtpjlamnjiilgbaaGreatJ4Ba
import Derived.Test.YtpjlamnjiilgbaaGreatJ3Ba
namespace Go.Proofs.YtpjlamnjiilgbaaGreat
open Go.RowKit
set_option linter.unusedVariables false
set_option linter.unusedSimpArgs false
theorem isFo_true {r s : Int} {es : List Ed} (hg : isGr r s es = true) (h : ∀ i, i < es.length → ∀ k, k < i → ¬ Meets (es.getD i e0) (es.getD k e0)) : isFo r s es = true := by
 unfold isFo; rw [hg, foldB_iff.2 h]; rfl
theorem isFo_not {r s : Int} {es : List Ed} {i k : Nat} (hi : i < es.length) (hk : k < i) (h : Meets (es.getD i e0) (es.getD k e0)) : isFo r s es = false := by
 unfold isFo; rw [foldB_not hi hk h, Bool.and_false]
theorem isFo_gr {r s : Int} {es : List Ed} (hg : isGr r s es = false) : isFo r s es = false := by
 unfold isFo; rw [hg]; rfl
set_option maxHeartbeats 3200000 in
theorem specFold (w : World) (r s : Int) (v : Value) (es : List Ed) (h : ReadE w.heap.size w v es) (hs : -9223372036854775808 ≤ s ∧ s ≤ 9223372036854775807) (hl : es.length ≤ 1000000000) :
 Calls Tryz.prog 76 #[.agg #[.int .i64 r, .int .i64 s, v]] w (LwBool w (isFo r s es)) := by
 obtain ⟨a, cap, rfl, hnc⟩ := h.form
 obtain ⟨n, hn⟩ := exq es.length
 rw [← hn] at hl hnc ⊢
 rw [← hn] at h
 obtain ⟨w1, hw1⟩ := exq (w.alloc (.cells #[.int .i64 r, .int .i64 s, .slice a n cap] 26))
 have hb1 : Below w.heap.size w w1 := by rw [hw1]; exact (Below.refl _ _).alloc (Nat.le_refl _) _
 have hs1 : w.heap.size < w1.heap.size := by rw [hw1]; simp
 obtain ⟨g0, g1, g2⟩ := box3 hw1
 have hrd := hidI ((h.below hb1).mono hb1.size)
 obtain ⟨B, hB⟩ := exq (isGr r s es)
 have hcg : Hid (∀ W : World, Below w1.heap.size w1 W → Calls Tryz.prog 113 #[.agg #[.int .i64 r, .int .i64 s, .slice a n cap]] W (LwBool W B)) := hidI fun W hW => by
  rw [hB]; exact specIsGr W r s _ es ((hrd.out.below hW).mono hW.size) hs (by omega)
 obtain ⟨F, hF⟩ := exq (isFo r s es)
 have hFg : B = false → F = false := fun h => by rw [hF]; exact isFo_gr (by rw [← hB]; exact h)
 have hFt : B = true → (∀ i, i < n → ∀ k, k < i → ¬ Meets (es.getD i e0) (es.getD k e0)) → F = true := fun h h2 => by rw [hF]; exact isFo_true (by rw [← hB]; exact h) (by rw [← hn]; exact h2)
 have hFn : ∀ i k, i < n → k < i → Meets (es.getD i e0) (es.getD k e0) → F = false := fun i k hi hk h => by rw [hF]; exact isFo_not (by omega) hk h
 rw [← hF]
 replace hF := hidI hF
 replace hB := hidI hB
 replace hFg := hidI hFg
 replace hFt := hidI hFt
 replace hFn := hidI hFn
 replace hn := hidI hn
 replace hw1 := hidI hw1
 replace h := hidI h
 go_enter Tryz.func76, Tryz.ntmps76
 go_wp2
 rw [← hw1.out]
 go_loopg [3, 4] n (fun g i u wr => ∃ k : Nat, k + g = n ∧ i = .int .i64 k ∧ Hid (∀ i, i < k → ∀ j, j < i → ¬ Meets (es.getD i e0) (es.getD j e0)) ∧ Hid (Below w1.heap.size w1 wr))
 case atStart => exact ⟨0, by omega, rfl, hidI (fun i h => by omega), hidI (Below.refl _ _)⟩
 case round =>
  obtain ⟨k, hk, rfl, hp, hb⟩ := hrel
  have hsz := hb.out.size
  have q0 := below_cell g0 hb.out hs1
  have q1 := below_cell g1 hb.out hs1
  have q2 := below_cell g2 hb.out hs1
  by_cases hlt : k < n
  · have hki : (k : Int) < (n : Int) := by omega
    replace hk := hidI hk
    go_wp2_with fail
    refine (hcg.out wr hb.out).mono ?_
    rintro e w2 ⟨rfl, hb2⟩
    have hb12 := hb.out.trans (hb2.mono hsz)
    have hs2 := hb2.size
    clear hb2
    cases B with
    | false =>
     have hfin := hidI (hFg.out rfl)
     have p0 := below_cell g0 hb12 hs1
     have p1 := below_cell g1 hb12 hs1
     have p2 := below_cell g2 hb12 hs1
     go_wp2_with fail
     refine (hcg.out w2 hb12).mono ?_
     rintro e w3 ⟨rfl, hb3⟩
     have hbz := hb1.trans ((hb12.trans (hb3.mono hb12.size)).mono hb1.size)
     clear hb3
     go_wp2
     go_ret
     exact ⟨ret_bool hfin.out.symm, hbz⟩
    | true =>
     replace hb12 := hidI hb12
     clear q0 q1 q2
     go_wp2
     go_loopg [4] k (fun g u wr => ∃ j : Nat, j + g = k ∧ u = .int .i64 j ∧ Hid (∀ j', j' < j → ¬ Meets (es.getD k e0) (es.getD j' e0)) ∧ Hid (Below w1.heap.size w1 wr))
     case atStart => exact ⟨0, by omega, rfl, hidI (fun i h => by omega), hb12⟩
     case round =>
      clear hb12
      obtain ⟨j, hj, rfl, hp2, hbi⟩ := hrel
      by_cases hlt2 : j < k
      · have hji : (j : Int) < (k : Int) := by omega
        obtain ⟨b, off, hab, hBl, c0, c1, c2⟩ := ReadE.at3 (hrd.out.below hbi.out) k (by have := hn.out; omega)
        obtain ⟨b', off', hab', hBl', d0, d1, d2⟩ := ReadE.at3 (hrd.out.below hbi.out) j (by have := hn.out; omega)
        subst hab
        simp only [Option.some.injEq, Addr.mk.injEq, and_true] at hab'
        obtain ⟨rfl, rfl⟩ := hab'
        obtain ⟨f, hf⟩ := exq ((es.getD k e0).1)
        obtain ⟨l, hll⟩ := exq ((es.getD k e0).2.1)
        obtain ⟨t, ht⟩ := exq ((es.getD k e0).2.2)
        obtain ⟨f', hf'⟩ : ∃ z, z = (es.getD j e0).1 := ⟨_, rfl⟩
        obtain ⟨l', hl2⟩ : ∃ z, z = (es.getD j e0).2.1 := ⟨_, rfl⟩
        obtain ⟨t', ht'⟩ : ∃ z, z = (es.getD j e0).2.2 := ⟨_, rfl⟩
        have hM : Meets (es.getD k e0) (es.getD j e0) ↔ l = l' ∧ (f = f' ∨ t = t') := by unfold Meets; rw [← hf, ← hll, ← ht, ← hf', ← hl2, ← ht']
        rw [← hf] at c0
        rw [← hll] at c1
        rw [← ht] at c2
        rw [← hf'] at d0
        rw [← hl2] at d1
        rw [← ht'] at d2
        have q0 := below_cell g0 hbi.out hs1
        have q1 := below_cell g1 hbi.out hs1
        have q2 := below_cell g2 hbi.out hs1
        have hbw : w1.heap.size ≤ wr.heap.size := hbi.out.size
        obtain ⟨w3, hw3⟩ := exq (wr.alloc (.cells #[.int .i64 f, .int .i64 l, .int .i64 t] 72))
        have hb3 : Below wr.heap.size wr w3 := by rw [hw3]; exact (Below.refl _ _).alloc (Nat.le_refl _) _
        have hs3 : wr.heap.size < w3.heap.size := by rw [hw3]; simp
        obtain ⟨x0, x1, x2⟩ := box3 hw3
        have q2' := below_cell q2 hb3 (by omega)
        replace d0 := below_cell d0 hb3 (by omega)
        replace d1 := below_cell d1 hb3 (by omega)
        replace d2 := below_cell d2 hb3 (by omega)
        have hs3e : w3.heap.size = wr.heap.size + 1 := by rw [hw3]; simp
        obtain ⟨w4, hw4⟩ := exq (w3.alloc (.cells #[.int .i64 f', .int .i64 l', .int .i64 t'] 72))
        have hb4 : Below w3.heap.size w3 w4 := by rw [hw4]; exact (Below.refl _ _).alloc (Nat.le_refl _) _
        obtain ⟨y0, y1, y2⟩ := box3 hw4
        rw [hs3e] at y0 y1 y2
        replace x0 := below_cell x0 hb4 hs3
        replace x1 := below_cell x1 hb4 hs3
        replace x2 := below_cell x2 hb4 hs3
        rw [hw3] at q2' d0 d1 d2
        have hbz := hbi.out.trans ((hb3.trans (hb4.mono hb3.size)).mono hbw)
        have hww : (wr.alloc (.cells #[.int .i64 f, .int .i64 l, .int .i64 t] 72)).alloc (.cells #[.int .i64 f', .int .i64 l', .int .i64 t'] 72) = w4 := by rw [hw4, hw3]
        clear hb3 hb4
        replace hww := hidI hww
        replace hw3 := hidI hw3
        replace hw4 := hidI hw4
        replace hs3e := hidI hs3e
        replace hf := hidI hf
        replace hll := hidI hll
        replace ht := hidI ht
        replace hf' := hidI hf'
        replace hl2 := hidI hl2
        replace ht' := hidI ht'
        replace hj := hidI hj
        have hgo : ¬ (l = l' ∧ (f = f' ∨ t = t')) → Hid (∀ j', j' < j + 1 → ¬ Meets (es.getD k e0) (es.getD j' e0)) := fun hno => hidI fun j' hj' => by
         by_cases h2 : j' < j
         · exact hp2.out j' h2
         · obtain rfl : j' = j := by omega
           exact fun hm => hno (hM.1 hm)
        have hend : (l = l' ∧ (f = f' ∨ t = t')) → F = false := fun hy => hFn.out k j (by omega) hlt2 (hM.2 hy)
        replace hM := hidI hM
        replace hgo := hidI hgo
        replace hend := hidI hend
        have hbq := hidI (hb1.trans (hbz.mono hb1.size))
        replace hbz := hidI hbz
        by_cases e1 : l = l'
        · have u1 : (l == l') = true := by rw [beq_iff_eq]; exact e1
          by_cases e2 : f = f'
          · have u2 : (f == f') = true := by rw [beq_iff_eq]; exact e2
            have hfin := hidI (hend.out ⟨e1, .inl e2⟩)
            replace e1 := hidI e1
            replace e2 := hidI e2
            go_wp2
            rw [hww.out]
            go_wp2
            go_ret
            exact ⟨ret_bool hfin.out.symm, hbq.out⟩
          · have u2 : (f == f') = false := by rw [beq_eq_false_iff_ne]; exact e2
            by_cases e3 : t = t'
            · have u3 : (t == t') = true := by rw [beq_iff_eq]; exact e3
              have hfin := hidI (hend.out ⟨e1, .inr e3⟩)
              replace e1 := hidI e1
              replace e2 := hidI e2
              replace e3 := hidI e3
              go_wp2
              rw [hww.out]
              go_wp2
              go_ret
              exact ⟨ret_bool hfin.out.symm, hbq.out⟩
            · have u3 : (t == t') = false := by rw [beq_eq_false_iff_ne]; exact e3
              have hnx := hgo.out (by rintro ⟨_, h | h⟩ <;> contradiction)
              replace e1 := hidI e1
              replace e2 := hidI e2
              replace e3 := hidI e3
              go_wp2
              rw [hww.out]
              go_wp2
              go_roundg (k - (j + 1))
              case rel => exact ⟨j + 1, by have := hj.out; omega, by go_num, hnx, hbz⟩
              case measure => have := hj.out; omega
        · have u1 : (l == l') = false := by rw [beq_eq_false_iff_ne]; exact e1
          have hnx := hgo.out (by rintro ⟨h, _⟩; contradiction)
          replace e1 := hidI e1
          go_wp2
          rw [hww.out]
          go_wp2
          go_roundg (k - (j + 1))
          case rel => exact ⟨j + 1, by have := hj.out; omega, by go_num, hnx, hbz⟩
          case measure => have := hj.out; omega
      · obtain rfl : j = k := by omega
        have hji : ¬ (j : Int) < (j : Int) := by omega
        have hk2 : j + 1 ≤ n := by omega
        replace hj := hidI hj
        go_wp2
        go_roundg (n - (j + 1))
        case rel => exact ⟨j + 1, by have := hk.out; omega, by go_num, hidI (fun i hi k' hk' => by
         by_cases h2 : i < j
         · exact hp.out i h2 k' hk'
         · obtain rfl : i = j := by omega
           exact hp2.out k' hk'), hbi⟩
        case measure => have := hk.out; omega
  · obtain rfl : k = n := by omega
    have hki : ¬ (k : Int) < (k : Int) := by omega
    replace hk := hidI hk
    cases B with
    | false =>
     have hfin := hidI (hFg.out rfl)
     go_wp2_with fail
     refine (hcg.out wr hb.out).mono ?_
     rintro e w3 ⟨rfl, hb3⟩
     have hbz := hb1.trans ((hb.out.trans (hb3.mono hsz)).mono hb1.size)
     clear hb3
     go_wp2
     go_ret
     exact ⟨ret_bool hfin.out.symm, hbz⟩
    | true =>
     have hfin := hidI (hFt.out rfl hp.out)
     go_wp2_with fail
     refine (hcg.out wr hb.out).mono ?_
     rintro e w3 ⟨rfl, hb3⟩
     have hbz := hb1.trans ((hb.out.trans (hb3.mono hsz)).mono hb1.size)
     clear hb3
     go_wp2
     go_ret
     exact ⟨ret_bool hfin.out.symm, hbz⟩
def LwIntBool (w : World) (n : Int) (b : Bool) (e : Ending) (w' : World) : Prop := e = .returned (.tuple #[.int .i64 n, .bool b]) ∧ Below w.heap.size w w'
set_option maxHeartbeats 1600000 in
theorem specNext (w : World) (r s : Int) (v : Value) (es : List Ed) (x y : Int) (h : ReadE w.heap.size w v es) (hl : es.length ≤ 10000000) :
 Calls Tryz.prog 43 #[.agg #[.int .i64 r, .int .i64 s, v], .int .i64 x, .int .i64 y] w (LwInt w (nxV es x y)) := by
 obtain ⟨a, cap, rfl, hnc⟩ := h.form
 obtain ⟨n, hn⟩ := exq es.length
 rw [← hn] at hl hnc ⊢
 rw [← hn] at h
 obtain ⟨w1, hw1⟩ := exq (w.alloc (.cells #[.int .i64 r, .int .i64 s, .slice a n cap] 26))
 have hb1 : Below w.heap.size w w1 := by rw [hw1]; exact (Below.refl _ _).alloc (Nat.le_refl _) _
 obtain ⟨g0, g1, g2⟩ := box3 hw1
 have hc := specSteps w1 r s (.slice a n cap) es x y ((h.below hb1).mono hb1.size) (by omega)
 obtain ⟨L, hL⟩ := exq (stepsE x y es)
 have hF : nxV es x y = L.headD (-1) := by rw [hL]; rfl
 rw [← hL] at hc
 rw [hF]
 replace hn := hidI hn
 replace hw1 := hidI hw1
 replace h := hidI h
 replace hL := hidI hL
 replace hF := hidI hF
 go_enter Tryz.func43, Tryz.ntmps43
 go_wp2_with fail
 rw [← hw1.out]
 refine hc.mono ?_
 rintro e w2 ⟨v2, rfl, hrow, hb2⟩
 have hbz := hb1.trans (hb2.mono hb1.size)
 clear hc hb2
 cases L with
 | nil =>
  obtain ⟨hl0, ⟨rfl, _⟩ | ⟨g, off, cap2, cur, rfl, h1, h2, h3, h4, h5⟩⟩ := hrow
  all_goals
   go_wp2
   go_ret
   exact ⟨ret_i rfl, hbz⟩
 | cons z zs =>
  obtain ⟨hl0, ⟨rfl, h0⟩ | ⟨g, off, cap2, cur, rfl, h1, h2, h3, h4, h5⟩⟩ := hrow
  · cases h0
  have hz := h5 0 (by simp)
  have hzc : w2.cell? ⟨g, off, none⟩ = some (.int .i64 z) := by
   rw [World.cell?, h4]
   simpa using hz
  obtain ⟨m, hm⟩ := exq ((z :: zs).length)
  have hm1 : 1 ≤ m := by rw [hm]; simp
  have t1 : ((m : Int) == 0) = false := by rw [beq_eq_false_iff_ne]; omega
  have t2 : (0 : Int) < (m : Int) := by omega
  rw [← hm] at h3 hl0 ⊢
  clear hz h4 h5
  replace hm := hidI hm
  go_wp2
  go_ret
  exact ⟨ret_i rfl, hbz⟩
theorem walkB_no {r s : Int} {es : List Ed} {v : Int} {w : List Int} (h : okWk r s es v = false) : walkB r s es v w = false ∧ walkV r s es v w = -1 ∧ readN r s es v w = 0 := by
 have hB : walkB r s es v w = false := by unfold walkB; rw [h]; rfl
 refine ⟨hB, ?_, ?_⟩
 · unfold walkV; rw [hB]; rfl
 · unfold readN; rw [h]; rfl
theorem walkB_end {r s : Int} {es : List Ed} {v x : Int} {w : List Int} (h : okWk r s es v = true) (hw : wk es v w = (x, w.length)) : walkB r s es v w = true ∧ walkV r s es v w = x ∧ readN r s es v w = (w.length : Int) := by
 have hB : walkB r s es v w = true := by unfold walkB; rw [h, hw]; simp
 refine ⟨hB, ?_, ?_⟩
 · unfold walkV; rw [hB, hw]; rfl
 · unfold readN; rw [h, hw]; rfl
theorem walkB_stop {r s : Int} {es : List Ed} {v x : Int} {w : List Int} {k : Nat} (h : okWk r s es v = true) (hw : wk es v w = (x, k)) (hk : k < w.length) : walkB r s es v w = false ∧ walkV r s es v w = -1 ∧ readN r s es v w = (k : Int) := by
 have hB : walkB r s es v w = false := by unfold walkB; rw [h, hw]; simp; omega
 refine ⟨hB, ?_, ?_⟩
 · unfold walkV; rw [hB]; rfl
 · unfold readN; rw [h, hw]; rfl
set_option maxHeartbeats 3200000 in
theorem specWalk (w : World) (r s : Int) (v : Value) (es : List Ed) (x : Int) (vz : Value) (zs : List Int) (h : ReadE w.heap.size w v es) (hz : ReadI w.heap.size w vz zs) (hs : -9223372036854775808 ≤ s ∧ s ≤ 9223372036854775807) (hx : -9223372036854775808 ≤ x ∧ x ≤ 9223372036854775807) (hin : InR zs) (hl : es.length ≤ 10000000) (hlz : zs.length ≤ 10000000) :
 Calls Tryz.prog 105 #[.agg #[.int .i64 r, .int .i64 s, v], .int .i64 x, vz] w (LwIntBool w (walkV r s es x zs) (walkB r s es x zs)) := by
 obtain ⟨a, cap, rfl, hnc⟩ := h.form
 obtain ⟨n, hn⟩ := exq es.length
 rw [← hn] at hl hnc ⊢
 rw [← hn] at h
 have hz' := hz
 obtain ⟨_, az, capz, rfl, _, _⟩ := hz'
 obtain ⟨m, hm⟩ := exq zs.length
 rw [← hm] at hlz ⊢
 rw [← hm] at hz
 obtain ⟨w1, hw1⟩ := exq (w.alloc (.cells #[.int .i64 r, .int .i64 s, .slice a n cap] 26))
 have hb1 : Below w.heap.size w w1 := by rw [hw1]; exact (Below.refl _ _).alloc (Nat.le_refl _) _
 have hs1 : w.heap.size < w1.heap.size := by rw [hw1]; simp
 obtain ⟨g0, g1, g2⟩ := box3 hw1
 have hrd := hidI ((h.below hb1).mono hb1.size)
 have hrz := hidI ((hz.below hb1).mono hb1.size)
 have hcf := specFold w1 r s (.slice a n cap) es ((h.below hb1).mono hb1.size) hs (by omega)
 obtain ⟨B, hB⟩ := exq (isFo r s es)
 rw [← hB] at hcf
 obtain ⟨FV, hFV⟩ := exq (walkV r s es x zs)
 obtain ⟨FB, hFB⟩ := exq (walkB r s es x zs)
 rw [← hFV, ← hFB]
 replace hFV := hidI hFV
 replace hFB := hidI hFB
 replace hn := hidI hn
 replace hm := hidI hm
 replace hw1 := hidI hw1
 replace h := hidI h
 replace hz := hidI hz
 replace hin := hidI hin
 go_enter Tryz.func105, Tryz.ntmps105
 go_wp2_with fail
 rw [← hw1.out]
 refine hcf.mono ?_
 rintro e w2 ⟨rfl, hb2⟩
 clear hcf
 cases B with
 | false =>
  have hno : okWk r s es x = false := by unfold okWk; rw [← hB]; rfl
  have hfin := hidI (show FV = -1 ∧ FB = false from ⟨by rw [hFV.out]; exact (walkB_no hno).2.1, by rw [hFB.out]; exact (walkB_no hno).1⟩)
  have hbz := hidI (hb1.trans (hb2.mono hb1.size))
  replace hno := hidI hno
  replace hB := hidI hB
  go_wp2
  go_ret2
  exact ⟨by rw [hfin.out.1, hfin.out.2]; rfl, hbz.out⟩
 | true =>
 have hlim := isGr_lim (r := r) (s := s) (es := es) (by have := hB; unfold isFo at this; exact (Bool.and_eq_true_iff.1 this.symm).1)
 have hsub : IntKind.i64.wrap (s - 1) = s - 1 := IntWalk.i64_in _ (by omega)
 have hci := fun W => in_any W x 0 (s - 1)
 replace g0 := below_cell g0 hb2 hs1
 replace g1 := below_cell g1 hb2 hs1
 replace g2 := below_cell g2 hb2 hs1
 have hb12 := hb1.trans (hb2.mono hb1.size)
 have hs2 : w.heap.size < w2.heap.size := Nat.lt_of_lt_of_le hs1 hb2.size
 replace hrd := hidI ((hrd.out.below hb2).mono hb2.size)
 replace hrz := hidI ((hrz.out.below hb2).mono hb2.size)
 clear hb2
 by_cases hv : 0 ≤ x ∧ x ≤ s - 1
 case neg =>
  have hd : decide (0 ≤ x ∧ x ≤ s - 1) = false := decide_eq_false hv
  have hno : okWk r s es x = false := by unfold okWk isVx; rw [Bool.and_eq_false_iff]; right; rw [decide_eq_false_iff_not]; omega
  have hfin := hidI (show FV = -1 ∧ FB = false from ⟨by rw [hFV.out]; exact (walkB_no hno).2.1, by rw [hFB.out]; exact (walkB_no hno).1⟩)
  have hbz := hidI hb12
  replace hno := hidI hno
  replace hB := hidI hB
  replace hlim := hidI hlim
  replace hv := hidI hv
  go_wp2_with (go_at_call 140; refine (hci _).mono ?_; rintro e w3 ⟨rfl, rfl⟩)
  go_ret2
  exact ⟨by rw [hfin.out.1, hfin.out.2]; rfl, hbz.out⟩
 have hd : decide (0 ≤ x ∧ x ≤ s - 1) = true := decide_eq_true hv
 have hyes : okWk r s es x = true := by unfold okWk isVx; rw [← hB, Bool.true_and, decide_eq_true_eq]; omega
 have hw0 := hidI (wkAt_start es x zs)
 have hcn : Hid (∀ W : World, Below w2.heap.size w2 W → ∀ y z, Calls Tryz.prog 43 #[.agg #[.int .i64 r, .int .i64 s, .slice a n cap], .int .i64 y, .int .i64 z] W (LwInt W (nxV es y z))) := hidI fun W hW y z =>
  specNext W r s _ es y z ((hrd.out.below hW).mono hW.size) (by have := hn.out; omega)
 replace hyes := hidI hyes
 replace hB := hidI hB
 replace hlim := hidI hlim
 replace hv := hidI hv
 replace hb12 := hidI hb12
 have hbr := hidI (Below.refl w2.heap.size w2)
 go_wp2_with (go_at_call 140; refine (hci _).mono ?_; rintro e w3 ⟨rfl, rfl⟩)
 clear hci hd
 go_loopg [1, 8] m (fun g u i wr => ∃ (k : Nat) (y : Int), k + g = m ∧ i = .int .i64 k ∧ u = .int .i64 y ∧ Hid (WkAt es x zs y k) ∧ Hid (Below w2.heap.size w2 wr))
 case atStart => exact ⟨0, x, by omega, rfl, rfl, hw0, hbr⟩
 case round =>
  clear hw0 hbr
  obtain ⟨k, y, hk, rfl, rfl, hwk, hb⟩ := hrel
  have hsz := hb.out.size
  have q0 := below_cell g0 hb.out hs2
  have q1 := below_cell g1 hb.out hs2
  have q2 := below_cell g2 hb.out hs2
  by_cases hlt : k < m
  · have hki : (k : Int) < (m : Int) := by omega
    obtain ⟨bz, oz, rfl, hbzl, hcz⟩ := (hrz.out.below hb.out).at2 k (by have := hm.out; omega)
    obtain ⟨z, hzz⟩ := exq (zs.getD k 0)
    rw [← hzz] at hcz
    have hdr := below_dn hb.out 1
    have hcall := hcn.out wr.drew hdr y z
    obtain ⟨y2, hy2⟩ := exq (nxV es y z)
    rw [← hy2] at hcall
    have hstop := fun (hneg : y2 < 0) => wkAt_stop hwk.out (by have := hm.out; omega) (by rw [← hzz, ← hy2]; exact hneg)
    have hgo := fun (hneg : ¬ y2 < 0) => wkAt_step hwk.out (by have := hm.out; omega) (by rw [← hzz, ← hy2]; exact hneg)
    rw [← hzz, ← hy2] at hgo
    replace hstop := hidI hstop
    replace hgo := hidI hgo
    replace hzz := hidI hzz
    replace hy2 := hidI hy2
    replace hk := hidI hk
    clear hb
    replace hdr := hidI hdr
    by_cases hneg : y2 < 0
    · have hq := walkB_stop hyes.out (hstop.out hneg) (by have := hm.out; omega)
      have hfin := hidI (show FV = -1 ∧ FB = false from ⟨by rw [hFV.out]; exact hq.2.1, by rw [hFB.out]; exact hq.1⟩)
      replace hq := hidI hq
      go_wp2
      go_region_with (go_at_call 43; (with_reducible refine hcall.mono ?_); rintro e w3 ⟨rfl, hb3⟩)
      all_goals
       have hbz := hidI (hb12.out.trans ((hdr.out.trans (hb3.mono hdr.out.size)).mono hb12.out.size))
       clear hb3
       go_wp2
       go_ret2
       exact ⟨by rw [hfin.out.1, hfin.out.2]; rfl, hbz.out⟩
    · have hnx := hidI (hgo.out hneg)
      go_wp2
      go_region_with (go_at_call 43; (with_reducible refine hcall.mono ?_); rintro e w3 ⟨rfl, hb3⟩)
      all_goals
       have hbz := hidI (hdr.out.trans (hb3.mono hdr.out.size))
       clear hb3
       go_wp2
       go_roundg (m - (k + 1))
       case rel => exact ⟨k + 1, y2, by have := hk.out; omega, by go_num, rfl, hnx, hbz⟩
       case measure => have := hk.out; omega
  · obtain rfl : k = m := by omega
    have hki : ¬ (k : Int) < (k : Int) := by omega
    have hq := walkB_end hyes.out (wkAt_end hwk.out (by have := hm.out; omega))
    rw [← hm.out] at hq
    have hfin := hidI (show FV = y ∧ FB = true from ⟨by rw [hFV.out]; exact hq.2.1, by rw [hFB.out]; exact hq.1⟩)
    replace hq := hidI hq
    replace hk := hidI hk
    have hbz := hidI (hb12.out.trans (hb.out.mono hb12.out.size))
    go_wp2
    go_ret2
    exact ⟨by rw [hfin.out.1, hfin.out.2]; rfl, hbz.out⟩
theorem asc_len {s : Nat} {L : List Int} (ha : L.Pairwise (· < ·)) (hin : ∀ y ∈ L, 0 ≤ y ∧ y < (s : Int)) : L.length ≤ s := by
 have e : upTo L s = L := asc_ext (asc_upTo s) ha fun y => by
  rw [mem_upTo]
  exact ⟨fun h => h.1, fun h => ⟨h, (hin y h).1, (hin y h).2⟩⟩
 rw [← e]
 exact upTo_length L s
theorem passE_next {es : List Ed} {acc : List Int} {j : Nat} (h : j < es.length) : passE (es.take (j + 1)) acc = touchE (passE (es.take j) acc) (es.getD j e0) := by
 unfold passE
 rw [take_one h, List.foldl_append]; rfl
theorem mid_len {s : Nat} {es : List Ed} {x : Int} (hE : EndsIn s es) (hx : 0 ≤ x ∧ x < (s : Int)) (k j : Nat) : (passE (es.take j) (passN es k [x])).length ≤ s := by
 refine asc_len (asc_passE _ (asc_passN es (List.pairwise_singleton _ _) k)) (passE_in (fun e he => hE e (List.mem_of_mem_take he)) (passN_in hE (fun y hy => ?_) k))
 rw [List.mem_singleton] at hy; omega
theorem touch1_length (acc : List Int) (e : Ed) : (touch1 acc e).length ≤ acc.length + 1 := by
 unfold touch1; split
 · exact addZ_length _ _
 · omega
theorem hasL_any (w : World) (B : Nat) (v : Value) (zs : List Int) (x : Int) (h : ReadI B w v zs) (hl : zs.length ≤ 1000000000) :
 Calls Tryz.prog 44 #[v, .int .i64 x] w fun e w' => e = .returned (.bool (decide (x ∈ zs))) ∧ w' = w := by
 have h' := h
 obtain ⟨_, a, cap, rfl, _, _⟩ := h'
 obtain ⟨n, hn⟩ := exq zs.length
 rw [← hn] at hl ⊢
 rw [← hn] at h
 obtain ⟨F, hF⟩ := exq (decide (x ∈ zs))
 rw [← hF]
 replace hF := hidI hF
 replace hn := hidI hn
 replace h := hidI h
 go_enter Tryz.func44, Tryz.ntmps44
 go_wp2
 go_loopg [5] n (fun g i wr => ∃ k : Nat, k + g = n ∧ i = .int .i64 k ∧ Hid (∀ j, j < k → zs.getD j 0 ≠ x) ∧ Hid (wr = w))
 case atStart => exact ⟨0, by omega, rfl, hidI (fun j h => by omega), hidI rfl⟩
 case round =>
  obtain ⟨k, hk, rfl, hp, hb⟩ := hrel
  have hb' := hb.out
  subst hb'
  by_cases hlt : k < n
  · have hki : (k : Int) < (n : Int) := by omega
    obtain ⟨b, off, rfl, hB, hc⟩ := h.out.at2 k (by have := hn.out; omega)
    obtain ⟨z, hz⟩ := exq (zs.getD k 0)
    rw [← hz] at hc
    by_cases hzx : z = x
    · have t1 : (z == x) = true := by rw [beq_iff_eq]; exact hzx
      have hfin : F = true := by
       rw [hF.out, decide_eq_true_eq, ← hzx, hz]
       have hkl : k < zs.length := by have := hn.out; omega
       rw [List.getD_eq_getElem?_getD, List.getElem?_eq_getElem hkl]
       exact List.getElem_mem hkl
      replace hfin := hidI hfin
      replace hzx := hidI hzx
      replace hz := hidI hz
      replace hk := hidI hk
      go_wp2
      go_ret
      exact ⟨ret_bool hfin.out.symm, rfl⟩
    · have t1 : (z == x) = false := by rw [beq_eq_false_iff_ne]; exact hzx
      have hnx : ∀ j, j < k + 1 → zs.getD j 0 ≠ x := by
       intro j hj
       by_cases hjk : j = k
       · subst hjk; rw [← hz]; exact hzx
       · exact hp.out j (by omega)
      replace hnx := hidI hnx
      replace hzx := hidI hzx
      replace hz := hidI hz
      replace hk := hidI hk
      go_wp2
      go_roundg (n - (k + 1))
      case rel => exact ⟨k + 1, by have := hk.out; omega, by go_num, hnx, hidI rfl⟩
      case measure => have := hk.out; omega
  · obtain rfl : k = n := by omega
    have hki : ¬ (k : Int) < (k : Int) := by omega
    have hfin : F = false := by
     rw [hF.out, decide_eq_false_iff_not]
     intro hm
     obtain ⟨i, hi, he⟩ := List.getElem_of_mem hm
     refine hp.out i (by have := hn.out; omega) ?_
     rw [List.getD_eq_getElem?_getD, List.getElem?_eq_getElem hi]
     exact he
    replace hfin := hidI hfin
    replace hk := hidI hk
    go_wp2
    go_ret
    exact ⟨ret_bool hfin.out.symm, rfl⟩
set_option maxHeartbeats 3200000 in
theorem specReach (w : World) (r s : Int) (v : Value) (es : List Ed) (x : Int) (h : ReadE w.heap.size w v es) (hs : -9223372036854775808 ≤ s ∧ s ≤ 9223372036854775807) (hl : es.length ≤ 10000000) :
 Calls Tryz.prog 114 #[.agg #[.int .i64 r, .int .i64 s, v], .int .i64 x] w (IntsRet w (reachG r s es x)) := by
 obtain ⟨a, cap, rfl, hnc⟩ := h.form
 obtain ⟨n, hn⟩ := exq es.length
 rw [← hn] at hl hnc ⊢
 rw [← hn] at h
 obtain ⟨w1, hw1⟩ := exq (w.alloc (.cells #[.int .i64 r, .int .i64 s, .slice a n cap] 26))
 have hb1 : Below w.heap.size w w1 := by rw [hw1]; exact (Below.refl _ _).alloc (Nat.le_refl _) _
 have hs1 : w.heap.size < w1.heap.size := by rw [hw1]; simp
 obtain ⟨g0, g1, g2⟩ := box3 hw1
 have hcf := specIsGr w1 r s (.slice a n cap) es ((h.below hb1).mono hb1.size) hs (by omega)
 obtain ⟨B, hB⟩ := exq (isGr r s es)
 rw [← hB] at hcf
 obtain ⟨F, hF⟩ := exq (reachG r s es x)
 rw [← hF]
 have hno : (B = false ∨ ¬ (0 ≤ x ∧ x < s)) → F = [] := by
  intro h
  rw [hF]
  unfold reachG isVx
  rw [← hB]
  rcases h with h | h
  · rw [h]; rfl
  · rw [decide_eq_false h, Bool.and_false]; rfl
 have hyes : B = true → (0 ≤ x ∧ x < s) → F = reachL es x := by
  intro h h2
  rw [hF]
  unfold reachG isVx
  rw [← hB, h, decide_eq_true h2]; rfl
 replace hno := hidI hno
 replace hyes := hidI hyes
 replace hF := hidI hF
 replace hn := hidI hn
 replace hw1 := hidI hw1
 replace h := hidI h
 go_enter Tryz.func114, Tryz.ntmps114
 go_wp2_with fail
 rw [← hw1.out]
 refine hcf.mono ?_
 rintro e w2 ⟨rfl, hb2⟩
 clear hcf
 replace g0 := below_cell g0 hb2 hs1
 replace g1 := below_cell g1 hb2 hs1
 replace g2 := below_cell g2 hb2 hs1
 have hb12 := hidI (hb1.trans (hb2.mono hb1.size))
 have hs2 : w.heap.size < w2.heap.size := Nat.lt_of_lt_of_le hs1 hb2.size
 clear hb2
 have hnil : F = [] → Hid (IntsRet w F (.returned (.slice (some ⟨w2.heap.size, 0, none⟩) 0 0)) (w2.alloc (.cells #[] 3))) := by
  rintro rfl
  have hbn := (Below.refl w2.heap.size w2).alloc (Nat.le_refl _) (.cells #[] 3)
  exact hidI ⟨_, rfl, ((OwnsI.lit w2).row (by simp)).wide (by omega) (Nat.le_refl _), hb12.out.trans (hbn.mono hb12.out.size)⟩
 cases B with
 | false =>
  have hfin := hnil (hno.out (.inl rfl))
  clear hnil
  replace hB := hidI hB
  go_wp2
  go_ret
  exact hfin.out
 | true =>
 have hlim := isGr_lim hB.symm
 have hE := hidI (endsIn_of hB.symm)
 have hsub : IntKind.i64.wrap (s - 1) = s - 1 := IntWalk.i64_in _ (by omega)
 have hci := fun W => in_any W x 0 (s - 1)
 by_cases hv : 0 ≤ x ∧ x ≤ s - 1
 case neg =>
  have hd : decide (0 ≤ x ∧ x ≤ s - 1) = false := decide_eq_false hv
  have hfin := hnil (hno.out (.inr (by omega)))
  clear hnil
  replace hB := hidI hB
  replace hlim := hidI hlim
  replace hv := hidI hv
  go_wp2_with (go_at_call 140; refine (hci _).mono ?_; rintro e w3 ⟨rfl, rfl⟩)
  go_ret
  exact hfin.out
 have hd : decide (0 ≤ x ∧ x ≤ s - 1) = true := decide_eq_true hv
 have hfin := hidI (hyes.out rfl (by omega))
 have hmid := fun k j => mid_len hE.out (x := x) (by omega) k j
 have hs40 : s.toNat ≤ 40 := by omega
 clear hnil
 replace hB := hidI hB
 replace hlim := hidI hlim
 replace hv := hidI hv
 replace hmid := hidI hmid
 replace hno := hidI hno
 obtain ⟨w3, hw3⟩ := exq (w2.alloc (.cells #[.int .i64 x] 3))
 have hb3 : Below w2.heap.size w2 w3 := by rw [hw3]; exact (Below.refl _ _).alloc (Nat.le_refl _) _
 have hs3 : w2.heap.size < w3.heap.size := by rw [hw3]; simp
 have hrow3 : RowI w3 w2.heap.size w3.heap.size (.slice (some ⟨w2.heap.size, 0, none⟩) 1 1) [x] := by
  refine ⟨by simp, .inr ⟨_, 0, 1, #[.int .i64 x], rfl, Nat.le_refl _, hs3, by simp, by rw [hw3]; exact heap_alloc_new _ _, fun i hi => ?_⟩⟩
  have : i = 0 := by simpa using hi
  subst this; rfl
 have hrow3' := hidI (hrow3.wide (Nat.le_of_lt hs2) (Nat.le_refl _))
 have hb13 := hidI (hb12.out.trans (hb3.mono hb12.out.size))
 have p2 := below_cell g2 hb3 hs2
 have hrd := hidI ((h.out.below hb13.out).mono hb13.out.size)
 have hsw3 : w.heap.size < w3.heap.size := by omega
 clear hrow3 hb3
 replace hw3 := hidI hw3
 have hn1 : IntKind.i64.wrap ((n : Int) + 1) = (n : Int) + 1 := IntWalk.i64_in _ (by omega)
 have hbr := hidI (Below.refl w3.heap.size w3)
 have hw3' := hw3.out.symm
 replace hw3' := hidI hw3'
 go_wp2_with (go_at_call 140; refine (hci _).mono ?_; rintro e w4 ⟨rfl, rfl⟩)
 clear hci hd g0 g1 g2
 rw [hw3'.out]
 go_loopg [5, 6, 7] (n + 1) (fun g o i u wr => ∃ k : Nat, k + g = n + 1 ∧ i = .int .i64 k ∧ Hid (RowI wr w.heap.size wr.heap.size o (passN es k [x])) ∧ Hid (Below w3.heap.size w3 wr))
 case atStart => exact ⟨0, by omega, rfl, hrow3', hbr⟩
 case round =>
  clear hrow3' hbr
  obtain ⟨k, hk, rfl, hrow, hb⟩ := hrel
  have hsz := hb.out.size
  have q2 := below_cell p2 hb.out hsw3
  obtain ⟨X, hX⟩ := exq (passN es k [x])
  have hnext : passN es (k + 1) [x] = passE es X := by rw [hX]; rfl
  have hmidX := fun j => hmid.out k j
  rw [← hX] at hrow hmidX
  replace hmidX := hidI hmidX
  replace hX := hidI hX
  replace hnext := hidI hnext
  by_cases hlt : k < n + 1
  · have hki : (k : Int) < (n : Int) + 1 := by omega
    replace hk := hidI hk
    go_wp2
    go_loopg [5, 7] n (fun g o u wr => ∃ j : Nat, j + g = n ∧ u = .int .i64 j ∧ Hid (RowI wr w.heap.size wr.heap.size o (passE (es.take j) X)) ∧ Hid (Below w3.heap.size w3 wr))
    case atStart => exact ⟨0, by omega, rfl, hrow, hb⟩
    case round =>
     clear hrow hb q2
     obtain ⟨j, hj, rfl, hrow, hb⟩ := hrel
     have hsz2 := hb.out.size
     have q2 := below_cell p2 hb.out hsw3
     obtain ⟨L, hL⟩ := exq (passE (es.take j) X)
     have hLl : L.length ≤ 40 := by rw [hL]; exact Nat.le_trans (hmidX.out j) hs40
     rw [← hL] at hrow
     by_cases hlt2 : j < n
     · have hnx := passE_next (es := es) (acc := X) (j := j) (by have := hn.out; omega)
       rw [← hL] at hnx
       obtain ⟨b, off, rfl, hBl, c0, c1, c2⟩ := ReadE.at3 (hrd.out.below hb.out) j (by have := hn.out; omega)
       obtain ⟨f, hf⟩ := exq ((es.getD j e0).1)
       obtain ⟨l, hll⟩ := exq ((es.getD j e0).2.1)
       obtain ⟨t, ht⟩ := exq ((es.getD j e0).2.2)
       have hke : es.getD j e0 = (f, l, t) := by rw [hf, hll, ht]
       rw [← hf] at c0
       rw [← hll] at c1
       rw [← ht] at c2
       rw [hke] at hnx
       have hji : (j : Int) < (n : Int) := by omega
       obtain ⟨w5, hw5⟩ := exq (wr.alloc (.cells #[.int .i64 f, .int .i64 l, .int .i64 t] 72))
       have hb5 : Below wr.heap.size wr w5 := by rw [hw5]; exact (Below.refl _ _).alloc (Nat.le_refl _) _
       have hs5 : wr.heap.size < w5.heap.size := by rw [hw5]; simp
       obtain ⟨x0, x1, x2⟩ := box3 hw5
       obtain ⟨ao, mo, co, rfl⟩ : ∃ a m c, u5 = Value.slice a m c := by
        obtain ⟨_, ⟨h1, _⟩ | ⟨g, off, cap, cur, h1, _⟩⟩ := hrow.out <;> exact ⟨_, _, _, h1⟩
       have hrow5 := (hrow.out.below hb5 (Nat.le_refl _)).wide (Nat.le_refl _) hb5.size
       have hb15 := hb.out.trans (hb5.mono hsz2)
       have hsw : w.heap.size ≤ wr.heap.size := by omega
       have hh1 := hasL_any w5 _ _ L f hrow5.read (by omega)
       have ha1 := specAdd w5 _ L t hrow5.read (by omega)
       have hh2 := fun (W : World) (v : Value) (M : List Int) (hr : RowI W w.heap.size W.heap.size v M) (hM : M.length ≤ 1000) => hasL_any W _ v M t hr.read (by omega)
       have ha2 := fun (W : World) (v : Value) (M : List Int) (hr : RowI W w.heap.size W.heap.size v M) (hM : M.length ≤ 1000) => specAdd W v M f hr.read (by omega)
       replace hrow5 := hidI hrow5
       replace hb15 := hidI hb15
       replace hf := hidI hf
       replace hll := hidI hll
       replace ht := hidI ht
       replace hke := hidI hke
       replace hj := hidI hj
       replace hL := hidI hL
       replace hw5 := hidI hw5
       clear hrow hb hb5
       obtain ⟨T1, hT1⟩ := exq (touch1 L (f, l, t))
       have hT1l : T1.length ≤ 41 := by rw [hT1]; have := touch1_length L (f, l, t); omega
       have hT2 : touchE L (f, l, t) = if t ∈ T1 then addZ f T1 else T1 := by rw [hT1]; rfl
       rw [hT2] at hnx
       replace hT2 := hidI hT2
       by_cases q1 : f ∈ L
       · have hT1e : T1 = addZ t L := by rw [hT1]; unfold touch1; rw [if_pos q1]
         have d1 : decide (f ∈ L) = true := decide_eq_true q1
         rw [← hT1e] at ha1
         have htT : t ∈ T1 := by rw [hT1e, mem_addZ]; exact .inl rfl
         have d2 : decide (t ∈ T1) = true := decide_eq_true htT
         rw [if_pos htT] at hnx
         rw [d1] at hh1
         replace hnx := hidI hnx
         replace hT1 := hidI hT1
         replace hT1e := hidI hT1e
         replace q1 := hidI q1
         replace htT := hidI htT
         go_wp2_with fail
         rw [← hw5.out]
         go_wp2_with fail
         refine hh1.mono ?_
         rintro e w6 ⟨rfl, rfl⟩
         go_wp2_with fail
         refine ha1.mono ?_
         rintro e w7 ⟨v7, rfl, hrow7, hb7⟩
         have hrow7' := hrow7.wide (Nat.le_trans hsw (Nat.le_of_lt hs5)) (Nat.le_refl _)
         have hh3 := hh2 w7 v7 T1 hrow7' (by omega)
         have ha3 := ha2 w7 v7 T1 hrow7' (by omega)
         rw [d2] at hh3
         replace x0 := below_cell x0 hb7 hs5
         replace x2 := below_cell x2 hb7 hs5
         have hb17 := hb15.out.trans (hb7.mono hb15.out.size)
         have hs7 := hb7.size
         replace hb17 := hidI hb17
         clear hh1 ha1 hh2 ha2 hrow7 hb7 hrow7'
         go_wp2_with fail
         refine hh3.mono ?_
         rintro e w8 ⟨rfl, rfl⟩
         go_wp2_with fail
         refine ha3.mono ?_
         rintro e w9 ⟨v9, rfl, hrow9, hb9⟩
         have hrow9' := hidI (show RowI w9 w.heap.size w9.heap.size v9 (passE (es.take (j + 1)) X) by rw [hnx.out]; exact hrow9.wide (by omega) (Nat.le_refl _))
         have hbq := hidI (hb17.out.trans (hb9.mono hb17.out.size))
         clear hrow9 hb9 hh3 ha3 x0 x1 x2
         go_wp2
         go_roundg (n - (j + 1))
         case rel => exact ⟨j + 1, by have := hj.out; omega, by go_num, hrow9', hbq⟩
         case measure => have := hj.out; omega
       · have hT1e : T1 = L := by rw [hT1]; unfold touch1; rw [if_neg q1]
         have d1 : decide (f ∈ L) = false := decide_eq_false q1
         rw [d1] at hh1
         replace hT1 := hidI hT1
         subst hT1e
         have hh3 := hh2 w5 _ T1 hrow5.out (by omega)
         have ha3 := ha2 w5 _ T1 hrow5.out (by omega)
         replace q1 := hidI q1
         by_cases q2' : t ∈ T1
         · have d2 : decide (t ∈ T1) = true := decide_eq_true q2'
           rw [if_pos q2'] at hnx
           rw [d2] at hh3
           replace hnx := hidI hnx
           replace q2' := hidI q2'
           clear hh2 ha2
           go_wp2_with fail
           rw [← hw5.out]
           go_wp2_with fail
           refine hh1.mono ?_
           rintro e w6 ⟨rfl, rfl⟩
           go_wp2_with fail
           refine hh3.mono ?_
           rintro e w8 ⟨rfl, rfl⟩
           go_wp2_with fail
           refine ha3.mono ?_
           rintro e w9 ⟨v9, rfl, hrow9, hb9⟩
           have hrow9' := hidI (show RowI w9 w.heap.size w9.heap.size v9 (passE (es.take (j + 1)) X) by rw [hnx.out]; exact hrow9.wide (by omega) (Nat.le_refl _))
           have hbq := hidI (hb15.out.trans (hb9.mono hb15.out.size))
           clear hrow9 hb9 hh3 ha3 x0 x1 x2 hh1 ha1
           go_wp2
           go_roundg (n - (j + 1))
           case rel => exact ⟨j + 1, by have := hj.out; omega, by go_num, hrow9', hbq⟩
           case measure => have := hj.out; omega
         · have d2 : decide (t ∈ T1) = false := decide_eq_false q2'
           rw [if_neg q2'] at hnx
           rw [d2] at hh3
           replace hnx := hidI hnx
           replace q2' := hidI q2'
           clear hh2 ha2
           go_wp2_with fail
           rw [← hw5.out]
           go_wp2_with fail
           refine hh1.mono ?_
           rintro e w6 ⟨rfl, rfl⟩
           go_wp2_with fail
           refine hh3.mono ?_
           rintro e w8 ⟨rfl, rfl⟩
           have hrow9' := hidI (show RowI w8 w.heap.size w8.heap.size _ (passE (es.take (j + 1)) X) by rw [hnx.out]; exact hrow5.out)
           clear hh3 ha3 x0 x1 x2 hh1 ha1
           go_wp2
           go_roundg (n - (j + 1))
           case rel => exact ⟨j + 1, by have := hj.out; omega, by go_num, hrow9', hb15⟩
           case measure => have := hj.out; omega
     · obtain rfl : j = n := by omega
       have hji : ¬ (j : Int) < (j : Int) := by omega
       have hfull : es.take j = es := List.take_of_length_le (by have := hn.out; omega)
       rw [hfull] at hL
       have hrow9' := hidI (show RowI wr w.heap.size wr.heap.size u5 (passN es (k + 1) [x]) by rw [hnext.out, ← hL]; exact hrow.out)
       replace hL := hidI hL
       replace hfull := hidI hfull
       replace hj := hidI hj
       go_wp2
       go_roundg (j + 1 - (k + 1))
       case rel => exact ⟨k + 1, by have := hk.out; omega, by go_num, hrow9', hb⟩
       case measure => have := hk.out; omega
  · have hkn : k = n + 1 := by omega
    have hki : ¬ (k : Int) < (n : Int) + 1 := by omega
    have hr : IntsRet w F (.returned u5) wr := by
     refine ⟨u5, rfl, ?_, hb13.out.trans (hb.out.mono hb13.out.size)⟩
     rw [hfin.out]
     unfold reachL
     rw [← hn.out, ← hkn, ← hX.out]
     exact hrow.out
    replace hr := hidI hr
    replace hkn := hidI hkn
    replace hk := hidI hk
    clear hrow hb
    go_wp2
    go_ret
    exact hr.out
end Go.Proofs.YtpjlamnjiilgbaaGreat
