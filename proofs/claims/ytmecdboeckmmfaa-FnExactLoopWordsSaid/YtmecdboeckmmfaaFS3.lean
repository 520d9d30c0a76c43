/- Folded graphs, the model: WalkWord, ReadLength (tools/fs3.py). -/
import Derived.Test.YtmecdboeckmmfaaFS2
namespace Go.Proofs.Ytmecdboeckmmfaa
open Go.RowKit
set_option linter.unusedVariables false
set_option linter.unusedSimpArgs false

theorem walkB_no {r s : Int} {es : List Ed} {v : Int} {w : List Int} (h : okWk r s es v = false) : walkB r s es v w = false ∧ walkV r s es v w = -1 ∧ readN r s es v w = 0 := by
  have hB : walkB r s es v w = false := by unfold walkB; rw [h]; rfl
  refine ⟨hB, ?_, ?_⟩
  · unfold walkV; rw [hB]; rfl
  · unfold readN; rw [h]; rfl
theorem walkB_end {r s : Int} {es : List Ed} {v x : Int} {w : List Int} (h : okWk r s es v = true) (hw : wk es v w = (x, w.length)) : walkB r s es v w = true ∧ walkV r s es v w = x ∧ readN r s es v w = (w.length : Int) := by
  have hB : walkB r s es v w = true := by unfold walkB; rw [h, hw]; simp
  refine ⟨hB, ?_, ?_⟩
  · unfold walkV; rw [hB, hw]; rfl
  · unfold readN; rw [h, hw]; rfl
theorem walkB_stop {r s : Int} {es : List Ed} {v x : Int} {w : List Int} {k : Nat} (h : okWk r s es v = true) (hw : wk es v w = (x, k)) (hk : k < w.length) : walkB r s es v w = false ∧ walkV r s es v w = -1 ∧ readN r s es v w = (k : Int) := by
  have hB : walkB r s es v w = false := by unfold walkB; rw [h, hw]; simp; omega
  refine ⟨hB, ?_, ?_⟩
  · unfold walkV; rw [hB]; rfl
  · unfold readN; rw [h, hw]; rfl
set_option maxHeartbeats 3200000 in
theorem specWalk (w : World) (r s : Int) (v : Value) (es : List Ed) (x : Int) (vz : Value) (zs : List Int) (h : ReadE w.heap.size w v es) (hz : ReadI w.heap.size w vz zs) (hs : -9223372036854775808 ≤ s ∧ s ≤ 9223372036854775807) (hx : -9223372036854775808 ≤ x ∧ x ≤ 9223372036854775807) (hin : InR zs) (hl : es.length ≤ 10000000) (hlz : zs.length ≤ 10000000) :
    Calls Try.prog 44 #[.agg #[.int .i64 r, .int .i64 s, v], .int .i64 x, vz] w (LwIntBool w (walkV r s es x zs) (walkB r s es x zs)) := by
  obtain ⟨a, cap, rfl, hnc⟩ := h.form
  obtain ⟨n, hn⟩ : ∃ n, n = es.length := ⟨_, rfl⟩
  rw [← hn] at hl hnc ⊢
  rw [← hn] at h
  have hz' := hz
  obtain ⟨_, az, capz, rfl, _, _⟩ := hz'
  obtain ⟨m, hm⟩ : ∃ m, m = zs.length := ⟨_, rfl⟩
  rw [← hm] at hlz ⊢
  rw [← hm] at hz
  obtain ⟨w1, hw1⟩ : ∃ w1, w1 = w.alloc (.cells #[.int .i64 r, .int .i64 s, .slice a n cap] 30) := ⟨_, rfl⟩
  have hb1 : Below w.heap.size w w1 := by rw [hw1]; exact (Below.refl _ _).alloc (Nat.le_refl _) _
  have hs1 : w.heap.size < w1.heap.size := by rw [hw1]; simp
  obtain ⟨g0, g1, g2⟩ := box3 hw1
  have hrd := hidI ((h.below hb1).mono hb1.size)
  have hrz := hidI ((hz.below hb1).mono hb1.size)
  have hcf := specFold w1 r s (.slice a n cap) es ((h.below hb1).mono hb1.size) hs (by omega)
  obtain ⟨B, hB⟩ : ∃ B, B = isFo r s es := ⟨_, rfl⟩
  rw [← hB] at hcf
  obtain ⟨FV, hFV⟩ : ∃ F, F = walkV r s es x zs := ⟨_, rfl⟩
  obtain ⟨FB, hFB⟩ : ∃ F, F = walkB r s es x zs := ⟨_, rfl⟩
  rw [← hFV, ← hFB]
  replace hFV := hidI hFV
  replace hFB := hidI hFB
  replace hn := hidI hn
  replace hm := hidI hm
  replace hw1 := hidI hw1
  replace h := hidI h
  replace hz := hidI hz
  replace hin := hidI hin
  go_enter Try.func44, Try.ntmps44
  go_wp2_with fail
  rw [← hw1.out]
  refine hcf.mono ?_
  rintro e w2 ⟨rfl, hb2⟩
  clear hcf
  cases B with
  | false =>
    have hno : okWk r s es x = false := by unfold okWk; rw [← hB]; rfl
    have hfin := hidI (show FV = -1 ∧ FB = false from ⟨by rw [hFV.out]; exact (walkB_no hno).2.1, by rw [hFB.out]; exact (walkB_no hno).1⟩)
    have hbz := hidI (hb1.trans (hb2.mono hb1.size))
    replace hno := hidI hno
    replace hB := hidI hB
    go_wp2
    go_ret2
    exact ⟨by rw [hfin.out.1, hfin.out.2]; rfl, hbz.out⟩
  | true =>
  have hlim := isGr_lim (r := r) (s := s) (es := es) (by have := hB; unfold isFo at this; exact (Bool.and_eq_true_iff.1 this.symm).1)
  have hsub : IntKind.i64.wrap (s - 1) = s - 1 := IntWalk.i64_in _ (by omega)
  have hci := fun W => in_any W x 0 (s - 1)
  replace g0 := below_cell g0 hb2 hs1
  replace g1 := below_cell g1 hb2 hs1
  replace g2 := below_cell g2 hb2 hs1
  have hb12 := hb1.trans (hb2.mono hb1.size)
  have hs2 : w.heap.size < w2.heap.size := Nat.lt_of_lt_of_le hs1 hb2.size
  replace hrd := hidI ((hrd.out.below hb2).mono hb2.size)
  replace hrz := hidI ((hrz.out.below hb2).mono hb2.size)
  clear hb2
  by_cases hv : 0 ≤ x ∧ x ≤ s - 1
  case neg =>
    have hd : decide (0 ≤ x ∧ x ≤ s - 1) = false := decide_eq_false hv
    have hno : okWk r s es x = false := by unfold okWk isVx; rw [Bool.and_eq_false_iff]; right; rw [decide_eq_false_iff_not]; omega
    have hfin := hidI (show FV = -1 ∧ FB = false from ⟨by rw [hFV.out]; exact (walkB_no hno).2.1, by rw [hFB.out]; exact (walkB_no hno).1⟩)
    have hbz := hidI hb12
    replace hno := hidI hno
    replace hB := hidI hB
    replace hlim := hidI hlim
    replace hv := hidI hv
    go_wp2_with (go_at_call 42; refine (hci _).mono ?_; rintro e w3 ⟨rfl, rfl⟩)
    go_ret2
    exact ⟨by rw [hfin.out.1, hfin.out.2]; rfl, hbz.out⟩
  have hd : decide (0 ≤ x ∧ x ≤ s - 1) = true := decide_eq_true hv
  have hyes : okWk r s es x = true := by unfold okWk isVx; rw [← hB, Bool.true_and, decide_eq_true_eq]; omega
  have hw0 := hidI (wkAt_start es x zs)
  have hcn : Hid (∀ W : World, Below w2.heap.size w2 W → ∀ y z, Calls Try.prog 45 #[.agg #[.int .i64 r, .int .i64 s, .slice a n cap], .int .i64 y, .int .i64 z] W (LwInt W (nxV es y z))) := hidI fun W hW y z =>
    specNext W r s _ es y z ((hrd.out.below hW).mono hW.size) (by have := hn.out; omega)
  replace hyes := hidI hyes
  replace hB := hidI hB
  replace hlim := hidI hlim
  replace hv := hidI hv
  replace hb12 := hidI hb12
  have hbr := hidI (Below.refl w2.heap.size w2)
  go_wp2_with (go_at_call 42; refine (hci _).mono ?_; rintro e w3 ⟨rfl, rfl⟩)
  clear hci hd
  go_loopg [1, 8] m (fun g u i wr => ∃ (k : Nat) (y : Int), k + g = m ∧ i = .int .i64 k ∧ u = .int .i64 y ∧ Hid (WkAt es x zs y k) ∧ Hid (Below w2.heap.size w2 wr))
  case atStart => exact ⟨0, x, by omega, rfl, rfl, hw0, hbr⟩
  case round =>
    clear hw0 hbr
    obtain ⟨k, y, hk, rfl, rfl, hwk, hb⟩ := hrel
    have hsz := hb.out.size
    have q0 := below_cell g0 hb.out hs2
    have q1 := below_cell g1 hb.out hs2
    have q2 := below_cell g2 hb.out hs2
    by_cases hlt : k < m
    · have hki : (k : Int) < (m : Int) := by omega
      obtain ⟨bz, oz, rfl, hbzl, hcz⟩ := (hrz.out.below hb.out).at2 k (by have := hm.out; omega)
      obtain ⟨z, hzz⟩ : ∃ z, z = zs.getD k 0 := ⟨_, rfl⟩
      rw [← hzz] at hcz
      have hdr := below_dn hb.out 1
      have hcall := hcn.out wr.drew hdr y z
      obtain ⟨y2, hy2⟩ : ∃ t, t = nxV es y z := ⟨_, rfl⟩
      rw [← hy2] at hcall
      have hstop := fun (hneg : y2 < 0) => wkAt_stop hwk.out (by have := hm.out; omega) (by rw [← hzz, ← hy2]; exact hneg)
      have hgo := fun (hneg : ¬ y2 < 0) => wkAt_step hwk.out (by have := hm.out; omega) (by rw [← hzz, ← hy2]; exact hneg)
      rw [← hzz, ← hy2] at hgo
      replace hstop := hidI hstop
      replace hgo := hidI hgo
      replace hzz := hidI hzz
      replace hy2 := hidI hy2
      replace hk := hidI hk
      clear hb
      replace hdr := hidI hdr
      by_cases hneg : y2 < 0
      · have hq := walkB_stop hyes.out (hstop.out hneg) (by have := hm.out; omega)
        have hfin := hidI (show FV = -1 ∧ FB = false from ⟨by rw [hFV.out]; exact hq.2.1, by rw [hFB.out]; exact hq.1⟩)
        replace hq := hidI hq
        go_wp2
        go_region_with (go_at_call 45; (with_reducible refine hcall.mono ?_); rintro e w3 ⟨rfl, hb3⟩)
        all_goals
          have hbz := hidI (hb12.out.trans ((hdr.out.trans (hb3.mono hdr.out.size)).mono hb12.out.size))
          clear hb3
          go_wp2
          go_ret2
          exact ⟨by rw [hfin.out.1, hfin.out.2]; rfl, hbz.out⟩
      · have hnx := hidI (hgo.out hneg)
        go_wp2
        go_region_with (go_at_call 45; (with_reducible refine hcall.mono ?_); rintro e w3 ⟨rfl, hb3⟩)
        all_goals
          have hbz := hidI (hdr.out.trans (hb3.mono hdr.out.size))
          clear hb3
          go_wp2
          go_roundg (m - (k + 1))
          case rel => exact ⟨k + 1, y2, by have := hk.out; omega, by go_num, rfl, hnx, hbz⟩
          case measure => have := hk.out; omega
    · obtain rfl : k = m := by omega
      have hki : ¬ (k : Int) < (k : Int) := by omega
      have hq := walkB_end hyes.out (wkAt_end hwk.out (by have := hm.out; omega))
      rw [← hm.out] at hq
      have hfin := hidI (show FV = y ∧ FB = true from ⟨by rw [hFV.out]; exact hq.2.1, by rw [hFB.out]; exact hq.1⟩)
      replace hq := hidI hq
      replace hk := hidI hk
      have hbz := hidI (hb12.out.trans (hb.out.mono hb12.out.size))
      go_wp2
      go_ret2
      exact ⟨by rw [hfin.out.1, hfin.out.2]; rfl, hbz.out⟩
end Go.Proofs.Ytmecdboeckmmfaa
