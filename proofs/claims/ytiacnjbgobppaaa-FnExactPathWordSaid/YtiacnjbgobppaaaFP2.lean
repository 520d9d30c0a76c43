/- Folded graphs, the program: readFrom, WalkWord, ReadLength. -/
import Derived.Test.YtiacnjbgobppaaaFP1
import Derived.Test.YtiacnjbgobppaaaFS3
namespace Go.Proofs.Ytiacnjbgobppaaa
open Go.RowKit Go.Maps
set_option linter.unusedVariables false
set_option linter.unusedSimpArgs false

def endV (r s : Int) (es : List Ed) (x : Int) (zs : List Int) : Int := if okWk r s es x then (wk es x zs).1 else -1
theorem wkAt_vert {r s : Int} {es : List Ed} (hg : isGr r s es = true) (hf : foldB es es.length = true) {x y z : Int} (hz : -9223372036854775808 ≤ z ∧ z ≤ 9223372036854775807) (h : ¬ nxV es y z < 0) : 0 ≤ nxV es y z ∧ nxV es y z < s := by
  rcases nx_cases hg hf (v := y) (l := z) hz with h1 | h1
  · exact h1.2
  · have := h1.1; omega
theorem MapS.below {w w' : World} {B b n : Nat} {D : DataW Unit} (h : MapS w b n D) (hb : Below B w w') (hlt : b < B) : MapS w' b n D := by
  obtain ⟨es, clock, hb', F, hs, hD⟩ := h
  exact ⟨es, clock, (hb.block b hlt).trans hb', F, hs, hD⟩
set_option maxHeartbeats 3200000 in
theorem readFrom_any (w : World) (r s : Int) (v : Value) (es : List Ed) (x : Int) (vz : Value) (zs : List Int) (h : ReadE w.heap.size w v es) (hz : ReadI w.heap.size w vz zs) (hx : -9223372036854775808 ≤ x ∧ x ≤ 9223372036854775807) (hin : InR zs) (hl : es.length ≤ 10000000) (hlz : zs.length ≤ 10000000) :
    Calls Try.prog 42 #[.agg #[.int .i64 r, .int .i64 s, v], .int .i64 x, vz] w fun e w' => e = .returned (.tuple #[.int .i64 (endV r s es x zs), .int .i64 (readN r s es x zs)]) ∧ Below w.heap.size w w' := by
  obtain ⟨a, cap, rfl, hnc⟩ := h.form
  obtain ⟨n, hn⟩ : ∃ n, n = es.length := ⟨_, rfl⟩
  rw [← hn] at hl hnc ⊢
  rw [← hn] at h
  have hz' := hz
  obtain ⟨_, az, capz, rfl, _, _⟩ := hz'
  obtain ⟨m, hm⟩ : ∃ m, m = zs.length := ⟨_, rfl⟩
  rw [← hm] at hlz ⊢
  rw [← hm] at hz
  obtain ⟨w1, hw1⟩ : ∃ w1, w1 = w.alloc (.cells #[.int .i64 r, .int .i64 s, .slice a n cap] 29) := ⟨_, rfl⟩
  have hb1 : Below w.heap.size w w1 := by rw [hw1]; exact (Below.refl _ _).alloc (Nat.le_refl _) _
  have hs1 : w.heap.size < w1.heap.size := by rw [hw1]; simp
  obtain ⟨g0, g1, g2⟩ := box3 hw1
  have hrz := hidI ((hz.below hb1).mono hb1.size)
  have hcf := folded_any w1 r s (.slice a n cap) es ((h.below hb1).mono hb1.size) (by omega)
  obtain ⟨FV, hFV⟩ : ∃ F, F = endV r s es x zs := ⟨_, rfl⟩
  obtain ⟨FN, hFN⟩ : ∃ F, F = readN r s es x zs := ⟨_, rfl⟩
  rw [← hFV, ← hFN]
  have hno : okWk r s es x = false → FV = -1 ∧ FN = 0 := fun h => ⟨by rw [hFV]; unfold endV; rw [h]; rfl, by rw [hFN]; unfold readN; rw [h]; rfl⟩
  have hat : ∀ (y : Int) (k : Nat), okWk r s es x = true → wk es x zs = (y, k) → FV = y ∧ FN = (k : Int) := fun y k h h2 => ⟨by rw [hFV]; unfold endV; rw [h, h2]; rfl, by rw [hFN]; unfold readN; rw [h, h2]; rfl⟩
  replace hno := hidI hno
  replace hat := hidI hat
  replace hFV := hidI hFV
  replace hFN := hidI hFN
  replace hn := hidI hn
  replace hm := hidI hm
  replace hw1 := hidI hw1
  replace h := hidI h
  replace hz := hidI hz
  replace hin := hidI hin
  go_enter Try.func42, Try.ntmps42
  go_wp2_with fail
  rw [← hw1.out]
  refine hcf.mono ?_
  rintro e w2 (⟨hf, bm, rfl, hlb, hlb2, hmap, hb2⟩ | ⟨hf, rfl, hb2⟩)
  case inr =>
    clear hcf
    have hfin := hidI (hno.out (by unfold okWk; rw [hf]; rfl))
    have hbz := hidI (hb1.trans (hb2.mono hb1.size))
    replace hf := hidI hf
    go_wp2
    go_ret2
    exact ⟨by rw [hfin.out.1, hfin.out.2]; rfl, hbz.out⟩
  clear hcf
  have hfo := hf
  unfold isFo at hfo
  rw [Bool.and_eq_true] at hfo
  have hci := gpVertex w2 r s x a n cap
  replace g0 := below_cell g0 hb2 hs1
  replace g1 := below_cell g1 hb2 hs1
  replace g2 := below_cell g2 hb2 hs1
  have hb12 := hidI (hb1.trans (hb2.mono hb1.size))
  replace hrz := hidI ((hrz.out.below hb2).mono hb2.size)
  clear hb2
  by_cases hv : 0 ≤ x ∧ x < s
  case neg =>
    have hd : decide (0 ≤ x ∧ x < s) = false := decide_eq_false hv
    rw [hd] at hci
    have hfin := hidI (hno.out (by unfold okWk isVx; rw [hd]; simp))
    replace hf := hidI hf
    replace hfo := hidI hfo
    replace hmap := hidI hmap
    replace hv := hidI hv
    go_wp2_with (go_at_call 46; refine hci.mono ?_; rintro e w3 ⟨rfl, hb3⟩)
    have hbz := hidI (hb12.out.trans (hb3.mono hb12.out.size))
    go_wp2
    go_ret2
    exact ⟨by rw [hfin.out.1, hfin.out.2]; rfl, hbz.out⟩
  have hd : decide (0 ≤ x ∧ x < s) = true := decide_eq_true hv
  rw [hd] at hci
  have hyes : okWk r s es x = true := by unfold okWk isVx; rw [hf, hd]; rfl
  have hw0 := hidI (wkAt_start es x zs)
  replace hyes := hidI hyes
  replace hf := hidI hf
  replace hfo := hidI hfo
  replace hmap := hidI hmap
  have hlim := hidI (isGr_lim hfo.out.1)
  replace hv := hidI hv
  go_wp2_with (go_at_call 46; refine hci.mono ?_; rintro e w3 ⟨rfl, hb3⟩)
  clear hci hd
  have hm3 := hidI (hmap.out.below hb3 hlb2)
  have hb13 := hidI (hb12.out.trans (hb3.mono hb12.out.size))
  replace hrz := hidI ((hrz.out.below hb3).mono hb3.size)
  clear g0 g1 g2 hb3
  go_wp2
  go_loopg [1, 29] m (fun g u i wr => ∃ (k : Nat) (y : Int), k + g = m ∧ i = .int .i64 k ∧ u = .int .i64 y ∧ Hid (WkAt es x zs y k ∧ 0 ≤ y ∧ y < s) ∧ Hid (wr = w3))
  case atStart => exact ⟨0, x, by omega, rfl, rfl, hidI ⟨hw0.out, hv.out⟩, hidI rfl⟩
  case round =>
    clear hw0
    obtain ⟨k, y, hk, rfl, rfl, hwk, hb⟩ := hrel
    have hb' := hb.out
    subst hb'
    by_cases hlt : k < m
    · have hki : (k : Int) < (m : Int) := by omega
      obtain ⟨bz, oz, rfl, hbzl, hcz⟩ := hrz.out.at2 k (by have := hm.out; omega)
      have hzin := hin.out (zs.getD k 0) (by
        have hkl : k < zs.length := by have := hm.out; omega
        rw [List.getD_eq_getElem?_getD, List.getElem?_eq_getElem hkl]
        exact List.getElem_mem hkl)
      obtain ⟨z, hzz⟩ : ∃ z, z = zs.getD k 0 := ⟨_, rfl⟩
      rw [← hzz] at hcz hzin
      have hyb := hwk.out.2
      have hl40 := hlim.out
      have hky := kS_key y z (by unfold I64; omega) (by unfold I64; omega)
      have hlook := stD_look hfo.out.1 hfo.out.2 (v := y) (l := z) (by unfold I64; omega) (by unfold I64; omega)
      obtain ⟨y2, hy2⟩ : ∃ t, t = nxV es y z := ⟨_, rfl⟩
      rw [← hy2] at hlook
      have hstop := fun (hneg : y2 < 0) => wkAt_stop hwk.out.1 (by have := hm.out; omega) (by rw [← hzz, ← hy2]; exact hneg)
      have hgo := fun (hneg : ¬ y2 < 0) => wkAt_step hwk.out.1 (by have := hm.out; omega) (by rw [← hzz, ← hy2]; exact hneg)
      rw [← hzz, ← hy2] at hgo
      replace hstop := hidI hstop
      replace hgo := hidI hgo
      replace hzz := hidI hzz
      replace hy2 := hidI hy2
      replace hk := hidI hk
      replace hzin := hidI hzin
      replace hyb := hidI hyb
      replace hl40 := hidI hl40
      obtain ⟨D, hD⟩ : ∃ D, D = stD es es.length := ⟨_, rfl⟩
      have hmD := hm3.out
      rw [← hD] at hlook hmD
      replace hmD := hidI hmD
      replace hD := hidI hD
      replace hky := hidI hky
      rcases hlook with ⟨hh, hy0, hys, hat2⟩ | ⟨hh, hyn⟩
      · have hneg : ¬ y2 < 0 := by omega
        have hnx := hidI (And.intro (hgo.out hneg) (And.intro hy0 hys))
        replace hat2 := hidI hat2
        replace hneg := hidI hneg
        replace hy0 := hidI hy0
        replace hys := hidI hys
        go_wp2_with (at_lookup; go_must (refine wpList_lookup_own_ok_int _ rfl _ _ 55 rfl 88 3 .i64 lawS Try.underlying55 Try.underlying3 (zeroInt _) bm _ D rfl hmD.out _ _ rfl hky.out ?_; intro c hc hwc; obtain rfl : c = y2 := by (rw [hat2.out] at hc; simpa using hc.symm)))
        clear hc hwc
        go_roundg (m - (k + 1))
        case rel => exact ⟨k + 1, c, by have := hk.out; omega, by go_num, rfl, hnx, hidI rfl⟩
        case measure => have := hk.out; omega
      · have hfin := hidI (hat.out _ _ hyes.out (hstop.out (by omega)))
        replace hyn := hidI hyn
        go_wp2_with (at_lookup; go_must (refine wpList_lookup_own_ok_int _ rfl _ _ 55 rfl 88 3 .i64 lawS Try.underlying55 Try.underlying3 (zeroInt _) bm _ D rfl hmD.out _ _ rfl hky.out ?_; intro c hc hwc))
        clear hc hwc
        go_ret2
        exact ⟨by rw [hfin.out.1, hfin.out.2]; rfl, hb13.out⟩
    · obtain rfl : k = m := by omega
      have hki : ¬ (k : Int) < (k : Int) := by omega
      have hfin := hidI (hat.out _ _ hyes.out (wkAt_end hwk.out.1 (by have := hm.out; omega)))
      have hmm := hm.out
      replace hk := hidI hk
      replace hmm := hidI hmm
      go_wp2
      go_ret2
      exact ⟨by rw [hfin.out.1, hfin.out.2, ← hmm.out]; rfl, hb13.out⟩
set_option maxHeartbeats 1600000 in
theorem progRead (w : World) (r s : Int) (v : Value) (es : List Ed) (x : Int) (vz : Value) (zs : List Int) (h : ReadE w.heap.size w v es) (hz : ReadI w.heap.size w vz zs) (hs : -9223372036854775808 ≤ s ∧ s ≤ 9223372036854775807) (hx : -9223372036854775808 ≤ x ∧ x ≤ 9223372036854775807) (hin : InR zs) (hl : es.length ≤ 10000000) (hlz : zs.length ≤ 10000000) :
    Calls Try.prog 20 #[.agg #[.int .i64 r, .int .i64 s, v], .int .i64 x, vz] w (LwInt w (readN r s es x zs)) := by
  obtain ⟨a, cap, rfl, hnc⟩ := h.form
  have hz' := hz
  obtain ⟨_, az, capz, rfl, _, _⟩ := hz'
  obtain ⟨w1, hw1⟩ : ∃ w1, w1 = w.alloc (.cells #[.int .i64 r, .int .i64 s, .slice a es.length cap] 29) := ⟨_, rfl⟩
  have hb1 : Below w.heap.size w w1 := by rw [hw1]; exact (Below.refl _ _).alloc (Nat.le_refl _) _
  have hc := readFrom_any w1 r s _ es x _ zs ((h.below hb1).mono hb1.size) ((hz.below hb1).mono hb1.size) hx hin hl hlz
  obtain ⟨n, hn⟩ : ∃ n, n = es.length := ⟨_, rfl⟩
  obtain ⟨m, hm⟩ : ∃ m, m = zs.length := ⟨_, rfl⟩
  obtain ⟨FV, hFV⟩ : ∃ F, F = endV r s es x zs := ⟨_, rfl⟩
  obtain ⟨FN, hFN⟩ : ∃ F, F = readN r s es x zs := ⟨_, rfl⟩
  rw [← hFV, ← hFN, ← hn, ← hm] at hc
  rw [← hFN, ← hn, ← hm]
  rw [← hn] at hw1
  obtain ⟨g0, g1, g2⟩ := box3 hw1
  replace hFV := hidI hFV
  replace hFN := hidI hFN
  replace hn := hidI hn
  replace hm := hidI hm
  replace hw1 := hidI hw1
  replace h := hidI h
  replace hz := hidI hz
  replace hin := hidI hin
  go_enter Try.func20, Try.ntmps20
  go_wp2_with fail
  rw [← hw1.out]
  refine hc.mono ?_
  rintro e w2 ⟨rfl, hb2⟩
  have hbz := hidI (hb1.trans (hb2.mono hb1.size))
  clear hc
  go_wp2
  go_ret
  exact ⟨ret_i rfl, hbz.out⟩
theorem wk_nonneg (es : List Ed) : ∀ (w : List Int) (v : Int), 0 ≤ v → 0 ≤ (wk es v w).1 := by
  intro w
  induction w with
  | nil => intro v h; simpa [wk] using h
  | cons x w ih =>
    intro v h
    rw [wk]
    split
    · exact h
    · exact ih _ (by omega)
theorem endV_cases (r s : Int) (es : List Ed) (x : Int) (zs : List Int) :
    (endV r s es x zs = -1 ∧ walkV r s es x zs = -1 ∧ walkB r s es x zs = false) ∨
    (endV r s es x zs ≠ -1 ∧ readN r s es x zs < (zs.length : Int) ∧ walkV r s es x zs = -1 ∧ walkB r s es x zs = false) ∨
    (endV r s es x zs ≠ -1 ∧ ¬ readN r s es x zs < (zs.length : Int) ∧ walkV r s es x zs = endV r s es x zs ∧ walkB r s es x zs = true) := by
  cases h : okWk r s es x with
  | false => exact .inl ⟨by unfold endV; rw [h]; rfl, (walkB_no h).2.1, (walkB_no h).1⟩
  | true =>
    have hle := wk_le es zs x
    have hx : 0 ≤ x := by
      unfold okWk isVx at h
      rw [Bool.and_eq_true, decide_eq_true_eq] at h
      exact h.2.1
    have hn := wk_nonneg es zs x hx
    obtain ⟨y, k, hyk⟩ : ∃ y k, wk es x zs = (y, k) := ⟨_, _, rfl⟩
    rw [hyk] at hle hn
    have hE : endV r s es x zs = y := by unfold endV; rw [h, hyk]; rfl
    have hR : readN r s es x zs = (k : Int) := by unfold readN; rw [h, hyk]; rfl
    have hy : y ≠ -1 := by simp at hn; omega
    by_cases hk : k < zs.length
    · have hq := walkB_stop h hyk hk
      exact .inr (.inl ⟨by rw [hE]; exact hy, by rw [hR]; omega, hq.2.1, hq.1⟩)
    · have hk2 : k = zs.length := by simp at hle; omega
      have hq := walkB_end h (show wk es x zs = (y, zs.length) by rw [hyk, hk2])
      exact .inr (.inr ⟨by rw [hE]; exact hy, by rw [hR]; omega, by rw [hE]; exact hq.2.1, hq.1⟩)
set_option maxHeartbeats 1600000 in
theorem progWalk (w : World) (r s : Int) (v : Value) (es : List Ed) (x : Int) (vz : Value) (zs : List Int) (h : ReadE w.heap.size w v es) (hz : ReadI w.heap.size w vz zs) (hs : -9223372036854775808 ≤ s ∧ s ≤ 9223372036854775807) (hx : -9223372036854775808 ≤ x ∧ x ≤ 9223372036854775807) (hin : InR zs) (hl : es.length ≤ 10000000) (hlz : zs.length ≤ 10000000) :
    Calls Try.prog 17 #[.agg #[.int .i64 r, .int .i64 s, v], .int .i64 x, vz] w (LwIntBool w (walkV r s es x zs) (walkB r s es x zs)) := by
  obtain ⟨a, cap, rfl, hnc⟩ := h.form
  have hz' := hz
  obtain ⟨_, az, capz, rfl, _, _⟩ := hz'
  obtain ⟨w1, hw1⟩ : ∃ w1, w1 = w.alloc (.cells #[.int .i64 r, .int .i64 s, .slice a es.length cap] 29) := ⟨_, rfl⟩
  have hb1 : Below w.heap.size w w1 := by rw [hw1]; exact (Below.refl _ _).alloc (Nat.le_refl _) _
  have hc := readFrom_any w1 r s _ es x _ zs ((h.below hb1).mono hb1.size) ((hz.below hb1).mono hb1.size) hx hin hl hlz
  have hcase := endV_cases r s es x zs
  obtain ⟨n, hn⟩ : ∃ n, n = es.length := ⟨_, rfl⟩
  obtain ⟨m, hm⟩ : ∃ m, m = zs.length := ⟨_, rfl⟩
  obtain ⟨FV, hFV⟩ : ∃ F, F = endV r s es x zs := ⟨_, rfl⟩
  obtain ⟨FN, hFN⟩ : ∃ F, F = readN r s es x zs := ⟨_, rfl⟩
  obtain ⟨FW, hFW⟩ : ∃ F, F = walkV r s es x zs := ⟨_, rfl⟩
  obtain ⟨FB, hFB⟩ : ∃ F, F = walkB r s es x zs := ⟨_, rfl⟩
  rw [← hFV, ← hFN, ← hn, ← hm] at hc
  rw [← hFV, ← hFN, ← hFW, ← hFB, ← hm] at hcase
  rw [← hFW, ← hFB, ← hn, ← hm]
  rw [← hn] at hw1
  obtain ⟨g0, g1, g2⟩ := box3 hw1
  replace hFV := hidI hFV
  replace hFN := hidI hFN
  replace hFW := hidI hFW
  replace hFB := hidI hFB
  replace hn := hidI hn
  replace hm := hidI hm
  replace hw1 := hidI hw1
  replace h := hidI h
  replace hz := hidI hz
  replace hin := hidI hin
  go_enter Try.func17, Try.ntmps17
  go_wp2_with fail
  rw [← hw1.out]
  refine hc.mono ?_
  rintro e w2 ⟨rfl, hb2⟩
  have hbz := hidI (hb1.trans (hb2.mono hb1.size))
  clear hc hb2
  rcases hcase with ⟨q1, q2, q3⟩ | ⟨q1, q2, q3, q4⟩ | ⟨q1, q2, q3, q4⟩
  · have t1 : (FV == -1) = true := by rw [beq_iff_eq]; exact q1
    have hfin := hidI (And.intro q2 q3)
    clear q1 q2 q3
    go_wp2
    go_ret2
    exact ⟨by rw [hfin.out.1, hfin.out.2]; rfl, hbz.out⟩
  · have t1 : (FV == -1) = false := by rw [beq_eq_false_iff_ne]; exact q1
    have hfin := hidI (And.intro q3 q4)
    clear q1 q3 q4
    go_wp2
    go_ret2
    exact ⟨by rw [hfin.out.1, hfin.out.2]; rfl, hbz.out⟩
  · have t1 : (FV == -1) = false := by rw [beq_eq_false_iff_ne]; exact q1
    have hfin := hidI (And.intro q3 q4)
    clear q1 q3 q4
    go_wp2
    go_ret2
    exact ⟨by rw [hfin.out.1, hfin.out.2]; rfl, hbz.out⟩
end Go.Proofs.Ytiacnjbgobppaaa
