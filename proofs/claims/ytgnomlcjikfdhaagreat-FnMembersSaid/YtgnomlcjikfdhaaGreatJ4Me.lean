import Derived.Test.YtgnomlcjikfdhaaGreatJ3Me
namespace Go.Proofs.YtgnomlcjikfdhaaGreat
open Go.RowKit
set_option linter.unusedVariables false
set_option linter.unusedSimpArgs false
def dE (e : Ed) : List Ed → List Ed
 | [] => [e]
 | y :: ys => if 0 < bP e y then y :: dE e ys else if bP e y = 0 then y :: ys else e :: y :: ys
theorem je (e : Ed) (l : List Ed) : (dE e l).length ≤ l.length + 1 := by
 induction l with
 | nil => simp [dE]
 | cons y ys ih =>
  unfold dE; split
  · simp only [List.length_cons]; omega
  · split <;> simp
theorem qG {e y : Ed} (ys : List Ed) (h : 0 < bP e y) : dE e (y :: ys) = y :: dE e ys := by rw [dE, if_pos h]
theorem qO {e y : Ed} (ys : List Ed) (h : bP e y = 0) : dE e (y :: ys) = y :: ys := by rw [dE, if_neg (by omega), if_pos h]
theorem qL {e y : Ed} (ys : List Ed) (h : bP e y < 0) : dE e (y :: ys) = e :: y :: ys := by rw [dE, if_neg (by omega), if_neg (by omega)]
theorem Gu {l : List Ed} {k : Nat} (h : k < l.length) : l.drop k = l.getD k e0 :: l.drop (k + 1) := by
 rw [List.drop_eq_getElem_cons h, gD, gE h]; rfl
def mV (w : World) (es : List Ed) (e : Ending) (w' : World) : Prop :=
 ∃ a cap, e = .returned (.slice a es.length cap) ∧ aF 36 3 w' w.heap.size w'.heap.size (.slice a es.length cap) es.length (aC es) ∧ Below w.heap.size w w'
theorem pg {w w' : World} {base : Nat} {v : Value} {es : List Ed} (h : bF w' base v es) (hb : Below w.heap.size w w') (hB : w.heap.size ≤ base) (hl : es.length ≤ 1000000000000) : mV w es (.returned v) w' := by
 obtain ⟨a, m, c, rfl⟩ := h.form3; have hrow := h.row (by omega)
 obtain ⟨rfl, _⟩ := hrow.cap; exact ⟨a, c, rfl, hrow.wide hB (nl _), hb⟩
set_option maxHeartbeats 3200000 in
theorem kJ (w : World) (v : Value) (es : List Ed) (f l t : Int) (h : ay w.heap.size w v es) (hl : es.length ≤ 100000000) :
 Calls Tryz.prog 90 #[v, .agg #[.int .i64 f, .int .i64 l, .int .i64 t]] w (mV w (dE (f, l, t) es)) := by
 obtain ⟨a, cap, rfl, hnc⟩ := h.form; obtain ⟨n, hn⟩ := ag es.length; have hal := je (f, l, t) es; rw [← hn] at hl hnc hal ⊢; rw [← hn] at h; obtain ⟨R, hR⟩ := ag (dE (f, l, t) es); rw [← hR] at hal ⊢; obtain ⟨w1, hw1⟩ := ag (w.alloc (.cells #[.int .i64 f, .int .i64 l, .int .i64 t] 36)); have hb1 : Below w.heap.size w w1 := by rw [hw1]; exact (Below.refl _ _).alloc (nl _) _
 have hs1 : w1.heap.size = w.heap.size + 1 := by rw [hw1]; simp
 obtain ⟨g0, g1, g2⟩ := bT hw1; have hrd := ae (h.below hb1); have hown0 : Hid (bF (w1.alloc (.cells #[] 36)) w1.heap.size (.slice (some ⟨w.heap.size + 1, 0, none⟩) 0 0) []) := by
  rw [← hs1]; exact ae (bF.litE w1)
 have hb0 := ae ((Below.refl w1.heap.size w1).alloc (nl _) (.cells #[] 36)); replace hn := ae hn; replace hw1 := ae hw1; replace hR := ae hR; replace hs1 := ae hs1; replace h := ae h; go_enter Tryz.func90, Tryz.ntmps90
 go_wp2; rw [← hw1.out]
 go_loopg [5, 6, 7] n (fun g vv p i wr => ∃ (k : Nat) (o : List Ed) (q : Bool), k + g = n ∧ i = .int .i64 k ∧ p = .bool q ∧ o.length ≤ n + 1 ∧ Hid (R = o ++ (if q = true then es.drop k else dE (f, l, t) (es.drop k))) ∧ Hid (bF wr w1.heap.size vv o) ∧ Hid (Below w1.heap.size w1 wr))
 case atStart => exact ⟨0, [], false, by omega, rfl, rfl, by simp, ae (by rw [hR.out]; rfl), hown0, hb0⟩
 case round =>
  clear hown0 hb0; obtain ⟨k, o, q, hk, rfl, rfl, hol, hinv, hown, hb⟩ := hrel; obtain ⟨a1, m1, c1, rfl⟩ := hown.out.form3; have hsw : w.heap.size < w1.heap.size := by have := hs1.out; omega
  have hbw : Below w.heap.size w wr := hb1.trans (hb.out.mono hb1.size); have p0 := af g0 hb.out hsw; have p1 := af g1 hb.out hsw; have p2 := af g2 hb.out hsw; by_cases hlt : k < n
  · obtain ⟨b, off, rfl, hB, c0, c1', c2⟩ := ay.at3 (hrd.out.below (hb.out.mono hb1.size)) k (by have := hn.out; omega)
    have hdr := Gu (l := es) (k := k) (by have := hn.out; omega)
    obtain ⟨f', hf⟩ : ∃ z, z = (es.getD k e0).1 := ⟨_, rfl⟩; obtain ⟨l', hll⟩ : ∃ z, z = (es.getD k e0).2.1 := ⟨_, rfl⟩; obtain ⟨t', ht⟩ : ∃ z, z = (es.getD k e0).2.2 := ⟨_, rfl⟩; have hke : es.getD k e0 = (f', l', t') := by rw [hf, hll, ht]
    rw [← hf] at c0; rw [← hll] at c1'; rw [← ht] at c2; rw [hke] at hdr; have hki : (k : Int) < (n : Int) := by omega
    have hpre : ∀ (o t : List Ed), R = o ++ t → o.length ≤ n + 1 := by
     intro o t hh; have : R.length = o.length + t.length := by rw [hh, List.length_append]
     omega
    rw [hdr] at hinv; have hcall := wu wr.drew f l t f' l' t'; obtain ⟨c, hc⟩ := ag (bP (f, l, t) (f', l', t')); rw [← hc] at hcall; replace hf := ae hf; replace hll := ae hll; replace ht := ae ht; replace hke := ae hke; replace hpre := ae hpre; replace hdr := ae hdr; replace hk := ae hk; replace hc := ae hc; replace hbw := ae hbw; replace hown := ae (show bF wr.drew w1.heap.size (.slice a1 m1 c1) o from hown.out)
    go_wp2; go_region_with (go_at_call 92; (with_reducible refine hcall.mono ?_); rintro e w2 ⟨rfl, hb2⟩)
    all_goals
     have hown2 := ae (hown.out.later hb2 (nl _)); have hb3 := ae (hb.out.trans ((show Below wr.heap.size wr w2 from ⟨hb2.os, hb2.tape, hb2.output, hb2.size, hb2.block⟩).mono hb.out.size))
     have hsb := hb.out.size; replace p0 := af (w := wr.drew) p0 hb2 (Nat.lt_of_lt_of_le hsw hsb); replace p1 := af (w := wr.drew) p1 hb2 (Nat.lt_of_lt_of_le hsw hsb); replace p2 := af (w := wr.drew) p2 hb2 (Nat.lt_of_lt_of_le hsw hsb); replace c0 := af (w := wr.drew) c0 hb2 (Nat.lt_of_lt_of_le (Nat.lt_trans hB hsw) hsb); replace c1' := af (w := wr.drew) c1' hb2 (Nat.lt_of_lt_of_le (Nat.lt_trans hB hsw) hsb)
     replace c2 := af (w := wr.drew) c2 hb2 (Nat.lt_of_lt_of_le (Nat.lt_trans hB hsw) hsb); clear hown hb hbw hb2; have hown := hown2; have hb := hb3; have hbs := hb.out.size; clear hown2 hb3
     rcases Int.lt_trichotomy c 0 with hzx | hzx | hzx
     · have t1 : (c == 0) = false := by rw [beq_eq_false_iff_ne]; omega
       have t2 : c < 0 := by omega
       cases q with
       | true =>
        have hnx := ae (show R = (o ++ [(f', l', t')]) ++ (if true = true then es.drop (k + 1) else dE (f, l, t) (es.drop (k + 1))) by rw [hinv.out]; simp)
        go_wp2_with (at_builtin; go_must (refine fV rfl _ _ rfl w1.heap.size _ (o) _ _ _ rfl rfl (by exact hown.out) (by first | omega | (simp; omega)) hbs ?_))
        intro v' w' hown' hb'; replace hown' := ae hown'; replace hb' := ae (hb.out.trans hb'); clear hown hb; go_wp2; go_roundg (n - (k + 1))
        case rel => exact ⟨k + 1, _, true, by have := hk.out; omega, by go_num, rfl, hpre.out _ _ hnx.out, hnx, hown', hb'⟩
        case measure => have := hk.out; omega
       | false =>
        have hnx := ae (show R = (o ++ [(f, l, t), (f', l', t')]) ++ (if true = true then es.drop (k + 1) else dE (f, l, t) (es.drop (k + 1))) by rw [hinv.out]; simp [qL _ (hc.out ▸ hzx)])
        go_wp2_with (at_builtin; go_must (refine fV rfl _ _ rfl w1.heap.size _ (o) _ _ _ rfl rfl (by exact hown.out) (by first | omega | (simp; omega)) hbs ?_))
        intro v' w' hown' hb'; replace p0 := af p0 hb' hsw; replace p1 := af p1 hb' hsw; replace p2 := af p2 hb' hsw; replace c0 := af c0 hb' (Nat.lt_trans hB hsw); replace c1' := af c1' hb' (Nat.lt_trans hB hsw); replace c2 := af c2 hb' (Nat.lt_trans hB hsw); replace hbs := Nat.le_trans hbs hb'.size; replace hown' := ae hown'; replace hb' := ae (hb.out.trans hb'); clear hown hb; obtain ⟨a2, m2, c2', rfl⟩ := hown'.out.form3
        have hown := hown'; have hb := hb'; clear hown' hb'; go_wp2_with (at_builtin; go_must (refine fV rfl _ _ rfl w1.heap.size _ (o ++ [(f, l, t)]) _ _ _ rfl rfl (by exact hown.out) (by first | omega | (simp; omega)) hbs ?_))
        intro v' w' hown' hb'; replace hown' := ae hown'; replace hb' := ae (hb.out.trans hb'); clear hown hb; go_wp2; go_roundg (n - (k + 1))
        case rel => exact ⟨k + 1, _, true, by have := hk.out; omega, by go_num, rfl, hpre.out _ _ hnx.out, hnx, hown', hb'⟩
        case measure => have := hk.out; omega
     · have t1 : (c == 0) = true := by rw [beq_iff_eq]; exact hzx
       have t2 : ¬ c < 0 := by omega
       cases q with
       | true =>
        have hnx := ae (show R = (o ++ [(f', l', t')]) ++ (if true = true then es.drop (k + 1) else dE (f, l, t) (es.drop (k + 1))) by rw [hinv.out]; simp)
        replace hzx := ae hzx; go_wp2_with (at_builtin; go_must (refine fV rfl _ _ rfl w1.heap.size _ (o) _ _ _ rfl rfl (by exact hown.out) (by first | omega | (simp; omega)) hbs ?_))
        intro v' w' hown' hb'; replace hown' := ae hown'; replace hb' := ae (hb.out.trans hb'); clear hown hb; go_wp2; go_roundg (n - (k + 1))
        case rel => exact ⟨k + 1, _, true, by have := hk.out; omega, by go_num, rfl, hpre.out _ _ hnx.out, hnx, hown', hb'⟩
        case measure => have := hk.out; omega
       | false =>
        have hnx := ae (show R = (o ++ [(f', l', t')]) ++ (if true = true then es.drop (k + 1) else dE (f, l, t) (es.drop (k + 1))) by rw [hinv.out]; simp [qO _ (hc.out ▸ hzx)])
        replace hzx := ae hzx; go_wp2_with (at_builtin; go_must (refine fV rfl _ _ rfl w1.heap.size _ (o) _ _ _ rfl rfl (by exact hown.out) (by first | omega | (simp; omega)) hbs ?_))
        intro v' w' hown' hb'; replace hown' := ae hown'; replace hb' := ae (hb.out.trans hb'); clear hown hb; go_wp2; go_roundg (n - (k + 1))
        case rel => exact ⟨k + 1, _, true, by have := hk.out; omega, by go_num, rfl, hpre.out _ _ hnx.out, hnx, hown', hb'⟩
        case measure => have := hk.out; omega
     · have t1 : (c == 0) = false := by rw [beq_eq_false_iff_ne]; omega
       have t2 : ¬ c < 0 := by omega
       cases q with
       | true =>
        have hnx := ae (show R = (o ++ [(f', l', t')]) ++ (if true = true then es.drop (k + 1) else dE (f, l, t) (es.drop (k + 1))) by rw [hinv.out]; simp)
        go_wp2_with (at_builtin; go_must (refine fV rfl _ _ rfl w1.heap.size _ (o) _ _ _ rfl rfl (by exact hown.out) (by first | omega | (simp; omega)) hbs ?_))
        intro v' w' hown' hb'; replace hown' := ae hown'; replace hb' := ae (hb.out.trans hb'); clear hown hb; go_wp2; go_roundg (n - (k + 1))
        case rel => exact ⟨k + 1, _, true, by have := hk.out; omega, by go_num, rfl, hpre.out _ _ hnx.out, hnx, hown', hb'⟩
        case measure => have := hk.out; omega
       | false =>
        have hnx := ae (show R = (o ++ [(f', l', t')]) ++ (if false = true then es.drop (k + 1) else dE (f, l, t) (es.drop (k + 1))) by rw [hinv.out]; simp [qG _ (hc.out ▸ hzx)])
        go_wp2_with (at_builtin; go_must (refine fV rfl _ _ rfl w1.heap.size _ (o) _ _ _ rfl rfl (by exact hown.out) (by first | omega | (simp; omega)) hbs ?_))
        intro v' w' hown' hb'; replace hown' := ae hown'; replace hb' := ae (hb.out.trans hb'); clear hown hb; go_wp2; go_roundg (n - (k + 1))
        case rel => exact ⟨k + 1, _, false, by have := hk.out; omega, by go_num, rfl, hpre.out _ _ hnx.out, hnx, hown', hb'⟩
        case measure => have := hk.out; omega
  · obtain rfl : k = n := by omega
    have hki : ¬ (k : Int) < (k : Int) := by omega
    have hdn : es.drop k = [] := List.drop_eq_nil_of_le (by rw [← hn.out]; exact nl _)
    rw [hdn] at hinv; have hbs := hb.out.size
    cases q with
    | true =>
     have hRo : R = o := by rw [hinv.out]; simp
     replace hRo := ae hRo; replace hbw := ae hbw; go_wp2; go_ret; rw [hRo.out]; exact pg hown.out hbw.out hb1.size (by omega)
    | false =>
     have hRo : R = o ++ [(f, l, t)] := by rw [hinv.out]; rfl
     replace hRo := ae hRo; replace hbw := ae hbw; go_wp2_with (at_builtin; go_must (refine fV rfl _ _ rfl w1.heap.size _ o _ _ _ rfl rfl (by exact hown.out) (by omega) hbs ?_))
     intro v' w' hown' hb'; replace hown' := ae hown'; replace hb' := ae hb'; go_wp2; go_ret; rw [hRo.out]; exact pg hown'.out (hbw.out.trans (hb'.out.mono hb1.size)) hb1.size (by simp; omega)
end Go.Proofs.YtgnomlcjikfdhaaGreat
