import Derived.Test.YtpjlamnjiilgbaaGreatJ3Is
namespace Go.Proofs.YtpjlamnjiilgbaaGreat
open Go.RowKit
set_option linter.unusedVariables false
set_option linter.unusedSimpArgs false
def putE (e : Ed) : List Ed → List Ed
 | [] => [e]
 | y :: ys => if 0 < cmpE e y then y :: putE e ys else if cmpE e y = 0 then y :: ys else e :: y :: ys
theorem putE_length (e : Ed) (l : List Ed) : (putE e l).length ≤ l.length + 1 := by
 induction l with
 | nil => simp [putE]
 | cons y ys ih =>
  unfold putE
  split
  · simp only [List.length_cons]; omega
  · split <;> simp
theorem putE_gt {e y : Ed} (ys : List Ed) (h : 0 < cmpE e y) : putE e (y :: ys) = y :: putE e ys := by rw [putE, if_pos h]
theorem putE_eq {e y : Ed} (ys : List Ed) (h : cmpE e y = 0) : putE e (y :: ys) = y :: ys := by rw [putE, if_neg (by omega), if_pos h]
theorem putE_lt {e y : Ed} (ys : List Ed) (h : cmpE e y < 0) : putE e (y :: ys) = e :: y :: ys := by rw [putE, if_neg (by omega), if_neg (by omega)]
theorem drop_oneE {l : List Ed} {k : Nat} (h : k < l.length) : l.drop k = l.getD k e0 :: l.drop (k + 1) := by
 rw [List.drop_eq_getElem_cons h, List.getD_eq_getElem?_getD, List.getElem?_eq_getElem h]; rfl
def LwEdges (w : World) (es : List Ed) (e : Ending) (w' : World) : Prop :=
 ∃ a cap, e = .returned (.slice a es.length cap) ∧ RowS 72 3 w' w.heap.size w'.heap.size (.slice a es.length cap) es.length (flatE es) ∧ Below w.heap.size w w'
theorem lwEdges_owns {w w' : World} {base : Nat} {v : Value} {es : List Ed} (h : OwnsE w' base v es) (hb : Below w.heap.size w w') (hB : w.heap.size ≤ base) (hl : es.length ≤ 1000000000000) : LwEdges w es (.returned v) w' := by
 obtain ⟨a, m, c, rfl⟩ := h.form3
 have hrow := h.row (by omega)
 obtain ⟨rfl, _⟩ := hrow.cap
 exact ⟨a, c, rfl, hrow.wide hB (Nat.le_refl _), hb⟩
set_option maxHeartbeats 3200000 in
theorem specPut (w : World) (v : Value) (es : List Ed) (f l t : Int) (h : ReadE w.heap.size w v es) (hl : es.length ≤ 100000000) :
 Calls Tryz.prog 120 #[v, .agg #[.int .i64 f, .int .i64 l, .int .i64 t]] w (LwEdges w (putE (f, l, t) es)) := by
 obtain ⟨a, cap, rfl, hnc⟩ := h.form
 obtain ⟨n, hn⟩ := exq es.length
 have hal := putE_length (f, l, t) es
 rw [← hn] at hl hnc hal ⊢
 rw [← hn] at h
 obtain ⟨R, hR⟩ := exq (putE (f, l, t) es)
 rw [← hR] at hal ⊢
 obtain ⟨w1, hw1⟩ := exq (w.alloc (.cells #[.int .i64 f, .int .i64 l, .int .i64 t] 72))
 have hb1 : Below w.heap.size w w1 := by rw [hw1]; exact (Below.refl _ _).alloc (Nat.le_refl _) _
 have hs1 : w1.heap.size = w.heap.size + 1 := by rw [hw1]; simp
 obtain ⟨g0, g1, g2⟩ := box3 hw1
 have hrd := hidI (h.below hb1)
 have hown0 : Hid (OwnsE (w1.alloc (.cells #[] 72)) w1.heap.size (.slice (some ⟨w.heap.size + 1, 0, none⟩) 0 0) []) := by
  rw [← hs1]
  exact hidI (OwnsE.litE w1)
 have hb0 := hidI ((Below.refl w1.heap.size w1).alloc (Nat.le_refl _) (.cells #[] 72))
 replace hn := hidI hn
 replace hw1 := hidI hw1
 replace hR := hidI hR
 replace hs1 := hidI hs1
 replace h := hidI h
 go_enter Tryz.func120, Tryz.ntmps120
 go_wp2
 rw [← hw1.out]
 go_loopg [5, 6, 7] n (fun g vv p i wr => ∃ (k : Nat) (o : List Ed) (q : Bool), k + g = n ∧ i = .int .i64 k ∧ p = .bool q ∧ o.length ≤ n + 1 ∧ Hid (R = o ++ (if q = true then es.drop k else putE (f, l, t) (es.drop k))) ∧ Hid (OwnsE wr w1.heap.size vv o) ∧ Hid (Below w1.heap.size w1 wr))
 case atStart => exact ⟨0, [], false, by omega, rfl, rfl, by simp, hidI (by rw [hR.out]; rfl), hown0, hb0⟩
 case round =>
  clear hown0 hb0
  obtain ⟨k, o, q, hk, rfl, rfl, hol, hinv, hown, hb⟩ := hrel
  obtain ⟨a1, m1, c1, rfl⟩ := hown.out.form3
  have hsw : w.heap.size < w1.heap.size := by have := hs1.out; omega
  have hbw : Below w.heap.size w wr := hb1.trans (hb.out.mono hb1.size)
  have p0 := below_cell g0 hb.out hsw
  have p1 := below_cell g1 hb.out hsw
  have p2 := below_cell g2 hb.out hsw
  by_cases hlt : k < n
  · obtain ⟨b, off, rfl, hB, c0, c1', c2⟩ := ReadE.at3 (hrd.out.below (hb.out.mono hb1.size)) k (by have := hn.out; omega)
    have hdr := drop_oneE (l := es) (k := k) (by have := hn.out; omega)
    obtain ⟨f', hf⟩ : ∃ z, z = (es.getD k e0).1 := ⟨_, rfl⟩
    obtain ⟨l', hll⟩ : ∃ z, z = (es.getD k e0).2.1 := ⟨_, rfl⟩
    obtain ⟨t', ht⟩ : ∃ z, z = (es.getD k e0).2.2 := ⟨_, rfl⟩
    have hke : es.getD k e0 = (f', l', t') := by rw [hf, hll, ht]
    rw [← hf] at c0
    rw [← hll] at c1'
    rw [← ht] at c2
    rw [hke] at hdr
    have hki : (k : Int) < (n : Int) := by omega
    have hpre : ∀ (o t : List Ed), R = o ++ t → o.length ≤ n + 1 := by
     intro o t hh
     have : R.length = o.length + t.length := by rw [hh, List.length_append]
     omega
    rw [hdr] at hinv
    have hcall := specCmpE wr.drew f l t f' l' t'
    obtain ⟨c, hc⟩ := exq (cmpE (f, l, t) (f', l', t'))
    rw [← hc] at hcall
    replace hf := hidI hf
    replace hll := hidI hll
    replace ht := hidI ht
    replace hke := hidI hke
    replace hpre := hidI hpre
    replace hdr := hidI hdr
    replace hk := hidI hk
    replace hc := hidI hc
    replace hbw := hidI hbw
    replace hown := hidI (show OwnsE wr.drew w1.heap.size (.slice a1 m1 c1) o from hown.out)
    go_wp2
    go_region_with (go_at_call 146; (with_reducible refine hcall.mono ?_); rintro e w2 ⟨rfl, hb2⟩)
    all_goals
     have hown2 := hidI (hown.out.later hb2 (Nat.le_refl _))
     have hb3 := hidI (hb.out.trans ((show Below wr.heap.size wr w2 from ⟨hb2.os, hb2.tape, hb2.output, hb2.size, hb2.block⟩).mono hb.out.size))
     have hsb := hb.out.size
     replace p0 := below_cell (w := wr.drew) p0 hb2 (Nat.lt_of_lt_of_le hsw hsb)
     replace p1 := below_cell (w := wr.drew) p1 hb2 (Nat.lt_of_lt_of_le hsw hsb)
     replace p2 := below_cell (w := wr.drew) p2 hb2 (Nat.lt_of_lt_of_le hsw hsb)
     replace c0 := below_cell (w := wr.drew) c0 hb2 (Nat.lt_of_lt_of_le (Nat.lt_trans hB hsw) hsb)
     replace c1' := below_cell (w := wr.drew) c1' hb2 (Nat.lt_of_lt_of_le (Nat.lt_trans hB hsw) hsb)
     replace c2 := below_cell (w := wr.drew) c2 hb2 (Nat.lt_of_lt_of_le (Nat.lt_trans hB hsw) hsb)
     clear hown hb hbw hb2
     have hown := hown2
     have hb := hb3
     have hbs := hb.out.size
     clear hown2 hb3
     rcases Int.lt_trichotomy c 0 with hzx | hzx | hzx
     · have t1 : (c == 0) = false := by rw [beq_eq_false_iff_ne]; omega
       have t2 : c < 0 := by omega
       cases q with
       | true =>
        have hnx := hidI (show R = (o ++ [(f', l', t')]) ++ (if true = true then es.drop (k + 1) else putE (f, l, t) (es.drop (k + 1))) by rw [hinv.out]; simp)
        go_wp2_with (at_builtin; go_must (refine wpList_pushE rfl _ _ rfl w1.heap.size _ (o) _ _ _ rfl rfl (by exact hown.out) (by first | omega | (simp; omega)) hbs ?_))
        intro v' w' hown' hb'
        replace hown' := hidI hown'
        replace hb' := hidI (hb.out.trans hb')
        clear hown hb
        go_wp2
        go_roundg (n - (k + 1))
        case rel => exact ⟨k + 1, _, true, by have := hk.out; omega, by go_num, rfl, hpre.out _ _ hnx.out, hnx, hown', hb'⟩
        case measure => have := hk.out; omega
       | false =>
        have hnx := hidI (show R = (o ++ [(f, l, t), (f', l', t')]) ++ (if true = true then es.drop (k + 1) else putE (f, l, t) (es.drop (k + 1))) by rw [hinv.out]; simp [putE_lt _ (hc.out ▸ hzx)])
        go_wp2_with (at_builtin; go_must (refine wpList_pushE rfl _ _ rfl w1.heap.size _ (o) _ _ _ rfl rfl (by exact hown.out) (by first | omega | (simp; omega)) hbs ?_))
        intro v' w' hown' hb'
        replace p0 := below_cell p0 hb' hsw
        replace p1 := below_cell p1 hb' hsw
        replace p2 := below_cell p2 hb' hsw
        replace c0 := below_cell c0 hb' (Nat.lt_trans hB hsw)
        replace c1' := below_cell c1' hb' (Nat.lt_trans hB hsw)
        replace c2 := below_cell c2 hb' (Nat.lt_trans hB hsw)
        replace hbs := Nat.le_trans hbs hb'.size
        replace hown' := hidI hown'
        replace hb' := hidI (hb.out.trans hb')
        clear hown hb
        obtain ⟨a2, m2, c2', rfl⟩ := hown'.out.form3
        have hown := hown'
        have hb := hb'
        clear hown' hb'
        go_wp2_with (at_builtin; go_must (refine wpList_pushE rfl _ _ rfl w1.heap.size _ (o ++ [(f, l, t)]) _ _ _ rfl rfl (by exact hown.out) (by first | omega | (simp; omega)) hbs ?_))
        intro v' w' hown' hb'
        replace hown' := hidI hown'
        replace hb' := hidI (hb.out.trans hb')
        clear hown hb
        go_wp2
        go_roundg (n - (k + 1))
        case rel => exact ⟨k + 1, _, true, by have := hk.out; omega, by go_num, rfl, hpre.out _ _ hnx.out, hnx, hown', hb'⟩
        case measure => have := hk.out; omega
     · have t1 : (c == 0) = true := by rw [beq_iff_eq]; exact hzx
       have t2 : ¬ c < 0 := by omega
       cases q with
       | true =>
        have hnx := hidI (show R = (o ++ [(f', l', t')]) ++ (if true = true then es.drop (k + 1) else putE (f, l, t) (es.drop (k + 1))) by rw [hinv.out]; simp)
        replace hzx := hidI hzx
        go_wp2_with (at_builtin; go_must (refine wpList_pushE rfl _ _ rfl w1.heap.size _ (o) _ _ _ rfl rfl (by exact hown.out) (by first | omega | (simp; omega)) hbs ?_))
        intro v' w' hown' hb'
        replace hown' := hidI hown'
        replace hb' := hidI (hb.out.trans hb')
        clear hown hb
        go_wp2
        go_roundg (n - (k + 1))
        case rel => exact ⟨k + 1, _, true, by have := hk.out; omega, by go_num, rfl, hpre.out _ _ hnx.out, hnx, hown', hb'⟩
        case measure => have := hk.out; omega
       | false =>
        have hnx := hidI (show R = (o ++ [(f', l', t')]) ++ (if true = true then es.drop (k + 1) else putE (f, l, t) (es.drop (k + 1))) by rw [hinv.out]; simp [putE_eq _ (hc.out ▸ hzx)])
        replace hzx := hidI hzx
        go_wp2_with (at_builtin; go_must (refine wpList_pushE rfl _ _ rfl w1.heap.size _ (o) _ _ _ rfl rfl (by exact hown.out) (by first | omega | (simp; omega)) hbs ?_))
        intro v' w' hown' hb'
        replace hown' := hidI hown'
        replace hb' := hidI (hb.out.trans hb')
        clear hown hb
        go_wp2
        go_roundg (n - (k + 1))
        case rel => exact ⟨k + 1, _, true, by have := hk.out; omega, by go_num, rfl, hpre.out _ _ hnx.out, hnx, hown', hb'⟩
        case measure => have := hk.out; omega
     · have t1 : (c == 0) = false := by rw [beq_eq_false_iff_ne]; omega
       have t2 : ¬ c < 0 := by omega
       cases q with
       | true =>
        have hnx := hidI (show R = (o ++ [(f', l', t')]) ++ (if true = true then es.drop (k + 1) else putE (f, l, t) (es.drop (k + 1))) by rw [hinv.out]; simp)
        go_wp2_with (at_builtin; go_must (refine wpList_pushE rfl _ _ rfl w1.heap.size _ (o) _ _ _ rfl rfl (by exact hown.out) (by first | omega | (simp; omega)) hbs ?_))
        intro v' w' hown' hb'
        replace hown' := hidI hown'
        replace hb' := hidI (hb.out.trans hb')
        clear hown hb
        go_wp2
        go_roundg (n - (k + 1))
        case rel => exact ⟨k + 1, _, true, by have := hk.out; omega, by go_num, rfl, hpre.out _ _ hnx.out, hnx, hown', hb'⟩
        case measure => have := hk.out; omega
       | false =>
        have hnx := hidI (show R = (o ++ [(f', l', t')]) ++ (if false = true then es.drop (k + 1) else putE (f, l, t) (es.drop (k + 1))) by rw [hinv.out]; simp [putE_gt _ (hc.out ▸ hzx)])
        go_wp2_with (at_builtin; go_must (refine wpList_pushE rfl _ _ rfl w1.heap.size _ (o) _ _ _ rfl rfl (by exact hown.out) (by first | omega | (simp; omega)) hbs ?_))
        intro v' w' hown' hb'
        replace hown' := hidI hown'
        replace hb' := hidI (hb.out.trans hb')
        clear hown hb
        go_wp2
        go_roundg (n - (k + 1))
        case rel => exact ⟨k + 1, _, false, by have := hk.out; omega, by go_num, rfl, hpre.out _ _ hnx.out, hnx, hown', hb'⟩
        case measure => have := hk.out; omega
  · obtain rfl : k = n := by omega
    have hki : ¬ (k : Int) < (k : Int) := by omega
    have hdn : es.drop k = [] := List.drop_eq_nil_of_le (by rw [← hn.out]; exact Nat.le_refl _)
    rw [hdn] at hinv
    have hbs := hb.out.size
    cases q with
    | true =>
     have hRo : R = o := by rw [hinv.out]; simp
     replace hRo := hidI hRo
     replace hbw := hidI hbw
     go_wp2
     go_ret
     rw [hRo.out]
     exact lwEdges_owns hown.out hbw.out hb1.size (by omega)
    | false =>
     have hRo : R = o ++ [(f, l, t)] := by rw [hinv.out]; rfl
     replace hRo := hidI hRo
     replace hbw := hidI hbw
     go_wp2_with (at_builtin; go_must (refine wpList_pushE rfl _ _ rfl w1.heap.size _ o _ _ _ rfl rfl (by exact hown.out) (by omega) hbs ?_))
     intro v' w' hown' hb'
     replace hown' := hidI hown'
     replace hb' := hidI hb'
     go_wp2
     go_ret
     rw [hRo.out]
     exact lwEdges_owns hown'.out (hbw.out.trans (hb'.out.mono hb1.size)) hb1.size (by simp; omega)
end Go.Proofs.YtpjlamnjiilgbaaGreat
