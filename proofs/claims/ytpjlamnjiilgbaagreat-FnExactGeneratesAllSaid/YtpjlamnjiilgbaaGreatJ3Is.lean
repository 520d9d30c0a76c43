import Derived.Deep.AppendLies
import Derived.Test.YtpjlamnjiilgbaaGreatJ0Is
import Derived.Test.YtpjlamnjiilgbaaGreatJ2Is
namespace Go.Proofs.YtpjlamnjiilgbaaGreat
open Go.RowKit
set_option linter.unusedVariables false
theorem intsRet_owns {w w' : World} {base : Nat} {v : Value} {zs : List Int} (h : OwnsI w' base v zs) (hb : Below w.heap.size w w') (hB : w.heap.size ≤ base) (hl : zs.length ≤ 140737488355328) : IntsRet w zs (.returned v) w' :=
 ⟨v, rfl, (h.row hl).wide hB (Nat.le_refl _), hb⟩
theorem ReadI.at_ {B : Nat} {w : World} {a : Option Addr} {n cap : Nat} {zs : List Int} (h : ReadI B w (.slice a n cap) zs) (i : Nat) (hi : i < zs.length) :
 ∃ b off, a = some ⟨b, off, none⟩ ∧ b < B ∧ w.cell? ⟨b, off + i, none⟩ = some (.int .i64 (zs.getD i 0)) := by
 obtain ⟨_, a', cap', hv, _, hr⟩ := h
 simp only [Value.slice.injEq] at hv
 obtain ⟨rfl, _, rfl⟩ := hv
 rcases hr with h0 | ⟨b, off, ha, hB, hc⟩
 · rw [h0] at hi; simp at hi
 · exact ⟨b, off, ha, hB, hc i hi⟩
theorem OwnsI.form {w : World} {base : Nat} {v : Value} {zs : List Int} (h : OwnsI w base v zs) (h0 : 0 < zs.length) :
 ∃ g cap, v = .slice (some ⟨g, 0, none⟩) zs.length cap ∧ base ≤ g ∧ g < w.heap.size ∧ zs.length ≤ cap := by
 obtain ⟨hl, ⟨rfl, hn⟩ | ⟨g, cap, cur, rfl, hg, hh, hcap, hmax, hsz, htk⟩⟩ := h
 · omega
 · exact ⟨g, cap, rfl, hg, (Array.getElem?_eq_some_iff.1 hh).1, hcap⟩
theorem OwnsI.form_any {w : World} {base : Nat} {v : Value} {zs : List Int} (h : OwnsI w base v zs) : ∃ a cap, v = .slice a zs.length cap := by
 obtain ⟨hl, ⟨rfl, hn⟩ | ⟨g, cap, cur, rfl, hg, hh, hcap, hmax, hsz, htk⟩⟩ := h
 · exact ⟨none, 0, by rw [hn]⟩
 · exact ⟨_, _, rfl⟩
theorem OwnsI.at_ {w : World} {base g n cap : Nat} {zs : List Int} (h : OwnsI w base (.slice (some ⟨g, 0, none⟩) n cap) zs) (hn : n = zs.length) (i : Nat) (hi : i < zs.length) :
 w.cell? ⟨g, i, none⟩ = some (.int .i64 (zs.getD i 0)) := by
 subst hn
 rw [World.ownsRow.cellAt h i (by omega), List.getElem?_map, List.getElem?_eq_getElem hi]
 simp [iv, List.getD_eq_getElem?_getD, hi]
set_option linter.unusedSimpArgs false
def addZ (x : Int) : List Int → List Int
 | [] => [x]
 | y :: ys => if y < x then y :: addZ x ys else if y = x then y :: ys else x :: y :: ys
theorem addZ_length (x : Int) (l : List Int) : (addZ x l).length ≤ l.length + 1 := by
 induction l with
 | nil => simp [addZ]
 | cons y ys ih =>
  unfold addZ
  split
  · simp only [List.length_cons]; omega
  · split <;> simp
theorem addZ_nil (x : Int) : addZ x [] = [x] := rfl
theorem addZ_lt {x y : Int} (ys : List Int) (h : y < x) : addZ x (y :: ys) = y :: addZ x ys := by rw [addZ, if_pos h]
theorem addZ_eq {x y : Int} (ys : List Int) (h : y = x) : addZ x (y :: ys) = y :: ys := by rw [addZ, if_neg (by omega), if_pos h]
theorem addZ_gt {x y : Int} (ys : List Int) (h : x < y) : addZ x (y :: ys) = x :: y :: ys := by rw [addZ, if_neg (by omega), if_neg (by omega)]
theorem drop_one {l : List Int} {k : Nat} (h : k < l.length) : l.drop k = l.getD k 0 :: l.drop (k + 1) := by
 rw [List.drop_eq_getElem_cons h, List.getD_eq_getElem?_getD, List.getElem?_eq_getElem h]; rfl
theorem OwnsI.form4 {w : World} {base : Nat} {v : Value} {zs : List Int} (h : OwnsI w base v zs) : ∃ a m c, v = .slice a m c := by
 obtain ⟨a, cap, hv⟩ := OwnsI.form_any h
 exact ⟨a, _, cap, hv⟩
set_option maxHeartbeats 1600000 in
theorem specAdd (w : World) (v : Value) (zs : List Int) (x : Int) (h : ReadI w.heap.size w v zs) (hl : zs.length ≤ 100000000) :
 Calls Tryz.prog 112 #[v, .int .i64 x] w (IntsRet w (addZ x zs)) := by
 have hread := h
 obtain ⟨_, a, cap, rfl, hq1, hq2⟩ := h
 clear hq1 hq2
 obtain ⟨n, hn⟩ := exq zs.length
 have hal := addZ_length x zs
 rw [← hn] at hl hread hal ⊢
 obtain ⟨R, hR⟩ := exq (addZ x zs)
 rw [← hR] at hal ⊢
 have hown0 := hidI (OwnsI.lit w)
 have hb0 := (Below.refl w.heap.size w).alloc (Nat.le_refl _) (.cells #[] 3)
 replace hn := hidI hn
 replace hread := hidI hread
 replace hR := hidI hR
 go_enter Tryz.func112, Tryz.ntmps112
 go_wp2
 go_loopg [5, 6, 7] n (fun g vv p i wr => ∃ (k : Nat) (o : List Int) (q : Bool), k + g = n ∧ i = .int .i64 k ∧ p = .bool q ∧ o.length ≤ n + 1 ∧ Hid (R = o ++ (if q = true then zs.drop k else addZ x (zs.drop k))) ∧ Hid (OwnsI wr w.heap.size vv o) ∧ Hid (Below w.heap.size w wr))
 case atStart => exact ⟨0, [], false, by omega, rfl, rfl, by simp, hidI (by rw [hR.out]; rfl), hown0, hidI hb0⟩
 case round =>
  clear hown0 hb0
  obtain ⟨k, o, q, hk, rfl, rfl, hol, hinv, hown, hb⟩ := hrel
  obtain ⟨a1, m1, c1, rfl⟩ := OwnsI.form4 hown.out
  by_cases hlt : k < n
  · obtain ⟨b, off, rfl, hB, hcell⟩ := (hread.out.below hb.out).at_ k (by have := hn.out; omega)
    obtain ⟨z, hz⟩ := exq (zs.getD k 0)
    have hdr := drop_one (l := zs) (k := k) (by have := hn.out; omega)
    rw [← hz] at hcell hdr
    have hrl : R.length = o.length + (if q = true then zs.drop k else addZ x (zs.drop k)).length := by rw [hinv.out, List.length_append]
    have hki : (k : Int) < (n : Int) := by omega
    replace hz := hidI hz
    have hpre : ∀ (o t : List Int), R = o ++ t → o.length ≤ n + 1 := by
     intro o t hh
     have : R.length = o.length + t.length := by rw [hh, List.length_append]
     omega
    rw [hdr] at hinv
    clear hrl
    have hpre2 := hol
    replace hpre := hidI hpre
    replace hdr := hidI hdr
    replace hk := hidI hk
    rcases Int.lt_trichotomy z x with hzx | hzx | hzx
    · have t1 : (z == x) = false := by rw [beq_eq_false_iff_ne]; omega
      have t2 : ¬ x < z := by omega
      cases q with
      | true =>
       have hnx := hidI (show R = (o ++ [z]) ++ (if true = true then zs.drop (k + 1) else addZ x (zs.drop (k + 1))) by rw [hinv.out]; simp)
       go_wp2_with (at_builtin; go_must (refine wpList_pushI rfl _ _ rfl w.heap.size _ (o) _ rfl rfl (by exact hown.out) (by have := hal; have := hpre2; simp; omega) hb.out.size ?_))
       intro v' w' hown' hb'
       replace hown' := hidI hown'
       replace hb' := hidI (hb.out.trans hb')
       clear hown hb
       go_wp2
       go_roundg (n - (k + 1))
       case rel => exact ⟨k + 1, _, true, by have := hk.out; omega, by go_num, rfl, hpre.out _ _ hnx.out, hnx, hown', hb'⟩
       case measure => have := hk.out; omega
      | false =>
       have hnx := hidI (show R = (o ++ [z]) ++ (if false = true then zs.drop (k + 1) else addZ x (zs.drop (k + 1))) by rw [hinv.out]; simp [addZ_lt _ hzx])
       go_wp2_with (at_builtin; go_must (refine wpList_pushI rfl _ _ rfl w.heap.size _ (o) _ rfl rfl (by exact hown.out) (by have := hal; have := hpre2; simp; omega) hb.out.size ?_))
       intro v' w' hown' hb'
       replace hown' := hidI hown'
       replace hb' := hidI (hb.out.trans hb')
       clear hown hb
       go_wp2
       go_roundg (n - (k + 1))
       case rel => exact ⟨k + 1, _, false, by have := hk.out; omega, by go_num, rfl, hpre.out _ _ hnx.out, hnx, hown', hb'⟩
       case measure => have := hk.out; omega
    · have t1 : (z == x) = true := by rw [beq_iff_eq]; exact hzx
      have t2 : ¬ x < z := by omega
      cases q with
      | true =>
       have hnx := hidI (show R = (o ++ [z]) ++ (if true = true then zs.drop (k + 1) else addZ x (zs.drop (k + 1))) by rw [hinv.out]; simp)
       replace hzx := hidI hzx
       go_wp2_with (at_builtin; go_must (refine wpList_pushI rfl _ _ rfl w.heap.size _ (o) _ rfl rfl (by exact hown.out) (by have := hal; have := hpre2; simp; omega) hb.out.size ?_))
       intro v' w' hown' hb'
       replace hown' := hidI hown'
       replace hb' := hidI (hb.out.trans hb')
       clear hown hb
       go_wp2
       go_roundg (n - (k + 1))
       case rel => exact ⟨k + 1, _, true, by have := hk.out; omega, by go_num, rfl, hpre.out _ _ hnx.out, hnx, hown', hb'⟩
       case measure => have := hk.out; omega
      | false =>
       have hnx := hidI (show R = (o ++ [z]) ++ (if true = true then zs.drop (k + 1) else addZ x (zs.drop (k + 1))) by rw [hinv.out]; simp [addZ_eq _ hzx])
       replace hzx := hidI hzx
       go_wp2_with (at_builtin; go_must (refine wpList_pushI rfl _ _ rfl w.heap.size _ (o) _ rfl rfl (by exact hown.out) (by have := hal; have := hpre2; simp; omega) hb.out.size ?_))
       intro v' w' hown' hb'
       replace hown' := hidI hown'
       replace hb' := hidI (hb.out.trans hb')
       clear hown hb
       go_wp2
       go_roundg (n - (k + 1))
       case rel => exact ⟨k + 1, _, true, by have := hk.out; omega, by go_num, rfl, hpre.out _ _ hnx.out, hnx, hown', hb'⟩
       case measure => have := hk.out; omega
    · have t1 : (z == x) = false := by rw [beq_eq_false_iff_ne]; omega
      have t2 : x < z := hzx
      cases q with
      | true =>
       have hnx := hidI (show R = (o ++ [z]) ++ (if true = true then zs.drop (k + 1) else addZ x (zs.drop (k + 1))) by rw [hinv.out]; simp)
       go_wp2_with (at_builtin; go_must (refine wpList_pushI rfl _ _ rfl w.heap.size _ (o) _ rfl rfl (by exact hown.out) (by have := hal; have := hpre2; simp; omega) hb.out.size ?_))
       intro v' w' hown' hb'
       replace hown' := hidI hown'
       replace hb' := hidI (hb.out.trans hb')
       clear hown hb
       go_wp2
       go_roundg (n - (k + 1))
       case rel => exact ⟨k + 1, _, true, by have := hk.out; omega, by go_num, rfl, hpre.out _ _ hnx.out, hnx, hown', hb'⟩
       case measure => have := hk.out; omega
      | false =>
       have hnx := hidI (show R = (o ++ [x, z]) ++ (if true = true then zs.drop (k + 1) else addZ x (zs.drop (k + 1))) by rw [hinv.out]; simp [addZ_gt _ hzx])
       go_wp2_with (at_builtin; go_must (refine wpList_pushI rfl _ _ rfl w.heap.size _ (o) _ rfl rfl (by exact hown.out) (by have := hal; have := hpre2; simp; omega) hb.out.size ?_))
       intro v' w' hown' hb'
       replace hcell := below_cell hcell hb' hB
       replace hown' := hidI hown'
       replace hb' := hidI (hb.out.trans hb')
       clear hown hb
       obtain ⟨a2, m2, c2, rfl⟩ := OwnsI.form4 hown'.out
       have hown := hown'
       have hb := hb'
       clear hown' hb'
       go_wp2_with (at_builtin; go_must (refine wpList_pushI rfl _ _ rfl w.heap.size _ (o ++ [x]) _ rfl rfl (by exact hown.out) (by have := hal; have := hpre2; simp; omega) hb.out.size ?_))
       intro v' w' hown' hb'
       replace hown' := hidI hown'
       replace hb' := hidI (hb.out.trans hb')
       clear hown hb
       go_wp2
       go_roundg (n - (k + 1))
       case rel => exact ⟨k + 1, _, true, by have := hk.out; omega, by go_num, rfl, hpre.out _ _ hnx.out, hnx, hown', hb'⟩
       case measure => have := hk.out; omega
  · obtain rfl : k = n := by omega
    have hki : ¬ (k : Int) < (k : Int) := by omega
    have hdn : zs.drop k = [] := List.drop_eq_nil_of_le (by rw [← hn.out]; exact Nat.le_refl _)
    rw [hdn] at hinv
    cases q with
    | true =>
     have hRo : R = o := by rw [hinv.out]; simp
     replace hRo := hidI hRo
     go_wp2
     go_ret
     rw [hRo.out]
     exact intsRet_owns hown.out hb.out (Nat.le_refl _) (by omega)
    | false =>
     have hRo : R = o ++ [x] := by rw [hinv.out]; rfl
     replace hRo := hidI hRo
     go_wp2_with (at_builtin; go_must (refine wpList_pushI rfl _ _ rfl w.heap.size _ o _ rfl rfl (by exact hown.out) (by omega) hb.out.size ?_))
     intro v' w' hown' hb'
     replace hown' := hidI hown'
     go_wp2
     go_ret
     rw [hRo.out]
     exact intsRet_owns hown'.out (hb.out.trans hb') (Nat.le_refl _) (by simp; omega)
def stepE (v x : Int) (acc : List Int) (e : Ed) : List Int :=
 if 0 < x ∧ e.2.1 = x ∧ e.1 = v then addZ e.2.2 acc else if x < 0 ∧ e.2.1 = wrap64 (-x) ∧ e.2.2 = v then addZ e.1 acc else acc
def stepsE (v x : Int) (es : List Ed) : List Int := es.foldl (stepE v x) []
theorem stepE_length (v x : Int) (acc : List Int) (e : Ed) : (stepE v x acc e).length ≤ acc.length + 1 := by
 unfold stepE
 split
 · exact addZ_length _ _
 · split
   · exact addZ_length _ _
   · omega
theorem foldE_length (v x : Int) (es : List Ed) : ∀ acc, (es.foldl (stepE v x) acc).length ≤ acc.length + es.length := by
 induction es with
 | nil => intro acc; simp
 | cons e es ih =>
  intro acc
  have := ih (stepE v x acc e)
  have h2 := stepE_length v x acc e
  simp only [List.foldl_cons, List.length_cons]
  omega
theorem stepsE_length (v x : Int) (es : List Ed) : (stepsE v x es).length ≤ es.length := by
 have := foldE_length v x es []
 simpa [stepsE] using this
theorem stepsE_next {v x : Int} {es : List Ed} {k : Nat} (h : k < es.length) : stepsE v x (es.take (k + 1)) = stepE v x (stepsE v x (es.take k)) (es.getD k e0) := by
 unfold stepsE
 rw [take_one h, List.foldl_append]; rfl
set_option maxHeartbeats 1600000 in
theorem specSteps (w : World) (r s : Int) (v : Value) (es : List Ed) (x y : Int) (h : ReadE w.heap.size w v es) (hl : es.length ≤ 10000000) :
 Calls Tryz.prog 75 #[.agg #[.int .i64 r, .int .i64 s, v], .int .i64 x, .int .i64 y] w (IntsRet w (stepsE x y es)) := by
 obtain ⟨a, cap, rfl, hnc⟩ := h.form
 obtain ⟨n, hn⟩ := exq es.length
 rw [← hn] at hl hnc ⊢
 rw [← hn] at h
 obtain ⟨w1, hw1⟩ := exq (w.alloc (.cells #[.int .i64 r, .int .i64 s, .slice a n cap] 26))
 have hb1 : Below w.heap.size w w1 := by rw [hw1]; exact (Below.refl _ _).alloc (Nat.le_refl _) _
 have hs1 : w.heap.size < w1.heap.size := by rw [hw1]; simp
 obtain ⟨g0, g1, g2⟩ := box3 hw1
 have hrd := hidI (h.below hb1)
 have hs1e : w1.heap.size = w.heap.size + 1 := by rw [hw1]; simp
 have hrow0 : Hid (RowI (w1.alloc (.cells #[] 3)) w.heap.size (w1.alloc (.cells #[] 3)).heap.size (.slice (some ⟨w.heap.size + 1, 0, none⟩) 0 0) []) := by
  rw [← hs1e]
  exact hidI (((OwnsI.lit w1).row (by simp)).wide hb1.size (Nat.le_refl _))
 have hb0 := hidI ((Below.refl w1.heap.size w1).alloc (Nat.le_refl _) (.cells #[] 3))
 obtain ⟨y', hy'⟩ : ∃ y', y' = wrap64 (-y) := ⟨_, rfl⟩
 have hy2 := hy'.symm
 replace hy' := hidI hy'
 replace hn := hidI hn
 replace hw1 := hidI hw1
 replace hs1e := hidI hs1e
 replace h := hidI h
 go_enter Tryz.func75, Tryz.ntmps75
 go_wp2
 rw [← hw1.out]
 go_loopg [7, 8] n (fun g vv i wr => ∃ k : Nat, k + g = n ∧ i = .int .i64 k ∧ Hid (RowI wr w.heap.size wr.heap.size vv (stepsE x y (es.take k))) ∧ Hid (Below w1.heap.size w1 wr))
 case atStart => exact ⟨0, by omega, rfl, hrow0, hb0⟩
 case round =>
  clear hrow0 hb0
  obtain ⟨k, hk, rfl, hrow, hb⟩ := hrel
  have p2 := below_cell g2 hb.out hs1
  obtain ⟨o, ho⟩ := exq (stepsE x y (es.take k))
  have hol : o.length ≤ k := by
   rw [ho]
   have := stepsE_length x y (es.take k)
   rw [List.length_take] at this
   omega
  rw [← ho] at hrow
  by_cases hlt : k < n
  · obtain ⟨b, off, rfl, hB, c0, c1, c2⟩ := ReadE.at3 (hrd.out.below (hb.out.mono hb1.size)) k (by have := hn.out; omega)
    have hnx := stepsE_next (v := x) (x := y) (es := es) (k := k) (by have := hn.out; omega)
    obtain ⟨f, hf⟩ := exq ((es.getD k e0).1)
    obtain ⟨l, hll⟩ := exq ((es.getD k e0).2.1)
    obtain ⟨t, ht⟩ := exq ((es.getD k e0).2.2)
    have hke : es.getD k e0 = (f, l, t) := by rw [hf, hll, ht]
    rw [← hf] at c0
    rw [← hll] at c1
    rw [← ht] at c2
    rw [← ho, hke] at hnx
    have hki : (k : Int) < (n : Int) := by omega
    obtain ⟨w2, hw2⟩ := exq (wr.alloc (.cells #[.int .i64 f, .int .i64 l, .int .i64 t] 72))
    have hb2 : Below wr.heap.size wr w2 := by rw [hw2]; exact (Below.refl _ _).alloc (Nat.le_refl _) _
    obtain ⟨e0', e1', e2'⟩ := box3 hw2
    have hrow2 := (hrow.out.below hb2 (Nat.le_refl _))
    have hbz := hidI (hb.out.trans (hb2.mono hb.out.size))
    have hcf := specAdd w2 _ o f (hrow2.read.mono hb2.size) (by omega)
    have hct := specAdd w2 _ o t (hrow2.read.mono hb2.size) (by omega)
    replace hrow2 := hidI (hrow2.wide (Nat.le_refl _) hb2.size)
    replace hf := hidI hf
    replace hll := hidI hll
    replace ht := hidI ht
    replace hke := hidI hke
    replace ho := hidI ho
    replace hk := hidI hk
    replace hw2 := hidI hw2
    clear hrow
    have hsw : w.heap.size ≤ wr.heap.size := Nat.le_trans hb1.size hb.out.size
    rcases Int.lt_trichotomy y 0 with hy0 | hy0 | hy0
    · have hy3 : ¬ 0 < y := by omega
      by_cases q1 : l = y'
      case neg =>
       have q1t : (l == y') = false := by rw [beq_eq_false_iff_ne]; exact q1
       replace hnx := hidI (hnx.trans (show stepE x y o (f, l, t) = o by unfold stepE; rw [if_neg (by rintro ⟨h, _⟩; omega), if_neg (by rintro ⟨_, h, _⟩; exact q1 (by rw [hy2] at h; exact h))]))
       replace q1 := hidI q1
       go_wp2
       rw [← hw2.out]
       go_wp2
       go_roundg (n - (k + 1))
       case rel => exact ⟨k + 1, by have := hk.out; omega, by go_num, hidI (by rw [hnx.out]; exact hrow2.out), hbz⟩
       case measure => have := hk.out; omega
      have q1t : (l == y') = true := by rw [beq_iff_eq]; exact q1
      by_cases q2 : t = x
      case neg =>
       have q2t : (t == x) = false := by rw [beq_eq_false_iff_ne]; exact q2
       replace hnx := hidI (hnx.trans (show stepE x y o (f, l, t) = o by unfold stepE; rw [if_neg (by rintro ⟨h, _⟩; omega), if_neg (by rintro ⟨_, _, h⟩; exact q2 h)]))
       replace q1 := hidI q1
       replace q2 := hidI q2
       go_wp2
       rw [← hw2.out]
       go_wp2
       go_roundg (n - (k + 1))
       case rel => exact ⟨k + 1, by have := hk.out; omega, by go_num, hidI (by rw [hnx.out]; exact hrow2.out), hbz⟩
       case measure => have := hk.out; omega
      have q2t : (t == x) = true := by rw [beq_iff_eq]; exact q2
      replace hnx := hidI (hnx.trans (show stepE x y o (f, l, t) = addZ f o by unfold stepE; rw [if_neg (by rintro ⟨h, _⟩; omega), if_pos ⟨hy0, by rw [hy2]; exact q1, q2⟩]))
      replace q1 := hidI q1
      replace q2 := hidI q2
      go_wp2_with fail
      rw [← hw2.out]
      go_wp2_with fail
      refine hcf.mono ?_
      rintro e w3 ⟨v3, rfl, hrow3, hb3⟩
      have hrow3' := hidI (show RowI w3 w.heap.size w3.heap.size v3 (stepsE x y (es.take (k + 1))) by rw [hnx.out]; exact hrow3.wide (Nat.le_trans hsw hb2.size) (Nat.le_refl _))
      have hbq := hidI (hbz.out.trans (hb3.mono (Nat.le_trans hb.out.size hb2.size)))
      clear hrow3 hb3 hrow2 hcf hct
      go_wp2
      go_roundg (n - (k + 1))
      case rel => exact ⟨k + 1, by have := hk.out; omega, by go_num, hrow3', hbq⟩
      case measure => have := hk.out; omega
    · have hy3 : ¬ 0 < y := by omega
      have hy4 : ¬ y < 0 := by omega
      replace hnx := hidI (hnx.trans (show stepE x y o (f, l, t) = o by unfold stepE; rw [if_neg (by rintro ⟨h, _⟩; omega), if_neg (by rintro ⟨h, _⟩; omega)]))
      replace hy0 := hidI hy0
      go_wp2
      rw [← hw2.out]
      go_wp2
      go_roundg (n - (k + 1))
      case rel => exact ⟨k + 1, by have := hk.out; omega, by go_num, hidI (by rw [hnx.out]; exact hrow2.out), hbz⟩
      case measure => have := hk.out; omega
    · have hy4 : ¬ y < 0 := by omega
      by_cases q1 : l = y
      case neg =>
       have q1t : (l == y) = false := by rw [beq_eq_false_iff_ne]; exact q1
       replace hnx := hidI (hnx.trans (show stepE x y o (f, l, t) = o by unfold stepE; rw [if_neg (by rintro ⟨_, h, _⟩; exact q1 h), if_neg (by rintro ⟨h, _⟩; omega)]))
       replace q1 := hidI q1
       go_wp2
       rw [← hw2.out]
       go_wp2
       go_roundg (n - (k + 1))
       case rel => exact ⟨k + 1, by have := hk.out; omega, by go_num, hidI (by rw [hnx.out]; exact hrow2.out), hbz⟩
       case measure => have := hk.out; omega
      have q1t : (l == y) = true := by rw [beq_iff_eq]; exact q1
      by_cases q2 : f = x
      case neg =>
       have q2t : (f == x) = false := by rw [beq_eq_false_iff_ne]; exact q2
       replace hnx := hidI (hnx.trans (show stepE x y o (f, l, t) = o by unfold stepE; rw [if_neg (by rintro ⟨_, _, h⟩; exact q2 h), if_neg (by rintro ⟨h, _⟩; omega)]))
       replace q1 := hidI q1
       replace q2 := hidI q2
       go_wp2
       rw [← hw2.out]
       go_wp2
       go_roundg (n - (k + 1))
       case rel => exact ⟨k + 1, by have := hk.out; omega, by go_num, hidI (by rw [hnx.out]; exact hrow2.out), hbz⟩
       case measure => have := hk.out; omega
      have q2t : (f == x) = true := by rw [beq_iff_eq]; exact q2
      replace hnx := hidI (hnx.trans (show stepE x y o (f, l, t) = addZ t o by unfold stepE; rw [if_pos ⟨hy0, q1, q2⟩]))
      replace q1 := hidI q1
      replace q2 := hidI q2
      go_wp2_with fail
      rw [← hw2.out]
      go_wp2_with fail
      refine hct.mono ?_
      rintro e w3 ⟨v3, rfl, hrow3, hb3⟩
      have hrow3' := hidI (show RowI w3 w.heap.size w3.heap.size v3 (stepsE x y (es.take (k + 1))) by rw [hnx.out]; exact hrow3.wide (Nat.le_trans hsw hb2.size) (Nat.le_refl _))
      have hbq := hidI (hbz.out.trans (hb3.mono (Nat.le_trans hb.out.size hb2.size)))
      clear hrow3 hb3 hrow2 hcf hct
      go_wp2
      go_roundg (n - (k + 1))
      case rel => exact ⟨k + 1, by have := hk.out; omega, by go_num, hrow3', hbq⟩
      case measure => have := hk.out; omega
  · obtain rfl : k = n := by omega
    have hfull : es.take k = es := List.take_of_length_le (by rw [← hn.out]; omega)
    rw [hfull] at ho
    have hki : ¬ (k : Int) < (k : Int) := by omega
    have hbz := hb1.trans (hb.out.mono hb1.size)
    replace ho := hidI ho
    replace hfull := hidI hfull
    go_wp2
    go_ret
    exact ⟨_, rfl, by rw [← ho.out]; exact hrow.out, hbz⟩
theorem mem_addZ {x y : Int} : ∀ {l : List Int}, y ∈ addZ x l ↔ y = x ∨ y ∈ l := by
 intro l
 induction l with
 | nil => rw [addZ_nil]; simp
 | cons z zs ih =>
  rcases Int.lt_trichotomy z x with h | h | h
  · rw [addZ_lt zs h, List.mem_cons, ih, List.mem_cons]
    constructor
    · rintro (h1 | h1 | h1)
      · exact .inr (.inl h1)
      · exact .inl h1
      · exact .inr (.inr h1)
    · rintro (h1 | h1 | h1)
      · exact .inr (.inl h1)
      · exact .inl h1
      · exact .inr (.inr h1)
  · rw [addZ_eq zs h]
    constructor
    · intro h1; exact .inr h1
    · rintro (h1 | h1)
      · rw [h1, ← h]; exact List.mem_cons_self
      · exact h1
  · rw [addZ_gt zs h, List.mem_cons]
def Leads (v x : Int) (e : Ed) (y : Int) : Prop := (0 < x ∧ e.2.1 = x ∧ e.1 = v ∧ y = e.2.2) ∨ (x < 0 ∧ e.2.1 = wrap64 (-x) ∧ e.2.2 = v ∧ y = e.1)
theorem mem_stepE {v x y : Int} {acc : List Int} {e : Ed} : y ∈ stepE v x acc e ↔ y ∈ acc ∨ Leads v x e y := by
 unfold stepE Leads
 split
 · rename_i h
   rw [mem_addZ]
   constructor
   · rintro (h1 | h1)
     · exact .inr (.inl ⟨h.1, h.2.1, h.2.2, h1⟩)
     · exact .inl h1
   · rintro (h1 | ⟨_, _, _, h1⟩ | ⟨h1, _⟩)
     · exact .inr h1
     · exact .inl h1
     · omega
 · rename_i h
   split
   · rename_i h2
     rw [mem_addZ]
     constructor
     · rintro (h1 | h1)
       · exact .inr (.inr ⟨h2.1, h2.2.1, h2.2.2, h1⟩)
       · exact .inl h1
     · rintro (h1 | ⟨h1, _⟩ | ⟨_, _, _, h1⟩)
       · exact .inr h1
       · omega
       · exact .inl h1
   · rename_i h2
     constructor
     · intro h1; exact .inl h1
     · rintro (h1 | ⟨a, b, c, _⟩ | ⟨a, b, c, _⟩)
       · exact h1
       · exact absurd ⟨a, b, c⟩ h
       · exact absurd ⟨a, b, c⟩ h2
theorem mem_foldE {v x y : Int} : ∀ (es : List Ed) (acc : List Int), y ∈ es.foldl (stepE v x) acc ↔ y ∈ acc ∨ ∃ e ∈ es, Leads v x e y := by
 intro es
 induction es with
 | nil => intro acc; simp
 | cons e es ih =>
  intro acc
  rw [List.foldl_cons, ih, mem_stepE]
  constructor
  · rintro ((h | h) | ⟨d, hd, h⟩)
    · exact .inl h
    · exact .inr ⟨e, List.mem_cons_self, h⟩
    · exact .inr ⟨d, List.mem_cons_of_mem _ hd, h⟩
  · rintro (h | ⟨d, hd, h⟩)
    · exact .inl (.inl h)
    · rcases List.mem_cons.1 hd with h1 | h1
      · rw [h1] at h; exact .inl (.inr h)
      · exact .inr ⟨d, h1, h⟩
theorem mem_stepsE {v x y : Int} {es : List Ed} : y ∈ stepsE v x es ↔ ∃ e ∈ es, Leads v x e y := by
 unfold stepsE
 rw [mem_foldE]
 simp
theorem asc_addZ {x : Int} : ∀ {l : List Int}, l.Pairwise (· < ·) → (addZ x l).Pairwise (· < ·) := by
 intro l
 induction l with
 | nil => intro _; rw [addZ_nil]; exact List.pairwise_singleton _ _
 | cons z zs ih =>
  intro h
  have hp := List.pairwise_cons.1 h
  rcases Int.lt_trichotomy z x with c | c | c
  · rw [addZ_lt zs c]
    refine List.pairwise_cons.2 ⟨fun y hy => ?_, ih hp.2⟩
    rcases mem_addZ.1 hy with hy | hy
    · rw [hy]; exact c
    · exact hp.1 y hy
  · rw [addZ_eq zs c]; exact h
  · rw [addZ_gt zs c]
    refine List.pairwise_cons.2 ⟨fun y hy => ?_, h⟩
    rcases List.mem_cons.1 hy with hy | hy
    · rw [hy]; exact c
    · exact Int.lt_trans c (hp.1 y hy)
theorem asc_stepsE {v x : Int} {es : List Ed} : (stepsE v x es).Pairwise (· < ·) := by
 unfold stepsE
 have key : ∀ (es : List Ed) (acc : List Int), acc.Pairwise (· < ·) → (es.foldl (stepE v x) acc).Pairwise (· < ·) := by
  intro es
  induction es with
  | nil => intro acc h; exact h
  | cons e es ih =>
   intro acc h
   rw [List.foldl_cons]
   refine ih _ ?_
   unfold stepE
   split
   · exact asc_addZ h
   · split
     · exact asc_addZ h
     · exact h
 exact key es [] List.Pairwise.nil
theorem asc_ext : ∀ {a b : List Int}, a.Pairwise (· < ·) → b.Pairwise (· < ·) → (∀ x, x ∈ a ↔ x ∈ b) → a = b := by
 intro a
 induction a with
 | nil =>
  intro b _ _ h
  cases b with
  | nil => rfl
  | cons y ys => exact absurd ((h y).2 List.mem_cons_self) (by simp)
 | cons x xs ih =>
  intro b ha hb h
  cases b with
  | nil => exact absurd ((h x).1 List.mem_cons_self) (by simp)
  | cons y ys =>
   have pa := List.pairwise_cons.1 ha
   have pb := List.pairwise_cons.1 hb
   have hxy : x = y := by
    rcases List.mem_cons.1 ((h x).1 List.mem_cons_self) with h1 | h1
    · exact h1
    · rcases List.mem_cons.1 ((h y).2 List.mem_cons_self) with h2 | h2
      · exact h2.symm
      · have := pb.1 x h1; have := pa.1 y h2; omega
   subst hxy
   rw [ih pa.2 pb.2 (fun z => ?_)]
   constructor
   · intro hz
     rcases List.mem_cons.1 ((h z).1 (List.mem_cons_of_mem _ hz)) with h1 | h1
     · have := pa.1 z hz; omega
     · exact h1
   · intro hz
     rcases List.mem_cons.1 ((h z).2 (List.mem_cons_of_mem _ hz)) with h1 | h1
     · have := pb.1 z hz; omega
     · exact h1
def Meets (a b : Ed) : Prop := a.2.1 = b.2.1 ∧ (a.1 = b.1 ∨ a.2.2 = b.2.2)
instance (a b : Ed) : Decidable (Meets a b) := by unfold Meets; infer_instance
def apartE (es : List Ed) (i : Nat) : Nat → Bool
 | 0 => true
 | k + 1 => apartE es i k && !decide (Meets (es.getD i e0) (es.getD k e0))
def foldB (es : List Ed) : Nat → Bool
 | 0 => true
 | k + 1 => foldB es k && apartE es k k
def isFo (r s : Int) (es : List Ed) : Bool := isGr r s es && foldB es es.length
theorem apartE_iff {es : List Ed} {i : Nat} : ∀ {n : Nat}, apartE es i n = true ↔ ∀ k, k < n → ¬ Meets (es.getD i e0) (es.getD k e0) := by
 intro n
 induction n with
 | zero => simp [apartE]
 | succ n ih =>
  rw [apartE, Bool.and_eq_true, ih]
  constructor
  · rintro ⟨h1, h2⟩ k hk
    by_cases hkn : k = n
    · subst hkn; simpa using h2
    · exact h1 k (by omega)
  · intro h
    exact ⟨fun k hk => h k (by omega), by simpa using h n (by omega)⟩
theorem foldB_iff {es : List Ed} : ∀ {n : Nat}, foldB es n = true ↔ ∀ i, i < n → ∀ k, k < i → ¬ Meets (es.getD i e0) (es.getD k e0) := by
 intro n
 induction n with
 | zero => simp [foldB]
 | succ n ih =>
  rw [foldB, Bool.and_eq_true, ih, apartE_iff]
  constructor
  · rintro ⟨h1, h2⟩ i hi k hk
    by_cases hin : i = n
    · subst hin; exact h2 k hk
    · exact h1 i (by omega) k hk
  · intro h
    exact ⟨fun i hi k hk => h i (by omega) k hk, fun k hk => h n (by omega) k hk⟩
theorem foldB_not {es : List Ed} {i k n : Nat} (hi : i < n) (hk : k < i) (h : Meets (es.getD i e0) (es.getD k e0)) : foldB es n = false := by
 cases e : foldB es n with
 | false => rfl
 | true => exact absurd h (foldB_iff.1 e i hi k hk)
theorem isGr_at {r s : Int} {es : List Ed} (hs : -9223372036854775808 ≤ s) (h : isGr r s es = true) {i : Nat} (hi : i < es.length) :
 (0 ≤ (es.getD i e0).1 ∧ (es.getD i e0).1 < s) ∧ (1 ≤ (es.getD i e0).2.1 ∧ (es.getD i e0).2.1 ≤ r) ∧ (0 ≤ (es.getD i e0).2.2 ∧ (es.getD i e0).2.2 < s) := by
 obtain ⟨h1, h2, h3, h4, h5, h6⟩ := isGr_iff.1 h
 have hp := h1 i hi
 unfold placeOk edgeOk at hp
 simp only [Bool.and_eq_true, decide_eq_true_eq] at hp
 have hw : wrap64 (s - 1) = s - 1 := by unfold wrap64; omega
 rw [hw] at hp
 omega
theorem isGr_lim {r s : Int} {es : List Ed} (h : isGr r s es = true) : 1 ≤ r ∧ r ≤ 3 ∧ 1 ≤ s ∧ s ≤ 40 ∧ es.length ≤ 120 := (isGr_iff.1 h).2
def StepAt (es : List Ed) (v l y : Int) : Prop :=
 ∃ i, i < es.length ∧ ((v = (es.getD i e0).1 ∧ l = (es.getD i e0).2.1 ∧ y = (es.getD i e0).2.2) ∨ (v = (es.getD i e0).2.2 ∧ l = -(es.getD i e0).2.1 ∧ y = (es.getD i e0).1))
theorem mem_getD {es : List Ed} {P : Ed → Prop} : (∃ e ∈ es, P e) ↔ ∃ i, i < es.length ∧ P (es.getD i e0) := by
 constructor
 · rintro ⟨e, he, h⟩
   obtain ⟨i, hi, rfl⟩ := List.getElem_of_mem he
   exact ⟨i, hi, by simpa [List.getD_eq_getElem?_getD, hi] using h⟩
 · rintro ⟨i, hi, h⟩
   exact ⟨es[i], List.getElem_mem hi, by simpa [List.getD_eq_getElem?_getD, hi] using h⟩
theorem stepAt_iff {r s : Int} {es : List Ed} (hg : isGr r s es = true) {v l y : Int} (hl : -9223372036854775808 ≤ l ∧ l ≤ 9223372036854775807) : y ∈ stepsE v l es ↔ StepAt es v l y := by
 obtain ⟨h2, h3, h4, h5, h6⟩ := isGr_lim hg
 rw [mem_stepsE, mem_getD]
 constructor
 · rintro ⟨i, hi, h⟩
   obtain ⟨b1, b2, b3⟩ := isGr_at (by omega) hg hi
   refine ⟨i, hi, ?_⟩
   rcases h with ⟨a, b, c, d⟩ | ⟨a, b, c, d⟩
   · exact .inl ⟨c.symm, b.symm, d⟩
   · refine .inr ⟨c.symm, ?_, d⟩
     unfold wrap64 at b; omega
 · rintro ⟨i, hi, h⟩
   obtain ⟨b1, b2, b3⟩ := isGr_at (by omega) hg hi
   refine ⟨i, hi, ?_⟩
   rcases h with ⟨a, b, c⟩ | ⟨a, b, c⟩
   · exact .inl ⟨by omega, b.symm, a.symm, c⟩
   · exact .inr ⟨by omega, by unfold wrap64; omega, a.symm, c⟩
theorem stepAt_uniq {r s : Int} {es : List Ed} (hg : isGr r s es = true) (hf : foldB es es.length = true) {v l y z : Int} (h1 : StepAt es v l y) (h2 : StepAt es v l z) : y = z := by
 obtain ⟨g2, g3, g4, g5, g6⟩ := isGr_lim hg
 obtain ⟨i, hi, h1⟩ := h1
 obtain ⟨j, hj, h2⟩ := h2
 obtain ⟨b1, b2, b3⟩ := isGr_at (by omega) hg hi
 obtain ⟨c1, c2, c3⟩ := isGr_at (by omega) hg hj
 have hF := foldB_iff.1 hf
 by_cases hij : i = j
 · subst hij; omega
 · exfalso
   have key : Meets (es.getD i e0) (es.getD j e0) ∧ Meets (es.getD j e0) (es.getD i e0) := by
    unfold Meets
    rcases h1 with ⟨a, b, c⟩ | ⟨a, b, c⟩ <;> rcases h2 with ⟨a', b', c'⟩ | ⟨a', b', c'⟩
    · exact ⟨⟨by omega, .inl (by omega)⟩, ⟨by omega, .inl (by omega)⟩⟩
    · omega
    · omega
    · exact ⟨⟨by omega, .inr (by omega)⟩, ⟨by omega, .inr (by omega)⟩⟩
   rcases Nat.lt_or_ge i j with h | h
   · exact hF j hj i h key.2
   · exact hF i hi j (by omega) key.1
theorem stepAt_vert {r s : Int} {es : List Ed} (hg : isGr r s es = true) {v l y : Int} (h : StepAt es v l y) : (0 ≤ v ∧ v < s) ∧ (0 ≤ y ∧ y < s) ∧ (-r ≤ l ∧ l ≤ r ∧ l ≠ 0) := by
 obtain ⟨g2, g3, g4, g5, g6⟩ := isGr_lim hg
 obtain ⟨i, hi, h⟩ := h
 obtain ⟨b1, b2, b3⟩ := isGr_at (by omega) hg hi
 omega
def nxV (es : List Ed) (v l : Int) : Int := (stepsE v l es).headD (-1)
theorem nx_at {r s : Int} {es : List Ed} (hg : isGr r s es = true) (hf : foldB es es.length = true) {v l y : Int} (h : StepAt es v l y) : nxV es v l = y := by
 have hv := stepAt_vert hg h
 obtain ⟨g2, g3, g4, g5, g6⟩ := isGr_lim hg
 have e : stepsE v l es = [y] := by
  refine asc_ext asc_stepsE (List.pairwise_singleton _ _) fun z => ?_
  rw [stepAt_iff hg (by omega), List.mem_singleton]
  exact ⟨fun hz => stepAt_uniq hg hf hz h, fun hz => by rw [hz]; exact h⟩
 unfold nxV
 rw [e]; rfl
theorem nx_no {r s : Int} {es : List Ed} (hg : isGr r s es = true) {v l : Int} (hl : -9223372036854775808 ≤ l ∧ l ≤ 9223372036854775807) (h : ∀ y, ¬ StepAt es v l y) : nxV es v l = -1 := by
 have e : stepsE v l es = [] := by
  refine List.eq_nil_iff_forall_not_mem.2 fun y hy => h y ((stepAt_iff hg hl).1 hy)
 unfold nxV
 rw [e]; rfl
theorem nx_cases {r s : Int} {es : List Ed} (hg : isGr r s es = true) (hf : foldB es es.length = true) {v l : Int} (hl : -9223372036854775808 ≤ l ∧ l ≤ 9223372036854775807) :
 (StepAt es v l (nxV es v l) ∧ 0 ≤ nxV es v l ∧ nxV es v l < s) ∨ (nxV es v l = -1 ∧ ∀ y, ¬ StepAt es v l y) := by
 by_cases h : ∃ y, StepAt es v l y
 · obtain ⟨y, hy⟩ := h
   rw [nx_at hg hf hy]
   exact .inl ⟨hy, (stepAt_vert hg hy).2.1⟩
 · have h' : ∀ y, ¬ StepAt es v l y := fun y hy => h ⟨y, hy⟩
   exact .inr ⟨nx_no hg hl h', h'⟩
def isVx (s v : Int) : Bool := decide (0 ≤ v ∧ v < s)
def touch1 (acc : List Int) (e : Ed) : List Int := if e.1 ∈ acc then addZ e.2.2 acc else acc
def touchE (acc : List Int) (e : Ed) : List Int := if e.2.2 ∈ touch1 acc e then addZ e.1 (touch1 acc e) else touch1 acc e
def passE (es : List Ed) (acc : List Int) : List Int := es.foldl touchE acc
def passN (es : List Ed) : Nat → List Int → List Int
 | 0, acc => acc
 | k + 1, acc => passE es (passN es k acc)
def reachL (es : List Ed) (v : Int) : List Int := passN es (es.length + 1) [v]
theorem mem_touchE {acc : List Int} {e : Ed} {y : Int} : y ∈ touchE acc e ↔ y ∈ acc ∨ ((e.1 ∈ acc ∨ e.2.2 ∈ acc) ∧ (y = e.1 ∨ y = e.2.2)) := by
 unfold touchE touch1
 by_cases h1 : e.1 ∈ acc
 · rw [if_pos h1, if_pos (mem_addZ.2 (.inl rfl)), mem_addZ, mem_addZ]
   constructor
   · rintro (h | h | h)
     · exact .inr ⟨.inl h1, .inl h⟩
     · exact .inr ⟨.inl h1, .inr h⟩
     · exact .inl h
   · rintro (h | ⟨_, h | h⟩)
     · exact .inr (.inr h)
     · exact .inl h
     · exact .inr (.inl h)
 · rw [if_neg h1]
   by_cases h2 : e.2.2 ∈ acc
   · rw [if_pos h2, mem_addZ]
     constructor
     · rintro (h | h)
       · exact .inr ⟨.inr h2, .inl h⟩
       · exact .inl h
     · rintro (h | ⟨_, h | h⟩)
       · exact .inr h
       · exact .inl h
       · exact .inr (by rw [h]; exact h2)
   · rw [if_neg h2]
     constructor
     · exact fun h => .inl h
     · rintro (h | ⟨h | h, _⟩)
       · exact h
       · exact absurd h h1
       · exact absurd h h2
theorem asc_touch1 {acc : List Int} {e : Ed} (h : acc.Pairwise (· < ·)) : (touch1 acc e).Pairwise (· < ·) := by
 unfold touch1; split
 · exact asc_addZ h
 · exact h
theorem asc_touchE {acc : List Int} {e : Ed} (h : acc.Pairwise (· < ·)) : (touchE acc e).Pairwise (· < ·) := by
 unfold touchE; split
 · exact asc_addZ (asc_touch1 h)
 · exact asc_touch1 h
theorem asc_passE : ∀ (es : List Ed) {acc : List Int}, acc.Pairwise (· < ·) → (passE es acc).Pairwise (· < ·) := by
 intro es
 induction es with
 | nil => intro acc h; exact h
 | cons e es ih => intro acc h; exact ih (asc_touchE h)
theorem asc_passN (es : List Ed) {acc : List Int} (h : acc.Pairwise (· < ·)) : ∀ k, (passN es k acc).Pairwise (· < ·) := by
 intro k
 induction k with
 | zero => exact h
 | succ k ih => exact asc_passE es ih
theorem sub_passE : ∀ (es : List Ed) {acc : List Int} {y : Int}, y ∈ acc → y ∈ passE es acc := by
 intro es
 induction es with
 | nil => intro acc y h; exact h
 | cons e es ih => intro acc y h; exact ih (mem_touchE.2 (.inl h))
theorem touch_same {acc : List Int} {e : Ed} (ha : acc.Pairwise (· < ·)) (h : e.1 ∈ acc ↔ e.2.2 ∈ acc) : touchE acc e = acc := by
 refine asc_ext (asc_touchE ha) ha fun y => ?_
 rw [mem_touchE]
 constructor
 · rintro (h1 | ⟨h1, h2 | h2⟩)
   · exact h1
   · rw [h2]; rcases h1 with h1 | h1
     · exact h1
     · exact h.2 h1
   · rw [h2]; rcases h1 with h1 | h1
     · exact h.1 h1
     · exact h1
 · exact fun h1 => .inl h1
theorem pass_same : ∀ {es : List Ed} {acc : List Int}, acc.Pairwise (· < ·) → (∀ e ∈ es, e.1 ∈ acc ↔ e.2.2 ∈ acc) → passE es acc = acc := by
 intro es
 induction es with
 | nil => intro acc _ _; rfl
 | cons e es ih =>
  intro acc ha h
  show passE es (touchE acc e) = acc
  rw [touch_same ha (h e List.mem_cons_self)]
  exact ih ha fun e' he' => h e' (List.mem_cons_of_mem _ he')
theorem pass_both : ∀ {es : List Ed} {acc : List Int} {e : Ed}, e ∈ es → e.1 ∈ acc ∨ e.2.2 ∈ acc → e.1 ∈ passE es acc ∧ e.2.2 ∈ passE es acc := by
 intro es
 induction es with
 | nil => intro acc e h; cases h
 | cons e' es ih =>
  intro acc e he h
  show e.1 ∈ passE es (touchE acc e') ∧ e.2.2 ∈ passE es (touchE acc e')
  rcases List.mem_cons.1 he with rfl | he
  · exact ⟨sub_passE es (mem_touchE.2 (.inr ⟨h, .inl rfl⟩)), sub_passE es (mem_touchE.2 (.inr ⟨h, .inr rfl⟩))⟩
  · exact ih he (h.imp (fun h => mem_touchE.2 (.inl h)) (fun h => mem_touchE.2 (.inl h)))
theorem pass_or {es : List Ed} {acc : List Int} (ha : acc.Pairwise (· < ·)) : passE es acc = acc ∨ ∃ e ∈ es, (e.1 ∈ acc ∧ e.2.2 ∉ acc) ∨ (e.2.2 ∈ acc ∧ e.1 ∉ acc) := by
 by_cases h : ∃ e ∈ es, (e.1 ∈ acc ∧ e.2.2 ∉ acc) ∨ (e.2.2 ∈ acc ∧ e.1 ∉ acc)
 · exact .inr h
 · refine .inl (pass_same ha fun e he => ?_)
   constructor
   · intro h1
     by_cases h2 : e.2.2 ∈ acc
     · exact h2
     · exact absurd ⟨e, he, .inl ⟨h1, h2⟩⟩ h
   · intro h1
     by_cases h2 : e.1 ∈ acc
     · exact h2
     · exact absurd ⟨e, he, .inr ⟨h1, h2⟩⟩ h
theorem cnt_le {α : Type} {p q : α → Bool} : ∀ {l : List α}, (∀ x ∈ l, p x = true → q x = true) → l.countP p ≤ l.countP q := by
 intro l
 induction l with
 | nil => intro _; simp
 | cons a l ih =>
  intro h
  have h1 := ih fun x hx => h x (List.mem_cons_of_mem _ hx)
  have h2 := h a List.mem_cons_self
  rw [List.countP_cons, List.countP_cons]
  cases hp : p a
  · simp; omega
  · rw [h2 hp]; simp; exact h1
theorem cnt_lt {α : Type} {p q : α → Bool} : ∀ {l : List α}, (∀ x ∈ l, p x = true → q x = true) → (∃ x ∈ l, q x = true ∧ p x = false) → l.countP p + 1 ≤ l.countP q := by
 intro l
 induction l with
 | nil => rintro _ ⟨x, hx, _⟩; cases hx
 | cons a l ih =>
  rintro h ⟨x, hx, h1, h2⟩
  rw [List.countP_cons, List.countP_cons]
  rcases List.mem_cons.1 hx with rfl | hx
  · have := cnt_le (l := l) (p := p) (q := q) fun y hy => h y (List.mem_cons_of_mem _ hy)
    rw [h1, h2]; simp; exact this
  · have i := ih (fun y hy => h y (List.mem_cons_of_mem _ hy)) ⟨x, hx, h1, h2⟩
    have h3 := h a List.mem_cons_self
    cases hp : p a
    · simp; omega
    · rw [h3 hp]; simp; omega
def inC (es : List Ed) (acc : List Int) : Nat := es.countP fun e => decide (e.1 ∈ acc ∧ e.2.2 ∈ acc)
def vxC (s : Nat) (acc : List Int) : Nat := (List.range s).countP fun (u : Nat) => decide ((u : Int) ∈ acc)
theorem inC_le (es : List Ed) (acc : List Int) : inC es acc ≤ es.length := List.countP_le_length
theorem vxC_le (s : Nat) (acc : List Int) : vxC s acc ≤ s := by
 have : vxC s acc ≤ (List.range s).length := List.countP_le_length
 simpa using this
theorem inC_more {es : List Ed} {acc : List Int} (h : ∃ e ∈ es, (e.1 ∈ acc ∧ e.2.2 ∉ acc) ∨ (e.2.2 ∈ acc ∧ e.1 ∉ acc)) : inC es acc + 1 ≤ inC es (passE es acc) := by
 obtain ⟨e, he, h⟩ := h
 refine cnt_lt (fun x hx hp => ?_) ⟨e, he, ?_, ?_⟩
 · have hp' := of_decide_eq_true hp
   exact decide_eq_true ⟨sub_passE es hp'.1, sub_passE es hp'.2⟩
 · exact decide_eq_true (pass_both (acc := acc) he (by rcases h with h | h <;> simp [h.1]))
 · rw [decide_eq_false_iff_not]
   rintro ⟨h1, h2⟩
   rcases h with h | h
   · exact h.2 h2
   · exact h.2 h1
def EndsIn (s : Nat) (es : List Ed) : Prop := ∀ e ∈ es, (0 ≤ e.1 ∧ e.1 < (s : Int)) ∧ (0 ≤ e.2.2 ∧ e.2.2 < (s : Int))
theorem vxC_more {s : Nat} {es : List Ed} {acc : List Int} (hE : EndsIn s es) (h : ∃ e ∈ es, (e.1 ∈ acc ∧ e.2.2 ∉ acc) ∨ (e.2.2 ∈ acc ∧ e.1 ∉ acc)) : vxC s acc + 1 ≤ vxC s (passE es acc) := by
 obtain ⟨e, he, h⟩ := h
 have hb := pass_both (acc := acc) he (by rcases h with h | h <;> simp [h.1])
 have hv : ∃ y : Int, 0 ≤ y ∧ y < (s : Int) ∧ y ∈ passE es acc ∧ y ∉ acc := by
  rcases h with h | h
  · exact ⟨e.2.2, (hE e he).2.1, (hE e he).2.2, hb.2, h.2⟩
  · exact ⟨e.1, (hE e he).1.1, (hE e he).1.2, hb.1, h.2⟩
 obtain ⟨y, y0, y1, y2, y3⟩ := hv
 have hy : ((y.toNat : Nat) : Int) = y := by omega
 refine cnt_lt (fun x hx hp => decide_eq_true (sub_passE es (of_decide_eq_true hp))) ⟨y.toNat, List.mem_range.2 (by omega), ?_, ?_⟩
 · rw [hy]; exact decide_eq_true y2
 · rw [hy]; exact decide_eq_false y3
theorem passN_or_in {es : List Ed} {acc : List Int} (ha : acc.Pairwise (· < ·)) : ∀ k, (∃ j, j < k ∧ passE es (passN es j acc) = passN es j acc) ∨ k ≤ inC es (passN es k acc) := by
 intro k
 induction k with
 | zero => exact .inr (Nat.zero_le _)
 | succ k ih =>
  rcases ih with ⟨j, hj, h⟩ | h
  · exact .inl ⟨j, by omega, h⟩
  · rcases pass_or (es := es) (asc_passN es ha k) with h2 | h2
    · exact .inl ⟨k, by omega, h2⟩
    · have := inC_more h2
      exact .inr (by show k + 1 ≤ inC es (passE es (passN es k acc)); omega)
theorem passN_or_vx {s : Nat} {es : List Ed} {acc : List Int} (hE : EndsIn s es) (ha : acc.Pairwise (· < ·)) (h0 : 1 ≤ vxC s acc) : ∀ k, (∃ j, j < k ∧ passE es (passN es j acc) = passN es j acc) ∨ k + 1 ≤ vxC s (passN es k acc) := by
 intro k
 induction k with
 | zero => exact .inr h0
 | succ k ih =>
  rcases ih with ⟨j, hj, h⟩ | h
  · exact .inl ⟨j, by omega, h⟩
  · rcases pass_or (es := es) (asc_passN es ha k) with h2 | h2
    · exact .inl ⟨k, by omega, h2⟩
    · have := vxC_more hE h2
      exact .inr (by show k + 1 + 1 ≤ vxC s (passE es (passN es k acc)); omega)
theorem passN_stay {es : List Ed} {acc : List Int} {j : Nat} (h : passE es (passN es j acc) = passN es j acc) : ∀ m, passN es (j + m) acc = passN es j acc := by
 intro m
 induction m with
 | zero => rfl
 | succ m ih => show passE es (passN es (j + m) acc) = _; rw [ih, h]
theorem reach_rounds {s : Nat} {es : List Ed} {v : Int} (hE : EndsIn s es) (hv : 0 ≤ v ∧ v < (s : Int)) : passN es s [v] = reachL es v := by
 have ha : [v].Pairwise (fun a b : Int => a < b) := List.pairwise_singleton _ _
 have h0 : 1 ≤ vxC s [v] := by
  refine List.one_le_countP_iff.2 ⟨v.toNat, List.mem_range.2 (by omega), ?_⟩
  exact decide_eq_true (by rw [show ((v.toNat : Nat) : Int) = v by omega]; simp)
 have h1 : ∃ j, j < s ∧ passE es (passN es j [v]) = passN es j [v] := by
  rcases passN_or_vx hE ha h0 s with h | h
  · exact h
  · have := vxC_le s (passN es s [v]); omega
 have h2 : ∃ j, j < es.length + 1 ∧ passE es (passN es j [v]) = passN es j [v] := by
  rcases passN_or_in (es := es) ha (es.length + 1) with h | h
  · exact h
  · have := inC_le es (passN es (es.length + 1) [v]); omega
 obtain ⟨j, hj, h1⟩ := h1
 obtain ⟨i, hi, h2⟩ := h2
 have a1 := passN_stay h1 (s - j)
 have a2 := passN_stay h1 (s + es.length + 1 - j)
 have b1 := passN_stay h2 (es.length + 1 - i)
 have b2 := passN_stay h2 (s + es.length + 1 - i)
 rw [show j + (s - j) = s by omega] at a1
 rw [show j + (s + es.length + 1 - j) = s + es.length + 1 by omega] at a2
 rw [show i + (es.length + 1 - i) = es.length + 1 by omega] at b1
 rw [show i + (s + es.length + 1 - i) = s + es.length + 1 by omega] at b2
 unfold reachL
 rw [a1, b1, ← a2, b2]
theorem passE_in {s : Nat} : ∀ {es : List Ed} {acc : List Int}, EndsIn s es → (∀ y ∈ acc, 0 ≤ y ∧ y < (s : Int)) → ∀ y ∈ passE es acc, 0 ≤ y ∧ y < (s : Int) := by
 intro es
 induction es with
 | nil => intro acc _ h; exact h
 | cons e es ih =>
  intro acc hE h
  refine ih (fun e' he' => hE e' (List.mem_cons_of_mem _ he')) fun y hy => ?_
  rcases mem_touchE.1 hy with h1 | ⟨_, h1 | h1⟩
  · exact h y h1
  · rw [h1]; exact (hE e List.mem_cons_self).1
  · rw [h1]; exact (hE e List.mem_cons_self).2
theorem passN_in {s : Nat} {es : List Ed} {acc : List Int} (hE : EndsIn s es) (h : ∀ y ∈ acc, 0 ≤ y ∧ y < (s : Int)) : ∀ k, ∀ y ∈ passN es k acc, 0 ≤ y ∧ y < (s : Int) := by
 intro k
 induction k with
 | zero => exact h
 | succ k ih => exact passE_in hE ih
def upTo (L : List Int) : Nat → List Int
 | 0 => []
 | k + 1 => if (k : Int) ∈ L then upTo L k ++ [(k : Int)] else upTo L k
theorem mem_upTo {L : List Int} {y : Int} : ∀ {k : Nat}, y ∈ upTo L k ↔ y ∈ L ∧ 0 ≤ y ∧ y < (k : Int) := by
 intro k
 induction k with
 | zero =>
  constructor
  · intro h; cases h
  · rintro ⟨_, h1, h2⟩; omega
 | succ k ih =>
  unfold upTo
  split
  case isTrue hk =>
   rw [List.mem_append, ih, List.mem_singleton]
   constructor
   · rintro (⟨h1, h2, h3⟩ | rfl)
     · exact ⟨h1, h2, by omega⟩
     · exact ⟨hk, by omega, by omega⟩
   · rintro ⟨h1, h2, h3⟩
     by_cases h4 : y = (k : Int)
     · exact .inr h4
     · exact .inl ⟨h1, h2, by omega⟩
  case isFalse hk =>
   rw [ih]
   constructor
   · rintro ⟨h1, h2, h3⟩; exact ⟨h1, h2, by omega⟩
   · rintro ⟨h1, h2, h3⟩
     by_cases h4 : y = (k : Int)
     · exact absurd (h4 ▸ h1) hk
     · exact ⟨h1, h2, by omega⟩
theorem asc_upTo {L : List Int} : ∀ k : Nat, (upTo L k).Pairwise (· < ·) := by
 intro k
 induction k with
 | zero => exact List.Pairwise.nil
 | succ k ih =>
  unfold upTo
  split
  · rw [List.pairwise_append]
    refine ⟨ih, List.pairwise_singleton _ _, fun a ha b hb => ?_⟩
    rw [List.mem_singleton] at hb
    have := (mem_upTo.1 ha).2.2
    omega
  · exact ih
theorem upTo_length (L : List Int) : ∀ k, (upTo L k).length ≤ k := by
 intro k
 induction k with
 | zero => simp [upTo]
 | succ k ih =>
  unfold upTo
  split
  · simp; omega
  · omega
theorem upTo_all {s : Nat} {es : List Ed} {v : Int} (hE : EndsIn s es) (hv : 0 ≤ v ∧ v < (s : Int)) : upTo (passN es s [v]) s = reachL es v := by
 rw [← reach_rounds hE hv]
 refine asc_ext (asc_upTo s) (asc_passN es (List.pairwise_singleton _ _) s) fun y => ?_
 rw [mem_upTo]
 constructor
 · exact fun h => h.1
 · intro h
   have := passN_in hE (acc := [v]) (fun y hy => by rw [List.mem_singleton] at hy; omega) s y h
   exact ⟨h, this.1, this.2⟩
theorem reachL_length {s : Nat} {es : List Ed} {v : Int} (hE : EndsIn s es) (hv : 0 ≤ v ∧ v < (s : Int)) : (reachL es v).length ≤ s := by
 rw [← upTo_all hE hv]
 exact upTo_length _ _
theorem endsIn_of {r s : Int} {es : List Ed} (h : isGr r s es = true) : EndsIn s.toNat es := by
 have hl := isGr_lim h
 intro e he
 obtain ⟨i, hi, rfl⟩ := List.getElem_of_mem he
 have := isGr_at (by omega) h hi
 rw [List.getD_eq_getElem?_getD, List.getElem?_eq_getElem hi] at this
 simp only [Option.getD_some] at this
 omega
def reachG (r s : Int) (es : List Ed) (v : Int) : List Int := if isGr r s es && isVx s v then reachL es v else []
theorem reachG_length (r s : Int) (es : List Ed) (v : Int) : (reachG r s es v).length ≤ 40 := by
 unfold reachG
 split
 · rename_i h
   rw [Bool.and_eq_true] at h
   have hl := isGr_lim h.1
   have hv := of_decide_eq_true h.2
   have := reachL_length (endsIn_of h.1) (v := v) (by omega)
   omega
 · simp
end Go.Proofs.YtpjlamnjiilgbaaGreat
