/- Graphs, the model: StepsFrom. -/
import Derived.Test.YtmecdboeckmmfaaGS8
namespace Go.Proofs.Ytmecdboeckmmfaa
open Go.RowKit
set_option linter.unusedVariables false
set_option linter.unusedSimpArgs false

/-- One edge's share in StepsFrom. -/
def stepE (v x : Int) (acc : List Int) (e : Ed) : List Int :=
  if 0 < x ∧ e.2.1 = x ∧ e.1 = v then addZ e.2.2 acc else if x < 0 ∧ e.2.1 = wrap64 (-x) ∧ e.2.2 = v then addZ e.1 acc else acc
def stepsE (v x : Int) (es : List Ed) : List Int := es.foldl (stepE v x) []
theorem stepE_length (v x : Int) (acc : List Int) (e : Ed) : (stepE v x acc e).length ≤ acc.length + 1 := by
  unfold stepE
  split
  · exact addZ_length _ _
  · split
    · exact addZ_length _ _
    · omega
theorem foldE_length (v x : Int) (es : List Ed) : ∀ acc, (es.foldl (stepE v x) acc).length ≤ acc.length + es.length := by
  induction es with
  | nil => intro acc; simp
  | cons e es ih =>
    intro acc
    have := ih (stepE v x acc e)
    have h2 := stepE_length v x acc e
    simp only [List.foldl_cons, List.length_cons]
    omega
theorem stepsE_length (v x : Int) (es : List Ed) : (stepsE v x es).length ≤ es.length := by
  have := foldE_length v x es []
  simpa [stepsE] using this
theorem stepsE_next {v x : Int} {es : List Ed} {k : Nat} (h : k < es.length) : stepsE v x (es.take (k + 1)) = stepE v x (stepsE v x (es.take k)) (es.getD k e0) := by
  unfold stepsE
  rw [take_one h, List.foldl_append]; rfl
set_option maxHeartbeats 1600000 in
theorem specSteps (w : World) (r s : Int) (v : Value) (es : List Ed) (x y : Int) (h : ReadE w.heap.size w v es) (hl : es.length ≤ 10000000) :
    Calls Try.prog 78 #[.agg #[.int .i64 r, .int .i64 s, v], .int .i64 x, .int .i64 y] w (IntsRet w (stepsE x y es)) := by
  obtain ⟨a, cap, rfl, hnc⟩ := h.form
  obtain ⟨n, hn⟩ : ∃ n, n = es.length := ⟨_, rfl⟩
  rw [← hn] at hl hnc ⊢
  rw [← hn] at h
  obtain ⟨w1, hw1⟩ : ∃ w1, w1 = w.alloc (.cells #[.int .i64 r, .int .i64 s, .slice a n cap] 30) := ⟨_, rfl⟩
  have hb1 : Below w.heap.size w w1 := by rw [hw1]; exact (Below.refl _ _).alloc (Nat.le_refl _) _
  have hs1 : w.heap.size < w1.heap.size := by rw [hw1]; simp
  obtain ⟨g0, g1, g2⟩ := box3 hw1
  have hrd := hidI (h.below hb1)
  have hs1e : w1.heap.size = w.heap.size + 1 := by rw [hw1]; simp
  have hrow0 : Hid (RowI (w1.alloc (.cells #[] 3)) w.heap.size (w1.alloc (.cells #[] 3)).heap.size (.slice (some ⟨w.heap.size + 1, 0, none⟩) 0 0) []) := by
    rw [← hs1e]
    exact hidI (((OwnsI.lit w1).row (by simp)).wide hb1.size (Nat.le_refl _))
  have hb0 := hidI ((Below.refl w1.heap.size w1).alloc (Nat.le_refl _) (.cells #[] 3))
  obtain ⟨y', hy'⟩ : ∃ y', y' = wrap64 (-y) := ⟨_, rfl⟩
  have hy2 := hy'.symm
  replace hy' := hidI hy'
  replace hn := hidI hn
  replace hw1 := hidI hw1
  replace hs1e := hidI hs1e
  replace h := hidI h
  go_enter Try.func78, Try.ntmps78
  go_wp2
  rw [← hw1.out]
  go_loopg [7, 8] n (fun g vv i wr => ∃ k : Nat, k + g = n ∧ i = .int .i64 k ∧ Hid (RowI wr w.heap.size wr.heap.size vv (stepsE x y (es.take k))) ∧ Hid (Below w1.heap.size w1 wr))
  case atStart => exact ⟨0, by omega, rfl, hrow0, hb0⟩
  case round =>
    clear hrow0 hb0
    obtain ⟨k, hk, rfl, hrow, hb⟩ := hrel
    have p2 := below_cell g2 hb.out hs1
    obtain ⟨o, ho⟩ : ∃ o, o = stepsE x y (es.take k) := ⟨_, rfl⟩
    have hol : o.length ≤ k := by
      rw [ho]
      have := stepsE_length x y (es.take k)
      rw [List.length_take] at this
      omega
    rw [← ho] at hrow
    by_cases hlt : k < n
    · obtain ⟨b, off, rfl, hB, c0, c1, c2⟩ := ReadE.at3 (hrd.out.below (hb.out.mono hb1.size)) k (by have := hn.out; omega)
      have hnx := stepsE_next (v := x) (x := y) (es := es) (k := k) (by have := hn.out; omega)
      obtain ⟨f, hf⟩ : ∃ z, z = (es.getD k e0).1 := ⟨_, rfl⟩
      obtain ⟨l, hll⟩ : ∃ z, z = (es.getD k e0).2.1 := ⟨_, rfl⟩
      obtain ⟨t, ht⟩ : ∃ z, z = (es.getD k e0).2.2 := ⟨_, rfl⟩
      have hke : es.getD k e0 = (f, l, t) := by rw [hf, hll, ht]
      rw [← hf] at c0
      rw [← hll] at c1
      rw [← ht] at c2
      rw [← ho, hke] at hnx
      have hki : (k : Int) < (n : Int) := by omega
      obtain ⟨w2, hw2⟩ : ∃ w2, w2 = wr.alloc (.cells #[.int .i64 f, .int .i64 l, .int .i64 t] 77) := ⟨_, rfl⟩
      have hb2 : Below wr.heap.size wr w2 := by rw [hw2]; exact (Below.refl _ _).alloc (Nat.le_refl _) _
      obtain ⟨e0', e1', e2'⟩ := box3 hw2
      have hrow2 := (hrow.out.below hb2 (Nat.le_refl _))
      have hbz := hidI (hb.out.trans (hb2.mono hb.out.size))
      have hcf := specAdd w2 _ o f (hrow2.read.mono hb2.size) (by omega)
      have hct := specAdd w2 _ o t (hrow2.read.mono hb2.size) (by omega)
      replace hrow2 := hidI (hrow2.wide (Nat.le_refl _) hb2.size)
      replace hf := hidI hf
      replace hll := hidI hll
      replace ht := hidI ht
      replace hke := hidI hke
      replace ho := hidI ho
      replace hk := hidI hk
      replace hw2 := hidI hw2
      clear hrow
      have hsw : w.heap.size ≤ wr.heap.size := Nat.le_trans hb1.size hb.out.size
      rcases Int.lt_trichotomy y 0 with hy0 | hy0 | hy0
      · have hy3 : ¬ 0 < y := by omega
        by_cases q1 : l = y'
        case neg =>
          have q1t : (l == y') = false := by rw [beq_eq_false_iff_ne]; exact q1
          replace hnx := hidI (hnx.trans (show stepE x y o (f, l, t) = o by unfold stepE; rw [if_neg (by rintro ⟨h, _⟩; omega), if_neg (by rintro ⟨_, h, _⟩; exact q1 (by rw [hy2] at h; exact h))]))
          replace q1 := hidI q1
          go_wp2
          rw [← hw2.out]
          go_wp2
          go_roundg (n - (k + 1))
          case rel => exact ⟨k + 1, by have := hk.out; omega, by go_num, hidI (by rw [hnx.out]; exact hrow2.out), hbz⟩
          case measure => have := hk.out; omega
        have q1t : (l == y') = true := by rw [beq_iff_eq]; exact q1
        by_cases q2 : t = x
        case neg =>
          have q2t : (t == x) = false := by rw [beq_eq_false_iff_ne]; exact q2
          replace hnx := hidI (hnx.trans (show stepE x y o (f, l, t) = o by unfold stepE; rw [if_neg (by rintro ⟨h, _⟩; omega), if_neg (by rintro ⟨_, _, h⟩; exact q2 h)]))
          replace q1 := hidI q1
          replace q2 := hidI q2
          go_wp2
          rw [← hw2.out]
          go_wp2
          go_roundg (n - (k + 1))
          case rel => exact ⟨k + 1, by have := hk.out; omega, by go_num, hidI (by rw [hnx.out]; exact hrow2.out), hbz⟩
          case measure => have := hk.out; omega
        have q2t : (t == x) = true := by rw [beq_iff_eq]; exact q2
        replace hnx := hidI (hnx.trans (show stepE x y o (f, l, t) = addZ f o by unfold stepE; rw [if_neg (by rintro ⟨h, _⟩; omega), if_pos ⟨hy0, by rw [hy2]; exact q1, q2⟩]))
        replace q1 := hidI q1
        replace q2 := hidI q2
        go_wp2_with fail
        rw [← hw2.out]
        go_wp2_with fail
        refine hcf.mono ?_
        rintro e w3 ⟨v3, rfl, hrow3, hb3⟩
        have hrow3' := hidI (show RowI w3 w.heap.size w3.heap.size v3 (stepsE x y (es.take (k + 1))) by rw [hnx.out]; exact hrow3.wide (Nat.le_trans hsw hb2.size) (Nat.le_refl _))
        have hbq := hidI (hbz.out.trans (hb3.mono (Nat.le_trans hb.out.size hb2.size)))
        clear hrow3 hb3 hrow2 hcf hct
        go_wp2
        go_roundg (n - (k + 1))
        case rel => exact ⟨k + 1, by have := hk.out; omega, by go_num, hrow3', hbq⟩
        case measure => have := hk.out; omega
      · have hy3 : ¬ 0 < y := by omega
        have hy4 : ¬ y < 0 := by omega
        replace hnx := hidI (hnx.trans (show stepE x y o (f, l, t) = o by unfold stepE; rw [if_neg (by rintro ⟨h, _⟩; omega), if_neg (by rintro ⟨h, _⟩; omega)]))
        replace hy0 := hidI hy0
        go_wp2
        rw [← hw2.out]
        go_wp2
        go_roundg (n - (k + 1))
        case rel => exact ⟨k + 1, by have := hk.out; omega, by go_num, hidI (by rw [hnx.out]; exact hrow2.out), hbz⟩
        case measure => have := hk.out; omega
      · have hy4 : ¬ y < 0 := by omega
        by_cases q1 : l = y
        case neg =>
          have q1t : (l == y) = false := by rw [beq_eq_false_iff_ne]; exact q1
          replace hnx := hidI (hnx.trans (show stepE x y o (f, l, t) = o by unfold stepE; rw [if_neg (by rintro ⟨_, h, _⟩; exact q1 h), if_neg (by rintro ⟨h, _⟩; omega)]))
          replace q1 := hidI q1
          go_wp2
          rw [← hw2.out]
          go_wp2
          go_roundg (n - (k + 1))
          case rel => exact ⟨k + 1, by have := hk.out; omega, by go_num, hidI (by rw [hnx.out]; exact hrow2.out), hbz⟩
          case measure => have := hk.out; omega
        have q1t : (l == y) = true := by rw [beq_iff_eq]; exact q1
        by_cases q2 : f = x
        case neg =>
          have q2t : (f == x) = false := by rw [beq_eq_false_iff_ne]; exact q2
          replace hnx := hidI (hnx.trans (show stepE x y o (f, l, t) = o by unfold stepE; rw [if_neg (by rintro ⟨_, _, h⟩; exact q2 h), if_neg (by rintro ⟨h, _⟩; omega)]))
          replace q1 := hidI q1
          replace q2 := hidI q2
          go_wp2
          rw [← hw2.out]
          go_wp2
          go_roundg (n - (k + 1))
          case rel => exact ⟨k + 1, by have := hk.out; omega, by go_num, hidI (by rw [hnx.out]; exact hrow2.out), hbz⟩
          case measure => have := hk.out; omega
        have q2t : (f == x) = true := by rw [beq_iff_eq]; exact q2
        replace hnx := hidI (hnx.trans (show stepE x y o (f, l, t) = addZ t o by unfold stepE; rw [if_pos ⟨hy0, q1, q2⟩]))
        replace q1 := hidI q1
        replace q2 := hidI q2
        go_wp2_with fail
        rw [← hw2.out]
        go_wp2_with fail
        refine hct.mono ?_
        rintro e w3 ⟨v3, rfl, hrow3, hb3⟩
        have hrow3' := hidI (show RowI w3 w.heap.size w3.heap.size v3 (stepsE x y (es.take (k + 1))) by rw [hnx.out]; exact hrow3.wide (Nat.le_trans hsw hb2.size) (Nat.le_refl _))
        have hbq := hidI (hbz.out.trans (hb3.mono (Nat.le_trans hb.out.size hb2.size)))
        clear hrow3 hb3 hrow2 hcf hct
        go_wp2
        go_roundg (n - (k + 1))
        case rel => exact ⟨k + 1, by have := hk.out; omega, by go_num, hrow3', hbq⟩
        case measure => have := hk.out; omega
    · obtain rfl : k = n := by omega
      have hfull : es.take k = es := List.take_of_length_le (by rw [← hn.out]; omega)
      rw [hfull] at ho
      have hki : ¬ (k : Int) < (k : Int) := by omega
      have hbz := hb1.trans (hb.out.mono hb1.size)
      replace ho := hidI ho
      replace hfull := hidI hfull
      go_wp2
      go_ret
      exact ⟨_, rfl, by rw [← ho.out]; exact hrow.out, hbz⟩
end Go.Proofs.Ytmecdboeckmmfaa
