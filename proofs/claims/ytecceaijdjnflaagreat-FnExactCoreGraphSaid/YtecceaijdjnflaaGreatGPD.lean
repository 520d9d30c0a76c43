/- Graphs, the program: endsAt, DegreeOf. -/
import Derived.Test.YtecceaijdjnflaaGreatGPM
import Derived.Test.YtecceaijdjnflaaGreatQC
import Derived.Maps.OwnOps
namespace Go.Proofs.YtecceaijdjnflaaGreat
open Go.RowKit Go.Maps
set_option linter.unusedVariables false
set_option linter.unusedSimpArgs false

/-- The map of the ends at v of the first k edges. -/
def endD (v : Int) (es : List Ed) : Nat → DataW Unit
  | 0 => .map []
  | k + 1 =>
    let D1 := if (es.getD k e0).1 = v then (endD v es k).put (kE k false) (.lit (.int .i64 (es.getD k e0).2.2)) else endD v es k
    if (es.getD k e0).2.2 = v then D1.put (kE k true) (.lit (.int .i64 (es.getD k e0).1)) else D1
theorem endD_tidy (v : Int) (es : List Ed) : ∀ k, k ≤ 1000000000 → Tidy (endD v es k) := by
  intro k
  induction k with
  | zero => intro _; exact tidy_empty
  | succ k ih =>
    intro hk
    have h0 := ih (by omega)
    simp only [endD]
    have h1 : Tidy (if (es.getD k e0).1 = v then (endD v es k).put (kE k false) (.lit (.int .i64 (es.getD k e0).2.2)) else endD v es k) := by
      split
      · exact h0.put (kE_is _ _ (by omega)) _
      · exact h0
    split
    · exact h1.put (kE_is _ _ (by omega)) _
    · exact h1
theorem endD_has (v : Int) (es : List Ed) : ∀ k, k ≤ 1000000000 → ∀ (p : Nat) (c : Bool), k ≤ p → p ≤ 1000000000 → has (endD v es k) (kE p c) = false := by
  intro k
  induction k with
  | zero => intro _ p c _ _; rfl
  | succ k ih =>
    intro hk p c hp hp2
    have hne : ∀ b, kE (p : Int) c ≠ kE (k : Int) b := by
      intro b he
      have := (kE_inj (by omega) (by omega) he).1
      omega
    have h0 := ih (by omega) p c (by omega) hp2
    simp only [endD]
    have h1 : has (if (es.getD k e0).1 = v then (endD v es k).put (kE k false) (.lit (.int .i64 (es.getD k e0).2.2)) else endD v es k) (kE p c) = false := by
      split
      · rw [has_put_other (hne _)]; exact h0
      · exact h0
    split
    · rw [has_put_other (hne _)]; exact h1
    · exact h1
theorem endD_mid (v : Int) (es : List Ed) (k : Nat) (hk : k ≤ 1000000000) :
    has (if (es.getD k e0).1 = v then (endD v es k).put (kE k false) (.lit (.int .i64 (es.getD k e0).2.2)) else endD v es k) (kE k true) = false := by
  split
  · rw [has_put_other (by intro he; have := (kE_inj (by omega) (by omega) he).2; simp at this)]
    exact endD_has v es k hk k true (Nat.le_refl _) hk
  · exact endD_has v es k hk k true (Nat.le_refl _) hk
theorem endD_size (v : Int) (es : List Ed) : ∀ k, k ≤ es.length → k < 1000000000 → (size (endD v es k) : Int) = degE v (es.take k) := by
  intro k
  induction k with
  | zero => intro _ _; simp [endD, size, degE]
  | succ k ih =>
    intro hk hk2
    have h0 := ih (by omega) (by omega)
    have ht := endD_tidy v es k (by omega)
    have ha := endD_has v es k (by omega) k false (Nat.le_refl _) (by omega)
    have hm := endD_mid v es k (by omega)
    rw [take_one (by omega), degE_append]
    simp only [endD, degE]
    generalize es.getD k e0 = e at hm ⊢
    by_cases h1 : e.1 = v
    · simp only [h1, if_true] at hm ⊢
      have h3 := size_put ht (k := kE k false) (.lit (.int .i64 e.2.2))
      rw [ha] at h3
      by_cases h2 : e.2.2 = v
      · simp only [h2, if_true]
        have ht2 := ht.put (kE_is k false (by omega)) (.lit (.int .i64 e.2.2))
        have h4 := size_put ht2 (k := kE k true) (.lit (.int .i64 v))
        rw [hm] at h4
        rw [h2] at h4 h3
        simp at h3 h4 ⊢
        omega
      · simp only [h2, if_false]
        simp at h3 ⊢
        omega
    · simp only [h1, if_false] at hm ⊢
      by_cases h2 : e.2.2 = v
      · simp only [h2, if_true]
        have h4 := size_put ht (k := kE k true) (.lit (.int .i64 e.1))
        rw [hm] at h4
        simp at h4 ⊢
        omega
      · simp only [h2, if_false]
        simp
        omega
abbrev MapE (w : World) (b n : Nat) (D : DataW Unit) : Prop := w.ownsMap Tryz.prog 135 (plainElem Tryz.prog 3) b n D
/-- What endsAt leaves. -/
def LwEnds (w : World) (n : Nat) (D : DataW Unit) (e : Ending) (w' : World) : Prop :=
  ∃ b, e = .returned (.map (some b)) ∧ w.heap.size ≤ b ∧ MapE w' b n D ∧ Below w.heap.size w w'
set_option maxHeartbeats 3200000 in
theorem endsAt_any (w : World) (r s : Int) (v : Value) (es : List Ed) (x : Int) (h : ReadE w.heap.size w v es) (hin : InE es) (hl : es.length ≤ 100000000) :
    Calls Tryz.prog 82 #[.agg #[.int .i64 r, .int .i64 s, v], .int .i64 x] w (LwEnds w (2 * es.length) (endD x es es.length)) := by
  obtain ⟨a, cap, rfl, hnc⟩ := h.form
  obtain ⟨n, hn⟩ : ∃ n, n = es.length := ⟨_, rfl⟩
  rw [← hn] at hl hnc ⊢
  rw [← hn] at h
  obtain ⟨w1, hw1⟩ : ∃ w1, w1 = (w.alloc (.cells #[.int .i64 r, .int .i64 s, .slice a n cap] 28)).alloc (.map #[] 0) := ⟨_, rfl⟩
  have hb1 : Below w.heap.size w w1 := by rw [hw1]; exact ((Below.refl _ _).alloc (Nat.le_refl _) _).alloc (by simp) _
  have hs1 : w1.heap.size = w.heap.size + 2 := by rw [hw1]; simp
  have hm1 : MapE w1 (w.heap.size + 1) 0 (.map []) := by
    have := World.ownsMap_made (H := Unit) (w.alloc (.cells #[.int .i64 r, .int .i64 s, .slice a n cap] 28)) Tryz.prog 135 (plainElem Tryz.prog 3)
    rw [hw1]
    simpa using this
  have hg := heap_box w (.cells #[.int .i64 r, .int .i64 s, .slice a n cap] 28) (.map #[] 0)
  rw [← hw1] at hg
  have g2 := cell_of_heap hg 2
  simp at g2
  have hmm := @run_makeMap Tryz.prog
  replace hn := hidI hn
  replace hw1 := hidI hw1
  replace h := hidI h
  replace hm1 := hidI hm1
  replace hs1 := hidI hs1
  replace hin := hidI hin
  clear hg
  go_enter Tryz.func82, Tryz.ntmps82
  go_wp2
  rw [← hw1.out]
  go_loopg [12] n (fun g i wr => ∃ k : Nat, k + g = n ∧ i = .int .i64 k ∧ Hid (MapE wr (w.heap.size + 1) (2 * k) (endD x es k)) ∧ Hid (w.heap.size + 2 ≤ wr.heap.size) ∧ Hid (Below w.heap.size w wr))
  case atStart => exact ⟨0, by omega, rfl, hm1, hidI (by have := hs1.out; omega), hidI hb1⟩
  case round =>
    clear hm1 g2
    obtain ⟨k, hk, rfl, hm, hsz, hb⟩ := hrel
    by_cases hlt : k < n
    · obtain ⟨b, off, hab, hB, c0, c1, c2⟩ := ReadE.at3 (h.out.below hb.out) k (by have := hn.out; omega)
      subst hab
      have hie : (-9223372036854775808 ≤ (es.getD k e0).1 ∧ (es.getD k e0).1 ≤ 9223372036854775807) ∧ (-9223372036854775808 ≤ (es.getD k e0).2.1 ∧ (es.getD k e0).2.1 ≤ 9223372036854775807) ∧ (-9223372036854775808 ≤ (es.getD k e0).2.2 ∧ (es.getD k e0).2.2 ≤ 9223372036854775807) := by
        refine hin.out _ ?_
        have hkl : k < es.length := by have := hn.out; omega
        rw [List.getD_eq_getElem?_getD, List.getElem?_eq_getElem hkl]
        exact List.getElem_mem hkl
      have hstep : endD x es (k + 1) = (if (es.getD k e0).2.2 = x then (if (es.getD k e0).1 = x then (endD x es k).put (kE k false) (.lit (.int .i64 (es.getD k e0).2.2)) else endD x es k).put (kE k true) (.lit (.int .i64 (es.getD k e0).1)) else (if (es.getD k e0).1 = x then (endD x es k).put (kE k false) (.lit (.int .i64 (es.getD k e0).2.2)) else endD x es k)) := rfl
      obtain ⟨D, hD⟩ : ∃ D, D = endD x es k := ⟨_, rfl⟩
      obtain ⟨D2, hD2⟩ : ∃ D2, D2 = endD x es (k + 1) := ⟨_, rfl⟩
      rw [← hD, ← hD2] at hstep
      rw [← hD] at hm
      obtain ⟨f, hf⟩ : ∃ z, z = (es.getD k e0).1 := ⟨_, rfl⟩
      obtain ⟨l, hll⟩ : ∃ z, z = (es.getD k e0).2.1 := ⟨_, rfl⟩
      obtain ⟨t, ht⟩ : ∃ z, z = (es.getD k e0).2.2 := ⟨_, rfl⟩
      rw [← hf, ← ht] at hstep
      rw [← hf] at c0 hie
      rw [← hll] at c1
      rw [← ht] at c2 hie
      have hki : (k : Int) < (n : Int) := by omega
      have hmn : Hid (MapE (wr.alloc (.cells #[.int .i64 f, .int .i64 l, .int .i64 t] 54)) (w.heap.size + 1) (2 * k) D) := hidI (World.ownsMap.alloc hm.out _)
      have hbn : Below w.heap.size w (wr.alloc (.cells #[.int .i64 f, .int .i64 l, .int .i64 t] 54)) := hb.out.alloc hb.out.size _
      have hsn : w.heap.size + 2 ≤ wr.heap.size := hsz.out
      have k1 := kE_key k false (by omega)
      have k2 := kE_key k true (by omega)
      have v1 : plainElem (H := Unit) Tryz.prog 3 (.int .i64 t) = some (.lit (.int .i64 t), []) := plainElem_int Tryz.underlying3 (WalkArith.wf_i64 hie.2.2)
      have v2 : plainElem (H := Unit) Tryz.prog 3 (.int .i64 f) = some (.lit (.int .i64 f), []) := plainElem_int Tryz.underlying3 (WalkArith.wf_i64 hie.1)
      replace hm := hmn
      clear hmn hb hsz hin
      replace hf := hidI hf
      replace hll := hidI hll
      replace ht := hidI ht
      replace hD := hidI hD
      replace hD2 := hidI hD2
      replace hstep := hidI hstep
      replace hk := hidI hk
      replace hie := hidI hie
      replace k1 := hidI k1
      replace k2 := hidI k2
      replace v1 := hidI v1
      replace v2 := hidI v2
      by_cases q1 : f = x
      · have t1 : (f == x) = true := by rw [beq_iff_eq]; exact q1
        have i1 : ∀ D' D'' : DataW Unit, (if f = x then D' else D'') = D' := fun _ _ => if_pos q1
        replace q1 := hidI q1
        replace i1 := hidI i1
        go_wp2_with (at_mapUpdate; go_must (refine wpList_mapUpdate_own _ rfl _ _ _ 116 rfl 135 3 lawK Tryz.underlying116 _ (w.heap.size + 1) (2 * k) D rfl hm.out (by unfold maxLen; omega) _ _ _ rfl rfl k1.out _ [] v1.out ?_))
        intro w3 hm3 hg3
        have hkx : w3.heap[wr.heap.size]? = some (.cells #[.int .i64 f, .int .i64 l, .int .i64 t] 54 (0, 0)) := (hg3.block wr.heap.size (by simp) (by simp; omega)).trans (heap_alloc_new _ _)
        have x0 := cell_of_heap hkx 0
        have x1 := cell_of_heap hkx 1
        have x2 := cell_of_heap hkx 2
        simp at x0 x1 x2
        have hb3 : Below w.heap.size w w3 := hbn.grown hg3 hbn.size (fun j hj => by cases hj; omega)
        have hs3 : wr.heap.size < w3.heap.size := by have := hg3.size; simp at this; omega
        replace hm3 := hidI hm3
        replace hb3 := hidI hb3
        clear hg3 hm
        replace hkx := hidI hkx
        by_cases q2 : t = x
        · have t2 : (t == x) = true := by rw [beq_iff_eq]; exact q2
          have i2 : ∀ D' D'' : DataW Unit, (if t = x then D' else D'') = D' := fun _ _ => if_pos q2
          replace q2 := hidI q2
          replace i2 := hidI i2
          go_wp2_with (at_mapUpdate; go_must (refine wpList_mapUpdate_own _ rfl _ _ _ 116 rfl 135 3 lawK Tryz.underlying116 _ (w.heap.size + 1) (2 * k + 1) (D.put (kE k false) (.lit (.int .i64 t))) rfl hm3.out (by unfold maxLen; omega) _ _ _ rfl rfl k2.out _ [] v2.out ?_))
          intro w4 hm4 hg4
          have hb4 : Below w.heap.size w w4 := hb3.out.grown hg4 hb3.out.size (fun j hj => by cases hj; omega)
          have hs4 := hg4.size
          clear hg4
          replace hm4 := hidI hm4
          clear x0 x1 x2
          have hnx : Hid (MapE w4 (w.heap.size + 1) (2 * (k + 1)) (endD x es (k + 1))) := hidI (by rw [← hD2.out, hstep.out, i2.out, i1.out]; exact World.ownsMap.mono hm4.out (by omega))
          have hbz := hidI hb4
          have hsz2 : Hid (w.heap.size + 2 ≤ w4.heap.size) := hidI (by omega)
          go_wp2
          go_roundg (n - (k + 1))
          case rel => exact ⟨k + 1, by have := hk.out; omega, by go_num, hnx, hsz2, hbz⟩
          case measure => have := hk.out; omega
        · have t2 : (t == x) = false := by rw [beq_eq_false_iff_ne]; exact q2
          have i2 : ∀ D' D'' : DataW Unit, (if t = x then D' else D'') = D'' := fun _ _ => if_neg q2
          replace q2 := hidI q2
          replace i2 := hidI i2
          have hnx : Hid (MapE w3 (w.heap.size + 1) (2 * (k + 1)) (endD x es (k + 1))) := hidI (by rw [← hD2.out, hstep.out, i2.out, i1.out]; exact World.ownsMap.mono hm3.out (by omega))
          have hbz := hidI hb3.out
          have hsz2 : Hid (w.heap.size + 2 ≤ w3.heap.size) := hidI (by omega)
          go_wp2
          go_roundg (n - (k + 1))
          case rel => exact ⟨k + 1, by have := hk.out; omega, by go_num, hnx, hsz2, hbz⟩
          case measure => have := hk.out; omega
      · have t1 : (f == x) = false := by rw [beq_eq_false_iff_ne]; exact q1
        have i1 : ∀ D' D'' : DataW Unit, (if f = x then D' else D'') = D'' := fun _ _ => if_neg q1
        replace q1 := hidI q1
        replace i1 := hidI i1
        by_cases q2 : t = x
        · have t2 : (t == x) = true := by rw [beq_iff_eq]; exact q2
          have i2 : ∀ D' D'' : DataW Unit, (if t = x then D' else D'') = D' := fun _ _ => if_pos q2
          replace q2 := hidI q2
          replace i2 := hidI i2
          go_wp2_with (at_mapUpdate; go_must (refine wpList_mapUpdate_own _ rfl _ _ _ 116 rfl 135 3 lawK Tryz.underlying116 _ (w.heap.size + 1) (2 * k) D rfl hm.out (by unfold maxLen; omega) _ _ _ rfl rfl k2.out _ [] v2.out ?_))
          intro w4 hm4 hg4
          have hb4 : Below w.heap.size w w4 := hbn.grown hg4 hbn.size (fun j hj => by cases hj; omega)
          have hs4 := hg4.size
          simp at hs4
          clear hg4
          replace hm4 := hidI hm4
          clear hm
          have hnx : Hid (MapE w4 (w.heap.size + 1) (2 * (k + 1)) (endD x es (k + 1))) := hidI (by rw [← hD2.out, hstep.out, i2.out, i1.out]; exact World.ownsMap.mono hm4.out (by omega))
          have hbz := hidI hb4
          have hsz2 : Hid (w.heap.size + 2 ≤ w4.heap.size) := hidI (by omega)
          go_wp2
          go_roundg (n - (k + 1))
          case rel => exact ⟨k + 1, by have := hk.out; omega, by go_num, hnx, hsz2, hbz⟩
          case measure => have := hk.out; omega
        · have t2 : (t == x) = false := by rw [beq_eq_false_iff_ne]; exact q2
          have i2 : ∀ D' D'' : DataW Unit, (if t = x then D' else D'') = D'' := fun _ _ => if_neg q2
          replace q2 := hidI q2
          replace i2 := hidI i2
          have hnx : Hid (MapE (wr.alloc (.cells #[.int .i64 f, .int .i64 l, .int .i64 t] 54)) (w.heap.size + 1) (2 * (k + 1)) (endD x es (k + 1))) := hidI (by rw [← hD2.out, hstep.out, i2.out, i1.out]; exact World.ownsMap.mono hm.out (by omega))
          have hbz := hidI hbn
          have hsz2 : Hid (w.heap.size + 2 ≤ (wr.alloc (.cells #[.int .i64 f, .int .i64 l, .int .i64 t] 54)).heap.size) := hidI (by simp; omega)
          go_wp2
          go_roundg (n - (k + 1))
          case rel => exact ⟨k + 1, by have := hk.out; omega, by go_num, hnx, hsz2, hbz⟩
          case measure => have := hk.out; omega
    · obtain rfl : k = n := by omega
      have hki : ¬ (k : Int) < (k : Int) := by omega
      replace hk := hidI hk
      go_wp2
      go_ret
      exact ⟨w.heap.size + 1, rfl, by omega, by have := hm.out; rw [hn.out] at this; rw [hn.out]; exact this, hb.out⟩
set_option maxHeartbeats 1600000 in
theorem progDeg (w : World) (r s : Int) (v : Value) (es : List Ed) (x : Int) (h : ReadE w.heap.size w v es) (hin : InE es) (hl : es.length ≤ 100000000) :
    Calls Tryz.prog 62 #[.agg #[.int .i64 r, .int .i64 s, v], .int .i64 x] w (LwInt w (degE x es)) := by
  obtain ⟨a, cap, rfl, hnc⟩ := h.form
  obtain ⟨n, hn⟩ : ∃ n, n = es.length := ⟨_, rfl⟩
  obtain ⟨w1, hw1⟩ : ∃ w1, w1 = w.alloc (.cells #[.int .i64 r, .int .i64 s, .slice a n cap] 28) := ⟨_, rfl⟩
  have hb1 : Below w.heap.size w w1 := by rw [hw1]; exact (Below.refl _ _).alloc (Nat.le_refl _) _
  have hc := endsAt_any w1 r s (.slice a es.length cap) es x ((h.below hb1).mono hb1.size) hin hl
  rw [← hn] at hc ⊢
  have hsz : (size (endD x es n) : Int) = degE x es := by rw [hn, endD_size x es es.length (Nat.le_refl _) (by omega), List.take_length]
  obtain ⟨g0, g1, g2⟩ := box3 hw1
  obtain ⟨d, hd⟩ : ∃ d, d = degE x es := ⟨_, rfl⟩
  rw [← hd] at hsz ⊢
  obtain ⟨D, hD⟩ : ∃ D, D = endD x es n := ⟨_, rfl⟩
  rw [← hD] at hsz hc
  replace hn := hidI hn
  replace hw1 := hidI hw1
  replace h := hidI h
  replace hd := hidI hd
  replace hD := hidI hD
  replace hsz := hidI hsz
  go_enter Tryz.func62, Tryz.ntmps62
  go_wp2_with fail
  rw [← hw1.out]
  refine hc.mono ?_
  rintro e w2 ⟨b, rfl, hlb, hm, hb2⟩
  have hbz := hb1.trans (hb2.mono hb1.size)
  replace hm := hidI hm
  clear g0 g1 g2 hb2
  go_wp2_with (at_len; go_must (refine wpList_len_own _ rfl _ 116 rfl 135 3 Tryz.underlying116 _ b _ D rfl hm.out ?_))
  go_wp2
  go_ret
  exact ⟨ret_i hsz.out, hbz⟩
end Go.Proofs.YtecceaijdjnflaaGreat
