import Derived.Maps.OwnOps
import Derived.Laws.CopyOwn
import Derived.Deep.RegionLaw
import Derived.Deep.LoopGhost
import Derived.Test.YtpjlamnjiilgbaaGreatJ26Is
import Derived.Test.YtpjlamnjiilgbaaGreatJ2Is
import Derived.Test.YtpjlamnjiilgbaaGreatJ15Is
import Derived.Test.YtpjlamnjiilgbaaGreatJ27Is
import Derived.Test.YtpjlamnjiilgbaaGreatJ14Is
namespace Go.Proofs.YtpjlamnjiilgbaaGreat
open Go.RowKit Go.Maps
set_option linter.unusedVariables false
set_option linter.unusedSimpArgs false
def endD (v : Int) (es : List Ed) : Nat → DataW Unit
 | 0 => .map []
 | k + 1 =>
  let D1 := if (es.getD k e0).1 = v then (endD v es k).put (kE k false) (.lit (.int .i64 (es.getD k e0).2.2)) else endD v es k
  if (es.getD k e0).2.2 = v then D1.put (kE k true) (.lit (.int .i64 (es.getD k e0).1)) else D1
theorem endD_tidy (v : Int) (es : List Ed) : ∀ k, k ≤ 1000000000 → Tidy (endD v es k) := by
 intro k
 induction k with
 | zero => intro _; exact tidy_empty
 | succ k ih =>
  intro hk
  have h0 := ih (by omega)
  simp only [endD]
  have h1 : Tidy (if (es.getD k e0).1 = v then (endD v es k).put (kE k false) (.lit (.int .i64 (es.getD k e0).2.2)) else endD v es k) := by
   split
   · exact h0.put (kE_is _ _ (by omega)) _
   · exact h0
  split
  · exact h1.put (kE_is _ _ (by omega)) _
  · exact h1
theorem endD_has (v : Int) (es : List Ed) : ∀ k, k ≤ 1000000000 → ∀ (p : Nat) (c : Bool), k ≤ p → p ≤ 1000000000 → has (endD v es k) (kE p c) = false := by
 intro k
 induction k with
 | zero => intro _ p c _ _; rfl
 | succ k ih =>
  intro hk p c hp hp2
  have hne : ∀ b, kE (p : Int) c ≠ kE (k : Int) b := by
   intro b he
   have := (kE_inj (by omega) (by omega) he).1
   omega
  have h0 := ih (by omega) p c (by omega) hp2
  simp only [endD]
  have h1 : has (if (es.getD k e0).1 = v then (endD v es k).put (kE k false) (.lit (.int .i64 (es.getD k e0).2.2)) else endD v es k) (kE p c) = false := by
   split
   · rw [has_put_other (hne _)]; exact h0
   · exact h0
  split
  · rw [has_put_other (hne _)]; exact h1
  · exact h1
theorem endD_mid (v : Int) (es : List Ed) (k : Nat) (hk : k ≤ 1000000000) :
 has (if (es.getD k e0).1 = v then (endD v es k).put (kE k false) (.lit (.int .i64 (es.getD k e0).2.2)) else endD v es k) (kE k true) = false := by
 split
 · rw [has_put_other (by intro he; have := (kE_inj (by omega) (by omega) he).2; simp at this)]
   exact endD_has v es k hk k true (Nat.le_refl _) hk
 · exact endD_has v es k hk k true (Nat.le_refl _) hk
theorem endD_size (v : Int) (es : List Ed) : ∀ k, k ≤ es.length → k < 1000000000 → (size (endD v es k) : Int) = degE v (es.take k) := by
 intro k
 induction k with
 | zero => intro _ _; simp [endD, size, degE]
 | succ k ih =>
  intro hk hk2
  have h0 := ih (by omega) (by omega)
  have ht := endD_tidy v es k (by omega)
  have ha := endD_has v es k (by omega) k false (Nat.le_refl _) (by omega)
  have hm := endD_mid v es k (by omega)
  rw [take_one (by omega), degE_append]
  simp only [endD, degE]
  generalize es.getD k e0 = e at hm ⊢
  by_cases h1 : e.1 = v
  · simp only [h1, if_true] at hm ⊢
    have h3 := size_put ht (k := kE k false) (.lit (.int .i64 e.2.2))
    rw [ha] at h3
    by_cases h2 : e.2.2 = v
    · simp only [h2, if_true]
      have ht2 := ht.put (kE_is k false (by omega)) (.lit (.int .i64 e.2.2))
      have h4 := size_put ht2 (k := kE k true) (.lit (.int .i64 v))
      rw [hm] at h4
      rw [h2] at h4 h3
      simp at h3 h4 ⊢
      omega
    · simp only [h2, if_false]
      simp at h3 ⊢
      omega
  · simp only [h1, if_false] at hm ⊢
    by_cases h2 : e.2.2 = v
    · simp only [h2, if_true]
      have h4 := size_put ht (k := kE k true) (.lit (.int .i64 e.1))
      rw [hm] at h4
      simp at h4 ⊢
      omega
    · simp only [h2, if_false]
      simp
      omega
abbrev MapE (w : World) (b n : Nat) (D : DataW Unit) : Prop := w.ownsMap Tryz.prog 220 (plainElem Tryz.prog 3) b n D
def LwEnds (w : World) (n : Nat) (D : DataW Unit) (e : Ending) (w' : World) : Prop :=
 ∃ b, e = .returned (.map (some b)) ∧ w.heap.size ≤ b ∧ MapE w' b n D ∧ Below w.heap.size w w'
set_option maxHeartbeats 3200000 in
theorem endsAt_any (w : World) (r s : Int) (v : Value) (es : List Ed) (x : Int) (h : ReadE w.heap.size w v es) (hin : InE es) (hl : es.length ≤ 100000000) :
 Calls Tryz.prog 198 #[.agg #[.int .i64 r, .int .i64 s, v], .int .i64 x] w (LwEnds w (2 * es.length) (endD x es es.length)) := by
 obtain ⟨a, cap, rfl, hnc⟩ := h.form
 obtain ⟨n, hn⟩ := exq es.length
 rw [← hn] at hl hnc ⊢
 rw [← hn] at h
 obtain ⟨w1, hw1⟩ := exq ((w.alloc (.cells #[.int .i64 r, .int .i64 s, .slice a n cap] 26)).alloc (.map #[] 0))
 have hb1 : Below w.heap.size w w1 := by rw [hw1]; exact ((Below.refl _ _).alloc (Nat.le_refl _) _).alloc (by simp) _
 have hs1 : w1.heap.size = w.heap.size + 2 := by rw [hw1]; simp
 have hm1 : MapE w1 (w.heap.size + 1) 0 (.map []) := by
  have := World.ownsMap_made (H := Unit) (w.alloc (.cells #[.int .i64 r, .int .i64 s, .slice a n cap] 26)) Tryz.prog 220 (plainElem Tryz.prog 3)
  rw [hw1]
  simpa using this
 have hg := heap_box w (.cells #[.int .i64 r, .int .i64 s, .slice a n cap] 26) (.map #[] 0)
 rw [← hw1] at hg
 have g2 := cell_of_heap hg 2
 simp at g2
 have hmm := @run_makeMap Tryz.prog
 replace hn := hidI hn
 replace hw1 := hidI hw1
 replace h := hidI h
 replace hm1 := hidI hm1
 replace hs1 := hidI hs1
 replace hin := hidI hin
 clear hg
 go_enter Tryz.func198, Tryz.ntmps198
 go_wp2
 rw [← hw1.out]
 go_loopg [12] n (fun g i wr => ∃ k : Nat, k + g = n ∧ i = .int .i64 k ∧ Hid (MapE wr (w.heap.size + 1) (2 * k) (endD x es k)) ∧ Hid (w.heap.size + 2 ≤ wr.heap.size) ∧ Hid (Below w.heap.size w wr))
 case atStart => exact ⟨0, by omega, rfl, hm1, hidI (by have := hs1.out; omega), hidI hb1⟩
 case round =>
  clear hm1 g2
  obtain ⟨k, hk, rfl, hm, hsz, hb⟩ := hrel
  by_cases hlt : k < n
  · obtain ⟨b, off, hab, hB, c0, c1, c2⟩ := ReadE.at3 (h.out.below hb.out) k (by have := hn.out; omega)
    subst hab
    have hie : (-9223372036854775808 ≤ (es.getD k e0).1 ∧ (es.getD k e0).1 ≤ 9223372036854775807) ∧ (-9223372036854775808 ≤ (es.getD k e0).2.1 ∧ (es.getD k e0).2.1 ≤ 9223372036854775807) ∧ (-9223372036854775808 ≤ (es.getD k e0).2.2 ∧ (es.getD k e0).2.2 ≤ 9223372036854775807) := by
     refine hin.out _ ?_
     have hkl : k < es.length := by have := hn.out; omega
     rw [List.getD_eq_getElem?_getD, List.getElem?_eq_getElem hkl]
     exact List.getElem_mem hkl
    have hstep : endD x es (k + 1) = (if (es.getD k e0).2.2 = x then (if (es.getD k e0).1 = x then (endD x es k).put (kE k false) (.lit (.int .i64 (es.getD k e0).2.2)) else endD x es k).put (kE k true) (.lit (.int .i64 (es.getD k e0).1)) else (if (es.getD k e0).1 = x then (endD x es k).put (kE k false) (.lit (.int .i64 (es.getD k e0).2.2)) else endD x es k)) := rfl
    obtain ⟨D, hD⟩ := exq (endD x es k)
    obtain ⟨D2, hD2⟩ := exq (endD x es (k + 1))
    rw [← hD, ← hD2] at hstep
    rw [← hD] at hm
    obtain ⟨f, hf⟩ := exq ((es.getD k e0).1)
    obtain ⟨l, hll⟩ := exq ((es.getD k e0).2.1)
    obtain ⟨t, ht⟩ := exq ((es.getD k e0).2.2)
    rw [← hf, ← ht] at hstep
    rw [← hf] at c0 hie
    rw [← hll] at c1
    rw [← ht] at c2 hie
    have hki : (k : Int) < (n : Int) := by omega
    have hmn : Hid (MapE (wr.alloc (.cells #[.int .i64 f, .int .i64 l, .int .i64 t] 72)) (w.heap.size + 1) (2 * k) D) := hidI (World.ownsMap.alloc hm.out _)
    have hbn : Below w.heap.size w (wr.alloc (.cells #[.int .i64 f, .int .i64 l, .int .i64 t] 72)) := hb.out.alloc hb.out.size _
    have hsn : w.heap.size + 2 ≤ wr.heap.size := hsz.out
    have k1 := kE_key k false (by omega)
    have k2 := kE_key k true (by omega)
    have v1 : plainElem (H := Unit) Tryz.prog 3 (.int .i64 t) = some (.lit (.int .i64 t), []) := plainElem_int Tryz.underlying3 (WalkArith.wf_i64 hie.2.2)
    have v2 : plainElem (H := Unit) Tryz.prog 3 (.int .i64 f) = some (.lit (.int .i64 f), []) := plainElem_int Tryz.underlying3 (WalkArith.wf_i64 hie.1)
    replace hm := hmn
    clear hmn hb hsz hin
    replace hf := hidI hf
    replace hll := hidI hll
    replace ht := hidI ht
    replace hD := hidI hD
    replace hD2 := hidI hD2
    replace hstep := hidI hstep
    replace hk := hidI hk
    replace hie := hidI hie
    replace k1 := hidI k1
    replace k2 := hidI k2
    replace v1 := hidI v1
    replace v2 := hidI v2
    by_cases q1 : f = x
    · have t1 : (f == x) = true := by rw [beq_iff_eq]; exact q1
      have i1 : ∀ D' D'' : DataW Unit, (if f = x then D' else D'') = D' := fun _ _ => if_pos q1
      replace q1 := hidI q1
      replace i1 := hidI i1
      go_wp2_with (at_mapUpdate; go_must (refine wpList_mapUpdate_own _ rfl _ _ _ 194 rfl 220 3 lawK Tryz.underlying194 _ (w.heap.size + 1) (2 * k) D rfl hm.out (by unfold maxLen; omega) _ _ _ rfl rfl k1.out _ [] v1.out ?_))
      intro w3 hm3 hg3
      have hkx : w3.heap[wr.heap.size]? = some (.cells #[.int .i64 f, .int .i64 l, .int .i64 t] 72 (0, 0)) := (hg3.block wr.heap.size (by simp) (by simp; omega)).trans (heap_alloc_new _ _)
      obtain ⟨x0, x1, x2⟩ := cell3 hkx
      simp at x0 x1 x2
      have hb3 : Below w.heap.size w w3 := hbn.grown hg3 hbn.size (fun j hj => by cases hj; omega)
      have hs3 : wr.heap.size < w3.heap.size := by have := hg3.size; simp at this; omega
      replace hm3 := hidI hm3
      replace hb3 := hidI hb3
      clear hg3 hm
      replace hkx := hidI hkx
      by_cases q2 : t = x
      · have t2 : (t == x) = true := by rw [beq_iff_eq]; exact q2
        have i2 : ∀ D' D'' : DataW Unit, (if t = x then D' else D'') = D' := fun _ _ => if_pos q2
        replace q2 := hidI q2
        replace i2 := hidI i2
        go_wp2_with (at_mapUpdate; go_must (refine wpList_mapUpdate_own _ rfl _ _ _ 194 rfl 220 3 lawK Tryz.underlying194 _ (w.heap.size + 1) (2 * k + 1) (D.put (kE k false) (.lit (.int .i64 t))) rfl hm3.out (by unfold maxLen; omega) _ _ _ rfl rfl k2.out _ [] v2.out ?_))
        intro w4 hm4 hg4
        have hb4 : Below w.heap.size w w4 := hb3.out.grown hg4 hb3.out.size (fun j hj => by cases hj; omega)
        have hs4 := hg4.size
        clear hg4
        replace hm4 := hidI hm4
        clear x0 x1 x2
        have hnx : Hid (MapE w4 (w.heap.size + 1) (2 * (k + 1)) (endD x es (k + 1))) := hidI (by rw [← hD2.out, hstep.out, i2.out, i1.out]; exact World.ownsMap.mono hm4.out (by omega))
        have hbz := hidI hb4
        have hsz2 : Hid (w.heap.size + 2 ≤ w4.heap.size) := hidI (by omega)
        go_wp2
        go_roundg (n - (k + 1))
        case rel => exact ⟨k + 1, by have := hk.out; omega, by go_num, hnx, hsz2, hbz⟩
        case measure => have := hk.out; omega
      · have t2 : (t == x) = false := by rw [beq_eq_false_iff_ne]; exact q2
        have i2 : ∀ D' D'' : DataW Unit, (if t = x then D' else D'') = D'' := fun _ _ => if_neg q2
        replace q2 := hidI q2
        replace i2 := hidI i2
        have hnx : Hid (MapE w3 (w.heap.size + 1) (2 * (k + 1)) (endD x es (k + 1))) := hidI (by rw [← hD2.out, hstep.out, i2.out, i1.out]; exact World.ownsMap.mono hm3.out (by omega))
        have hbz := hidI hb3.out
        have hsz2 : Hid (w.heap.size + 2 ≤ w3.heap.size) := hidI (by omega)
        go_wp2
        go_roundg (n - (k + 1))
        case rel => exact ⟨k + 1, by have := hk.out; omega, by go_num, hnx, hsz2, hbz⟩
        case measure => have := hk.out; omega
    · have t1 : (f == x) = false := by rw [beq_eq_false_iff_ne]; exact q1
      have i1 : ∀ D' D'' : DataW Unit, (if f = x then D' else D'') = D'' := fun _ _ => if_neg q1
      replace q1 := hidI q1
      replace i1 := hidI i1
      by_cases q2 : t = x
      · have t2 : (t == x) = true := by rw [beq_iff_eq]; exact q2
        have i2 : ∀ D' D'' : DataW Unit, (if t = x then D' else D'') = D' := fun _ _ => if_pos q2
        replace q2 := hidI q2
        replace i2 := hidI i2
        go_wp2_with (at_mapUpdate; go_must (refine wpList_mapUpdate_own _ rfl _ _ _ 194 rfl 220 3 lawK Tryz.underlying194 _ (w.heap.size + 1) (2 * k) D rfl hm.out (by unfold maxLen; omega) _ _ _ rfl rfl k2.out _ [] v2.out ?_))
        intro w4 hm4 hg4
        have hb4 : Below w.heap.size w w4 := hbn.grown hg4 hbn.size (fun j hj => by cases hj; omega)
        have hs4 := hg4.size
        simp at hs4
        clear hg4
        replace hm4 := hidI hm4
        clear hm
        have hnx : Hid (MapE w4 (w.heap.size + 1) (2 * (k + 1)) (endD x es (k + 1))) := hidI (by rw [← hD2.out, hstep.out, i2.out, i1.out]; exact World.ownsMap.mono hm4.out (by omega))
        have hbz := hidI hb4
        have hsz2 : Hid (w.heap.size + 2 ≤ w4.heap.size) := hidI (by omega)
        go_wp2
        go_roundg (n - (k + 1))
        case rel => exact ⟨k + 1, by have := hk.out; omega, by go_num, hnx, hsz2, hbz⟩
        case measure => have := hk.out; omega
      · have t2 : (t == x) = false := by rw [beq_eq_false_iff_ne]; exact q2
        have i2 : ∀ D' D'' : DataW Unit, (if t = x then D' else D'') = D'' := fun _ _ => if_neg q2
        replace q2 := hidI q2
        replace i2 := hidI i2
        have hnx : Hid (MapE (wr.alloc (.cells #[.int .i64 f, .int .i64 l, .int .i64 t] 72)) (w.heap.size + 1) (2 * (k + 1)) (endD x es (k + 1))) := hidI (by rw [← hD2.out, hstep.out, i2.out, i1.out]; exact World.ownsMap.mono hm.out (by omega))
        have hbz := hidI hbn
        have hsz2 : Hid (w.heap.size + 2 ≤ (wr.alloc (.cells #[.int .i64 f, .int .i64 l, .int .i64 t] 72)).heap.size) := hidI (by simp; omega)
        go_wp2
        go_roundg (n - (k + 1))
        case rel => exact ⟨k + 1, by have := hk.out; omega, by go_num, hnx, hsz2, hbz⟩
        case measure => have := hk.out; omega
  · obtain rfl : k = n := by omega
    have hki : ¬ (k : Int) < (k : Int) := by omega
    replace hk := hidI hk
    go_wp2
    go_ret
    exact ⟨w.heap.size + 1, rfl, by omega, by have := hm.out; rw [hn.out] at this; rw [hn.out]; exact this, hb.out⟩
set_option maxHeartbeats 1600000 in
theorem progDeg (w : World) (r s : Int) (v : Value) (es : List Ed) (x : Int) (h : ReadE w.heap.size w v es) (hin : InE es) (hl : es.length ≤ 100000000) :
 Calls Tryz.prog 176 #[.agg #[.int .i64 r, .int .i64 s, v], .int .i64 x] w (LwInt w (degE x es)) := by
 obtain ⟨a, cap, rfl, hnc⟩ := h.form
 obtain ⟨n, hn⟩ := exq es.length
 obtain ⟨w1, hw1⟩ := exq (w.alloc (.cells #[.int .i64 r, .int .i64 s, .slice a n cap] 26))
 have hb1 : Below w.heap.size w w1 := by rw [hw1]; exact (Below.refl _ _).alloc (Nat.le_refl _) _
 have hc := endsAt_any w1 r s (.slice a es.length cap) es x ((h.below hb1).mono hb1.size) hin hl
 rw [← hn] at hc ⊢
 have hsz : (size (endD x es n) : Int) = degE x es := by rw [hn, endD_size x es es.length (Nat.le_refl _) (by omega), List.take_length]
 obtain ⟨g0, g1, g2⟩ := box3 hw1
 obtain ⟨d, hd⟩ := exq (degE x es)
 rw [← hd] at hsz ⊢
 obtain ⟨D, hD⟩ := exq (endD x es n)
 rw [← hD] at hsz hc
 replace hn := hidI hn
 replace hw1 := hidI hw1
 replace h := hidI h
 replace hd := hidI hd
 replace hD := hidI hD
 replace hsz := hidI hsz
 go_enter Tryz.func176, Tryz.ntmps176
 go_wp2_with fail
 rw [← hw1.out]
 refine hc.mono ?_
 rintro e w2 ⟨b, rfl, hlb, hm, hb2⟩
 have hbz := hb1.trans (hb2.mono hb1.size)
 replace hm := hidI hm
 clear g0 g1 g2 hb2
 go_wp2_with (at_len; go_must (refine wpList_len_own _ rfl _ 194 rfl 220 3 Tryz.underlying194 _ b _ D rfl hm.out ?_))
 go_wp2
 go_ret
 exact ⟨ret_i hsz.out, hbz⟩
open Go.RowKit
set_option maxRecDepth 100000 in
set_option maxHeartbeats 3200000 in
theorem leastLeaf_any (w : World) (r s : Int) (v : Value) (es : List Ed) (h : ReadE w.heap.size w v es) (hin : InE es) (hs : -9223372036854775808 ≤ s ∧ s ≤ 9223372036854775807) (hl : es.length ≤ 10000000) :
 Calls Tryz.prog 153 #[.agg #[.int .i64 r, .int .i64 s, v]] w (LwInt w (ld s es)) := by
 obtain ⟨a, cap, rfl, hnc⟩ := h.form
 obtain ⟨n, hn⟩ := exq es.length
 rw [← hn] at hl hnc ⊢
 rw [← hn] at h
 obtain ⟨w1, hw1⟩ := exq (w.alloc (.cells #[.int .i64 r, .int .i64 s, .slice a n cap] 26))
 have hb1 : Below w.heap.size w w1 := by rw [hw1]; exact (Below.refl _ _).alloc (Nat.le_refl _) _
 have hs1 : w.heap.size < w1.heap.size := by rw [hw1]; simp
 obtain ⟨g0, g1, g2⟩ := box3 hw1
 have hdeg := fun (W : World) (x : Int) (hr : ReadE W.heap.size W (.slice a n cap) es) => progDeg W r s (.slice a n cap) es x hr hin (by omega)
 obtain ⟨F, hF⟩ := exq (ld s es)
 rw [← hF]
 have hF0 : Hid (F = ldN es 1 (s - 1).toNat) := hidI hF
 replace hdeg := hidI hdeg
 replace hF := hidI hF
 replace hn := hidI hn
 replace h := hidI h
 replace hin := hidI hin
 have hww := hidI hw1.symm
 have hb02 := hidI hb1
 replace hw1 := hidI hw1
 go_enter Tryz.func153, Tryz.ntmps153
 go_upto_region 1 with fail
 rw [hww.out]
 go_wp2
 go_loopg [3] (s - 1).toNat (fun g i wr => ∃ k : Int, g = (s - k).toNat ∧ i = .int .i64 k ∧ 1 ≤ k ∧ Hid (F = ldN es k (s - k).toNat) ∧ Hid (Below w1.heap.size w1 wr))
 case atStart => exact ⟨1, rfl, rfl, by omega, hF0, hidI (Below.refl _ _)⟩
 case round =>
  obtain ⟨k, hg, rfl, hk1, hlf, hb⟩ := hrel
  have q0 := below_cell g0 hb.out hs1
  have q1 := below_cell g1 hb.out hs1
  have q2 := below_cell g2 hb.out hs1
  by_cases hlt : k < s
  · have hlf2 : F = if degE k es < 2 then k else ldN es (k + 1) (s - (k + 1)).toNat := by
     rw [hlf.out, show (s - k).toNat = (s - (k + 1)).toNat + 1 by omega]; rfl
    have hbr := hb02.out.trans (hb.out.mono hb02.out.size)
    have hdg := hdeg.out wr k ((h.out.below hbr).mono hbr.size)
    obtain ⟨d, hd⟩ := exq (degE k es)
    rw [← hd] at hdg hlf2
    replace hd := hidI hd
    replace hg := hidI hg
    by_cases hd2 : d < 2
    · have hfin : F = k := by rw [hlf2, if_pos hd2]
      replace hfin := hidI hfin
      clear hlf2 hlf
      go_wp2_with fail
      refine hdg.mono ?_
      rintro e w3 ⟨rfl, hb3⟩
      have hbq := hbr.trans (hb3.mono hbr.size)
      clear hdg
      go_wp2
      go_ret
      exact ⟨ret_i hfin.out.symm, hbq⟩
    · have hnx : Hid (F = ldN es (k + 1) (s - (k + 1)).toNat) := hidI (by rw [hlf2, if_neg hd2])
      clear hlf2 hlf
      go_wp2_with fail
      refine hdg.mono ?_
      rintro e w3 ⟨rfl, hb3⟩
      have hbz := hb.out.trans (hb3.mono hb.out.size)
      replace hbz := hidI hbz
      clear hdg
      go_wp2
      go_roundg ((s - (k + 1)).toNat)
      case rel => exact ⟨k + 1, rfl, by go_num, by omega, hnx, hbz⟩
      case measure => have := hg.out; omega
  · have hfin : F = -1 := by rw [hlf.out, show (s - k).toNat = 0 by omega]; rfl
    have hbr := hb02.out.trans (hb.out.mono hb02.out.size)
    replace hfin := hidI hfin
    replace hg := hidI hg
    go_wp2
    go_ret
    exact ⟨ret_i hfin.out.symm, hbr⟩
def WoRet (w : World) (lo hi : Nat) (zs : List Int) (e : Ending) (w' : World) : Prop := ∃ v', e = .returned v' ∧ RowI w' lo hi v' zs ∧ Below lo w w'
theorem splice_at {L : List Value} {off : Nat} {cs : List Value} (h : off + cs.length ≤ L.length) (i : Nat) : (splice L off cs)[i]? = if i < off then L[i]? else if i < off + cs.length then cs[i - off]? else L[i]? := by
 unfold splice
 by_cases h1 : i < off
 · rw [if_pos h1, List.getElem?_append_left (by simp; omega), List.getElem?_take, if_pos h1]
 · rw [if_neg h1, List.getElem?_append_right (by simp; omega), show (L.take off).length = off by simp; omega]
   by_cases h2 : i < off + cs.length
   · rw [if_pos h2, List.getElem?_append_left (by omega)]
   · rw [if_neg h2, List.getElem?_append_right (by omega), List.getElem?_drop]
     congr 1; omega
theorem without_row {w' : World} {lo hi g off p : Nat} {cur : Array Value} {zs : List Int} (hp : p < zs.length) (hlo : lo ≤ g) (hhi : g < hi) (hl : zs.length ≤ 1000)
 (hc : ∀ i, i < zs.length → cur[off + i]? = some (.int .i64 (zs.getD i 0)))
 (hh : w'.heap[g]? = some (.cells (splice cur.toList (off + p) ((zs.drop (p + 1)).map iv)).toArray 3 (0, 0))) :
 RowI w' lo hi (.slice (some ⟨g, off, none⟩) (zs.length - 1) (zs.length - 1)) (resN p zs zs.length) := by
 have hlen := res_len (l := zs) (v := (p : Int)) (by omega)
 have hsz : off + zs.length ≤ cur.size := by
  have := hc (zs.length - 1) (by omega)
  have := (Array.getElem?_eq_some_iff.1 this).1
  omega
 refine ⟨by omega, .inr ⟨g, off, zs.length - 1, _, by rw [show (resN (p : Int) zs zs.length).length = zs.length - 1 by omega], hlo, hhi, by omega, hh, fun i hi => ?_⟩⟩
 have hdl : ((zs.drop (p + 1)).map iv).length = zs.length - (p + 1) := by simp
 rw [List.getElem?_toArray, splice_at (by rw [hdl]; simp; omega), hdl, res_td2 p zs hp]
 have htl : (zs.take p).length = p := by simp; omega
 by_cases h1 : off + i < off + p
 · rw [if_pos h1, Array.getElem?_toList, hc i (by omega), List.getD_eq_getElem?_getD, List.getD_eq_getElem?_getD, List.getElem?_append_left (by omega), List.getElem?_take, if_pos (by omega)]
 · rw [if_neg h1, if_pos (by omega), List.getElem?_map, List.getElem?_drop, List.getD_eq_getElem?_getD, List.getElem?_append_right (by omega), List.getElem?_drop, htl, show p + 1 + (off + i - (off + p)) = p + 1 + (i - p) by omega, List.getElem?_eq_getElem (show p + 1 + (i - p) < zs.length by omega)]
   rfl
set_option maxRecDepth 100000 in
set_option maxHeartbeats 3200000 in
theorem without_any (w : World) (lo hi : Nat) (v : Value) (zs : List Int) (p : Nat) (hp : p < zs.length) (h : RowI w lo hi v zs) (hl : zs.length ≤ 1000) :
 Calls Tryz.prog 154 #[v, .int .i64 p] w (WoRet w lo hi (resN p zs zs.length)) := by
 obtain ⟨i0, hi0, hz0, hz1, hz2⟩ := info_parts infoInt
 have hsz : (Tryz.prog.info? 3).map (·.size) = some 1 := by rw [hi0]; simp [hz1]
 obtain ⟨_, ⟨rfl, rfl⟩ | ⟨g, off, cap, cur, rfl, hlo, hhi, hcap, hh, hc⟩⟩ := h
 · simp at hp
 obtain ⟨n, hn⟩ := exq zs.length
 have hend := fun (w' : World) (hh' : w'.heap[g]? = some (.cells (splice cur.toList (off + p) ((zs.drop (p + 1)).map iv)).toArray 3 (0, 0))) => without_row hp hlo hhi hl hc hh'
 rw [← hn] at hp hl hcap hend ⊢
 obtain ⟨cs, hcs⟩ := exq ((zs.drop (p + 1)).map iv)
 rw [← hcs] at hend
 have hcl : cs.length = n - (p + 1) := by rw [hcs, hn]; simp
 have hmin : cs.length = Nat.min (n - (p + 1)) (n - p) := by rw [hcl, show Nat.min (n - (p + 1)) (n - p) = min (n - (p + 1)) (n - p) from rfl]; omega
 have h1c : ∀ x ∈ cs, x.oneCell' = true := by
  intro x hx; rw [hcs] at hx
  obtain ⟨y, _, rfl⟩ := List.mem_map.1 hx; rfl
 have hsc : off + n ≤ cur.size := by
  have := hc (n - 1) (by omega)
  have := (Array.getElem?_eq_some_iff.1 this).1
  omega
 have hfit : off + p + cs.length ≤ cur.toList.length := by rw [hcl]; simp; omega
 have hh2 : w.heap[g]? = some (.cells cur.toList.toArray 3 (0, 0)) := by simpa using hh
 have hat : ∀ j x, cs[j]? = some x → w.cell? ⟨g, off + (p + 1) + j, none⟩ = some x := by
  intro j x hx
  have hj : j < cs.length := (List.getElem?_eq_some_iff.1 hx).1
  rw [World.cell?, hh]
  simp only
  have := hc (p + 1 + j) (by omega)
  rw [show off + (p + 1) + j = off + (p + 1 + j) by omega, this]
  rw [hcs, List.getElem?_map, List.getElem?_drop, List.getElem?_eq_getElem (by omega)] at hx
  rw [List.getD_eq_getElem?_getD, List.getElem?_eq_getElem (by omega)]
  simpa [iv] using hx
 have hw1 : IntKind.i64.wrap ((n : Int) - 1) = (n : Int) - 1 := IntWalk.i64_in _ (by omega)
 have hw2 : IntKind.i64.wrap ((p : Int) + 1) = (p : Int) + 1 := IntWalk.i64_in _ (by omega)
 have hpi : (p : Int) < (n : Int) := by omega
 replace hend := hidI hend
 replace hcs := hidI hcs
 replace hcl := hidI hcl
 replace hmin := hidI hmin
 replace h1c := hidI h1c
 replace hfit := hidI hfit
 replace hh2 := hidI hh2
 replace hh := hidI hh
 replace hat := hidI hat
 replace hc := hidI hc
 replace hn := hidI hn
 replace hsz := hidI hsz
 clear hi0 hz0 hz1 hz2
 have hcp1 : ¬ cap = p := by omega
 have hBg : lo ≤ g := hlo
 have hpn : p ≤ n := by omega
 have hpn1 : 0 ≤ (p : Int) + 1 ∧ (p : Int) + 1 ≤ (n : Int) := by omega
 have hn1 : n - 1 ≤ cap := by omega
 have hcn : cs.length = n - (p + 1) := hcl.out
 have e1 : ((n : Int) - 1).toNat = n - 1 := by omega
 by_cases hcp2 : cap = p + 1
 · have h0 : ¬ 0 < cs.length := by omega
   replace hcn := hidI hcn
   go_enter Tryz.func154, Tryz.ntmps154
   go_upto_region 2 with fail
   go_region_law (refine step_copy_splice rfl (.tmp 11) (.tmp 15) 46 46 rfl 3 Tryz.underlying46 hsz.out (some ⟨g, off + p, none⟩) (some ⟨g, off, none⟩) (n - p) 1 (n - (p + 1)) 0 (by simp [Act.eval, Act.put]) (by simp [Act.eval, Act.put]) g (off + p) cur.toList 3 hh2.out cs hmin.out (fun h => absurd h h0) hfit.out h1c.out lo w (by exact (Below.refl lo w).drew) hBg ?_; intro w4 hh4 hb4)
   go_wp2
   go_ret
   exact ⟨_, rfl, hend.out _ hh4.out, hb4⟩
 · have hpos : 0 < cs.length → (some (⟨g, off + p, none⟩ : Addr)) = some ⟨g, off + p, none⟩ ∧ ∃ ad, (some (⟨g, off + (p + 1), none⟩ : Addr)) = some ad ∧ ∀ j x, cs[j]? = some x → w.drew.cell? (ad.add j) = some x := by
    intro h0
    refine ⟨rfl, _, rfl, fun j x hx => ?_⟩
    rw [World.cell?_drew]
    have := hat.out j x hx
    by_cases hj : j = 0
    · subst hj; simpa [Addr.add] using this
    · simpa [Addr.add, hj] using this
   replace hpos := hidI hpos
   replace hcn := hidI hcn
   go_enter Tryz.func154, Tryz.ntmps154
   go_upto_region 2 with fail
   go_region_law (refine step_copy_splice rfl (.tmp 11) (.tmp 15) 46 46 rfl 3 Tryz.underlying46 hsz.out (some ⟨g, off + p, none⟩) (some ⟨g, off + (p + 1), none⟩) (n - p) (cap - p) (n - (p + 1)) (cap - (p + 1)) (by simp [Act.eval, Act.put]) (by simp [Act.eval, Act.put]) g (off + p) cur.toList 3 hh2.out cs hmin.out hpos.out hfit.out h1c.out lo w (by exact (Below.refl lo w).drew) hBg ?_; intro w4 hh4 hb4)
   go_wp2
   go_ret
   exact ⟨_, rfl, hend.out _ hh4.out, hb4⟩
theorem inE_gr {r s : Int} {es : List Ed} (h : isGr r s es = true) : InE es := by
 have hl := isGr_lim h
 intro e he
 have := gr_mem8 h he
 omega
theorem tm_no {r s : Int} {es : List Ed} (h : isGr r s es = false) : tmS r s es = s ∧ tmE r s es = es ∧ tmL r s es = [] := by
 unfold tmS tmE tmL
 rw [h]
 exact ⟨rfl, rfl, rfl⟩
set_option maxRecDepth 100000 in
set_option maxHeartbeats 6400000 in
theorem progTrim (w : World) (r s : Int) (v : Value) (es : List Ed) (h : ReadE w.heap.size w v es) (hl : es.length ≤ 10000000) :
 Calls Tryz.prog 122 #[.agg #[.int .i64 r, .int .i64 s, v]] w (LwGraphInts w r (tmS r s es) (tmE r s es) (tmL r s es)) := by
 obtain ⟨a, cap, rfl, hnc⟩ := h.form
 obtain ⟨n, hn⟩ := exq es.length
 rw [← hn] at h
 rw [← hn] at hl hnc ⊢
 obtain ⟨w1, hw1⟩ := exq ((w.alloc (.cells #[.int .i64 r, .int .i64 s, .slice a n cap] 26)).alloc (.cells #[.int .i64 0, .int .i64 0, .slice none 0 0] 26))
 have hb1 : Below w.heap.size w w1 := by rw [hw1]; exact ((Below.refl _ _).alloc (Nat.le_refl _) _).alloc (by simp) _
 have hs1 : w1.heap.size = w.heap.size + 1 + 1 := by rw [hw1]; simp
 have hg := heap_box w (.cells #[.int .i64 r, .int .i64 s, .slice a n cap] 26) (.cells #[.int .i64 0, .int .i64 0, .slice none 0 0] 26)
 have hR := heap_alloc_new (w.alloc (.cells #[.int .i64 r, .int .i64 s, .slice a n cap] 26)) (.cells #[.int .i64 0, .int .i64 0, .slice none 0 0] 26)
 rw [← hw1] at hg hR
 rw [show (w.alloc (.cells #[.int .i64 r, .int .i64 s, .slice a n cap] 26)).heap.size = w.heap.size + 1 by simp] at hR
 have g0 : w1.cell? ⟨w.heap.size, 0, none⟩ = some (.int .i64 r) := by simpa using cell_of_heap hg 0
 have g1 : w1.cell? ⟨w.heap.size, 1, none⟩ = some (.int .i64 s) := by simpa using cell_of_heap hg 1
 have g2 : w1.cell? ⟨w.heap.size, 2, none⟩ = some (.slice a n cap) := by simpa using cell_of_heap hg 2
 have hig := progIsGr w1 r s (.slice a n cap) es (by have := (h.below hb1).mono hb1.size; rw [hn] at this ⊢; exact this) (by omega)
 obtain ⟨B, hB⟩ := exq (isGr r s es)
 obtain ⟨ZS, hZS⟩ := exq (tmS r s es)
 obtain ⟨ZE, hZE⟩ := exq (tmE r s es)
 obtain ⟨ZL, hZL⟩ := exq (tmL r s es)
 rw [← hB] at hig
 rw [← hZS, ← hZE, ← hZL]
 have hno : B = false → ZS = s ∧ ZE = es ∧ ZL = [] := fun hf => by rw [hZS, hZE, hZL]; exact tm_no (by rw [← hB, hf])
 have hend : ∀ m, isGr r s es = true → PrIn s es m → ld (m.length : Int) (rnE r s es m) < 0 → m = ZL ∧ (m.length : Int) = ZS ∧ rnE r s es m = ZE := fun m hg hp hd => by rw [hZS, hZE, hZL]; exact pr_end hg hp hd
 have hRk : ∀ W, Below w1.heap.size w1 W → W.heap[w.heap.size + 1]? = some (.cells #[.int .i64 0, .int .i64 0, .slice none 0 0] 26 (0, 0)) := fun W hW => by rw [hW.block _ (by omega)]; exact hR
 have hcopy := fun (W : World) (hr : ReadE W.heap.size W (.slice a es.length cap) es) => gpCopy W r s _ es hr (by omega)
 have hreach := fun (W : World) (hr : ReadE W.heap.size W (.slice a es.length cap) es) => progReach W r s _ es 0 hr (by omega)
 have hren := fun (W : World) (u : Value) (m : List Int) (hr : ReadE W.heap.size W (.slice a es.length cap) es) (hu : ReadI W.heap.size W u m) (hm : m.length ≤ 10000000) => progRenum W r s _ u es m hr (by omega) hu hm
 rw [← hn] at hcopy hreach hren
 have hww := hidI hw1.symm
 replace hcopy := hidI hcopy
 replace hreach := hidI hreach
 replace hren := hidI hren
 replace hno := hidI hno
 replace hend := hidI hend
 replace hRk := hidI hRk
 replace hn := hidI hn
 replace h := hidI h
 replace hg := hidI hg
 replace hR := hidI hR
 replace hs1 := hidI hs1
 replace hZS := hidI hZS
 replace hZE := hidI hZE
 replace hZL := hidI hZL
 replace hw1 := hidI hw1
 go_enter Tryz.func122, Tryz.ntmps122
 go_upto_region 1 with fail
 rw [hww.out]
 go_wp2_with fail
 refine hig.mono ?_
 rintro e w2 ⟨rfl, hb2⟩
 clear hig
 have hlt1 : w.heap.size + 1 < w1.heap.size := by have := hs1.out; omega
 have hlt2 : w.heap.size + 1 < w2.heap.size := by have := hb2.size; omega
 replace g0 := below_cell g0 hb2 (by omega)
 replace g1 := below_cell g1 hb2 (by omega)
 replace g2 := below_cell g2 hb2 (by omega)
 have hb12 := hidI (hb1.trans (hb2.mono hb1.size))
 have hb12' := hidI hb2
 clear hb2 hb1
 have hrd2 : ReadE w2.heap.size w2 (.slice a n cap) es := (h.out.below hb12.out).mono hb12.out.size
 cases B with
 | false =>
  obtain ⟨hZS0, hZE0, hZL0⟩ := hno.out rfl
  have hcc := hcopy.out w2 hrd2
  replace hZS0 := hidI hZS0
  replace hZE0 := hidI hZE0
  replace hZL0 := hidI hZL0
  replace hB := hidI hB
  replace hrd2 := hidI hrd2
  go_wp2_with fail
  refine hcc.mono ?_
  rintro e w5 ⟨ca, cc, rfl, hrow5, hb5⟩
  rw [← hn.out]
  rw [← hn.out] at hrow5
  clear hcc
  have hb15 : Below w.heap.size w w5 := hb12.out.trans (hb5.mono hb12.out.size)
  have hR5 := hRk.out w5 (hb12'.out.trans (hb5.mono hb12'.out.size))
  obtain ⟨y0, y1, y2⟩ := cell3 hR5
  have f2 := fun j => frozen_of_row w5 (w.heap.size + 1) j _ _ hR5
  simp at y0 y1 y2
  have hfin : LwGraphInts w r s es [] (.returned (.tuple #[.agg #[.int .i64 r, .int .i64 s, .slice ca n cc], .slice none 0 0])) (((w5.setCell ⟨w.heap.size + 1, 0, none⟩ (.int .i64 r)).setCell ⟨w.heap.size + 1, 1, none⟩ (.int .i64 s)).setCell ⟨w.heap.size + 1, 2, none⟩ (.slice ca n cc)) := by
   have hrw := hrow5
   rw [hn.out] at hrw
   rw [hn.out]
   have hsz5 := hb5.size
   exact ⟨ca, cc, .slice none 0 0, w2.heap.size, w5.heap.size, w.heap.size, w.heap.size, rfl, ⟨by omega, by omega, by rw [size_set3]; omega, by omega, by omega, by rw [size_set3]; omega, .inr (by omega)⟩, RowS.set3_ hrw (.inl hlt2), ⟨by simp, .inl ⟨rfl, rfl⟩⟩, below_set3 hb15 (by omega)⟩
  have hset := set3 hR5 (.int .i64 r) (.int .i64 s) (.slice ca n cc)
  replace hfin := hidI hfin
  replace hset := hidI hset
  replace hR5 := hidI hR5
  replace hrow5 := hidI hrow5
  replace hb5 := hidI hb5
  replace hb15 := hidI hb15
  clear g0 g1 g2
  go_wp2
  (try simp only [Exit.inBlock, Exit.then])
  refine ret_cell2 (x := .slice none 0 0) rfl rfl rfl hset.out Tryz.underlying26 sizeGraph ?_
  rw [hZS0.out, hZE0.out, hZL0.out]
  exact hfin.out
 | true =>
  have hgr := hidI hB.symm
  have hlim := isGr_lim hgr.out
  have hn120 : n ≤ 120 := by have := hn.out; omega
  have hrc := hreach.out w2 hrd2
  obtain ⟨m0, hm0⟩ := exq (reachG r s es 0)
  have hp0 : PrIn s es m0 := by rw [hm0]; exact pr_start hgr.out
  rw [← hm0] at hrc
  replace hm0 := hidI hm0
  replace hp0 := hidI hp0
  replace hlim := hidI hlim
  replace hB := hidI hB
  replace hrd2 := hidI hrd2
  go_wp2_with fail
  refine hrc.mono ?_
  rintro e w3 ⟨u0, rfl, hrow0, hb3⟩
  clear hrc
  have hsz3 := hb3.size
  have hst0 : Hid (RowI w3 w2.heap.size w3.heap.size u0 m0) := hidI hrow0
  have hb3' := hidI hb3
  clear hb3 hrow0
  go_wp2
  go_loopg [4] m0.length (fun g u wr => ∃ m : List Int, g = m.length ∧ Hid (PrIn s es m) ∧ Hid (RowI wr w2.heap.size w3.heap.size u m) ∧ Hid (Below w2.heap.size w2 wr) ∧ w3.heap.size ≤ wr.heap.size)
  case atStart => exact ⟨m0, rfl, hp0, hst0, hb3', Nat.le_refl _⟩
  case round =>
   clear hst0 hp0
   obtain ⟨m, hg, hp, hst, hb, hsz⟩ := hrel
   replace hg := hidI hg
   have hok := hp.out.sub.ok hgr.out
   have hml : m.length ≤ 40 := by have := hp.out.sub.co.len; have := hlim.out; omega
   have hbr := hb12.out.trans (hb.out.mono hb12.out.size)
   have hrn := hren.out wr u4 m ((h.out.below hbr).mono hbr.size) (hst.out.read.mono hsz) (by omega)
   have hrS : rnS r s es m = (m.length : Int) := by unfold rnS; rw [if_pos hok]
   have hgE := ren_gr hok
   have hlE := rnE_length r s es m
   obtain ⟨E, hE⟩ := exq (rnE r s es m)
   obtain ⟨q, hq⟩ : ∃ q : Int, q = (m.length : Int) := ⟨_, rfl⟩
   rw [hok, hrS, ← hE, ← hq] at hrn
   rw [← hE, ← hq] at hgE
   rw [← hE] at hlE
   have q0 := below_cell g0 hb.out (by omega)
   have q1 := below_cell g1 hb.out (by omega)
   have q2 := below_cell g2 hb.out (by omega)
   have hq40 : 0 ≤ q ∧ q ≤ 40 := by omega
   replace hok := hidI hok
   replace hq := hidI hq
   replace hE := hidI hE
   replace hgE := hidI hgE
   replace hrS := hidI hrS
   replace hbr := hidI hbr
   replace hlE := hidI hlE
   have hsw := hb.out.size
   go_wp2_with fail
   refine hrn.mono ?_
   rintro e w4 ⟨ca, cc, rfl, hrow4, hb4⟩
   clear hrn
   have hsz4 := hb4.size
   obtain ⟨w5, hw5⟩ := exq (w4.alloc (.cells #[.int .i64 0, .int .i64 0, .slice none 0 0] 26))
   have hb5 : Below w4.heap.size w4 w5 := by rw [hw5]; exact (Below.refl _ _).alloc (Nat.le_refl _) _
   have hX5 : w5.heap[w4.heap.size]? = some (.cells #[.int .i64 0, .int .i64 0, .slice none 0 0] 26 (0, 0)) := by rw [hw5]; exact heap_alloc_new _ _
   obtain ⟨w6, hw6⟩ := exq (((w5.setCell ⟨w4.heap.size, 0, none⟩ (.int .i64 r)).setCell ⟨w4.heap.size, 1, none⟩ (.int .i64 q)).setCell ⟨w4.heap.size, 2, none⟩ (.slice ca E.length cc))
   have hX6 : w6.heap[w4.heap.size]? = some (.cells #[.int .i64 r, .int .i64 q, .slice ca E.length cc] 26 (0, 0)) := by rw [hw6]; exact set3 hX5 _ _ _
   have hb6 : Below w4.heap.size w4 w6 := by rw [hw6]; exact below_set3 hb5 (Nat.le_refl _)
   have hs6 : w4.heap.size < w6.heap.size := (Array.getElem?_eq_some_iff.1 hX6).1
   have hbr6 : Below wr.heap.size wr w6 := hb4.trans (hb6.mono hsz4)
   have hrow6 : RowS 72 3 w6 wr.heap.size w4.heap.size (.slice ca E.length cc) E.length (flatE E) := hrow4.below hb6 (Nat.le_refl _)
   have hst6 : RowI w6 w2.heap.size w3.heap.size u4 m := hst.out.below hbr6 hsz
   have hb26 := hb.out.trans (hbr6.mono hsw)
   obtain ⟨c0, c1, c2⟩ := cell3 hX6
   obtain ⟨t0, t1, t2⟩ := cell3 hX5
   have ft := fun j => frozen_of_row w5 w4.heap.size j _ _ hX5
   simp at c0 c1 c2 t0 t1 t2
   have hll := leastLeaf_any w6 r q (.slice ca E.length cc) E (hrow6.read.mono (by omega)) (inE_gr hgE.out) (by omega) (by have := hlE.out; have := hn.out; omega)
   have hdor := ld_or q E
   have hpe := hend.out m hgr.out hp.out
   have hps := fun v (hv : v = ld (m.length : Int) (rnE r s es m)) (h0 : 0 ≤ v) => pr_step hgr.out hp.out hv h0
   rw [← hE.out, ← hq.out] at hpe hps
   obtain ⟨d, hd⟩ := exq (ld q E)
   rw [← hd] at hll hdor hpe hps
   have hps2 := hps d rfl
   clear hps
   have hw5w := hidI hw5.symm
   have hw6w := hidI hw6.symm
   have hY : w4.heap.size < w5.heap.size := by rw [hw5]; simp
   replace hd := hidI hd
   replace hw5 := hidI hw5
   replace hw6 := hidI hw6
   replace hX5 := hidI hX5
   replace hX6 := hidI hX6
   replace hpe := hidI hpe
   replace hps2 := hidI hps2
   replace hb5 := hidI hb5
   replace hb6 := hidI hb6
   replace hb4 := hidI hb4
   replace hbr6 := hidI hbr6
   replace hrow4 := hidI hrow4
   replace hrow6 := hidI hrow6
   replace hst6 := hidI hst6
   replace hb26 := hidI hb26
   obtain ⟨Y, hYe⟩ := exq w4.heap.size
   rw [← hYe] at c0 c1 c2 t0 t1 t2 ft hw6w
   replace hYe := hidI hYe
   go_upto_region 5 with (first | rw [hw5w.out] | rw [← hYe.out] | fail)
   rw [hw6w.out]
   clear t0 t1 t2 ft
   go_wp2_with fail
   refine hll.mono ?_
   rintro e w7 ⟨rfl, hb7⟩
   clear hll
   have hsz7 := hb7.size
   have hYw : Y < w6.heap.size := by have := hYe.out; omega
   have hYr : wr.heap.size ≤ Y := by have := hYe.out; omega
   replace c0 := below_cell c0 hb7 hYw
   replace c1 := below_cell c1 hb7 hYw
   replace c2 := below_cell c2 hb7 hYw
   have hb27 := hidI (hb26.out.trans (hb7.mono hb26.out.size))
   have hst7 : RowI w7 w2.heap.size w3.heap.size u4 m := hst6.out.below hb7 (by omega)
   have hrow7 : RowS 72 3 w7 wr.heap.size w4.heap.size (.slice ca E.length cc) E.length (flatE E) := hrow6.out.below hb7 (by omega)
   have hR7 := hRk.out w7 (hb12'.out.trans (hb27.out.mono hb12'.out.size))
   have hb7' := hidI hb7
   clear hb7
   by_cases hd0 : d < 0
   · have hd1 : d = -1 := by omega
     subst hd1
     obtain ⟨hmL, hmS, hmE⟩ := hpe.out (by omega)
     obtain ⟨y0, y1, y2⟩ := cell3 hR7
     have f2 := fun j => frozen_of_row w7 (w.heap.size + 1) j _ _ hR7
     simp at y0 y1 y2
     have hfin : LwGraphInts w r ZS ZE ZL (.returned (.tuple #[.agg #[.int .i64 r, .int .i64 q, .slice ca E.length cc], u4])) (((w7.setCell ⟨w.heap.size + 1, 0, none⟩ (.int .i64 r)).setCell ⟨w.heap.size + 1, 1, none⟩ (.int .i64 q)).setCell ⟨w.heap.size + 1, 2, none⟩ (.slice ca E.length cc)) := by
      rw [← hmL, ← hmS, ← hmE]
      refine ⟨ca, cc, u4, wr.heap.size, w4.heap.size, w2.heap.size, w3.heap.size, rfl, ⟨by omega, by omega, by rw [size_set3]; omega, by omega, by omega, by rw [size_set3]; omega, .inr (by omega)⟩, RowS.set3_ hrow7 (.inl (by omega)), hst7.keep (fun k h1 h2 => heap_set3 (by omega)), below_set3 (hb12.out.trans (hb27.out.mono hb12.out.size)) (by omega)⟩
     have hset := set3 hR7 (.int .i64 r) (.int .i64 q) (.slice ca E.length cc)
     replace hfin := hidI hfin
     replace hset := hidI hset
     replace hR7 := hidI hR7
     replace hst7 := hidI hst7
     replace hrow7 := hidI hrow7
     replace hmL := hidI hmL
     replace hmS := hidI hmS
     replace hmE := hidI hmE
     clear g0 g1 g2 q0 q1 q2
     go_wp2
     (try simp only [Exit.inBlock, Exit.then])
     refine ret_cell2 (x := u4) rfl rfl rfl hset.out Tryz.underlying26 sizeGraph ?_
     exact hfin.out
   · obtain ⟨hps3, hdr⟩ := hps2.out (by omega)
     have hdr2 : 1 ≤ d ∧ d < (m.length : Int) := by have := hq.out; omega
     obtain ⟨p, rfl⟩ : ∃ p : Nat, d = (p : Int) := ⟨d.toNat, by omega⟩
     have hwo := without_any w7 w2.heap.size w3.heap.size u4 m p (by omega) hst7 (by omega)
     have hln := res_len (l := m) (v := (p : Int)) (by omega)
     have hps4 : PrIn s es (resN (p : Int) m m.length) := hps3
     obtain ⟨m2, hm2⟩ := exq (resN (p : Int) m m.length)
     rw [← hm2] at hwo hps4 hln
     have hne : ((p : Int) == -1) = false := by rw [beq_eq_false_iff_ne]; omega
     replace hps3 := hidI hps3
     replace hps4 := hidI hps4
     replace hm2 := hidI hm2
     replace hln := hidI hln
     replace hdr := hidI hdr
     replace hdr2 := hidI hdr2
     replace hst7 := hidI hst7
     replace hrow7 := hidI hrow7
     replace hR7 := hidI hR7
     go_wp2_with fail
     refine hwo.mono ?_
     rintro e w8 ⟨u8, rfl, hst8, hb8⟩
     have hs8 := hb8.size
     have hb28 := hidI (hb27.out.trans hb8)
     replace hst8 := hidI hst8
     replace hb8 := hidI hb8
     clear hwo
     go_wp2
     go_roundg m2.length
     case rel => exact ⟨m2, rfl, hps4, hst8, hb28, by omega⟩
     case measure => have := hg.out; have := hln.out; omega
end Go.Proofs.YtpjlamnjiilgbaaGreat
