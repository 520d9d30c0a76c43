/- Folded graphs, the program: foldedSteps, IsFolded. -/
import Derived.Test.YtecceaijdjnflaaGreatFM
import Derived.Test.YtecceaijdjnflaaGreatQE
import Derived.Test.YtecceaijdjnflaaGreatQF
import Derived.Maps.OwnOps
import Derived.Maps.OwnSet
namespace Go.Proofs.YtecceaijdjnflaaGreat
open Go.RowKit Go.Maps
set_option linter.unusedVariables false
set_option linter.unusedSimpArgs false

abbrev MapS (w : World) (b n : Nat) (D : DataW Unit) : Prop := w.ownsMap Tryz.prog 119 (plainElem Tryz.prog 3) b n D
theorem zeroInt (w : World) : (zeroValue 3).run Tryz.prog w = .ok (.int .i64 0) w := by kernel_rfl
/-- What foldedSteps leaves. -/
def LwSteps (w : World) (r s : Int) (es : List Ed) (e : Ending) (w' : World) : Prop :=
  (isFo r s es = true ∧ ∃ b, e = .returned (.tuple #[.map (some b), .bool true]) ∧ w.heap.size ≤ b ∧ b < w'.heap.size ∧ MapS w' b (2 * es.length) (stD es es.length) ∧ Below w.heap.size w w') ∨
  (isFo r s es = false ∧ e = .returned (.tuple #[.map none, .bool false]) ∧ Below w.heap.size w w')
theorem MapS.below {w w' : World} {B b n : Nat} {D : DataW Unit} (h : MapS w b n D) (hb : Below B w w') (hlt : b < B) : MapS w' b n D := by
  obtain ⟨es, clock, hb', F, hs, hD⟩ := h
  exact ⟨es, clock, (hb.block b hlt).trans hb', F, hs, hD⟩
theorem run_makeMap_hint {P : Program} (t k e : TypeId) (n : Int) (hm : P.underlying t = some (.map k e)) (w : World) : (Instr.makeMap t (some (.int .i64 n))).run P w = .ok (.map (some w.heap.size)) (w.alloc (.map #[] 0)) := by
  simp [Instr.makeMap, run_underlying hm]
  rfl
set_option maxHeartbeats 3200000 in
theorem folded_any (w : World) (r s : Int) (v : Value) (es : List Ed) (h : ReadE w.heap.size w v es) (hl : es.length ≤ 100000000) :
    Calls Tryz.prog 63 #[.agg #[.int .i64 r, .int .i64 s, v]] w (LwSteps w r s es) := by
  obtain ⟨a, cap, rfl, hnc⟩ := h.form
  obtain ⟨n, hn⟩ : ∃ n, n = es.length := ⟨_, rfl⟩
  rw [← hn] at hl hnc ⊢
  rw [← hn] at h
  obtain ⟨w1, hw1⟩ : ∃ w1, w1 = w.alloc (.cells #[.int .i64 r, .int .i64 s, .slice a n cap] 28) := ⟨_, rfl⟩
  have hb1 : Below w.heap.size w w1 := by rw [hw1]; exact (Below.refl _ _).alloc (Nat.le_refl _) _
  have hs1 : w1.heap.size = w.heap.size + 1 := by rw [hw1]; simp
  have hc := progIsGr w1 r s (.slice a n cap) es ((h.below hb1).mono hb1.size) (by omega)
  obtain ⟨B, hB⟩ : ∃ B, B = isGr r s es := ⟨_, rfl⟩
  rw [← hB] at hc
  obtain ⟨g0, g1, g2⟩ := box3 hw1
  have hmm := run_makeMap_hint (P := Tryz.prog) 84 _ _ (2 * (n : Int)) Tryz.underlying84
  have h2n : IntKind.i64.wrap (2 * (n : Int)) = 2 * (n : Int) := IntWalk.i64_in _ ⟨by omega, by omega⟩
  replace hn := hidI hn
  replace hw1 := hidI hw1
  replace h := hidI h
  replace hs1 := hidI hs1
  go_enter Tryz.func63, Tryz.ntmps63
  go_wp2_with fail
  rw [← hw1.out]
  refine hc.mono ?_
  rintro e w2 ⟨rfl, hb2⟩
  clear hc
  have hb12 := hb1.trans (hb2.mono hb1.size)
  cases B with
  | false =>
    have hfin := hidI (isFo_gr (r := r) (s := s) (es := es) hB.symm)
    replace hB := hidI hB
    go_wp2
    go_ret2
    exact .inr ⟨hfin.out, rfl, hb12⟩
  | true =>
  have hg := hidI hB.symm
  replace hB := hidI hB
  have hBd := hidI (bds_of hg.out)
  have hlim := hidI (isGr_lim hg.out)
  have hn120 : n ≤ 120 := by have := hlim.out; have := hn.out; omega
  replace g2 := below_cell g2 hb2 (by have := hs1.out; omega)
  clear g0 g1
  have hs2 : w.heap.size < w2.heap.size := by have := hs1.out; have := hb2.size; omega
  obtain ⟨w3, hw3⟩ : ∃ w3, w3 = w2.alloc (.map #[] 0) := ⟨_, rfl⟩
  have hm3 : MapS w3 w2.heap.size 0 (stD es 0) := by rw [hw3]; exact World.ownsMap_made (H := Unit) w2 Tryz.prog 119 (plainElem Tryz.prog 3)
  have hb3 : Below w2.heap.size w2 w3 := by rw [hw3]; exact (Below.refl _ _).alloc (Nat.le_refl _) _
  have hs3 : w2.heap.size < w3.heap.size := by rw [hw3]; simp
  have g3 := below_cell g2 hb3 hs2
  have hb13 := hidI (hb12.trans (hb3.mono hb12.size))
  replace hb12 := hidI hb12
  replace hm3 := hidI hm3
  have hbm := hidI (hb3)
  clear hb2 hb3
  replace hw3 := hidI hw3
  go_wp2
  rw [← hw3.out]
  go_wp2
  go_loopg [18] n (fun g i wr => ∃ k : Nat, k + g = n ∧ i = .int .i64 k ∧ Hid (MapS wr w2.heap.size (2 * k) (stD es k)) ∧ Hid (w2.heap.size < wr.heap.size) ∧ Hid (Below w2.heap.size w2 wr))
  case atStart => exact ⟨0, by omega, rfl, hm3, hidI hs3, hbm⟩
  case round =>
    clear hm3
    obtain ⟨k, hk, rfl, hm, hsz, hb⟩ := hrel
    have g4 := below_cell g2 hb.out hs2
    by_cases hlt : k < n
    · obtain ⟨b, off, hab, hBk, c0, c1, c2⟩ := ReadE.at3 (h.out.below (hb12.out.trans (hb.out.mono hb12.out.size))) k (by have := hn.out; omega)
      subst hab
      have hbk := hBd.out k (by have := hn.out; omega)
      have hstep : stD es (k + 1) = ((stD es k).put (kS (es.getD k e0).1 (es.getD k e0).2.1) (.lit (.int .i64 (es.getD k e0).2.2))).put (kS (es.getD k e0).2.2 (-(es.getD k e0).2.1)) (.lit (.int .i64 (es.getD k e0).1)) := rfl
      obtain ⟨D, hD⟩ : ∃ D, D = stD es k := ⟨_, rfl⟩
      obtain ⟨D2, hD2⟩ : ∃ D2, D2 = stD es (k + 1) := ⟨_, rfl⟩
      rw [← hD, ← hD2] at hstep
      rw [← hD] at hm
      obtain ⟨f, hf⟩ : ∃ z, z = (es.getD k e0).1 := ⟨_, rfl⟩
      obtain ⟨l, hll⟩ : ∃ z, z = (es.getD k e0).2.1 := ⟨_, rfl⟩
      obtain ⟨t, ht⟩ : ∃ z, z = (es.getD k e0).2.2 := ⟨_, rfl⟩
      rw [← hf, ← hll, ← ht] at hstep hbk
      rw [← hf] at c0
      rw [← hll] at c1
      rw [← ht] at c2
      have hki : (k : Int) < (n : Int) := by omega
      have hmn : Hid (MapS (wr.alloc (.cells #[.int .i64 f, .int .i64 l, .int .i64 t] 54)) w2.heap.size (2 * k) D) := hidI (World.ownsMap.alloc hm.out _)
      have hbn : Below w2.heap.size w2 (wr.alloc (.cells #[.int .i64 f, .int .i64 l, .int .i64 t] 54)) := hb.out.alloc hb.out.size _
      have hsn : w2.heap.size < wr.heap.size := hsz.out
      have k1 := kS_key f l (by unfold I64; omega) (by unfold I64; omega)
      have k2 := kS_key t (-l) (by unfold I64; omega) (by unfold I64; omega)
      have v1 : plainElem (H := Unit) Tryz.prog 3 (.int .i64 t) = some (.lit (.int .i64 t), []) := plainElem_int Tryz.underlying3 (WalkArith.wf_i64 (by omega))
      have v2 : plainElem (H := Unit) Tryz.prog 3 (.int .i64 f) = some (.lit (.int .i64 f), []) := plainElem_int Tryz.underlying3 (WalkArith.wf_i64 (by omega))
      have hneg : IntKind.i64.wrap (-l) = -l := IntWalk.i64_in _ (by omega)
      replace hm := hmn
      clear hmn hb hsz
      replace hf := hidI hf
      replace hll := hidI hll
      replace ht := hidI ht
      replace hD := hidI hD
      replace hD2 := hidI hD2
      replace hstep := hidI hstep
      replace hk := hidI hk
      replace hbk := hidI hbk
      replace k1 := hidI k1
      replace k2 := hidI k2
      replace v1 := hidI v1
      replace v2 := hidI v2
      go_wp2_with (at_mapUpdate; go_must (refine wpList_mapUpdate_own _ rfl _ _ _ 84 rfl 119 3 lawS Tryz.underlying84 _ w2.heap.size (2 * k) D rfl hm.out (by unfold maxLen; omega) _ _ _ rfl rfl k1.out _ [] v1.out ?_))
      intro w5 hm5 hg5
      have hkx : w5.heap[wr.heap.size]? = some (.cells #[.int .i64 f, .int .i64 l, .int .i64 t] 54 (0, 0)) := (hg5.block wr.heap.size (by simp) (by simp; omega)).trans (heap_alloc_new _ _)
      have x0 := cell_of_heap hkx 0
      have x1 := cell_of_heap hkx 1
      have x2 := cell_of_heap hkx 2
      simp at x0 x1 x2
      have hb5 : Below w2.heap.size w2 w5 := hbn.grown hg5 hbn.size (fun j hj => by cases hj; omega)
      have hs5 : wr.heap.size < w5.heap.size := by have := hg5.size; simp at this; omega
      replace hm5 := hidI hm5
      replace hb5 := hidI hb5
      clear hg5 hm
      replace hkx := hidI hkx
      go_wp2_with (at_mapUpdate; go_must (refine wpList_mapUpdate_own _ rfl _ _ _ 84 rfl 119 3 lawS Tryz.underlying84 _ w2.heap.size (2 * k + 1) (D.put (kS f l) (.lit (.int .i64 t))) rfl hm5.out (by unfold maxLen; omega) _ _ _ rfl rfl k2.out _ [] v2.out ?_))
      intro w6 hm6 hg6
      have hb6 : Below w2.heap.size w2 w6 := hb5.out.grown hg6 hb5.out.size (fun j hj => by cases hj; omega)
      have hs6 := hg6.size
      clear hg6
      replace hm6 := hidI hm6
      clear x0 x1 x2
      have hnx : Hid (MapS w6 w2.heap.size (2 * (k + 1)) (stD es (k + 1))) := hidI (by rw [← hD2.out, hstep.out]; exact World.ownsMap.mono hm6.out (by omega))
      have hbz := hidI hb6
      have hsz2 : Hid (w2.heap.size < w6.heap.size) := hidI (by omega)
      go_wp2
      go_roundg (n - (k + 1))
      case rel => exact ⟨k + 1, by have := hk.out; omega, by go_num, hnx, hsz2, hbz⟩
      case measure => have := hk.out; omega
    · obtain rfl : k = n := by omega
      have hki : ¬ (k : Int) < (k : Int) := by omega
      replace hk := hidI hk
      have hsize := stD_size hBd.out k (by have := hn.out; omega)
      obtain ⟨m, hm0⟩ : ∃ m, m = size (stD es k) := ⟨_, rfl⟩
      obtain ⟨D, hD⟩ : ∃ D, D = stD es k := ⟨_, rfl⟩
      rw [← hm0] at hsize
      rw [← hD] at hm hm0
      have hfo : (m = 2 * k ↔ isFo r s es = true) := by
        rw [hsize.2]
        unfold isFo
        rw [hg.out, Bool.true_and, hn.out]
      have hm1 : (size D : Int) = (m : Int) := by rw [hm0]
      have hm2 : m ≤ 2 * k := hsize.1
      have hbz := hidI (hb12.out.trans (hb.out.mono hb12.out.size))
      clear hsize
      replace hm0 := hidI hm0
      replace hD := hidI hD
      replace hfo := hidI hfo
      by_cases hmk : m = 2 * k
      · have hyes := hidI (hfo.out.1 hmk)
        have t1 : ((m : Int) != 2 * (k : Int)) = false := by rw [bne_eq_false_iff_eq]; omega
        replace hmk := hidI hmk
        go_wp2_with (at_len; refine wpList_len_own _ rfl _ 84 rfl 119 3 Tryz.underlying84 _ w2.heap.size _ D rfl hm.out ?_)
        go_wp2
        go_ret2
        exact .inl ⟨hyes.out, _, rfl, by have := hb12.out.size; omega, hsz.out, by rw [← hn.out, ← hD.out]; exact hm.out, hbz.out⟩
      · have hno : isFo r s es = false := by
          cases hq : isFo r s es with
          | false => rfl
          | true => exact absurd (hfo.out.2 hq) hmk
        have t1 : ((m : Int) != 2 * (k : Int)) = true := by rw [bne_iff_ne]; omega
        replace hno := hidI hno
        replace hmk := hidI hmk
        go_wp2_with (at_len; refine wpList_len_own _ rfl _ 84 rfl 119 3 Tryz.underlying84 _ w2.heap.size _ D rfl hm.out ?_)
        go_wp2
        go_ret2
        exact .inr ⟨hno.out, rfl, hbz.out⟩
end Go.Proofs.YtecceaijdjnflaaGreat
