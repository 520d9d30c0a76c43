/- Cores, the model: l8Leaf. -/
import Derived.Test.YtecceaijdjnflaaGreatTA
import Derived.Test.YtecceaijdjnflaaGreatQE
import Derived.Deep.LoopGhost
namespace Go.Proofs.YtecceaijdjnflaaGreat
open Go.RowKit
set_option linter.unusedVariables false
set_option linter.unusedSimpArgs false

set_option maxRecDepth 100000 in
set_option maxHeartbeats 3200000 in
theorem specLeaf (w : World) (r s : Int) (v : Value) (es : List Ed) (h : ReadE w.heap.size w v es) (hs : -9223372036854775808 ≤ s ∧ s ≤ 9223372036854775807) (hl : es.length ≤ 10000000) :
    Calls Tryz.prog 25 #[.agg #[.int .i64 r, .int .i64 s, v]] w (LwInt w (lf r s es)) := by
  obtain ⟨a, cap, rfl, hnc⟩ := h.form
  obtain ⟨n, hn⟩ : ∃ n, n = es.length := ⟨_, rfl⟩
  rw [← hn] at hl hnc ⊢
  rw [← hn] at h
  obtain ⟨w1, hw1⟩ : ∃ w1, w1 = w.alloc (.cells #[.int .i64 r, .int .i64 s, .slice a n cap] 28) := ⟨_, rfl⟩
  have hb1 : Below w.heap.size w w1 := by rw [hw1]; exact (Below.refl _ _).alloc (Nat.le_refl _) _
  have hs1 : w.heap.size < w1.heap.size := by rw [hw1]; simp
  obtain ⟨g0, g1, g2⟩ := box3 hw1
  have hre := specReach w1 r s (.slice a n cap) es 0 ((h.below hb1).mono hb1.size) hs (by omega)
  have hdeg := fun (W : World) (x : Int) (hr : ReadE W.heap.size W (.slice a n cap) es) => specDeg W r s (.slice a n cap) es x hr (by omega)
  obtain ⟨X, hX⟩ : ∃ X, X = reachG r s es 0 := ⟨_, rfl⟩
  rw [← hX] at hre
  have hXl : X.length ≤ 40 := by rw [hX]; exact reachG_length r s es 0
  have hleaf : ∀ x, leafB r s es x = (decide (degE x es < 2) || !decide (x ∈ X)) := fun x => by rw [hX]; rfl
  obtain ⟨F, hF⟩ : ∃ F, F = lf r s es := ⟨_, rfl⟩
  rw [← hF]
  have hF0 : Hid (F = lfN r s es 1 (s - 1).toNat) := hidI hF
  replace hleaf := hidI hleaf
  replace hdeg := hidI hdeg
  replace hX := hidI hX
  replace hF := hidI hF
  replace hn := hidI hn
  replace h := hidI h
  replace hw1 := hidI hw1
  go_enter Tryz.func25, Tryz.ntmps25
  go_wp2_with fail
  rw [← hw1.out]
  refine hre.mono ?_
  rintro e w2 ⟨xv, rfl, hrow, hb2⟩
  clear hre
  have p0 := below_cell g0 hb2 hs1
  have p1 := below_cell g1 hb2 hs1
  have p2 := below_cell g2 hb2 hs1
  have hs2 : w.heap.size < w2.heap.size := Nat.lt_of_lt_of_le hs1 hb2.size
  have hb02 := hidI (hb1.trans (hb2.mono hb1.size))
  have hrx := hidI (hrow.read.mono (Nat.le_refl _))
  clear hrow hb2 g0 g1 g2
  go_wp2
  go_loopg [4] (s - 1).toNat (fun g i wr => ∃ k : Int, g = (s - k).toNat ∧ i = .int .i64 k ∧ 1 ≤ k ∧ Hid (F = lfN r s es k (s - k).toNat) ∧ Hid (Below w2.heap.size w2 wr))
  case atStart => exact ⟨1, rfl, rfl, by omega, hF0, hidI (Below.refl _ _)⟩
  case round =>
    obtain ⟨k, hg, rfl, hk1, hlf, hb⟩ := hrel
    have q0 := below_cell p0 hb.out hs2
    have q1 := below_cell p1 hb.out hs2
    have q2 := below_cell p2 hb.out hs2
    by_cases hlt : k < s
    · have hlf2 : F = if leafB r s es k = true then k else lfN r s es (k + 1) (s - (k + 1)).toNat := by
        rw [hlf.out, show (s - k).toNat = (s - (k + 1)).toNat + 1 by omega]; rfl
      have hbr := hb02.out.trans (hb.out.mono hb02.out.size)
      have hdg := hdeg.out wr k ((h.out.below hbr).mono hbr.size)
      have hlk := hleaf.out k
      obtain ⟨d, hd⟩ : ∃ d, d = degE k es := ⟨_, rfl⟩
      rw [← hd] at hdg hlk
      replace hd := hidI hd
      replace hg := hidI hg
      by_cases hd2 : d < 2
      · have hfin : F = k := by rw [hlf2, if_pos]; rw [hlk, decide_eq_true hd2]; rfl
        replace hfin := hidI hfin
        clear hlf2 hlk hlf
        go_wp2_with fail
        refine hdg.mono ?_
        rintro e w3 ⟨rfl, hb3⟩
        have hbq := hbr.trans (hb3.mono hbr.size)
        clear hdg
        go_wp2
        go_ret
        exact ⟨ret_i hfin.out.symm, hbq⟩
      · by_cases hm : k ∈ X
        · have hnx : Hid (F = lfN r s es (k + 1) (s - (k + 1)).toNat) := hidI (by
            rw [hlf2, if_neg]
            rw [hlk, decide_eq_true hm, decide_eq_false hd2]
            decide)
          have hmt : decide (k ∈ X) = true := decide_eq_true hm
          replace hm := hidI hm
          clear hlf2 hlk hlf
          go_wp2_with fail
          refine hdg.mono ?_
          rintro e w3 ⟨rfl, hb3⟩
          have hbz := hb.out.trans (hb3.mono hb.out.size)
          have hhas := hasL_any w3 w3.heap.size xv X k ((hrx.out.below hbz).mono hbz.size) (by omega)
          rw [hmt] at hhas
          replace hmt := hidI hmt
          replace hbz := hidI hbz
          clear hdg
          go_wp2_with fail
          refine hhas.mono ?_
          rintro e w4 ⟨rfl, rfl⟩
          clear hhas
          go_wp2
          go_roundg ((s - (k + 1)).toNat)
          case rel => exact ⟨k + 1, rfl, by go_num, by omega, hnx, hbz⟩
          case measure => have := hg.out; omega
        · have hfin : F = k := by rw [hlf2, if_pos]; rw [hlk, decide_eq_false hm]; simp
          have hmt : decide (k ∈ X) = false := decide_eq_false hm
          replace hm := hidI hm
          replace hfin := hidI hfin
          clear hlf2 hlk hlf
          go_wp2_with fail
          refine hdg.mono ?_
          rintro e w3 ⟨rfl, hb3⟩
          have hbz := hb.out.trans (hb3.mono hb.out.size)
          have hhas := hasL_any w3 w3.heap.size xv X k ((hrx.out.below hbz).mono hbz.size) (by omega)
          rw [hmt] at hhas
          replace hmt := hidI hmt
          have hbq := hidI (hbr.trans (hb3.mono hbr.size))
          replace hbz := hidI hbz
          clear hdg
          go_wp2_with fail
          refine hhas.mono ?_
          rintro e w4 ⟨rfl, rfl⟩
          clear hhas
          go_wp2
          go_ret
          exact ⟨ret_i hfin.out.symm, hbq.out⟩
    · have hfin : F = -1 := by rw [hlf.out, show (s - k).toNat = 0 by omega]; rfl
      have hbr := hb02.out.trans (hb.out.mono hb02.out.size)
      replace hfin := hidI hfin
      replace hg := hidI hg
      go_wp2
      go_ret
      exact ⟨ret_i hfin.out.symm, hbr⟩
end Go.Proofs.YtecceaijdjnflaaGreat
