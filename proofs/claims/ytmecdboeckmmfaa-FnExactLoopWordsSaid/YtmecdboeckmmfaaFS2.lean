/- Folded graphs, the model: NextVertex, WalkWord, ReadLength. -/
import Derived.Test.YtmecdboeckmmfaaFS1
import Derived.Test.YtmecdboeckmmfaaGS9
namespace Go.Proofs.Ytmecdboeckmmfaa
open Go.RowKit
set_option linter.unusedVariables false
set_option linter.unusedSimpArgs false

def LwIntBool (w : World) (n : Int) (b : Bool) (e : Ending) (w' : World) : Prop := e = .returned (.tuple #[.int .i64 n, .bool b]) ∧ Below w.heap.size w w'
set_option maxHeartbeats 1600000 in
theorem specNext (w : World) (r s : Int) (v : Value) (es : List Ed) (x y : Int) (h : ReadE w.heap.size w v es) (hl : es.length ≤ 10000000) :
    Calls Try.prog 45 #[.agg #[.int .i64 r, .int .i64 s, v], .int .i64 x, .int .i64 y] w (LwInt w (nxV es x y)) := by
  obtain ⟨a, cap, rfl, hnc⟩ := h.form
  obtain ⟨n, hn⟩ : ∃ n, n = es.length := ⟨_, rfl⟩
  rw [← hn] at hl hnc ⊢
  rw [← hn] at h
  obtain ⟨w1, hw1⟩ : ∃ w1, w1 = w.alloc (.cells #[.int .i64 r, .int .i64 s, .slice a n cap] 30) := ⟨_, rfl⟩
  have hb1 : Below w.heap.size w w1 := by rw [hw1]; exact (Below.refl _ _).alloc (Nat.le_refl _) _
  obtain ⟨g0, g1, g2⟩ := box3 hw1
  have hc := specSteps w1 r s (.slice a n cap) es x y ((h.below hb1).mono hb1.size) (by omega)
  obtain ⟨L, hL⟩ : ∃ L, L = stepsE x y es := ⟨_, rfl⟩
  have hF : nxV es x y = L.headD (-1) := by rw [hL]; rfl
  rw [← hL] at hc
  rw [hF]
  replace hn := hidI hn
  replace hw1 := hidI hw1
  replace h := hidI h
  replace hL := hidI hL
  replace hF := hidI hF
  go_enter Try.func45, Try.ntmps45
  go_wp2_with fail
  rw [← hw1.out]
  refine hc.mono ?_
  rintro e w2 ⟨v2, rfl, hrow, hb2⟩
  have hbz := hb1.trans (hb2.mono hb1.size)
  clear hc hb2
  cases L with
  | nil =>
    obtain ⟨hl0, ⟨rfl, _⟩ | ⟨g, off, cap2, cur, rfl, h1, h2, h3, h4, h5⟩⟩ := hrow
    all_goals
      go_wp2
      go_ret
      exact ⟨ret_i rfl, hbz⟩
  | cons z zs =>
    obtain ⟨hl0, ⟨rfl, h0⟩ | ⟨g, off, cap2, cur, rfl, h1, h2, h3, h4, h5⟩⟩ := hrow
    · cases h0
    have hz := h5 0 (by simp)
    have hzc : w2.cell? ⟨g, off, none⟩ = some (.int .i64 z) := by
      rw [World.cell?, h4]
      simpa using hz
    obtain ⟨m, hm⟩ : ∃ m, m = (z :: zs).length := ⟨_, rfl⟩
    have hm1 : 1 ≤ m := by rw [hm]; simp
    have t1 : ((m : Int) == 0) = false := by rw [beq_eq_false_iff_ne]; omega
    have t2 : (0 : Int) < (m : Int) := by omega
    rw [← hm] at h3 hl0 ⊢
    clear hz h4 h5
    replace hm := hidI hm
    go_wp2
    go_ret
    exact ⟨ret_i rfl, hbz⟩
end Go.Proofs.Ytmecdboeckmmfaa
