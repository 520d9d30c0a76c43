/- The laws' own helpers on slices of edges: eqEdgeS, markEdgeS, heldEdgeS. -/
import Derived.Test.YtdeofaimgldklaaGB
namespace Go.Proofs.Ytdeofaimgldklaa
open Go.RowKit
set_option linter.unusedVariables false

/-- What a function that only tells leaves: what lay below stays. -/
def TellRet (w : World) (b : Bool) (e : Ending) (w' : World) : Prop := e = .returned (.bool b) ∧ Below w.heap.size w w'
set_option maxHeartbeats 1600000 in
theorem eqEdgeS_same (w : World) (v1 v2 : Value) (n : Nat) (zs : List Int) (h1 : ReadS 3 w.heap.size w v1 n zs) (h2 : ReadS 3 w.heap.size w v2 n zs) :
    Calls Try.prog 41 #[v1, v2] w (TellRet w true) := by
  obtain ⟨a1, cap1, rfl, hnc1⟩ := h1.form
  obtain ⟨a2, cap2, rfl, hnc2⟩ := h2.form
  have hzl := h1.1
  have hnl := h1.2.1
  have hcl : ((n : Int) != (n : Int)) = false := by simp
  replace h1 := hidI h1
  replace h2 := hidI h2
  replace hzl := hidI hzl
  go_enter Try.func41, Try.ntmps41
  go_wp2
  go_loopg [5] n (fun g i wr => ∃ k : Nat, k + g = n ∧ i = .int .i64 k ∧ Below w.heap.size w wr)
  case atStart => exact ⟨0, by omega, rfl, Below.refl _ _⟩
  case round =>
    obtain ⟨k, hk, rfl, hb⟩ := hrel
    by_cases hlt : k < n
    · obtain ⟨b1, off1, rfl, hB1, hc⟩ := (h1.out.below hb).at_ k hlt
      obtain ⟨b2, off2, rfl, hB2, hd⟩ := (h2.out.below hb).at_ k hlt
      have hc0 := hc 0 (by omega)
      have hc1 := hc 1 (by omega)
      have hc2 := hc 2 (by omega)
      have hd0 := hd 0 (by omega)
      have hd1 := hd 1 (by omega)
      have hd2 := hd 2 (by omega)
      rw [Nat.add_zero, Nat.add_zero] at hc0 hd0
      obtain ⟨f, hf⟩ : ∃ z, z = zs.getD (k * 3) 0 := ⟨_, rfl⟩
      obtain ⟨l, hll⟩ : ∃ z, z = zs.getD (k * 3 + 1) 0 := ⟨_, rfl⟩
      obtain ⟨t, ht⟩ : ∃ z, z = zs.getD (k * 3 + 2) 0 := ⟨_, rfl⟩
      rw [← hf] at hc0 hd0
      rw [← hll] at hc1 hd1
      rw [← ht] at hc2 hd2
      have hlt2 : (k : Int) < (n : Int) := by omega
      have hcall := eqEdge_any wr.drew f l t f l t
      rw [show decide (f = f ∧ l = l ∧ t = t) = true by simp] at hcall
      replace hf := hidI hf
      replace hll := hidI hll
      replace ht := hidI ht
      replace hk := hidI hk
      clear hc hd
      go_wp2
      go_region_with (go_at_call 60; (with_reducible refine hcall.mono ?_); rintro e w2 ⟨rfl, hb2'⟩)
      all_goals
        have hb2 := hb.drew.trans (hb2'.mono (show w.heap.size ≤ wr.drew.heap.size from hb.size))
        clear hb2' hb
        go_wp2
        go_roundg (n - (k + 1))
        case rel => exact ⟨k + 1, by have := hk.out; omega, by go_num, hb2⟩
        case measure => have := hk.out; omega
    · have hlt2 : ¬ (k : Int) < (n : Int) := by omega
      replace hk := hidI hk
      go_wp2
      go_ret
      exact ⟨rfl, hb⟩
/-- What markEdgeS leaves. -/
def MarkE (w : World) (lo hi : Nat) (v : Value) (k : Int) (n : Nat) (e : Ending) (w' : World) : Prop :=
  e = .returned (.int .i64 (k + 3 * n)) ∧ RowS 68 3 w' lo hi v n (marks k (n * 3)) ∧ Only lo hi w w'
set_option maxHeartbeats 1600000 in
theorem markEdgeS_any (w : World) (lo hi : Nat) (v : Value) (n : Nat) (zs : List Int) (k : Int) (h : RowS 68 3 w lo hi v n zs) (hk : 0 ≤ k) (hk2 : k ≤ 1000000000000) (hl : n ≤ 1000000000) :
    Calls Try.prog 51 #[v, .int .i64 k] w (MarkE w lo hi v k n) := by
  have hzl := h.1
  by_cases h0 : 0 < n
  · obtain ⟨g, off, cap, rfl, hlo, hhi⟩ := h.form h0
    replace h := hidI h
    replace hzl := hidI hzl
    go_enter Try.func51, Try.ntmps51
    go_wp2
    go_loopg [1, 5] n (fun g' kk i wr => ∃ j : Nat, j + g' = n ∧ i = .int .i64 j ∧ kk = .int .i64 (k + 3 * (j : Int)) ∧ Hid (RowS 68 3 wr lo hi (.slice (some ⟨g, off, none⟩) n cap) n (part k zs (j * 3))) ∧ Hid (Only lo hi w wr))
    case atStart => exact ⟨0, by omega, rfl, by simp, hidI (by rw [Nat.zero_mul, part_zero]; exact h.out), hidI (Only.refl _ _ _)⟩
    case round =>
      obtain ⟨j, hj, rfl, rfl, hrow, hon⟩ := hrel
      by_cases hlt : j < n
      · obtain ⟨_, _, hcell0, hfr0⟩ := hrow.out.facts (j * 3) (by omega)
        obtain ⟨_, _, hcell1, hfr1⟩ := hrow.out.facts (j * 3 + 1) (by omega)
        obtain ⟨_, _, hcell2, hfr2⟩ := hrow.out.facts (j * 3 + 2) (by omega)
        rw [← Nat.add_assoc] at hcell1 hfr1 hcell2 hfr2
        obtain ⟨x0, hx0⟩ : ∃ z, z = (part k zs (j * 3)).getD (j * 3) 0 := ⟨_, rfl⟩
        obtain ⟨x1, hx1⟩ : ∃ z, z = (part k zs (j * 3)).getD (j * 3 + 1) 0 := ⟨_, rfl⟩
        obtain ⟨x2, hx2⟩ : ∃ z, z = (part k zs (j * 3)).getD (j * 3 + 2) 0 := ⟨_, rfl⟩
        rw [← hx0] at hcell0
        rw [← hx1] at hcell1
        rw [← hx2] at hcell2
        have hst := ((hrow.out.stored (j * 3) (k + ((j * 3 : Nat) : Int))).stored (j * 3 + 1) (k + ((j * 3 + 1 : Nat) : Int))).stored (j * 3 + 2) (k + ((j * 3 + 2 : Nat) : Int))
        have hlz : n * 3 = zs.length := hzl.out.symm
        rw [part_step k zs (j * 3) (by omega), part_step k zs (j * 3 + 1) (by omega), part_step k zs (j * 3 + 1 + 1) (by omega), show j * 3 + 1 + 1 + 1 = (j + 1) * 3 by omega] at hst
        have e0 : k + ((j * 3 : Nat) : Int) = k + 3 * (j : Int) := by omega
        have e1 : k + ((j * 3 + 1 : Nat) : Int) = k + 3 * (j : Int) + 1 := by omega
        have e2 : k + ((j * 3 + 2 : Nat) : Int) = k + 3 * (j : Int) + 1 + 1 := by omega
        rw [e0, e1, e2] at hst
        rw [← Nat.add_assoc, ← Nat.add_assoc] at hst
        have hon2 := ((hon.out.set (j := off + j * 3) hlo hhi (.int .i64 (k + 3 * (j : Int)))).set (j := off + j * 3 + 1) hlo hhi (.int .i64 (k + 3 * (j : Int) + 1))).set (j := off + j * 3 + 2) hlo hhi (.int .i64 (k + 3 * (j : Int) + 1 + 1))
        have hsum : k + 3 * (j : Int) + 1 + 1 + 1 = k + 3 * ((j + 1 : Nat) : Int) := by omega
        have hkb : k + 3 * (j : Int) ≤ 1000000000000 + 3000000000 := by omega
        have hjn : (j : Int) < (n : Int) := by omega
        replace hsum := hidI hsum
        replace hst := hidI hst
        replace hon2 := hidI hon2
        replace hx0 := hidI hx0
        replace hx1 := hidI hx1
        replace hx2 := hidI hx2
        replace hj := hidI hj
        clear e0 e1 e2 hrow hon hlz
        go_wp2
        go_roundg (n - (j + 1))
        case rel => exact ⟨j + 1, by have := hj.out; omega, by go_num, by rw [hsum.out], hst, hon2⟩
        case measure => have := hj.out; omega
      · obtain rfl : j = n := by omega
        have hfull : part k zs (j * 3) = marks k (j * 3) := by rw [← hzl.out]; exact part_full k zs
        rw [hfull] at hrow
        have hr : MarkE w lo hi (.slice (some ⟨g, off, none⟩) j cap) k j (.returned (.int .i64 (k + 3 * (j : Int)))) wr := ⟨rfl, hrow.out, hon.out⟩
        have hjn : ¬ (j : Int) < (j : Int) := by omega
        replace hr := hidI hr
        replace hfull := hidI hfull
        replace hj := hidI hj
        go_wp2
        go_ret
        exact hr.out
  · obtain rfl : n = 0 := by omega
    obtain ⟨a, cap, rfl, _⟩ := h.read.form
    have hz : zs = [] := List.length_eq_zero_iff.1 (by omega)
    have hr : MarkE w lo hi (.slice a 0 cap) k 0 (.returned (.int .i64 k)) w := ⟨by simp, by rw [hz] at h; exact h, Only.refl _ _ _⟩
    replace hr := hidI hr
    replace h := hidI h
    replace hz := hidI hz
    replace hzl := hidI hzl
    go_enter Try.func51, Try.ntmps51
    go_wp2
    go_loopg [1, 5] 0 (fun g' kk i wr => kk = .int .i64 k ∧ i = .int .i64 0 ∧ Hid (wr = w))
    case atStart => exact ⟨rfl, rfl, hidI rfl⟩
    case round =>
      obtain ⟨rfl, rfl, hwr⟩ := hrel
      have hwr' := hwr.out.symm
      subst hwr'
      go_wp2
      go_ret
      exact hr.out
set_option maxHeartbeats 1600000 in
theorem heldEdgeS_any (w : World) (B : Nat) (v : Value) (n : Nat) (k : Int) (h : ReadS 3 B w v n (marks k (n * 3))) (hk : 0 ≤ k) (hk2 : k ≤ 1000000000000) (hl : n ≤ 1000000000) :
    Calls Try.prog 52 #[v, .int .i64 k] w fun e w' => e = .returned (.int .i64 (k + 3 * n)) ∧ w = w' := by
  obtain ⟨a, cap, rfl, hnc⟩ := h.form
  replace h := hidI h
  go_enter Try.func52, Try.ntmps52
  go_wp2
  go_loopg [1, 5] n (fun g' kk i wr => ∃ j : Nat, j + g' = n ∧ i = .int .i64 j ∧ kk = .int .i64 (k + 3 * (j : Int)) ∧ Hid (wr = w))
  case atStart => exact ⟨0, by omega, rfl, by simp, hidI rfl⟩
  case round =>
    obtain ⟨j, hj, rfl, rfl, hwr⟩ := hrel
    have hwr' := hwr.out.symm
    subst hwr'
    by_cases hlt : j < n
    · obtain ⟨b, off, rfl, hB, hc⟩ := h.out.at_ j hlt
      have hc0 := hc 0 (by omega)
      have hc1 := hc 1 (by omega)
      have hc2 := hc 2 (by omega)
      rw [Nat.add_zero, Nat.add_zero, marks_getD (n * 3) k (j * 3) (by omega), show k + ((j * 3 : Nat) : Int) = k + 3 * (j : Int) by omega] at hc0
      rw [marks_getD (n * 3) k (j * 3 + 1) (by omega), show k + ((j * 3 + 1 : Nat) : Int) = k + 3 * (j : Int) + 1 by omega] at hc1
      rw [marks_getD (n * 3) k (j * 3 + 2) (by omega), show k + ((j * 3 + 2 : Nat) : Int) = k + 3 * (j : Int) + 1 + 1 by omega] at hc2
      have hsum : k + 3 * (j : Int) + 1 + 1 + 1 = k + 3 * ((j + 1 : Nat) : Int) := by omega
      have hkb : k + 3 * (j : Int) ≤ 1000000000000 + 3000000000 := by omega
      have hjn : (j : Int) < (n : Int) := by omega
      have g0 : ((k + 3 * (j : Int)) != (k + 3 * (j : Int))) = false := by simp
      have g1 : ((k + 3 * (j : Int) + 1) != (k + 3 * (j : Int) + 1)) = false := by simp
      have g2 : ((k + 3 * (j : Int) + 1 + 1) != (k + 3 * (j : Int) + 1 + 1)) = false := by simp
      replace hsum := hidI hsum
      replace hj := hidI hj
      clear hc
      go_wp2
      go_roundg (n - (j + 1))
      case rel => exact ⟨j + 1, by have := hj.out; omega, by go_num, by rw [hsum.out], hidI rfl⟩
      case measure => have := hj.out; omega
    · obtain rfl : j = n := by omega
      have hjn : ¬ (j : Int) < (j : Int) := by omega
      replace hj := hidI hj
      go_wp2
      go_ret
      exact ⟨rfl, rfl⟩
end Go.Proofs.Ytdeofaimgldklaa
