/- Folding, the program: what a pair of edges forces. -/
import Derived.Test.YtdeofaimgldklaaHM
import Derived.Test.YtdeofaimgldklaaHS3
namespace Go.Proofs.Ytdeofaimgldklaa
open Go.RowKit
set_option linter.unusedVariables false
set_option linter.unusedSimpArgs false

def frcB (a b : Ed) : Bool := decide (a.2.1 = b.2.1) && (decide (a.1 = b.1) || decide (a.2.2 = b.2.2))
def frcF (a b : Ed) : tupF := if a.2.1 = b.2.1 then (if a.1 = b.1 then (a.2.2, b.2.2) else if a.2.2 = b.2.2 then (a.1, b.1) else zeroF) else zeroF
theorem frc_pair {a b : Ed} (h : cmpE a b < 0) : pairF a b = if frcB a b = true then [frcF a b] else [] := by
  obtain ⟨f, l, t⟩ := a
  obtain ⟨f', l', t'⟩ := b
  have hlt : f < f' ∨ f = f' ∧ (l < l' ∨ l = l' ∧ t < t') := by
    unfold cmpE at h
    repeat' split at h
    all_goals (simp only at *; omega)
  unfold pairF frcB frcF
  simp only
  by_cases hl : l = l'
  · subst hl
    by_cases hf : f = f'
    · subst hf
      have ht : t < t' := by omega
      have hne : ¬ t = t' := by omega
      simp [hne]
      omega
    · by_cases ht : t = t'
      · subst ht
        have : f < f' := by omega
        simp [hf]
        omega
      · simp [hf, ht]
  · simp [hl]
set_option maxHeartbeats 1600000 in
theorem progForced (w : World) (f l t f' l' t' : Int) :
    Calls Try.prog 59 #[.agg #[.int .i64 f, .int .i64 l, .int .i64 t], .agg #[.int .i64 f', .int .i64 l', .int .i64 t']] w (LwFoldBool w (frcF (f, l, t) (f', l', t')) (frcB (f, l, t) (f', l', t'))) := by
  obtain ⟨w1, hw1⟩ : ∃ z, z = (w.alloc (.cells #[.int .i64 f, .int .i64 l, .int .i64 t] 68)).alloc (.cells #[.int .i64 f', .int .i64 l', .int .i64 t'] 68) := ⟨_, rfl⟩
  have hb1 : Below w.heap.size w w1 := by rw [hw1]; exact ((Below.refl _ _).alloc (Nat.le_refl _) _).alloc (by simp) _
  have hs1 : w1.heap.size = w.heap.size + 1 + 1 := by rw [hw1]; simp
  have ha := heap_box w (.cells #[.int .i64 f, .int .i64 l, .int .i64 t] 68) (.cells #[.int .i64 f', .int .i64 l', .int .i64 t'] 68)
  have hb := heap_alloc_new (w.alloc (.cells #[.int .i64 f, .int .i64 l, .int .i64 t] 68)) (.cells #[.int .i64 f', .int .i64 l', .int .i64 t'] 68)
  rw [← hw1] at ha hb
  rw [show (w.alloc (.cells #[.int .i64 f, .int .i64 l, .int .i64 t] 68)).heap.size = w.heap.size + 1 by simp] at hb
  obtain ⟨w2, hw2⟩ : ∃ z, z = w1.alloc (.cells #[.int .i64 0, .int .i64 0] 27) := ⟨_, rfl⟩
  have hb12 : Below w1.heap.size w1 w2 := by rw [hw2]; exact (Below.refl _ _).alloc (Nat.le_refl _) _
  have hk := heap_alloc_new w1 (.cells #[.int .i64 0, .int .i64 0] 27)
  rw [← hw2, hs1] at hk
  have hb2 : Below w.heap.size w w2 := hb1.trans (hb12.mono (by omega))
  rw [← hb12.block _ (by omega)] at ha hb
  have a0 : w2.cell? ⟨w.heap.size, 0, none⟩ = some (.int .i64 f) := by simpa using cell_of_heap ha 0
  have a1 : w2.cell? ⟨w.heap.size, 1, none⟩ = some (.int .i64 l) := by simpa using cell_of_heap ha 1
  have a2 : w2.cell? ⟨w.heap.size, 2, none⟩ = some (.int .i64 t) := by simpa using cell_of_heap ha 2
  have b0 : w2.cell? ⟨w.heap.size + 1, 0, none⟩ = some (.int .i64 f') := by simpa using cell_of_heap hb 0
  have b1 : w2.cell? ⟨w.heap.size + 1, 1, none⟩ = some (.int .i64 l') := by simpa using cell_of_heap hb 1
  have b2 : w2.cell? ⟨w.heap.size + 1, 2, none⟩ = some (.int .i64 t') := by simpa using cell_of_heap hb 2
  have y0 : w2.cell? ⟨w.heap.size + 1 + 1, 0, none⟩ = some (.int .i64 0) := by simpa using cell_of_heap hk 0
  have y1 : w2.cell? ⟨w.heap.size + 1 + 1, 1, none⟩ = some (.int .i64 0) := by simpa using cell_of_heap hk 1
  have f1 := fun j => frozen_of_row w2 (w.heap.size + 1 + 1) j _ _ hk
  have hend : ∀ x y : Int, Below w.heap.size w ((w2.setCell ⟨w.heap.size + 1 + 1, 0, none⟩ (.int .i64 x)).setCell ⟨w.heap.size + 1 + 1, 1, none⟩ (.int .i64 y)) := fun x y =>
    (hb2.setCell (p := ⟨w.heap.size + 1 + 1, 0, none⟩) (by simp; omega) _).setCell (p := ⟨w.heap.size + 1 + 1, 1, none⟩) (by simp; omega) _
  have hset := fun x y : Int => set2F hk (.int .i64 x) (.int .i64 y)
  have hww : ((w.alloc (.cells #[.int .i64 f, .int .i64 l, .int .i64 t] 68)).alloc (.cells #[.int .i64 f', .int .i64 l', .int .i64 t'] 68)).alloc (.cells #[.int .i64 0, .int .i64 0] 27) = w2 := by rw [hw2, hw1]
  obtain ⟨B, hB⟩ : ∃ B, B = frcB (f, l, t) (f', l', t') := ⟨_, rfl⟩
  obtain ⟨F, hF⟩ : ∃ B, B = frcF (f, l, t) (f', l', t') := ⟨_, rfl⟩
  rw [← hB, ← hF]
  replace hend := hidI hend
  replace hset := hidI hset
  replace hww := hidI hww
  replace hk := hidI hk
  replace ha := hidI ha
  replace hb := hidI hb
  replace hw1 := hidI hw1
  replace hw2 := hidI hw2
  replace hs1 := hidI hs1
  clear hb1 hb12 hb2
  by_cases q1 : l = l'
  · by_cases q2 : f = f'
    · have hBB : B = true := by rw [hB]; unfold frcB; simp [q1, q2]
      have hFF : F = (t, t') := by rw [hF]; unfold frcF; simp [q1, q2]
      subst q1 q2 hBB hFF
      replace hB := hidI hB
      replace hF := hidI hF
      have e1 : (l != l) = false := by simp
      have e2 : (f == f) = true := by simp
      go_enter Try.func59, Try.ntmps59
      go_upto_region 1 with fail
      rw [hww.out]
      go_wp2
      (try simp only [Exit.inBlock, Exit.then])
      refine ret_cell2 (x := .bool true) rfl rfl rfl (hset.out _ _) Try.underlying27 sizeFold ?_
      exact ⟨rfl, hend.out _ _⟩
    · have e2 : (f == f') = false := by rw [beq_eq_false_iff_ne]; exact q2
      by_cases q3 : t = t'
      · have hBB : B = true := by rw [hB]; unfold frcB; simp [q1, q3]
        have hFF : F = (f, f') := by rw [hF]; unfold frcF; simp [q1, q2, q3]
        subst q1 q3 hBB hFF
        replace q2 := hidI q2
        replace hB := hidI hB
        replace hF := hidI hF
        have e1 : (l != l) = false := by simp
        have e3 : (t == t) = true := by simp
        go_enter Try.func59, Try.ntmps59
        go_upto_region 1 with fail
        rw [hww.out]
        go_wp2
        (try simp only [Exit.inBlock, Exit.then])
        refine ret_cell2 (x := .bool true) rfl rfl rfl (hset.out _ _) Try.underlying27 sizeFold ?_
        exact ⟨rfl, hend.out _ _⟩
      · have hBB : B = false := by rw [hB]; unfold frcB; simp [q2, q3]
        have hFF : F = (0, 0) := by rw [hF]; unfold frcF; simp [q2, q3, zeroF]
        subst q1 hBB hFF
        have e3 : (t == t') = false := by rw [beq_eq_false_iff_ne]; exact q3
        replace q2 := hidI q2
        replace q3 := hidI q3
        replace hB := hidI hB
        replace hF := hidI hF
        have e1 : (l != l) = false := by simp
        go_enter Try.func59, Try.ntmps59
        go_upto_region 1 with fail
        rw [hww.out]
        go_wp2
        (try simp only [Exit.inBlock, Exit.then])
        refine ret_cell2 (x := .bool false) rfl rfl rfl (hset.out 0 0) Try.underlying27 sizeFold ?_
        exact ⟨rfl, hend.out 0 0⟩
  · have hBB : B = false := by rw [hB]; unfold frcB; simp [q1]
    have hFF : F = (0, 0) := by rw [hF]; unfold frcF; simp [q1, zeroF]
    have e1 : (l != l') = true := by rw [bne_iff_ne]; exact q1
    subst hBB hFF
    replace q1 := hidI q1
    replace hB := hidI hB
    replace hF := hidI hF
    go_enter Try.func59, Try.ntmps59
    go_upto_region 1 with fail
    rw [hww.out]
    go_wp2
    (try simp only [Exit.inBlock, Exit.then])
    refine ret_cell2 (x := .bool false) rfl rfl rfl (hset.out 0 0) Try.underlying27 sizeFold ?_
    exact ⟨rfl, hend.out 0 0⟩
end Go.Proofs.Ytdeofaimgldklaa
