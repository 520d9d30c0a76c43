/- The laws' own helpers on Fold: toFold, eqFold, szFoldS. (tools/flat.py) -/
import Derived.Test.YtdeofaimgldklaaGA
namespace Go.Proofs.Ytdeofaimgldklaa
open Go.RowKit
set_option linter.unusedVariables false
set_option linter.unusedSimpArgs false

theorem infoFold : (Try.prog.info? 27).map (fun i => (i.zero, i.size, i.bytes)) = some (some (.agg #[.int .i64 0, .int .i64 0]), 2, 16) := by kernel_rfl
theorem sizeFold : (Try.prog.info? 27).map (·.size) = some 2 := by kernel_rfl
theorem toFold_any (w : World) (x0 x1 : Int) : Calls Try.prog 16 #[.agg #[.int .i64 x0, .int .i64 x1]] w fun x w' => x = .returned (.agg #[.int .i64 x0, .int .i64 x1]) ∧ Below w.heap.size w w' := by
  go_enter Try.func16, Try.ntmps16
  go_wp2
  (try simp only [Exit.inBlock, Exit.then])
  refine ret_cell rfl (g := w.heap.size + 1) rfl (heap_mid _ _ _ _) Try.underlying27 sizeFold ?_
  exact ⟨rfl, (((Below.refl _ _).alloc (Nat.le_refl _) _).alloc (by simp) _).alloc (by simp; omega) _⟩
theorem eqFold_any (w : World) (x0 x1 y0 y1 : Int) : Calls Try.prog 13 #[.agg #[.int .i64 x0, .int .i64 x1], .agg #[.int .i64 y0, .int .i64 y1]] w fun x w' => x = .returned (.bool (decide (x0 = y0 ∧ x1 = y1))) ∧ Below w.heap.size w w' := by
  obtain ⟨b, hb⟩ : ∃ b, b = decide (x0 = y0 ∧ x1 = y1) := ⟨_, rfl⟩
  rw [← hb]
  have hbl : Below w.heap.size w ((w.alloc (.cells #[.int .i64 x0, .int .i64 x1] 27)).alloc (.cells #[.int .i64 y0, .int .i64 y1] 27)) := ((Below.refl _ _).alloc (Nat.le_refl _) _).alloc (by simp) _
  by_cases h0 : x0 = y0
  · have g0 : (x0 != y0) = false := by rw [bne_eq_false_iff_eq]; exact h0
    by_cases h1 : x1 = y1
    · have g1 : (x1 != y1) = false := by rw [bne_eq_false_iff_eq]; exact h1
      have hbb : b = true := by rw [hb, decide_eq_true_eq]; exact ⟨h0, h1⟩
      replace hb := hidI hb
      replace h0 := hidI h0
      replace h1 := hidI h1
      replace hbb := hidI hbb
      go_enter Try.func13, Try.ntmps13
      go_wp2
      go_ret
      exact ⟨ret_bool hbb.out.symm, hbl⟩
    · have g1 : (x1 != y1) = true := by rw [bne_iff_ne]; exact h1
      have hbb : b = false := by rw [hb, decide_eq_false_iff_not]; exact fun h => h1 h.2
      replace hb := hidI hb
      replace h0 := hidI h0
      replace h1 := hidI h1
      replace hbb := hidI hbb
      go_enter Try.func13, Try.ntmps13
      go_wp2
      go_ret
      exact ⟨ret_bool hbb.out.symm, hbl⟩
  · have g0 : (x0 != y0) = true := by rw [bne_iff_ne]; exact h0
    have hbb : b = false := by rw [hb, decide_eq_false_iff_not]; exact fun h => h0 h.1
    replace hb := hidI hb
    replace h0 := hidI h0
    replace hbb := hidI hbb
    go_enter Try.func13, Try.ntmps13
    go_wp2
    go_ret
    exact ⟨ret_bool hbb.out.symm, hbl⟩
theorem szFoldS_any (w : World) (a : Option Addr) (n cap : Nat) (left : Int) (hn : (n : Int) ≤ 9223372036854775807) (hl0 : 0 ≤ left) (hl1 : left ≤ 1048576) :
    Calls Try.prog 27 #[.slice a n cap, .int .i64 left] w fun x w' => x = .returned (.int .i64 (if left < n then -1 else left - n)) ∧ w = w' := by
  by_cases h : left < (n : Int)
  · rw [if_pos h]
    have h2 : left - (n : Int) < 0 := by omega
    go_enter Try.func27, Try.ntmps27
    go_wp2
    go_ret
    exact ⟨rfl, rfl⟩
  · rw [if_neg h]
    have h2 : ¬ left - (n : Int) < 0 := by omega
    go_enter Try.func27, Try.ntmps27
    go_wp2
    go_ret
    exact ⟨rfl, rfl⟩
end Go.Proofs.Ytdeofaimgldklaa
