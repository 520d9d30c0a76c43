/- The laws' own helpers on edges: toEdge, eqEdge, toEdgeS, eqEdgeS, markEdgeS, heldEdgeS, szEdgeS. -/
import Derived.Test.YtdeofaimgldklaaGR
import Derived.Deep.RegionWith
import Derived.Deep.LoopGhost
namespace Go.Proofs.Ytdeofaimgldklaa
open Go.RowKit
set_option linter.unusedVariables false

theorem infoEdge : (Try.prog.info? 68).map (fun i => (i.zero, i.size, i.bytes)) = some (some (.agg #[.int .i64 0, .int .i64 0, .int .i64 0]), 3, 24) := by kernel_rfl
theorem sizeEdge : (Try.prog.info? 68).map (·.size) = some 3 := by kernel_rfl
/-- The struct that a result's cell holds is handed back. -/
theorem ret_cell {fn : Func} {p : Tmp} {ty : TypeId} {fs : Array Field} (h : fn.results = #[.cell p ty]) {tmps : Array Value} {w : World} {g : Nat} {t : TypeId} {cs : Array Value} {fr : Nat × Nat} {R : Ending → World → Prop}
    (hp : tmps.getD p undef = .pointer (some ⟨g, 0, none⟩)) (hg : w.heap[g]? = some (.cells cs t fr))
    (hu : Try.prog.underlying ty = some (.struct fs)) (hi : (Try.prog.info? ty).map (·.size) = some cs.size) (hr : R (.returned (.agg cs)) w) :
    bodyPost Try.prog fn R .ret { tmps := tmps, defers := [] } w :=
  bodyPost_ret (results_cell_row h tmps w g t cs fr _ hp hg hu rfl hi) rfl hr
theorem heap_mid (w : World) (A B C : Obj) : (((w.alloc A).alloc B).alloc C).heap[w.heap.size + 1]? = some B := by
  have h : (((w.alloc A).alloc B).alloc C).heap[w.heap.size + 1]? = ((w.alloc A).alloc B).heap[w.heap.size + 1]? := heap_alloc_old _ _ (by simp)
  rw [h]
  have := heap_alloc_new (w.alloc A) B
  simpa using this
theorem toEdge_any (w : World) (f l t : Int) : Calls Try.prog 58 #[.agg #[.int .i64 f, .int .i64 l, .int .i64 t]] w fun x w' => x = .returned (.agg #[.int .i64 f, .int .i64 l, .int .i64 t]) ∧ Below w.heap.size w w' := by
  go_enter Try.func58, Try.ntmps58
  go_wp2
  (try simp only [Exit.inBlock, Exit.then])
  refine ret_cell rfl (g := w.heap.size + 1) rfl (heap_mid _ _ _ _) Try.underlying68 sizeEdge ?_
  exact ⟨rfl, (((Below.refl _ _).alloc (Nat.le_refl _) _).alloc (by simp) _).alloc (by simp; omega) _⟩
theorem eqEdge_any (w : World) (f l t f' l' t' : Int) : Calls Try.prog 60 #[.agg #[.int .i64 f, .int .i64 l, .int .i64 t], .agg #[.int .i64 f', .int .i64 l', .int .i64 t']] w fun x w' => x = .returned (.bool (decide (f = f' ∧ l = l' ∧ t = t'))) ∧ Below w.heap.size w w' := by
  obtain ⟨b, hb⟩ : ∃ b, b = decide (f = f' ∧ l = l' ∧ t = t') := ⟨_, rfl⟩
  rw [← hb]
  have hbl : Below w.heap.size w ((w.alloc (.cells #[.int .i64 f, .int .i64 l, .int .i64 t] 68)).alloc (.cells #[.int .i64 f', .int .i64 l', .int .i64 t'] 68)) := ((Below.refl _ _).alloc (Nat.le_refl _) _).alloc (by simp) _
  by_cases h1 : f = f'
  · have g1 : (f != f') = false := by rw [bne_eq_false_iff_eq]; exact h1
    by_cases h2 : l = l'
    · have g2 : (l != l') = false := by rw [bne_eq_false_iff_eq]; exact h2
      by_cases h3 : t = t'
      · have g3 : (t != t') = false := by rw [bne_eq_false_iff_eq]; exact h3
        have hbb : b = true := by rw [hb, decide_eq_true_eq]; exact ⟨h1, h2, h3⟩
        replace hb := hidI hb
        replace h1 := hidI h1
        replace h2 := hidI h2
        replace h3 := hidI h3
        replace hbb := hidI hbb
        go_enter Try.func60, Try.ntmps60
        go_wp2
        go_ret
        exact ⟨ret_bool hbb.out.symm, hbl⟩
      · have g3 : (t != t') = true := by rw [bne_iff_ne]; exact h3
        have hbb : b = false := by rw [hb, decide_eq_false_iff_not]; exact fun h => h3 h.2.2
        replace hb := hidI hb
        replace h1 := hidI h1
        replace h2 := hidI h2
        replace h3 := hidI h3
        replace hbb := hidI hbb
        go_enter Try.func60, Try.ntmps60
        go_wp2
        go_ret
        exact ⟨ret_bool hbb.out.symm, hbl⟩
    · have g2 : (l != l') = true := by rw [bne_iff_ne]; exact h2
      have hbb : b = false := by rw [hb, decide_eq_false_iff_not]; exact fun h => h2 h.2.1
      replace hb := hidI hb
      replace h1 := hidI h1
      replace h2 := hidI h2
      replace hbb := hidI hbb
      go_enter Try.func60, Try.ntmps60
      go_wp2
      go_ret
      exact ⟨ret_bool hbb.out.symm, hbl⟩
  · have g1 : (f != f') = true := by rw [bne_iff_ne]; exact h1
    have hbb : b = false := by rw [hb, decide_eq_false_iff_not]; exact fun h => h1 h.1
    replace hb := hidI hb
    replace h1 := hidI h1
    replace hbb := hidI hbb
    go_enter Try.func60, Try.ntmps60
    go_wp2
    go_ret
    exact ⟨ret_bool hbb.out.symm, hbl⟩
theorem szEdgeS_any (w : World) (a : Option Addr) (n cap : Nat) (left : Int) (hn : (n : Int) ≤ 9223372036854775807) (hl0 : 0 ≤ left) (hl1 : left ≤ 1048576) :
    Calls Try.prog 36 #[.slice a n cap, .int .i64 left] w fun x w' => x = .returned (.int .i64 (if left < n then -1 else left - n)) ∧ w = w' := by
  by_cases h : left < (n : Int)
  · rw [if_pos h]
    have h2 : left - (n : Int) < 0 := by omega
    go_enter Try.func36, Try.ntmps36
    go_wp2
    go_ret
    exact ⟨rfl, rfl⟩
  · rw [if_neg h]
    have h2 : ¬ left - (n : Int) < 0 := by omega
    go_enter Try.func36, Try.ntmps36
    go_wp2
    go_ret
    exact ⟨rfl, rfl⟩
end Go.Proofs.Ytdeofaimgldklaa
