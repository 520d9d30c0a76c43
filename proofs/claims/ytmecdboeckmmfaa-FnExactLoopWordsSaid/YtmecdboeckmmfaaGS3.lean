/- Graphs, the model: NewGraph, DegreeOf. -/
import Derived.Test.YtmecdboeckmmfaaGS2
import Derived.Test.YtmecdboeckmmfaaLW3
import Derived.Laws.ResultCell
namespace Go.Proofs.Ytmecdboeckmmfaa
open Go.RowKit
set_option linter.unusedVariables false
set_option linter.unusedSimpArgs false

/-- The struct that a result's cell holds is handed back, and a second result beside it. -/
theorem ret_cell2 {fn : Func} {p u : Tmp} {ty : TypeId} {fs : Array Field} (h : fn.results = #[.cell p ty, .tmp u]) {tmps : Array Value} {w : World} {g : Nat} {t : TypeId} {cs : Array Value} {fr : Nat × Nat} {x : Value} {R : Ending → World → Prop}
    (hp : tmps.getD p undef = .pointer (some ⟨g, 0, none⟩)) (hx : tmps.getD u undef = x) (hg : w.heap[g]? = some (.cells cs t fr))
    (hu : Try.prog.underlying ty = some (.struct fs)) (hi : (Try.prog.info? ty).map (·.size) = some cs.size) (hr : R (.returned (.tuple #[.agg cs, x])) w) :
    bodyPost Try.prog fn R .ret { tmps := tmps, defers := [] } w := by
  refine bodyPost_ret (v := .tuple #[.agg cs, x]) ?_ rfl hr
  have hp' : tmps[p]?.getD undef = .pointer (some ⟨g, 0, none⟩) := by simpa using hp
  have hx' : tmps[u]?.getD undef = x := by simpa using hx
  simp [results, h, hp', hx', asAddr, run_loadVar_row w g t ty cs fr _ hg hu rfl hi]
theorem specNewG (w : World) (r : Int) : Calls Try.prog 70 #[.int .i64 r] w (LwGraphBool w (if 1 ≤ r ∧ r ≤ 3 then r else 0) (if 1 ≤ r ∧ r ≤ 3 then 1 else 0) [] (decide (1 ≤ r ∧ r ≤ 3))) := by
  obtain ⟨b1, hb1⟩ : ∃ b, b = decide (1 ≤ r ∧ r ≤ 3) := ⟨_, rfl⟩
  obtain ⟨x1, hx1⟩ : ∃ x, x = (if 1 ≤ r ∧ r ≤ 3 then r else 0) := ⟨_, rfl⟩
  obtain ⟨x2, hx2⟩ : ∃ x, x = (if 1 ≤ r ∧ r ≤ 3 then (1 : Int) else 0) := ⟨_, rfl⟩
  obtain ⟨w1, hw1⟩ : ∃ w1, w1 = w.alloc (.cells #[.int .i64 0, .int .i64 0, .slice none 0 0] 30) := ⟨_, rfl⟩
  have hbl : Below w.heap.size w w1 := by rw [hw1]; exact (Below.refl _ _).alloc (Nat.le_refl _) _
  have hk := heap_alloc_new w (.cells #[.int .i64 0, .int .i64 0, .slice none 0 0] 30)
  rw [← hw1] at hk
  have c0 := cell_of_heap hk 0
  have c1 := cell_of_heap hk 1
  have c2 := cell_of_heap hk 2
  have f1 := fun j => frozen_of_row w1 w.heap.size j _ _ hk
  have i1 := in_any w1 r 1 3
  rw [← hb1] at i1 ⊢
  rw [← hx1, ← hx2]
  simp at c0 c1 c2
  have hfin : ∀ y1 y2, LwGraphBool w y1 y2 [] b1 (.returned (.tuple #[.agg #[.int .i64 y1, .int .i64 y2, .slice none 0 0], .bool b1])) (((w1.setCell ⟨w.heap.size, 0, none⟩ (.int .i64 y1)).setCell ⟨w.heap.size, 1, none⟩ (.int .i64 y2)).setCell ⟨w.heap.size, 2, none⟩ (.slice none 0 0)) := by
    intro y1 y2
    refine ⟨none, 0, rfl, ?_, ?_⟩
    · exact ((OwnsS.nil _ _).row (by omega)).wide (Nat.le_refl _) (Nat.le_refl _)
    · exact ((hbl.setCell (p := ⟨w.heap.size, 0, none⟩) (by simp) _).setCell (p := ⟨w.heap.size, 1, none⟩) (by simp) _).setCell (p := ⟨w.heap.size, 2, none⟩) (by simp) _
  have hset : ∀ y1 y2, (((w1.setCell ⟨w.heap.size, 0, none⟩ (.int .i64 y1)).setCell ⟨w.heap.size, 1, none⟩ (.int .i64 y2)).setCell ⟨w.heap.size, 2, none⟩ (.slice none 0 0)).heap[w.heap.size]? = some (.cells #[.int .i64 y1, .int .i64 y2, .slice none 0 0] 30 (0, 0)) := fun y1 y2 => set3 hk _ _ _
  replace hw1 := hidI hw1
  replace hk := hidI hk
  replace hb1 := hidI hb1
  replace hx1 := hidI hx1
  replace hx2 := hidI hx2
  replace hfin := hidI hfin
  replace hset := hidI hset
  go_enter Try.func70, Try.ntmps70
  go_wp2_with fail
  rw [← hw1.out]
  refine i1.mono ?_
  rintro e w2 ⟨rfl, rfl⟩
  cases b1 with
  | false =>
    have e1 : x1 = 0 := by rw [hx1.out, if_neg (by have := hb1.out; simpa using this.symm)]
    have e2 : x2 = 0 := by rw [hx2.out, if_neg (by have := hb1.out; simpa using this.symm)]
    subst e1 e2
    go_wp2
    (try simp only [Exit.inBlock, Exit.then])
    refine ret_cell2 (x := .bool false) rfl rfl rfl (hset.out 0 0) Try.underlying30 sizeGraph ?_
    exact hfin.out 0 0
  | true =>
    have e1 : x1 = r := by rw [hx1.out, if_pos (by have := hb1.out; simpa using this.symm)]
    have e2 : x2 = 1 := by rw [hx2.out, if_pos (by have := hb1.out; simpa using this.symm)]
    subst e1 e2
    go_wp2
    (try simp only [Exit.inBlock, Exit.then])
    refine ret_cell2 (x := .bool true) rfl rfl rfl (hset.out _ 1) Try.underlying30 sizeGraph ?_
    exact hfin.out _ 1
/-- How many ends of edges lie at a vertex. -/
def degE (v : Int) : List Ed → Int
  | [] => 0
  | e :: es => (if e.1 = v then 1 else 0) + (if e.2.2 = v then 1 else 0) + degE v es
theorem degE_append (v : Int) (a b : List Ed) : degE v (a ++ b) = degE v a + degE v b := by
  induction a with
  | nil => simp [degE]
  | cons e a ih => simp only [List.cons_append, degE, ih]; omega
theorem degE_bounds (v : Int) (es : List Ed) : 0 ≤ degE v es ∧ degE v es ≤ 2 * (es.length : Int) := by
  induction es with
  | nil => simp [degE]
  | cons e es ih =>
    simp only [degE, List.length_cons]
    split <;> split <;> omega
theorem take_one {es : List Ed} {k : Nat} (h : k < es.length) : es.take (k + 1) = es.take k ++ [es.getD k e0] := by
  rw [List.take_add_one, List.getElem?_eq_getElem h, List.getD_eq_getElem?_getD, List.getElem?_eq_getElem h]; rfl
end Go.Proofs.Ytmecdboeckmmfaa
